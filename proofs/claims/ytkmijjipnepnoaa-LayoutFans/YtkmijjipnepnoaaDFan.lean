/- Addresses out of bytes. -/
import Derived.Test.YtkmijjipnepnoaaFan
namespace Go.Proofs.Ytkmijjipnepnoaa
open Go.RowKit
set_option linter.unusedVariables false

/-- What the bytes of addresses say. -/
def fanZ (xs : List Int) : List Int := (List.range 64).map (fun j => Num.numD xs (2 * j) 2)
theorem fanZ_len (xs : List Int) : (fanZ xs).length = 64 := by simp [fanZ]
theorem fanZ_at (xs : List Int) (i : Nat) (h : i < 64) : (fanZ xs)[i]? = some (Num.numD xs (2 * i) 2) := by simp [fanZ, List.getElem?_range h]

theorem fill_at (cs : Array Value) (o : Nat) (f : Nat → Int) : ∀ (n i : Nat), i < n → o + n ≤ cs.size → (fill cs o f n)[o + i]? = some (.int .i64 (f i))
  | n + 1, i, hi, hs => by
    rw [fill]
    by_cases e : i = n
    · subst e
      rw [Array.getElem?_setIfInBounds_self_of_lt (by rw [fill_size]; omega)]
    · rw [Array.getElem?_setIfInBounds_ne (by omega)]
      exact fill_at cs o f n i (by omega) (by omega)

def znum (N : Nat) : List Value := List.replicate N (Value.int .i64 0)
theorem znum_at (N i : Nat) (h : i < N) : (znum N).toArray[i]? = some (Value.int .i64 0) := by simp [znum, h]
theorem znum_no (N : Nat) (x : Int) (i : Nat) : (znum N).toArray[i]? ≠ some (Value.int .u8 x) := by
  by_cases h : i < N
  · rw [znum_at N i h]; simp
  · simp [znum, h]
theorem znum_size (N : Nat) : (znum N).toArray.size = N := by simp [znum]
theorem made_nums (N : Nat) : (madeCells (Value.int .i64 0).cells (N * 1)).toList = znum N := by
  unfold znum
  rw [Nat.mul_one]
  apply List.ext_getElem
  · simp [madeCells]
  · intro i h1 h2
    simp [madeCells, Value.cells, Nat.mod_one]
set_option maxHeartbeats 400000 in
theorem decodeFan_len (p : Option Addr) (n c : Nat) (xs : List Int) (w : World) (h : BI w p n xs) (hm : ¬ n = 128) :
    Calls Try.prog 32 #[.slice p n c] w fun e w' => e = .returned (.tuple #[.slice none 0 0, .int .i64 6]) ∧ Below w.heap.size w w' := by
  have hbig := h.big
  have hI : ¬ (n : Int) = 128 := by omega
  go_enter Try.func32, Try.ntmps32
  go_wp2_with fail
  go_ret2
  exact ⟨rfl, Below.refl _ _⟩
set_option maxHeartbeats 400000 in
theorem rdecodeFan_len (p : Option Addr) (n c : Nat) (xs : List Int) (w : World) (h : BI w p n xs) (hm : ¬ n = 128) :
    Calls Try.prog 33 #[.slice p n c] w fun e w' => e = .returned (.tuple #[.slice none 0 0, .int .i64 6]) ∧ Below w.heap.size w w' := by
  have hbig := h.big
  have hI : ¬ (n : Int) = 128 := by omega
  go_enter Try.func33, Try.ntmps33
  go_wp2_with fail
  go_ret2
  exact ⟨rfl, Below.refl _ _⟩

/-- What comes of bytes that are read as addresses. -/
def FanRead (xs : List Int) (w : World) (e : Ending) (w' : World) : Prop :=
  (Ads (fanZ xs) ∧ ∃ q d, e = .returned (.tuple #[.slice q 64 d, .int .i64 0]) ∧ II w' q 64 (fanZ xs) ∧ Below w.heap.size w w') ∨ (¬ Ads (fanZ xs) ∧ e = .returned (.tuple #[.slice none 0 0, .int .i64 6]) ∧ Below w.heap.size w w')

theorem own_row3 {w : World} {B g n : Nat} {L : List Value} (h : w.ownsRow B 3 1 (.slice (some ⟨g, 0, none⟩) n n) n L) : w.heap[g]? = some (.cells L.toArray 3 (0, 0)) := by
  rcases h.2 with ⟨h', _⟩ | ⟨g', cap', cur, h', _, hg, _, _, hcs, ht⟩
  · simp at h'
  · simp only [Value.slice.injEq, Option.some.injEq, Addr.mk.injEq, and_true, true_and] at h'
    obtain ⟨rfl, rfl⟩ := h'
    rw [List.take_of_length_le (by simp; omega)] at ht
    subst ht
    simpa using hg

/-- The row of 64 numbers, filled. -/
theorem filled {p : Option Addr} (w w1 : World) (xs : List Int) (h : BI w1 p 128 xs) (c : Nat) (hown : w1.heap[w.heap.size]? = some (.cells (znum 64).toArray 3 (0, 0))) (hb : Below w.heap.size w w1) :
    Calls Try.prog 68 #[.slice p 128 c] w1 fun e w2 => ∃ rb, e = .returned (.pointer (some ⟨rb, 0, none⟩)) ∧ Calls Try.prog 67 #[.pointer (some ⟨rb, 0, none⟩), .int .i64 2, .slice (some ⟨w.heap.size, 0, none⟩) 64 64] w2 fun e w3 => e = .returned (.tuple #[]) ∧ II w3 (some ⟨w.heap.size, 0, none⟩) 64 (fanZ xs) ∧ Below w.heap.size w w3 := by
  have hlt : w.heap.size < w1.heap.size := (Array.getElem?_eq_some_iff.1 hown).1
  refine (over_ok w1 p 128 c xs h).mono ?_
  rintro e w2 ⟨rb, rfl, hlo, hr, hb2⟩
  refine ⟨rb, rfl, ?_⟩
  have hc2 : w2.heap[w.heap.size]? = some (.cells (znum 64).toArray 3 (0, 0)) := (hb2.block _ hlt).trans hown
  refine (takeAll_ok w2 rb w.heap.size 0 64 2 128 64 xs _ 3 hr hc2 ?_ (by omega) (by omega) (by omega) (by omega) (by omega) ?_).mono ?_
  · exact fun x j => znum_no 64 x j
  · intro j hj
    exact ⟨0, by rw [Nat.zero_add]; exact znum_at 64 j hj⟩
  · rintro e w3 ⟨rfl, h3, _, h2⟩
    refine ⟨rfl, ⟨fanZ_len xs, by omega, fun _ => ⟨_, _, rfl, fun i hi => ?_⟩⟩, ?_⟩
    · have := fill_at (znum 64).toArray 0 (fun j => Num.numD xs (2 * j) 2) 64 i hi (by rw [znum_size]; omega)
      rw [Nat.zero_add] at this ⊢
      rw [cell_row h3 i _ this, List.getD_eq_getElem?_getD, fanZ_at xs i hi]
      rfl
    · have hbb := h2.below (B := w.heap.size) (by omega) (Nat.le_refl _) (Nat.le_trans hb.size hb2.size)
      exact (hb.trans (hb2.mono hb.size)).trans hbb

set_option maxHeartbeats 400000 in
theorem rdecodeFan_ok (p : Option Addr) (c : Nat) (xs : List Int) (w : World) (h : BI w p 128 xs) :
    Calls Try.prog 33 #[.slice p 128 c] w (FanRead xs w) := by
  obtain ⟨i0, hi, hz0, hz1, hz2⟩ := info_parts info3
  have hzl := fanZ_len xs
  have hr : ∀ w', BI w' p 128 xs → ∀ k : Nat, k < 64 → Calls Try.prog 49 #[.slice p 128 c, .int .i64 (2 * (k : Int)), .int .i64 2] w' fun e w2 => e = .returned (.int .i64 (Num.numD xs (2 * k) 2)) ∧ w2 = w' := by
    intro w' hb k hk
    have := rget_ok' p 128 c xs (2 * k) 2 w' hb (by omega) (by omega) (by omega)
    rw [show (((2 * k : Nat) : Int)) = 2 * (k : Int) by omega] at this
    exact this
  have HR := (show Hid _ from hr)
  have hat : ∀ k, k < 64 → (fanZ xs)[k]? = some (Num.numD xs (2 * k) 2) := fanZ_at xs
  have HA := (show Hid _ from hat)
  clear hr hat
  generalize hZ : fanZ xs = Z at *
  have HZ := (show Hid _ from hZ)
  clear hZ
  go_enter Try.func33, Try.ntmps33
  go_wp2_with fail
  go_loopw [4, 10] (fun v x wr => ∃ k : Nat, k ≤ 64 ∧ x = .int .i64 (k : Int) ∧ wr.ownsRow w.heap.size 3 1 v k ((Z.take k).map (Value.int .i64)) ∧ Below w.heap.size w wr ∧ Ads (Z.take k)) (fun _ x _ => 64 - (intOf x).toNat)
  case atStart => exact ⟨0, by omega, rfl, by simpa using World.ownsRow_nil _ _ _ _, Below.refl _ _, by simp [Ads]⟩
  case round =>
    obtain ⟨k, hk, rfl, hown, hb, hAk⟩ := hrel
    by_cases hlt : k < 64
    · have hg := HR.out wr (h.kept hb) k hlt
      have hz := HA.out k hlt
      generalize Num.numD xs (2 * k) 2 = z at *
      have hkI : (k : Int) < 64 := by omega
      have had := address_ok z wr
      have hst : (Z.take (k + 1)).map (Value.int .i64) = (Z.take k).map (Value.int .i64) ++ [.int .i64 z] := by rw [List.take_add_one, hz]; simp
      have HS := (show Hid _ from hst)
      have HK := (show Hid _ from hz)
      clear hst hz
      by_cases hok : 0 ≤ z ∧ z ≤ 2047
      · rw [decide_eq_true hok] at had
        have hA2 : Ads (Z.take (k + 1)) := by
          intro y hy
          rw [List.take_add_one, HK.out] at hy
          rcases List.mem_append.1 hy with h' | h'
          · exact hAk y h'
          · simp at h'
            subst h'
            exact hok
        clear hok hAk
        generalize (Z.take k).map (Value.int .i64) = LL at *
        have hb0 := (Below.refl wr.heap.size wr).alloc (Nat.le_refl _) (.cells #[.int .i64 z] 3)
        have hown0 := World.ownsRow.alloc hown (.cells #[.int .i64 z] 3)
        have c70 : (wr.alloc (.cells #[.int .i64 z] 3)).cell? ⟨wr.heap.size, 0, none⟩ = some (.int .i64 z) := cell_row (heap_new wr _) 0 _ rfl
        go_wp2_with (first
          | (go_at_call 49; refine same_at hg ?_)
          | (go_at_call 66; refine same_at had ?_)
          | (at_builtin; refine wpList_append_own _ rfl _ _ 57 rfl w.heap.size 3 i0 (.int .i64 0) 1 8 Try.underlying57 hi hz0 hz1 hz2 rfl (by decide) _ k LL rfl hown0 ⟨wr.heap.size, 0, none⟩ 1 1 [.int .i64 z] rfl rfl ?c2 ?c3 ?c4 ?c5 ?c6 ?_))
        case c2 =>
          intro i u hu
          obtain rfl : i = 0 := by have := (List.getElem?_eq_some_iff.1 hu).1; simpa using this
          cases hu
          exact c70
        case c3 => intro u hu; simp at hu; subst hu; rfl
        case c4 => unfold maxLen; omega
        case c5 => omega
        case c6 => simp only [World.size_alloc]; have := hb.size; omega
        intro v8 w8 hown8 hgrow8 hnil8
        rw [← HS.out] at hown8
        have hb8 : Below w.heap.size w w8 := (grew_trans hb hb0).grown hgrow8 (Nat.le_trans hb.size hb0.size) (fun k hk => (hown0.lt k hk).1)
        clear hown0 hgrow8 hnil8 c70 hg had
        go_wp2_with fail
        go_roundw
        case rel => exact ⟨k + 1, by omega, by go_num, hown8, hb8, hA2⟩
        case measure => simp [intOf]; omega
      · rw [decide_eq_false hok] at had
        have hno : ¬ Ads Z := fun k => hok (k z (List.mem_of_getElem? HK.out))
        clear hok hAk
        go_wp2_with (first
          | (go_at_call 49; refine same_at hg ?_)
          | (go_at_call 66; refine same_at had ?_))
        go_ret2
        refine Or.inr ⟨by rw [HZ.out]; exact hno, rfl, hb⟩
    · obtain rfl : k = 64 := by omega
      rw [List.take_of_length_le (by omega)] at hAk hown
      obtain ⟨p', c', rfl, hii, _⟩ := row_ii hown (by omega)
      clear hown
      go_wp2_with fail
      go_ret2
      refine Or.inl ?_
      rw [HZ.out]
      exact ⟨hAk, _, _, rfl, hii, hb⟩

set_option maxRecDepth 10000 in
set_option maxHeartbeats 400000 in
theorem decodeFan_ok (p : Option Addr) (c : Nat) (xs : List Int) (w : World) (h : BI w p 128 xs) :
    Calls Try.prog 32 #[.slice p 128 c] w (FanRead xs w) := by
  obtain ⟨i0, hi, hz0, hz1, hz2⟩ := info_parts info3
  go_enter Try.func32, Try.ntmps32
  go_wp2_with (first
    | (at_make; (refine wpList_make_full _ rfl _ _ 57 rfl w.heap.size 3 i0 (.int .i64 0) 1 Try.underlying57 hi hz0 hz1 .i64 .i64 _ _ 64 rfl rfl rfl rfl (by rw [hz2]; omega) (by unfold maxLen; omega) (Nat.le_refl _) ?_; intro w1 hown1 hgrow1; have hb1 := (Below.refl _ w).grown hgrow1 (Nat.le_refl _) (by intro k hk; cases hk); have hrow := own_row3 hown1; rw [made_nums 64] at hrow; have hf := filled w w1 xs (h.kept hb1) c hrow hb1; clear hown1 hgrow1 hrow))
    | (go_at_call 68; refine Calls.mono hf ?_; rintro e w2 ⟨rb, rfl, hf2⟩)
    | (go_at_call 67; refine Calls.mono hf2 ?_; rintro e w3 ⟨rfl, hii, hb3⟩; have ha := areAd_ok _ 64 64 _ w3 hii))
  by_cases hA : Ads (fanZ xs)
  · rw [decide_eq_true hA] at ha
    refine same_at ha ?_
    go_wp2_with fail
    go_ret2
    exact Or.inl ⟨hA, _, _, rfl, hii, hb3⟩
  · rw [decide_eq_false hA] at ha
    refine same_at ha ?_
    go_wp2_with fail
    go_ret2
    exact Or.inr ⟨hA, rfl, hb3⟩
end Go.Proofs.Ytkmijjipnepnoaa
