/- Addresses as bytes, and out of bytes. -/
import Derived.Test.YtkmijjipnepnoaaInts
namespace Go.Proofs.Ytkmijjipnepnoaa
open Go.RowKit
set_option linter.unusedVariables false

def fanL (zs : List Int) : List Int := putsTo (zers 128) 0 2 zs 64
theorem fanL_len (zs : List Int) : (fanL zs).length = 128 := by unfold fanL; rw [putsTo_len, zers_len]
theorem fanL_byt (zs : List Int) : Num.Byt (fanL zs) := putsTo_byt (zers_byt _) _ _ _ _
theorem ads_at {zs : List Int} (h : Ads zs) (j : Nat) : 0 ≤ zs.getD j 0 ∧ zs.getD j 0 ≤ 2047 := by
  rw [List.getD_eq_getElem?_getD]
  cases e : zs[j]? with
  | none => simp
  | some z => simpa using h z (List.mem_of_getElem? e)

set_option maxHeartbeats 400000 in
theorem encodeFan_len (p : Option Addr) (n c : Nat) (zs : List Int) (w : World) (h : II w p n zs) (hm : ¬ n = 64) :
    Calls Try.prog 30 #[.slice p n c] w fun e w' => e = .returned (.tuple #[.slice none 0 0, .int .i64 1]) ∧ Below w.heap.size w w' := by
  have hbig := h.big
  have hI : ¬ (n : Int) = 64 := by omega
  go_enter Try.func30, Try.ntmps30
  go_wp2_with fail
  go_ret2
  exact ⟨rfl, Below.refl _ _⟩
set_option maxHeartbeats 400000 in
theorem encodeFan_bad (p : Option Addr) (c : Nat) (zs : List Int) (w : World) (h : II w p 64 zs) (hm : ¬ Ads zs) :
    Calls Try.prog 30 #[.slice p 64 c] w fun e w' => e = .returned (.tuple #[.slice none 0 0, .int .i64 1]) ∧ Below w.heap.size w w' := by
  have ha := areAd_ok p 64 c zs w h
  rw [decide_eq_false hm] at ha
  go_enter Try.func30, Try.ntmps30
  go_wp2_with (first | (go_at_call 65; refine same_at ha ?_))
  go_ret2
  exact ⟨rfl, Below.refl _ _⟩
set_option maxHeartbeats 400000 in
theorem encodeFan_yes (p : Option Addr) (c : Nat) (zs : List Int) (w : World) (h : II w p 64 zs) (hm : Ads zs) :
    Calls Try.prog 30 #[.slice p 64 c] w fun e w' => ∃ q d, e = .returned (.tuple #[.slice q 128 d, .int .i64 0]) ∧ BI w' q 128 (fanL zs) ∧ Below w.heap.size w w' := by
  have ha := areAd_ok p 64 c zs w h
  rw [decide_eq_true hm] at ha
  have hv : ∀ j, j < 64 → 0 ≤ zs.getD j 0 ∧ zs.getD j 0 < 256 ^ 2 := fun j _ => by have := ads_at hm j; omega
  have hq : ∀ b o, p = some ⟨b, o, none⟩ → b < w.heap.size := by
    intro b o e
    obtain ⟨b', o', e', hc⟩ := h.cells (by omega)
    rw [e] at e'
    cases e'
    exact lt_of_cell (hc 0 (by omega))
  have HV := (show Hid _ from hv)
  have HQ := (show Hid _ from hq)
  clear hv hq
  go_enter Try.func30, Try.ntmps30
  go_wp2_with (first
    | (go_at_call 65; refine same_at ha ?_)
    | (go_at_call 36; refine Calls.mono (newPage_ok 128 (by omega) w.heap.size w (Nat.le_refl _)) ?_; rintro e w1 ⟨pb, g, rfl, hp, hb⟩; have h1 := ii_under h hb HQ.out)
    | (go_at_call 56; refine Calls.mono (pnums_ok hp 2 (by omega) (by omega) p 64 c zs h1 HQ.out (by omega) HV.out) ?_; rintro e w2 ⟨rfl, hp2, hb2⟩; have c0 := hp2.c0))
  go_ret2
  exact ⟨_, _, rfl, hp2.bi, hb.trans hb2⟩

set_option maxHeartbeats 400000 in
theorem rencodeFan_len (p : Option Addr) (n c : Nat) (zs : List Int) (w : World) (h : II w p n zs) (hm : ¬ n = 64) :
    Calls Try.prog 31 #[.slice p n c] w fun e w' => e = .returned (.tuple #[.slice none 0 0, .int .i64 1]) ∧ Below w.heap.size w w' := by
  have hbig := h.big
  have hI : ¬ (n : Int) = 64 := by omega
  go_enter Try.func31, Try.ntmps31
  go_wp2_with fail
  go_ret2
  exact ⟨rfl, Below.refl _ _⟩

/-- What the document's addresses come to. -/
def FanAns (zs : List Int) (w : World) (e : Ending) (w' : World) : Prop :=
  (Ads zs ∧ ∃ q d, e = .returned (.tuple #[.slice q 128 d, .int .i64 0]) ∧ BI w' q 128 (fanL zs) ∧ Below w.heap.size w w') ∨ (¬ Ads zs ∧ e = .returned (.tuple #[.slice none 0 0, .int .i64 1]) ∧ Below w.heap.size w w')

set_option maxHeartbeats 1000000 in
theorem rencodeFan_ok (p : Option Addr) (c : Nat) (zs : List Int) (w : World) (h : II w p 64 zs) :
    Calls Try.prog 31 #[.slice p 64 c] w (FanAns zs w) := by
  obtain ⟨i0, hi, hz0, hz1, hz2⟩ := info_parts info5
  have hlen := h.len
  go_enter Try.func31, Try.ntmps31
  go_wp2_with (at_make; refine wpList_make_full _ rfl _ _ 26 rfl w.heap.size 5 i0 (.int .u8 0) 1 Try.underlying26 hi hz0 hz1 .i64 .i64 _ _ 128 rfl rfl rfl rfl (by rw [hz2]; omega) (by unfold maxLen; omega) (Nat.le_refl _) ?_; intro w1 hown1 hgrow1; have hb1 := (Below.refl _ w).grown hgrow1 (Nat.le_refl _) (by intro k hk; cases hk); have hrow := own_row hown1; rw [made_zers 128] at hrow; have ho := own_of_row (Nat.le_refl w.heap.size) (by decide) (zers_len 128) hrow; have ho : Own w.heap.size w1 w.heap.size 128 128 (putsTo (zers 128) 0 2 zs 0) := ho; have hz := h.kept hb1; clear hown1 hgrow1 hrow)
  go_loopw [4, 13] (fun v x wr => ∃ (k g cap : Nat), k ≤ 64 ∧ x = .int .i64 (k : Int) ∧ v = .slice (some ⟨g, 0, none⟩) 128 cap ∧ Own w.heap.size wr g 128 cap (putsTo (zers 128) 0 2 zs k) ∧ Below w.heap.size w wr ∧ Ads (zs.take k)) (fun _ x _ => 64 - (intOf x).toNat)
  case atStart => exact ⟨0, _, _, by omega, rfl, rfl, ho, hb1, by simp [Ads]⟩
  case round =>
    clear ho hb1 hz
    obtain ⟨k, g, cap, hk, rfl, rfl, ho, hb, hA⟩ := hrel
    have hy := putsTo_byt (zers_byt 128) 0 2 zs k
    by_cases hlt : k < 64
    · obtain ⟨b, o, rfl, hc⟩ := (h.kept hb).cells (by omega)
      have hcell := hc k hlt
      have hst : putsTo (zers 128) 0 2 zs (k + 1) = Num.putTo (putsTo (zers 128) 0 2 zs k) (0 + 2 * k) (zs.getD k 0) 2 := rfl
      rw [Nat.zero_add] at hst
      have HS := (show Hid _ from hst)
      have hz : zs[k]? = some (zs.getD k 0) := by rw [List.getD_eq_getElem?_getD, List.getElem?_eq_getElem (by omega)]; rfl
      have HZ := (show Hid _ from hz)
      clear hst hc hz
      generalize putsTo (zers 128) 0 2 zs k = L at *
      generalize zs.getD k 0 = z at *
      have hkI : (k : Int) < 64 := by omega
      have hkN : (0 : Int) ≤ (k : Int) := by omega
      have had := address_ok z wr
      by_cases hok : 0 ≤ z ∧ z ≤ 2047
      · rw [decide_eq_true hok] at had
        have hq := rnumber_ok _ 128 cap _ (2 * k) 2 z wr (ho.bi (by omega) hy) (by omega) (by omega) (by omega) (by omega) (by omega)
        rw [show (((2 * k : Nat) : Int)) = 2 * (k : Int) by omega] at hq
        have hA2 : Ads (zs.take (k + 1)) := by
          intro y hy
          rw [List.take_add_one, HZ.out] at hy
          rcases List.mem_append.1 hy with h' | h'
          · exact hA y h'
          · simp at h'
            subst h'
            exact hok
        clear hok hA
        go_wp2_with (first
          | (go_at_call 66; refine same_at had ?_)
          | (go_at_call 42; refine Calls.mono hq ?_; rintro e wm ⟨g, cap, rfl, ho, hbn⟩; have ho := ho.base hb.size; have hb := grew_trans hb hbn))
        go_roundw
        case rel => exact ⟨k + 1, g, cap, by omega, by go_num, rfl, by rw [HS.out]; exact ho, hb, hA2⟩
        case measure => simp [intOf]; omega
      · rw [decide_eq_false hok] at had
        have hno : ¬ Ads zs := fun k => hok (k z (List.mem_of_getElem? HZ.out))
        clear hok
        go_wp2_with (first | (go_at_call 66; refine same_at had ?_))
        go_ret2
        exact Or.inr ⟨hno, rfl, hb⟩
    · obtain rfl : k = 64 := by omega
      rw [List.take_of_length_le (by omega)] at hA
      generalize hL : putsTo (zers 128) 0 2 zs 64 = L at *
      have HL := (show Hid _ from hL)
      clear hL
      go_wp2_with fail
      go_ret2
      refine Or.inl ⟨hA, _, _, rfl, ?_, hb⟩
      unfold fanL
      rw [HL.out]
      exact ho.bi (by omega) hy
end Go.Proofs.Ytkmijjipnepnoaa
