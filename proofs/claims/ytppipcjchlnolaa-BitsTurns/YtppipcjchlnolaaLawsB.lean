/- BitsBits and BitsAll: the statements' own calls return true. -/
import Derived.Test.YtppipcjchlnolaaLawsA
namespace Go.Proofs.Ytppipcjchlnolaa
open Go.RowKit
set_option linter.unusedVariables false

theorem bclone_any (p : Option Addr) (n c : Nat) (xs : List Int) (w : World) (h : BI w p n xs) :
    Calls Try.prog 9 #[.slice p n c] w fun e w' => ∃ p' cap, e = .returned (.slice p' n cap) ∧ BI w' p' n xs ∧ Below w.heap.size w w' := by
  cases p with
  | none =>
    have hn : n = 0 := by
      rcases Nat.eq_zero_or_pos n with h0 | h0
      · exact h0
      · obtain ⟨b, o, e, _⟩ := h.cells h0
        cases e
    subst hn
    exact (bclone_nil 0 c w).mono fun e w' ⟨he, hw⟩ => ⟨none, 0, he, by rw [hw]; exact h, by rw [hw]; exact Below.refl _ _⟩
  | some a =>
    exact (bclone_some a n c xs w h).mono fun e w' ⟨g, cap, he, ho, hb⟩ => ⟨_, cap, he, ho.bi h.big h.byt, hb⟩

theorem BI.nil (w : World) (p : Option Addr) : BI w p 0 [] := ⟨rfl, by omega, fun i => by simp, fun h => by omega⟩

theorem has_two (w : World) : Calls Try.prog 12 #[.slice (some ⟨w.heap.size, 0, none⟩) 1 1, .int .i64 1] (w.alloc (.cells #[.int .u8 2] 5)) fun e w' => e = .returned (.bool true) ∧ ∃ k, w' = (w.alloc (.cells #[.int .u8 2] 5)).drewN k := by
  have hb : BI (w.alloc (.cells #[.int .u8 2] 5)) (some ⟨w.heap.size, 0, none⟩) 1 [2] := by
    refine ⟨rfl, by omega, fun i => by cases i <;> simp, fun _ => ⟨w.heap.size, 0, rfl, fun i hi => ?_⟩⟩
    obtain rfl : i = 0 := by omega
    exact (Boxed.new w 5 (.int .u8 2)).cell
  have := has_nat _ 1 1 _ 1 _ hb (by omega)
  have e : Bit.on [2] 1 = true := by decide
  rw [e] at this
  exact this

set_option maxHeartbeats 1000000 in
theorem bitsBits_err (p : Option Addr) (n c : Nat) (xs : List Int) (i : Int) (on : Bool) (w : World) (hb : BI w p n xs) (hi : i < 9223372036854775808) (h : i < 0 ∨ (n : Int) ≤ i / 8) :
    Calls Try.prog 3 #[.slice p n c, .int .i64 i, .bool on] w fun e w' => e = .returned (.bool true) ∧ Below w.heap.size w w' := by
  have h1 := bclone_any p n c xs w hb
  have h2 := fun p' c' w1 => with_err p' n c' i on w1 hb.big h hi
  have h3 := fun w1 => rwith_err p n c i on w1 hb.big h hi
  have h4 := fun p' c' w1 (h : BI w1 p' n xs) => has_any p' n c' xs i w1 h hi
  have h5 := fun w1 (h : Below w.heap.size w w1) => rhas_any p n c xs i w1 (hb.kept h) hi
  have h6 := fun w1 => equal_any none none 0 0 0 0 [] [] w1 (BI.nil _ _) (BI.nil _ _)
  have HH := (show Hid _ from h)
  clear h
  generalize Bit.onI xs i = B at *
  go_enter Try.func3, Try.ntmps3
  go_wp2_with (first
    | (go_at_call 9; refine Calls.mono h1 ?_; rintro e wa ⟨p', c', rfl, hg, ha⟩)
    | (go_at_call 10; refine same_at (h2 p' c' wa) ?_)
    | (go_at_call 11; refine same_at (h3 wa) ?_)
    | (go_at_call 12; refine grew_at (h4 p' c' wa hg) ?_; intro wb hb'; have ha := grew_trans ha hb'; have hg := hg.kept hb')
    | (go_at_call 13; refine same_at (h5 wb ha) ?_)
    | (go_at_call 14; refine same_at (h6 wb) ?_))
  refine wp_loop_rounds 1 ?_
  rw [rounds_succ]
  have h7 := equal_any p' p n c' n c xs xs wb hg (hb.kept ha)
  rw [beq_self_eq_true] at h7
  clear h6
  go_wp2_with (first
    | (go_at_call 14; refine same_at h7 ?_)
    | (go_at_call 12; refine grew_at (has_two wb) ?_; intro wc hb'; have ha := grew_trans (grew_trans ha ((Below.refl _ _).alloc (Nat.le_refl _) _)) hb'))
  go_ret
  exact ⟨rfl, ha⟩

set_option maxHeartbeats 2000000 in
theorem bitsBits_ok (p : Option Addr) (n c : Nat) (xs : List Int) (i : Nat) (on : Bool) (w : World) (hb : BI w p n xs) (hi : i < 9223372036854775808) (h : i / 8 < n) :
    Calls Try.prog 3 #[.slice p n c, .int .i64 i, .bool on] w fun e w' => e = .returned (.bool true) ∧ Below w.heap.size w w' := by
  have hbig := hb.big
  have hlen := hb.len
  have h1 := bclone_any p n c xs w hb
  have h2 := fun p' c' w1 (k : BI w1 p' n xs) => with_ok p' n c' xs i on w1 k h hi
  obtain ⟨b0, o0, rfl, _⟩ := hb.cells (by omega)
  have h3 := fun w1 (k : Below w.heap.size w w1) => rwith_ok ⟨b0, o0, none⟩ n c xs i on w1 (hb.kept k) h hi
  have h4 := fun p' c' w1 (h : BI w1 p' n xs) => has_nat p' n c' xs i w1 h (by omega)
  have h5 := fun w1 (h : Below w.heap.size w w1) => rhas_nat _ n c xs i w1 (hb.kept h) (by omega)
  have hpb := Bit.put_byt hb.byt i on
  have hpl := Bit.put_len xs i on
  rw [hlen] at hpl
  generalize Bit.on xs i = B at *
  generalize Bit.put xs i on = Y at *
  go_enter Try.func3, Try.ntmps3
  go_wp2_with (first
    | (go_at_call 9; refine Calls.mono h1 ?_; rintro e wa ⟨p', c', rfl, hg, ha⟩)
    | (go_at_call 10; refine Calls.mono (h2 p' c' wa hg) ?_; rintro e wb ⟨g1, c1, rfl, ho1, hB⟩)
    | (go_at_call 11; refine Calls.mono (h3 wb (grew_trans ha hB)) ?_; rintro e wc ⟨g2, c2, rfl, ho2, hb'⟩; have ho1 := ho1.kept hb'; have hB := grew_trans hB hb')
    | (go_at_call 12; refine grew_at (h4 p' c' wc (hg.kept hB)) ?_; intro wd hb'; have ho1 := ho1.kept hb'; have ho2 := ho2.kept hb'; have hB := grew_trans hB hb')
    | (go_at_call 13; refine grew_at (h5 wd (grew_trans ha hB)) ?_; intro we hb'; have ho1 := ho1.kept hb'; have ho2 := ho2.kept hb'; have hB := grew_trans hB hb'; have h6 := equal_any _ _ n c1 n c2 Y Y we (ho1.bi hbig hpb) (ho2.bi hbig hpb); rw [beq_self_eq_true] at h6)
    | (go_at_call 14; refine same_at h6 ?_))
  clear h6 ho2 h1 h2 h3 h4 h5
  go_loopw [49] (fun j wr => ∃ (k : Nat) (L : List Int), k ≤ n ∧ j = .int .i64 (k : Int) ∧ Own wa.heap.size wr g1 n c1 L ∧ Num.Byt L ∧ Below wa.heap.size wa wr) (fun j _ => n - (intOf j).toNat)
  case atStart => exact ⟨0, Y, by omega, rfl, ho1, hpb, hB⟩
  case round =>
    clear ho1 hB
    obtain ⟨k, L, hk, rfl, ho, hL, hB⟩ := hrel
    by_cases hlt : k < n
    · have hc1 := ho.cell k hlt
      have hf1 := World.ownsRow.frozenAt ho k
      have hLk := hL k
      have hkI : (k : Int) < (n : Int) := by omega
      have hk0 : (0 : Int) ≤ (k : Int) := by omega
      have hx := fun y => ho.set k y
      have hxb := fun y => hB.setCell (p := ⟨g1, k, none⟩) ho.spot.1 (.int .u8 y)
      have hLb : ∀ y, 0 ≤ y → y < 256 → Num.Byt (L.set k y) := by
        intro y y0 y1 j
        rw [Num.getD_set]
        split
        · exact ⟨y0, y1⟩
        · exact hL j
      have HLb := (show Hid _ from hLb)
      have Hx := (show Hid _ from hx)
      clear hLb hx ho hL
      have hbits : 0 ≤ bits BinOp.xor .u8 (L.getD k 0) 255 ∧ bits BinOp.xor .u8 (L.getD k 0) 255 < 256 := by
        obtain ⟨z, hz⟩ := Int.eq_ofNat_of_zero_le hLk.1
        have key : ∀ z : Fin 256, 0 ≤ bits BinOp.xor .u8 (z.val : Int) 255 ∧ bits BinOp.xor .u8 (z.val : Int) 255 < 256 := by decide +kernel
        rw [hz]
        exact key ⟨z, by omega⟩
      have HBt := (show Hid _ from hbits)
      clear hbits
      generalize L.getD k 0 = y at *
      go_wp2
      go_roundw
      case rel => exact ⟨k + 1, _, by omega, by go_num, Hx.out _, HLb.out _ HBt.out.1 HBt.out.2, hxb _⟩
      case measure => simp [intOf]; omega
    · obtain rfl : k = n := by omega
      have h7 := equal_any p' _ k c' k c xs xs wr (hg.kept hB) (hb.kept (grew_trans ha hB))
      rw [beq_self_eq_true] at h7
      have ha := grew_trans ha hB
      go_wp2_with (first
        | (go_at_call 14; refine same_at h7 ?_)
        | (go_at_call 12; refine grew_at (has_two wr) ?_; intro wx hb'; have ha := grew_trans (grew_trans ha ((Below.refl _ _).alloc (Nat.le_refl _) _)) hb'))
      go_ret
      exact ⟨rfl, ha⟩

theorem bitsBits_walk (p : Option Addr) (n c : Nat) (xs : List Int) (i : Int) (on : Bool) (w : World) (hb : BI w p n xs) (hw : (Lit.int .i64 i).wf = true) :
    Calls Try.prog 3 #[.slice p n c, .int .i64 i, .bool on] w fun e w' => e = .returned (.bool true) ∧ Below w.heap.size w w' := by
  have hi : i < 9223372036854775808 := by
    simp [Lit.wf, IntKind.min, IntKind.max, IntKind.signed, IntKind.bits] at hw
    omega
  by_cases h : i < 0 ∨ (n : Int) ≤ i / 8
  · exact bitsBits_err p n c xs i on w hb hi h
  · obtain ⟨k, rfl⟩ := Int.eq_ofNat_of_zero_le (show 0 ≤ i by omega)
    exact bitsBits_ok p n c xs k on w hb (by omega) (by omega)
namespace Bit
def sumL (l : List Int) : Int := l.foldl (· + ·) 0
def maxL (l : List Int) : Int := l.foldl max 0
theorem sumL_snoc (l : List Int) (x : Int) : sumL (l ++ [x]) = sumL l + x := by simp [sumL]
theorem maxL_snoc (l : List Int) (x : Int) : maxL (l ++ [x]) = max (maxL l) x := by simp [maxL]
theorem best_max (ps : List (Int × Int)) : (best ps).2 = maxL (lens ps) := by
  have key : ∀ (ps : List (Int × Int)) (s : Int × Int), (ps.foldl (fun s x => if s.2 < x.2 then x else s) s).2 = (lens ps).foldl max s.2 := by
    intro ps
    induction ps with
    | nil => intro s; rfl
    | cons x ps ih =>
      intro s
      show (ps.foldl _ (if s.2 < x.2 then x else s)).2 = (lens ps).foldl max (max s.2 x.2)
      rw [ih]
      congr 1
      by_cases h : s.2 < x.2
      · rw [if_pos h]; omega
      · rw [if_neg h]; omega
  exact key ps (0, 0)
theorem lens_snoc (ps : List (Int × Int)) (x : Int × Int) : lens (ps ++ [x]) = lens ps ++ [x.2] := by simp [lens]
theorem rr_sum (xs : List Int) (i : Nat) : sumL (lens (rr xs i).1) + ((rr xs i).2 : Int) + (count xs i : Int) = i ∧ ∀ x ∈ lens (rr xs i).1, 1 ≤ x := by
  induction i with
  | zero => simp [rr, lens, sumL, count]
  | succ i ih =>
    obtain ⟨i1, i2⟩ := ih
    cases h : on xs i
    · rw [rr_off h]
      refine ⟨?_, i2⟩
      simp only [count, h]
      simp
      omega
    · rw [rr_on h]
      unfold sts
      by_cases h0 : (rr xs i).2 = 0
      · rw [if_pos h0]
        refine ⟨?_, i2⟩
        simp only [count, h]
        simp
        omega
      · rw [if_neg h0]
        simp only
        rw [lens_snoc, sumL_snoc]
        refine ⟨?_, ?_⟩
        · simp only [count, h]
          simp
          omega
        · intro x hx
          rcases List.mem_append.1 hx with h' | h'
          · exact i2 x h'
          · simp at h'
            omega
theorem sts_sum (xs : List Int) (i : Nat) : sumL (lens (sts xs i)) + (count xs i : Int) = i ∧ ∀ x ∈ lens (sts xs i), 1 ≤ x := by
  obtain ⟨i1, i2⟩ := rr_sum xs i
  unfold sts
  by_cases h0 : (rr xs i).2 = 0
  · rw [if_pos h0]
    exact ⟨by omega, i2⟩
  · rw [if_neg h0, lens_snoc, sumL_snoc]
    refine ⟨by simp only; omega, ?_⟩
    intro x hx
    rcases List.mem_append.1 hx with h' | h'
    · exact i2 x h'
    · simp at h'
      omega
theorem sum_le {l : List Int} (h : ∀ x ∈ l, 1 ≤ x) (k : Nat) : 0 ≤ sumL (l.take k) ∧ sumL (l.take k) ≤ sumL l := by
  have key : ∀ (l : List Int) (s : Int), (∀ x ∈ l, 1 ≤ x) → s ≤ l.foldl (· + ·) s := by
    intro l
    induction l with
    | nil => intro s _; exact Int.le_refl _
    | cons x l ih =>
      intro s hx
      have := ih (s + x) (fun y hy => hx y (List.mem_cons_of_mem _ hy))
      have := hx x List.mem_cons_self
      simp only [List.foldl_cons]
      omega
  refine ⟨key _ 0 (fun x hx => h x (List.mem_of_mem_take hx)), ?_⟩
  have e : sumL l = (l.drop k).foldl (· + ·) (sumL (l.take k)) := by
    unfold sumL
    rw [← List.foldl_append, List.take_append_drop]
  rw [e]
  exact key _ _ (fun x hx => h x (List.mem_of_mem_drop hx))
end Bit

theorem take_succ' {l : List Int} {k : Nat} (h : k < l.length) : l.take (k + 1) = l.take k ++ [l.getD k 0] := by
  rw [List.take_add_one, List.getElem?_eq_getElem h, List.getD_eq_getElem?_getD, List.getElem?_eq_getElem h]
  rfl

set_option maxHeartbeats 2000000 in
theorem bitsAll_walk (p : Option Addr) (n c : Nat) (xs : List Int) (m : Int) (w : World) (hb : BI w p n xs) :
    Calls Try.prog 8 #[.slice p n c, .int .i64 m] w fun e w' => e = .returned (.bool true) ∧ Below w.heap.size w w' := by
  have h1 := runs_ok p n c xs m w hb
  have h2 := fun w1 (h : Below w.heap.size w w1) => longest_ok p n c xs m w1 (hb.kept h)
  have h3 := fun w1 (h : Below w.heap.size w w1) => count_ok p n c xs m w1 (hb.kept h)
  have hci := Bit.cnt_is m
  have hcl := Bit.cnt_le m
  have hbm := Bit.best_max (Bit.sts xs (Bit.cnt m))
  obtain ⟨hs1, hs2⟩ := Bit.sts_sum xs (Bit.cnt m)
  have hl : (Bit.lens (Bit.sts xs (Bit.cnt m))).length ≤ 65537 := by
    have hr := Bit.rr_len xs (Bit.cnt m)
    simp only [Bit.lens, List.length_map, Bit.sts]
    by_cases h0 : (Bit.rr xs (Bit.cnt m)).2 = 0
    · rw [if_pos h0]; omega
    · rw [if_neg h0, List.length_append]; simp; omega
  rw [hbm] at h2
  clear hbm
  have hcc := Bit.count_le xs (Bit.cnt m)
  generalize Bit.lens (Bit.sts xs (Bit.cnt m)) = L at *
  generalize (Bit.best (Bit.sts xs (Bit.cnt m))).1 = A at *
  generalize Bit.count xs (Bit.cnt m) = C at *
  generalize Bit.cnt m = N at *
  have HS := (show Hid _ from hs2)
  have HT := (show Hid _ from hs1)
  have HC := (show Hid _ from hci)
  have hsum := Bit.sum_le hs2
  clear hs2 hs1 hci
  go_enter Try.func8, Try.ntmps8
  go_wp2_with (first
    | (go_at_call 22; refine Calls.mono h1 ?_; rintro e wa ⟨v, rfl, hN, ha⟩; obtain ⟨pv, cv, rfl, hI⟩ := hN.ii (by omega)))
  go_loopw [5, 6, 15] (fun s t i wr => ∃ k : Nat, k ≤ L.length ∧ i = .int .i64 (k : Int) ∧ s = .int .i64 (Bit.sumL (L.take k)) ∧ t = .int .i64 (Bit.maxL (L.take k)) ∧ wr = wa) (fun _ _ i _ => L.length - (intOf i).toNat)
  case atStart => exact ⟨0, by omega, rfl, rfl, rfl, rfl⟩
  case round =>
    obtain ⟨k, hk, rfl, rfl, rfl, rfl⟩ := hrel
    by_cases hlt : k < L.length
    · obtain ⟨b, o, rfl, hc⟩ := hI.cells (by omega)
      have hck := hc k hlt
      have e1 := take_succ' hlt
      have hy : 1 ≤ L.getD k 0 := HS.out _ (by rw [List.getD_eq_getElem?_getD, List.getElem?_eq_getElem hlt]; exact List.getElem_mem hlt)
      have H1 : Hid (Bit.sumL (L.take (k + 1)) = Bit.sumL (L.take k) + L.getD k 0) := by
        show _ = _
        rw [e1, Bit.sumL_snoc]
      have H2 : Hid (Bit.maxL (L.take (k + 1)) = max (Bit.maxL (L.take k)) (L.getD k 0)) := by
        show _ = _
        rw [e1, Bit.maxL_snoc]
      have hb1 := hsum k
      have hb2 := hsum (k + 1)
      rw [H1.out] at hb2
      have hbN : Bit.sumL L ≤ 65536 := by have := HT.out; omega
      clear hc e1
      generalize Bit.sumL (L.take k) = s at *
      generalize Bit.maxL (L.take k) = t at *
      generalize L.getD k 0 = y at *
      have hkI : (k : Int) < (L.length : Int) := by omega
      have hk0 : (0 : Int) ≤ (k : Int) := by omega
      go_wp2
      go_roundw
      case rel => exact ⟨k + 1, by omega, by go_num, by rw [H1.out], by rw [H2.out, Int.max_def]; congr 1; split <;> split <;> omega, trivial⟩
      case measure => simp [intOf]; omega
    · obtain rfl : k = L.length := by omega
      rw [List.take_length]
      clear h1 hsum hI
      have hT := HT.out
      rcases HC.out with ⟨a1, a2⟩ | ⟨a1, a2⟩ | ⟨a0, a1, a2⟩
      · have e : Bit.sumL L = 0 - (C : Int) := by omega
        rw [e]
        clear hT HT HC e
        generalize Bit.maxL L = X at *
        go_wp2_with (first
          | (go_at_call 19; refine grew_to (h2 wr ha) ?_; intro wb hb'; have ha := grew_trans ha hb')
          | (go_at_call 17; refine grew_at (h3 wb ha) ?_; intro wx hb'; have ha := grew_trans ha hb'))
        go_ret
        exact ⟨rfl, ha⟩
      · have e : Bit.sumL L = 65536 - (C : Int) := by omega
        rw [e]
        clear hT HT HC e
        generalize Bit.maxL L = X at *
        go_wp2_with (first
          | (go_at_call 19; refine grew_to (h2 wr ha) ?_; intro wb hb'; have ha := grew_trans ha hb')
          | (go_at_call 17; refine grew_at (h3 wb ha) ?_; intro wx hb'; have ha := grew_trans ha hb'))
        go_ret
        exact ⟨rfl, ha⟩
      · have e : Bit.sumL L = m - (C : Int) := by omega
        rw [e]
        clear hT HT HC e
        generalize Bit.maxL L = X at *
        by_cases h0 : m = 0
        · subst h0
          go_wp2_with (first
            | (go_at_call 19; refine grew_to (h2 wr ha) ?_; intro wb hb'; have ha := grew_trans ha hb')
            | (go_at_call 17; refine grew_at (h3 wb ha) ?_; intro wx hb'; have ha := grew_trans ha hb'))
          go_ret
          exact ⟨rfl, ha⟩
        · have h0 : 0 < m := by omega
          go_wp2_with (first
            | (go_at_call 19; refine grew_to (h2 wr ha) ?_; intro wb hb'; have ha := grew_trans ha hb')
            | (go_at_call 17; refine grew_at (h3 wb ha) ?_; intro wx hb'; have ha := grew_trans ha hb'))
          go_ret
          exact ⟨rfl, ha⟩
end Go.Proofs.Ytppipcjchlnolaa
