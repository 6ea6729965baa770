/- LayoutDinodes: inodes as bytes, and out of bytes, by the program as by the document. -/
import Derived.Test.YtkmijjipnepnoaaRDDec
import Derived.Test.YtkmijjipnepnoaaGroupsW
namespace Go.Proofs.Ytkmijjipnepnoaa
open Go.RowKit
set_option linter.unusedVariables false

/-- Both encode alike. -/
theorem encDinode_both (m l s a b c d i j : Int) : ∃ er : Int, ∃ n : Nat, ∃ zs : List Int, n ≤ 32 ∧ Num.Byt zs ∧
    (∀ w, Calls Try.prog 19 #[dinV m l s a b c d i j] w fun e w' => ∃ p c, e = .returned (.tuple #[.slice p n c, .int .i64 er]) ∧ BI w' p n zs ∧ Below w.heap.size w w') ∧
    (∀ w, Calls Try.prog 20 #[dinV m l s a b c d i j] w fun e w' => ∃ p c, e = .returned (.tuple #[.slice p n c, .int .i64 er]) ∧ BI w' p n zs ∧ Below w.heap.size w w') := by
  by_cases h : DMay m l s a b c d i j
  · refine ⟨0, 32, dinB m l s a b c d i j, by omega, dinB_byt _ _ _ _ _ _ _ _ _, fun w => ?_, fun w => ?_⟩
    · exact (encodeDinode_yes m l s a b c d i j h w).mono fun e w' ⟨g, cap, he, ho, hb⟩ => ⟨_, cap, he, ho.bi (by omega) (dinB_byt _ _ _ _ _ _ _ _ _), hb⟩
    · exact (rencodeDinode_yes m l s a b c d i j h w).mono fun e w' ⟨g, cap, he, ho, hb⟩ => ⟨_, cap, he, ho.bi (by omega) (dinB_byt _ _ _ _ _ _ _ _ _), hb⟩
  · refine ⟨1, 0, [], by omega, fun i => by simp, fun w => ?_, fun w => ?_⟩
    · exact (encodeDinode_no m l s a b c d i j h w).mono fun e w' ⟨he, hb⟩ => ⟨_, 0, he, BI.none _ _, hb⟩
    · exact (rencodeDinode_no m l s a b c d i j h w).mono fun e w' ⟨he, hb⟩ => ⟨_, 0, he, BI.none _ _, hb⟩

theorem ddV_is (n : Nat) (xs : List Int) : ∃ m l s a b c d i j, ddV n xs = dinV m l s a b c d i j := by
  unfold ddV
  split
  · exact ⟨_, _, _, _, _, _, _, _, _, rfl⟩
  · exact ⟨_, _, _, _, _, _, _, _, _, rfl⟩

theorem eq45_same (m l s a b c d i j : Int) (w : World) : (Op.equalIn 10000 45 (dinV m l s a b c d i j) (dinV m l s a b c d i j)).run Try.prog w = .ok true w := by
  rw [eq45]
  rw [decide_eq_true ⟨rfl, rfl, rfl, ⟨rfl, rfl, rfl, rfl⟩, rfl, rfl⟩]

set_option maxRecDepth 10000 in
set_option maxHeartbeats 1000000 in
theorem layoutDinodes_walk (m l s a b c' d i j : Int) (p : Option Addr) (n c : Nat) (xs : List Int) (w : World) (h : BI w p n xs) (hnc : n ≤ c) :
    Calls Try.prog 5 #[dinV m l s a b c' d i j, .slice p n c] w fun e w' => e = .returned (.bool true) ∧ Below w.heap.size w w' := by
  have HB := grew_alloc w (dinO m l s a b c' d i j)
  have hx0 := heap_new w (dinO m l s a b c' d i j)
  have h0 := h.kept HB
  obtain ⟨er, k, zs, hk, hzb, he1, he2⟩ := encDinode_both m l s a b c' d i j
  have hd1 := fun p' (c' : Nat) w' (hb : BI w' p' n xs) (hc : n ≤ c') => decodeDinode_ok p' n c' xs w' hb hc
  have hd2 := fun p' (c' : Nat) w' (hb : BI w' p' n xs) (hc : n ≤ c') => rdecodeDinode_ok p' n c' xs w' hb hc
  obtain ⟨m2, l2, s2, y1, y2, y3, y4, i2, j2, hv2⟩ := ddV_is n xs
  rw [hv2] at hd1 hd2
  clear hv2
  have heq2 := eq45_same m2 l2 s2 y1 y2 y3 y4 i2 j2
  generalize ddE n xs = er2 at *
  go_enter Try.func5, Try.ntmps5
  go_wp2_with (first
    | (refine wpList_load_row rfl 45 (.tmp 2) rfl w.heap.size rfl 45 _ (0, 0) _ hx0 Try.underlying45 rfl info45 ?_)
    | (go_at_call 19; refine Calls.mono (he1 _) ?_; rintro e w1 ⟨p1, q1, rfl, b1, hb1⟩; have HB := grew_trans HB hb1; have h0 := h0.kept hb1; have hx0 : w1.heap[w.heap.size]? = some (dinO m l s a b c' d i j) := (by rw [hb1.block _ (Array.getElem?_eq_some_iff.1 hx0).1]; exact hx0))
    | (go_at_call 20; refine Calls.mono (he2 _) ?_; rintro e w2 ⟨p2, q2, rfl, b2, hb2⟩; have HB := grew_trans HB hb2; have h0 := h0.kept hb2; have b1 := b1.kept hb2)
    | (go_at_call 11; refine Calls.mono (bclone_any _ _ _ _ _ h0) ?_; rintro e w3 ⟨p3, q3, rfl, hq3, b3, hb3⟩; have HB := grew_trans HB hb3; have h0 := h0.kept hb3; have b1 := b1.kept hb3; have b2 := b2.kept hb3)
    | (go_at_call 21; refine grew_at (hd1 _ _ _ b3 hq3) ?_; intro w4 hb4; have HB := grew_trans HB hb4; have h0 := h0.kept hb4; have b1 := b1.kept hb4; have b2 := b2.kept hb4; have b3 := b3.kept hb4))
  have ba := grew_alloc w4 (dinO m2 l2 s2 y1 y2 y3 y4 i2 j2)
  have ha := heap_new w4 (dinO m2 l2 s2 y1 y2 y3 y4 i2 j2)
  have HB := grew_trans HB ba
  have h0 := h0.kept ba
  have b1 := b1.kept ba
  have b2 := b2.kept ba
  have b3 := b3.kept ba
  generalize w4.alloc (dinO m2 l2 s2 y1 y2 y3 y4 i2 j2) = w5 at *
  generalize w4.heap.size = x1 at *
  clear ba
  refine grew_at (hd2 _ _ _ h0 hnc) ?_
  intro w6 hb6
  have ha : w6.heap[x1]? = some (dinO m2 l2 s2 y1 y2 y3 y4 i2 j2) := by rw [hb6.block _ (Array.getElem?_eq_some_iff.1 ha).1]; exact ha
  have ba := grew_alloc w6 (dinO m2 l2 s2 y1 y2 y3 y4 i2 j2)
  have hc := heap_new w6 (dinO m2 l2 s2 y1 y2 y3 y4 i2 j2)
  have ha : (w6.alloc (dinO m2 l2 s2 y1 y2 y3 y4 i2 j2)).heap[x1]? = some (dinO m2 l2 s2 y1 y2 y3 y4 i2 j2) := by rw [ba.block _ (Array.getElem?_eq_some_iff.1 ha).1]; exact ha
  have HB := grew_trans (grew_trans HB hb6) ba
  have h0 := (h0.kept hb6).kept ba
  have b1 := (b1.kept hb6).kept ba
  have b2 := (b2.kept hb6).kept ba
  have b3 := (b3.kept hb6).kept ba
  clear hb6 hd1 hd2 he1 he2 hx0 ba
  go_wp2_with (first
    | (refine wpList_load_wanted (by rfl) 45 (.tmp 10) rfl x1 rfl 45 _ (0, 0) _ ha Try.underlying45 rfl info45 ?_)
    | (refine wpList_load_wanted (by rfl) 45 (.tmp 12) rfl w6.heap.size rfl 45 _ (0, 0) _ hc Try.underlying45 rfl info45 ?_)
    | (refine wpList_eql_wanted (by rfl) 45 (.tmp 45) (.tmp 46) rfl _ _ rfl rfl guard45 true (heq2 _) ?_)
    | (go_at_call_of 14 p1; refine same_at (equal_same _ _ _ _ _ _ _ _ b1 b2) ?_)
    | (go_at_call 14; refine same_at (equal_same _ _ _ _ _ _ _ _ b3 h0) ?_))
  go_ret
  exact ⟨rfl, HB⟩
end Go.Proofs.Ytkmijjipnepnoaa
