/- LayoutSupers: superblocks as bytes, and out of bytes, by the program as by the document. -/
import Derived.Test.YtkmijjipnepnoaaRDec
namespace Go.Proofs.Ytkmijjipnepnoaa
open Go.RowKit
set_option linter.unusedVariables false

/-- Both encode alike. -/
theorem encSuper_both (G B I M : Int) : ∃ er : Int, ∃ n : Nat, ∃ zs : List Int, n ≤ 128 ∧ Num.Byt zs ∧
    (∀ w, Calls Try.prog 9 #[superV G B I M] w fun e w' => ∃ p c, e = .returned (.tuple #[.slice p n c, .int .i64 er]) ∧ BI w' p n zs ∧ Below w.heap.size w w') ∧
    (∀ w, Calls Try.prog 10 #[superV G B I M] w fun e w' => ∃ p c, e = .returned (.tuple #[.slice p n c, .int .i64 er]) ∧ BI w' p n zs ∧ Below w.heap.size w w') := by
  by_cases h : SMay G B I M
  · refine ⟨0, 128, superS G B I M, by omega, superS_byt _ _ _ _, fun w => ?_, fun w => ?_⟩
    · exact (encodeSuper_yes G B I M h w).mono fun e w' ⟨g, cap, he, ho, hb⟩ => ⟨_, cap, he, ho.bi (by omega) (superS_byt _ _ _ _), hb⟩
    · exact (rencodeSuper_yes G B I M h w).mono fun e w' ⟨g, cap, he, ho, hb⟩ => ⟨_, cap, he, ho.bi (by omega) (superS_byt _ _ _ _), hb⟩
  · refine ⟨1, 0, [], by omega, fun i => by simp, fun w => ?_, fun w => ?_⟩
    · exact (encodeSuper_no G B I M h w).mono fun e w' ⟨he, hb⟩ => ⟨_, 0, he, BI.none _ _, hb⟩
    · exact (rencodeSuper_no G B I M h w).mono fun e w' ⟨he, hb⟩ => ⟨_, 0, he, BI.none _ _, hb⟩

theorem decV_shape (n : Nat) (xs : List Int) : ∃ a b c d, decV n xs = superV a b c d := by
  unfold decV
  split
  · exact ⟨_, _, _, _, rfl⟩
  · exact ⟨_, _, _, _, rfl⟩

set_option maxHeartbeats 1000000 in
theorem layoutSupers_walk (G B I M : Int) (p : Option Addr) (n c : Nat) (xs : List Int) (w : World) (h : BI w p n xs) (hnc : n ≤ c) :
    Calls Try.prog 3 #[superV G B I M, .slice p n c] w fun e w' => e = .returned (.bool true) ∧ Below w.heap.size w w' := by
  have HB := grew_alloc w (superO G B I M)
  obtain ⟨c0, c1, c2, c3⟩ := super_cells w G B I M
  have h0 := h.kept HB
  obtain ⟨er, k, zs, hk, hzb, he1, he2⟩ := encSuper_both G B I M
  obtain ⟨ra, rb, rc, rd, hdv⟩ := decV_shape n xs
  have hd1 := fun p' (c' : Nat) w' (hb : BI w' p' n xs) (hc : n ≤ c') => decodeSuper_ok p' n c' xs w' hb hc
  have hd2 := fun p' (c' : Nat) w' (hb : BI w' p' n xs) (hc : n ≤ c') => rdecodeSuper_ok p' n c' xs w' hb hc
  rw [hdv] at hd1 hd2
  generalize decE n xs = er2 at *
  clear hdv
  go_enter Try.func3, Try.ntmps3
  go_wp2_with (first
    | (go_at_call 9; refine Calls.mono (he1 _) ?_; rintro e w1 ⟨p1, q1, rfl, b1, hb1⟩; have HB := grew_trans HB hb1; have h0 := h0.kept hb1; have c0 := cell_kept c0 hb1; have c1 := cell_kept c1 hb1; have c2 := cell_kept c2 hb1; have c3 := cell_kept c3 hb1)
    | (go_at_call 10; refine Calls.mono (he2 _) ?_; rintro e w2 ⟨p2, q2, rfl, b2, hb2⟩; have HB := grew_trans HB hb2; have h0 := h0.kept hb2; have b1 := b1.kept hb2)
    | (go_at_call 11; refine Calls.mono (bclone_any _ _ _ _ _ h0) ?_; rintro e w3 ⟨p3, q3, rfl, hq3, b3, hb3⟩; have HB := grew_trans HB hb3; have h0 := h0.kept hb3; have b1 := b1.kept hb3; have b2 := b2.kept hb3)
    | (go_at_call 12; refine grew_at (hd1 _ _ _ b3 hq3) ?_; intro w4 hb4; have HB := grew_trans HB hb4; have h0 := h0.kept hb4; have b1 := b1.kept hb4; have b2 := b2.kept hb4; have b3 := b3.kept hb4)
    | (go_at_call 13; have ha := grew_alloc w4 (superO ra rb rc rd); have h0 := h0.kept ha; have b1 := b1.kept ha; have b2 := b2.kept ha; have b3 := b3.kept ha; obtain ⟨d0, d1, d2, d3⟩ := super_cells w4 ra rb rc rd; refine grew_at (hd2 _ _ _ h0 hnc) ?_; intro w5 hb5; have HB := grew_trans (grew_trans HB ha) hb5; have hb6 := grew_trans hb5 (grew_alloc w5 (superO ra rb rc rd)); have h0 := h0.kept hb6; have b1 := b1.kept hb6; have b2 := b2.kept hb6; have b3 := b3.kept hb6; have d0 := cell_kept d0 hb6; have d1 := cell_kept d1 hb6; have d2 := cell_kept d2 hb6; have d3 := cell_kept d3 hb6)
    | (go_at_call_of 14 p1; refine same_at (equal_same _ _ _ _ _ _ _ _ b1 b2) ?_)
    | (go_at_call 14; refine same_at (equal_same _ _ _ _ _ _ _ _ b3 h0) ?_))
  go_ret
  exact ⟨rfl, grew_trans HB (grew_alloc _ _)⟩
end Go.Proofs.Ytkmijjipnepnoaa
