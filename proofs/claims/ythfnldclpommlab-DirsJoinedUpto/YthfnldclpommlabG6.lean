/- DirsPaths: a path's names, and all but the last one. -/
import Derived.Test.YthfnldclpommlabG5
namespace Go.Proofs.Ythfnldclpommlab
open Go.RowKit
set_option linter.unusedVariables false

/-- /a/b -/
abbrev sAB : ByteArray := ⟨#[47, 97, 47, 98]⟩
theorem split_ab : spE sAB = 0 ∧ (spL sAB).length = 2 := by
  have e1 : sAB.extract 1 sAB.size = ⟨#[97, 47, 98]⟩ := by decide +kernel
  have c1 : cutC ⟨#[97, 47, 98]⟩ = true := by decide +kernel
  have a1 : cutA ⟨#[97, 47, 98]⟩ = ⟨#[97]⟩ := by decide +kernel
  have b1 : cutB ⟨#[97, 47, 98]⟩ = ⟨#[98]⟩ := by decide +kernel
  have c2 : cutC ⟨#[98]⟩ = false := by decide +kernel
  have a2 : cutA ⟨#[98]⟩ = ⟨#[98]⟩ := by decide +kernel
  have hcp : cps (sAB.extract 1 sAB.size) = [⟨#[97]⟩, ⟨#[98]⟩] := by rw [e1, cps_yes c1, a1, b1, cps_no c2, a2]
  have hpt : pts sAB = [⟨#[97]⟩, ⟨#[98]⟩] := by unfold pts; rw [if_neg (by decide +kernel), hcp]
  have hok : okP sAB := by
    refine ⟨by decide +kernel, .inr (fun x hx => ?_)⟩
    rw [hcp] at hx
    simp only [List.mem_cons, List.not_mem_nil, or_false] at hx
    rcases hx with rfl | rfl
    · decide +kernel
    · decide +kernel
  constructor
  · unfold spE; rw [if_pos hok, hpt]; rfl
  · unfold spL; rw [if_pos ⟨hok, by rw [hpt]; decide⟩, hpt]; rfl

set_option maxRecDepth 20000 in
set_option maxHeartbeats 4000000 in
theorem dirsPaths_walk (s : ByteArray) (w : World) (hs : s.size ≤ 2097152) : Calls Try.prog 5 #[.string s] w fun e w' => e = .returned (.bool true) ∧ Below w.heap.size w w' := by
  have h1 := Split_ok s w (by omega)
  go_enter Try.func5, Try.ntmps5
  go_wp2_with fail
  refine h1.mono ?_
  rintro _ w1 ⟨q1, d1, rfl, hS1, hb1, _, _⟩
  clear h1
  have h2 := rSplit_ok s w1 hs
  dsimp only
  go_wp2_with fail
  refine h2.mono ?_
  rintro _ w2 ⟨q2, d2, rfl, hS2, hb2, _, _⟩
  clear h2
  have h3 := Base_ok s w2 (by omega)
  have H2 : Hid _ := And.intro (hS1.kept hb2) (And.intro hS2 (grew_trans hb1 hb2))
  clear hS1 hb1 hS2 hb2
  dsimp only
  go_wp2_with fail
  refine h3.mono ?_
  rintro _ w3 ⟨q3, d3, rfl, hS3, hb3⟩
  clear h3
  have h4 := rBase_ok s w3 hs
  dsimp only
  go_wp2_with fail
  refine h4.mono ?_
  rintro _ w4 ⟨q4, d4, rfl, hS4, hb4⟩
  clear h4
  have hb24 := grew_trans hb3 hb4
  have h5 := sequal_same q1 q2 _ _ d1 d2 _ w4 (H2.out.1.kept hb24) (H2.out.2.1.kept hb24)
  have H4 : Hid _ := And.intro (hS3.kept hb4) (And.intro hS4 (grew_trans H2.out.2.2 hb24))
  clear hS3 hb3 hS4 hb4 hb24
  generalize (spL s).length = NL at *
  generalize spE s = E1 at *
  obtain ⟨N3, hN3⟩ : ∃ n, (bs s).1.length = n := ⟨_, rfl⟩
  rw [hN3]
  have H4' : Hid _ := hN3
  clear hN3
  generalize (bs s).2.1 = B2 at *
  generalize (bs s).2.2 = B3 at *
  dsimp only
  go_wp2_with fail
  refine grew_at h5 ?_
  intro w5 hb5
  clear h5
  have h6 := sequal_same q3 q4 _ _ d3 d4 _ w5 (H4.out.1.kept hb5) (H4.out.2.1.kept hb5)
  rw [H4'.out] at h6
  have H5 : Hid _ := grew_trans H4.out.2.2 hb5
  clear hb5
  dsimp only
  go_wp2_with fail
  refine grew_at h6 ?_
  intro w6 hb6
  clear h6
  have h7 := Split_ok sAB w6 (by decide)
  have H6 : Hid _ := grew_trans H5.out hb6
  clear hb6
  dsimp only
  go_wp2_with fail
  refine h7.mono ?_
  rintro _ w7 ⟨q7, d7, rfl, hS7, hb7, _, _⟩
  clear h7 hS7
  rw [split_ab.1, split_ab.2]
  have H7 : Hid _ := grew_trans H6.out hb7
  clear hb7
  dsimp only
  go_wp2_with fail
  go_ret
  exact ⟨by simp, H7.out⟩
end Go.Proofs.Ythfnldclpommlab
