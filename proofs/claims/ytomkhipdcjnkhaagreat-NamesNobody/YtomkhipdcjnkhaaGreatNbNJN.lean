/- NJN -/
import Derived.Test.YtomkhipdcjnkhaaGreatNb03

/- The closed facts of the row, one by one. -/
namespace Go.Proofs.YtomkhipdcjnkhaaGreat
open Go.ChangeShapes Go.WideShapes Go.ChangeAt Go.RowKit
set_option linter.unusedVariables false
set_option maxRecDepth 100000

theorem and_introNJN {a b : Bool} (h : a = true) (k : b = true) : (a && b) = true := by rw [h, k]; rfl

theorem namesNobody_j9 : (Rows.namesNobodyRow.inPlace == Tryz.prog.inPlace 6) = true := by kernel_rfl
theorem namesNobody_j10 : (Rows.namesNobodyRow.unfollowed == Tryz.prog.unfollowed 6) = true := by kernel_rfl
theorem namesNobody_j11 : (Rows.namesNobodyRow.recurses == Tryz.prog.recurses 6) = true := by kernel_rfl
theorem namesNobody_j12 : (Rows.namesNobodyRow.named == Tryz.prog.varsNamed 6) = true := by kernel_rfl
set_option maxHeartbeats 4000000 in
theorem namesNobody_closed : joinedFacts Tryz.pinned.checked.prog 6 Tryz.f6 Rows.namesNobodySpec Rows.namesNobodyRow = true := by
  unfold joinedFacts
  refine and_introNJN (and_introNJN (and_introNJN (and_introNJN (and_introNJN (and_introNJN (and_introNJN (and_introNJN (and_introNJN (and_introNJN (and_introNJN (and_introNJN (and_introNJN (and_introNJN (and_introNJN (and_introNJN (and_introNJN (and_introNJN (and_introNJN (and_introNJN (and_introNJN (and_introNJN (and_introNJN (and_introNJN (and_introNJN (and_introNJN (and_introNJN (and_introNJN (and_introNJN (and_introNJN (and_introNJN ?_ ?_) ?_) ?_) ?_) ?_) ?_) ?_) ?_) ?_) ?_) ?_) ?_) ?_) ?_) ?_) ?_) ?_) ?_) ?_) ?_) ?_) ?_) ?_) ?_) ?_) ?_) ?_) ?_) ?_) ?_) ?_
  · as_aux_lemma => kernel_rfl
  · as_aux_lemma => kernel_rfl
  · as_aux_lemma => kernel_rfl
  · as_aux_lemma => kernel_rfl
  · as_aux_lemma => kernel_rfl
  · as_aux_lemma => kernel_rfl
  · as_aux_lemma => kernel_rfl
  · as_aux_lemma => kernel_rfl
  · as_aux_lemma => kernel_rfl
  · exact namesNobody_j9
  · exact namesNobody_j10
  · exact namesNobody_j11
  · exact namesNobody_j12
  · as_aux_lemma => kernel_rfl
  · as_aux_lemma => kernel_rfl
  · as_aux_lemma => kernel_rfl
  · as_aux_lemma => kernel_rfl
  · as_aux_lemma => kernel_rfl
  · as_aux_lemma => kernel_rfl
  · as_aux_lemma => kernel_rfl
  · as_aux_lemma => kernel_rfl
  · as_aux_lemma => kernel_rfl
  · as_aux_lemma => kernel_rfl
  · as_aux_lemma => kernel_rfl
  · as_aux_lemma => kernel_rfl
  · as_aux_lemma => kernel_rfl
  · as_aux_lemma => kernel_rfl
  · as_aux_lemma => kernel_rfl
  · as_aux_lemma => kernel_rfl
  · as_aux_lemma => kernel_rfl
  · as_aux_lemma => kernel_rfl
  · as_aux_lemma => kernel_rfl

end Go.Proofs.YtomkhipdcjnkhaaGreat
