/- NJD -/
import Derived.Test.YthdlpeejmmobmaaGreatAn40

/- The closed facts of the row, one by one. -/
namespace Go.Proofs.YthdlpeejmmobmaaGreat
open Go.ChangeShapes Go.WideShapes Go.ChangeAt Go.RowKit
set_option linter.unusedVariables false
set_option maxRecDepth 100000

theorem and_intro {a b : Bool} (h : a = true) (k : b = true) : (a && b) = true := by rw [h, k]; rfl

theorem allocNear_j9 : (Rows.allocNearRow.inPlace == Tryz.prog.inPlace 6) = true := by kernel_rfl
theorem allocNear_j10 : (Rows.allocNearRow.unfollowed == Tryz.prog.unfollowed 6) = true := by kernel_rfl
theorem allocNear_j11 : (Rows.allocNearRow.recurses == Tryz.prog.recurses 6) = true := by kernel_rfl
theorem allocNear_j12 : (Rows.allocNearRow.named == Tryz.prog.varsNamed 6) = true := by kernel_rfl
set_option maxHeartbeats 4000000 in
theorem allocNear_closed : joinedFacts Tryz.pinned.checked.prog 6 Tryz.f6 Rows.allocNearSpec Rows.allocNearRow = true := by
  unfold joinedFacts
  refine and_intro (and_intro (and_intro (and_intro (and_intro (and_intro (and_intro (and_intro (and_intro (and_intro (and_intro (and_intro (and_intro (and_intro (and_intro (and_intro (and_intro (and_intro (and_intro (and_intro (and_intro (and_intro (and_intro (and_intro (and_intro (and_intro (and_intro (and_intro (and_intro (and_intro (and_intro ?_ ?_) ?_) ?_) ?_) ?_) ?_) ?_) ?_) ?_) ?_) ?_) ?_) ?_) ?_) ?_) ?_) ?_) ?_) ?_) ?_) ?_) ?_) ?_) ?_) ?_) ?_) ?_) ?_) ?_) ?_) ?_
  · as_aux_lemma => kernel_rfl
  · as_aux_lemma => kernel_rfl
  · as_aux_lemma => kernel_rfl
  · as_aux_lemma => kernel_rfl
  · as_aux_lemma => kernel_rfl
  · as_aux_lemma => kernel_rfl
  · as_aux_lemma => kernel_rfl
  · as_aux_lemma => kernel_rfl
  · as_aux_lemma => kernel_rfl
  · exact allocNear_j9
  · exact allocNear_j10
  · exact allocNear_j11
  · exact allocNear_j12
  · as_aux_lemma => kernel_rfl
  · as_aux_lemma => kernel_rfl
  · as_aux_lemma => kernel_rfl
  · as_aux_lemma => kernel_rfl
  · as_aux_lemma => kernel_rfl
  · as_aux_lemma => kernel_rfl
  · as_aux_lemma => kernel_rfl
  · as_aux_lemma => kernel_rfl
  · as_aux_lemma => kernel_rfl
  · as_aux_lemma => kernel_rfl
  · as_aux_lemma => kernel_rfl
  · as_aux_lemma => kernel_rfl
  · as_aux_lemma => kernel_rfl
  · as_aux_lemma => kernel_rfl
  · as_aux_lemma => kernel_rfl
  · as_aux_lemma => kernel_rfl
  · as_aux_lemma => kernel_rfl
  · as_aux_lemma => kernel_rfl
  · as_aux_lemma => kernel_rfl

end Go.Proofs.YthdlpeejmmobmaaGreat
