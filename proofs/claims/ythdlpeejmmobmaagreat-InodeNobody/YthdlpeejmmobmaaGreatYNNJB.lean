/- The closed facts of the row, one by one. -/
import Derived.Test.YthdlpeejmmobmaaGreatYC33
namespace Go.Proofs.YthdlpeejmmobmaaGreat
open Go.ChangeShapes Go.WideShapes Go.ChangeAt Go.RowKit
set_option linter.unusedVariables false
set_option maxRecDepth 100000

theorem and_intro {a b : Bool} (h : a = true) (k : b = true) : (a && b) = true := by rw [h, k]; rfl

theorem inodeNobody_j9 : (Rows.inodeNobodyRow.inPlace == Tryz.prog.inPlace 9) = true := by kernel_rfl
theorem inodeNobody_j10 : (Rows.inodeNobodyRow.unfollowed == Tryz.prog.unfollowed 9) = true := by kernel_rfl
theorem inodeNobody_j11 : (Rows.inodeNobodyRow.recurses == Tryz.prog.recurses 9) = true := by kernel_rfl
theorem inodeNobody_j12 : (Rows.inodeNobodyRow.named == Tryz.prog.varsNamed 9) = true := by kernel_rfl
set_option maxHeartbeats 4000000 in
theorem inodeNobody_closed : joinedFacts Tryz.pinned.checked.prog 9 Tryz.f9 Rows.inodeNobodySpec Rows.inodeNobodyRow = true := by
  unfold joinedFacts
  refine and_intro (and_intro (and_intro (and_intro (and_intro (and_intro (and_intro (and_intro (and_intro (and_intro (and_intro (and_intro (and_intro (and_intro (and_intro (and_intro (and_intro (and_intro (and_intro (and_intro (and_intro (and_intro (and_intro (and_intro (and_intro (and_intro (and_intro (and_intro (and_intro (and_intro (and_intro ?_ ?_) ?_) ?_) ?_) ?_) ?_) ?_) ?_) ?_) ?_) ?_) ?_) ?_) ?_) ?_) ?_) ?_) ?_) ?_) ?_) ?_) ?_) ?_) ?_) ?_) ?_) ?_) ?_) ?_) ?_) ?_
  · as_aux_lemma => kernel_rfl
  · as_aux_lemma => kernel_rfl
  · as_aux_lemma => kernel_rfl
  · as_aux_lemma => kernel_rfl
  · as_aux_lemma => kernel_rfl
  · as_aux_lemma => kernel_rfl
  · as_aux_lemma => kernel_rfl
  · as_aux_lemma => kernel_rfl
  · as_aux_lemma => kernel_rfl
  · exact inodeNobody_j9
  · exact inodeNobody_j10
  · exact inodeNobody_j11
  · exact inodeNobody_j12
  · as_aux_lemma => kernel_rfl
  · as_aux_lemma => kernel_rfl
  · as_aux_lemma => kernel_rfl
  · as_aux_lemma => kernel_rfl
  · as_aux_lemma => kernel_rfl
  · as_aux_lemma => kernel_rfl
  · as_aux_lemma => kernel_rfl
  · as_aux_lemma => kernel_rfl
  · as_aux_lemma => kernel_rfl
  · as_aux_lemma => kernel_rfl
  · as_aux_lemma => kernel_rfl
  · as_aux_lemma => kernel_rfl
  · as_aux_lemma => kernel_rfl
  · as_aux_lemma => kernel_rfl
  · as_aux_lemma => kernel_rfl
  · as_aux_lemma => kernel_rfl
  · as_aux_lemma => kernel_rfl
  · as_aux_lemma => kernel_rfl
  · as_aux_lemma => kernel_rfl

end Go.Proofs.YthdlpeejmmobmaaGreat
