/- NJF -/
import Derived.Test.YtomkhipdcjnkhaaGreatFb03

/- The closed facts of the row, one by one. -/
namespace Go.Proofs.YtomkhipdcjnkhaaGreat
open Go.ChangeShapes Go.WideShapes Go.ChangeAt Go.RowKit
set_option linter.unusedVariables false
set_option maxRecDepth 100000

theorem and_introNJF {a b : Bool} (h : a = true) (k : b = true) : (a && b) = true := by rw [h, k]; rfl

theorem fileNobody_j9 : (Rows.fileNobodyRow.inPlace == Tryz.prog.inPlace 5) = true := by kernel_rfl
theorem fileNobody_j10 : (Rows.fileNobodyRow.unfollowed == Tryz.prog.unfollowed 5) = true := by kernel_rfl
theorem fileNobody_j11 : (Rows.fileNobodyRow.recurses == Tryz.prog.recurses 5) = true := by kernel_rfl
theorem fileNobody_j12 : (Rows.fileNobodyRow.named == Tryz.prog.varsNamed 5) = true := by kernel_rfl
set_option maxHeartbeats 4000000 in
theorem fileNobody_closed : joinedFacts Tryz.pinned.checked.prog 5 Tryz.f5 Rows.fileNobodySpec Rows.fileNobodyRow = true := by
  unfold joinedFacts
  refine and_introNJF (and_introNJF (and_introNJF (and_introNJF (and_introNJF (and_introNJF (and_introNJF (and_introNJF (and_introNJF (and_introNJF (and_introNJF (and_introNJF (and_introNJF (and_introNJF (and_introNJF (and_introNJF (and_introNJF (and_introNJF (and_introNJF (and_introNJF (and_introNJF (and_introNJF (and_introNJF (and_introNJF (and_introNJF (and_introNJF (and_introNJF (and_introNJF (and_introNJF (and_introNJF (and_introNJF ?_ ?_) ?_) ?_) ?_) ?_) ?_) ?_) ?_) ?_) ?_) ?_) ?_) ?_) ?_) ?_) ?_) ?_) ?_) ?_) ?_) ?_) ?_) ?_) ?_) ?_) ?_) ?_) ?_) ?_) ?_) ?_
  · as_aux_lemma => kernel_rfl
  · as_aux_lemma => kernel_rfl
  · as_aux_lemma => kernel_rfl
  · as_aux_lemma => kernel_rfl
  · as_aux_lemma => kernel_rfl
  · as_aux_lemma => kernel_rfl
  · as_aux_lemma => kernel_rfl
  · as_aux_lemma => kernel_rfl
  · as_aux_lemma => kernel_rfl
  · exact fileNobody_j9
  · exact fileNobody_j10
  · exact fileNobody_j11
  · exact fileNobody_j12
  · as_aux_lemma => kernel_rfl
  · as_aux_lemma => kernel_rfl
  · as_aux_lemma => kernel_rfl
  · as_aux_lemma => kernel_rfl
  · as_aux_lemma => kernel_rfl
  · as_aux_lemma => kernel_rfl
  · as_aux_lemma => kernel_rfl
  · as_aux_lemma => kernel_rfl
  · as_aux_lemma => kernel_rfl
  · as_aux_lemma => kernel_rfl
  · as_aux_lemma => kernel_rfl
  · as_aux_lemma => kernel_rfl
  · as_aux_lemma => kernel_rfl
  · as_aux_lemma => kernel_rfl
  · as_aux_lemma => kernel_rfl
  · as_aux_lemma => kernel_rfl
  · as_aux_lemma => kernel_rfl
  · as_aux_lemma => kernel_rfl
  · as_aux_lemma => kernel_rfl

end Go.Proofs.YtomkhipdcjnkhaaGreat
