/- NJC -/
import Derived.Test.YtomkhipdcjnkhaaGreatNb03

/- The closed facts of the row, one by one. -/
namespace Go.Proofs.YtomkhipdcjnkhaaGreat
open Go.ChangeShapes Go.WideShapes Go.ChangeAt Go.RowKit
set_option linter.unusedVariables false
set_option maxRecDepth 100000

theorem and_introNJC {a b : Bool} (h : a = true) (k : b = true) : (a && b) = true := by rw [h, k]; rfl

theorem checkNobody_j9 : (Rows.checkNobodyRow.inPlace == Tryz.prog.inPlace 7) = true := by kernel_rfl
theorem checkNobody_j10 : (Rows.checkNobodyRow.unfollowed == Tryz.prog.unfollowed 7) = true := by kernel_rfl
theorem checkNobody_j11 : (Rows.checkNobodyRow.recurses == Tryz.prog.recurses 7) = true := by kernel_rfl
theorem checkNobody_j12 : (Rows.checkNobodyRow.named == Tryz.prog.varsNamed 7) = true := by kernel_rfl
set_option maxHeartbeats 4000000 in
theorem checkNobody_closed : joinedFacts Tryz.pinned.checked.prog 7 Tryz.f7 Rows.checkNobodySpec Rows.checkNobodyRow = true := by
  unfold joinedFacts
  refine and_introNJC (and_introNJC (and_introNJC (and_introNJC (and_introNJC (and_introNJC (and_introNJC (and_introNJC (and_introNJC (and_introNJC (and_introNJC (and_introNJC (and_introNJC (and_introNJC (and_introNJC (and_introNJC (and_introNJC (and_introNJC (and_introNJC (and_introNJC (and_introNJC (and_introNJC (and_introNJC (and_introNJC (and_introNJC (and_introNJC (and_introNJC (and_introNJC (and_introNJC (and_introNJC (and_introNJC ?_ ?_) ?_) ?_) ?_) ?_) ?_) ?_) ?_) ?_) ?_) ?_) ?_) ?_) ?_) ?_) ?_) ?_) ?_) ?_) ?_) ?_) ?_) ?_) ?_) ?_) ?_) ?_) ?_) ?_) ?_) ?_
  · as_aux_lemma => kernel_rfl
  · as_aux_lemma => kernel_rfl
  · as_aux_lemma => kernel_rfl
  · as_aux_lemma => kernel_rfl
  · as_aux_lemma => kernel_rfl
  · as_aux_lemma => kernel_rfl
  · as_aux_lemma => kernel_rfl
  · as_aux_lemma => kernel_rfl
  · as_aux_lemma => kernel_rfl
  · exact checkNobody_j9
  · exact checkNobody_j10
  · exact checkNobody_j11
  · exact checkNobody_j12
  · as_aux_lemma => kernel_rfl
  · as_aux_lemma => kernel_rfl
  · as_aux_lemma => kernel_rfl
  · as_aux_lemma => kernel_rfl
  · as_aux_lemma => kernel_rfl
  · as_aux_lemma => kernel_rfl
  · as_aux_lemma => kernel_rfl
  · as_aux_lemma => kernel_rfl
  · as_aux_lemma => kernel_rfl
  · as_aux_lemma => kernel_rfl
  · as_aux_lemma => kernel_rfl
  · as_aux_lemma => kernel_rfl
  · as_aux_lemma => kernel_rfl
  · as_aux_lemma => kernel_rfl
  · as_aux_lemma => kernel_rfl
  · as_aux_lemma => kernel_rfl
  · as_aux_lemma => kernel_rfl
  · as_aux_lemma => kernel_rfl
  · as_aux_lemma => kernel_rfl

end Go.Proofs.YtomkhipdcjnkhaaGreat
