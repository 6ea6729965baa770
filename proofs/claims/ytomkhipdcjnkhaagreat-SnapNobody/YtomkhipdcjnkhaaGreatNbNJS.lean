/- NJS -/
import Derived.Test.YtomkhipdcjnkhaaGreatNb03

/- The closed facts of the row, one by one. -/
namespace Go.Proofs.YtomkhipdcjnkhaaGreat
open Go.ChangeShapes Go.WideShapes Go.ChangeAt Go.RowKit
set_option linter.unusedVariables false
set_option maxRecDepth 100000

theorem and_introNJS {a b : Bool} (h : a = true) (k : b = true) : (a && b) = true := by rw [h, k]; rfl

theorem snapNobody_j9 : (Rows.snapNobodyRow.inPlace == Tryz.prog.inPlace 3) = true := by kernel_rfl
theorem snapNobody_j10 : (Rows.snapNobodyRow.unfollowed == Tryz.prog.unfollowed 3) = true := by kernel_rfl
theorem snapNobody_j11 : (Rows.snapNobodyRow.recurses == Tryz.prog.recurses 3) = true := by kernel_rfl
theorem snapNobody_j12 : (Rows.snapNobodyRow.named == Tryz.prog.varsNamed 3) = true := by kernel_rfl
set_option maxHeartbeats 4000000 in
theorem snapNobody_closed : joinedFacts Tryz.pinned.checked.prog 3 Tryz.f3 Rows.snapNobodySpec Rows.snapNobodyRow = true := by
  unfold joinedFacts
  refine and_introNJS (and_introNJS (and_introNJS (and_introNJS (and_introNJS (and_introNJS (and_introNJS (and_introNJS (and_introNJS (and_introNJS (and_introNJS (and_introNJS (and_introNJS (and_introNJS (and_introNJS (and_introNJS (and_introNJS (and_introNJS (and_introNJS (and_introNJS (and_introNJS (and_introNJS (and_introNJS (and_introNJS (and_introNJS (and_introNJS (and_introNJS (and_introNJS (and_introNJS (and_introNJS (and_introNJS ?_ ?_) ?_) ?_) ?_) ?_) ?_) ?_) ?_) ?_) ?_) ?_) ?_) ?_) ?_) ?_) ?_) ?_) ?_) ?_) ?_) ?_) ?_) ?_) ?_) ?_) ?_) ?_) ?_) ?_) ?_) ?_
  · as_aux_lemma => kernel_rfl
  · as_aux_lemma => kernel_rfl
  · as_aux_lemma => kernel_rfl
  · as_aux_lemma => kernel_rfl
  · as_aux_lemma => kernel_rfl
  · as_aux_lemma => kernel_rfl
  · as_aux_lemma => kernel_rfl
  · as_aux_lemma => kernel_rfl
  · as_aux_lemma => kernel_rfl
  · exact snapNobody_j9
  · exact snapNobody_j10
  · exact snapNobody_j11
  · exact snapNobody_j12
  · as_aux_lemma => kernel_rfl
  · as_aux_lemma => kernel_rfl
  · as_aux_lemma => kernel_rfl
  · as_aux_lemma => kernel_rfl
  · as_aux_lemma => kernel_rfl
  · as_aux_lemma => kernel_rfl
  · as_aux_lemma => kernel_rfl
  · as_aux_lemma => kernel_rfl
  · as_aux_lemma => kernel_rfl
  · as_aux_lemma => kernel_rfl
  · as_aux_lemma => kernel_rfl
  · as_aux_lemma => kernel_rfl
  · as_aux_lemma => kernel_rfl
  · as_aux_lemma => kernel_rfl
  · as_aux_lemma => kernel_rfl
  · as_aux_lemma => kernel_rfl
  · as_aux_lemma => kernel_rfl
  · as_aux_lemma => kernel_rfl
  · as_aux_lemma => kernel_rfl

end Go.Proofs.YtomkhipdcjnkhaaGreat
