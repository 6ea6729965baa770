/- NJC -/
import Derived.Test.YthdlpeejmmobmaaGreatYC33

namespace Go.Proofs.YthdlpeejmmobmaaGreat
open Go.ChangeShapes Go.WideShapes Go.ChangeAt Go.RowKit
set_option linter.unusedVariables false
set_option maxRecDepth 100000
theorem and_intro {a b : Bool} (h : a = true) (k : b = true) : (a && b) = true := by rw [h, k]; rfl
theorem inodeClears_j9 : (Rows.inodeClearsRow.inPlace == Tryz.prog.inPlace 8) = true := by kernel_rfl
theorem inodeClears_j10 : (Rows.inodeClearsRow.unfollowed == Tryz.prog.unfollowed 8) = true := by kernel_rfl
theorem inodeClears_j11 : (Rows.inodeClearsRow.recurses == Tryz.prog.recurses 8) = true := by kernel_rfl
theorem inodeClears_j12 : (Rows.inodeClearsRow.named == Tryz.prog.varsNamed 8) = true := by kernel_rfl
set_option maxHeartbeats 4000000 in
theorem inodeClears_closed : joinedFacts Tryz.pinned.checked.prog 8 Tryz.f8 Rows.inodeClearsSpec Rows.inodeClearsRow = true := by
  unfold joinedFacts
  refine and_intro (and_intro (and_intro (and_intro (and_intro (and_intro (and_intro (and_intro (and_intro (and_intro (and_intro (and_intro (and_intro (and_intro (and_intro (and_intro (and_intro (and_intro (and_intro (and_intro (and_intro (and_intro (and_intro (and_intro (and_intro (and_intro (and_intro (and_intro (and_intro (and_intro (and_intro ?_ ?_) ?_) ?_) ?_) ?_) ?_) ?_) ?_) ?_) ?_) ?_) ?_) ?_) ?_) ?_) ?_) ?_) ?_) ?_) ?_) ?_) ?_) ?_) ?_) ?_) ?_) ?_) ?_) ?_) ?_) ?_
  · as_aux_lemma => kernel_rfl
  · as_aux_lemma => kernel_rfl
  · as_aux_lemma => kernel_rfl
  · as_aux_lemma => kernel_rfl
  · as_aux_lemma => kernel_rfl
  · as_aux_lemma => kernel_rfl
  · as_aux_lemma => kernel_rfl
  · as_aux_lemma => kernel_rfl
  · as_aux_lemma => kernel_rfl
  · exact inodeClears_j9
  · exact inodeClears_j10
  · exact inodeClears_j11
  · exact inodeClears_j12
  · as_aux_lemma => kernel_rfl
  · as_aux_lemma => kernel_rfl
  · as_aux_lemma => kernel_rfl
  · as_aux_lemma => kernel_rfl
  · as_aux_lemma => kernel_rfl
  · as_aux_lemma => kernel_rfl
  · as_aux_lemma => kernel_rfl
  · as_aux_lemma => kernel_rfl
  · as_aux_lemma => kernel_rfl
  · as_aux_lemma => kernel_rfl
  · as_aux_lemma => kernel_rfl
  · as_aux_lemma => kernel_rfl
  · as_aux_lemma => kernel_rfl
  · as_aux_lemma => kernel_rfl
  · as_aux_lemma => kernel_rfl
  · as_aux_lemma => kernel_rfl
  · as_aux_lemma => kernel_rfl
  · as_aux_lemma => kernel_rfl
  · as_aux_lemma => kernel_rfl
end Go.Proofs.YthdlpeejmmobmaaGreat
