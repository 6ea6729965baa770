/- The closed facts of the row, one by one. -/
import Derived.Test.YthdlpeejmmobmaaGreatAo01
import Derived.Test.YthdlpeejmmobmaaGreatAo02
import Derived.Test.YthdlpeejmmobmaaGreatAo03
import Derived.Test.YthdlpeejmmobmaaGreatAo04
import Derived.Test.YthdlpeejmmobmaaGreatAo05
import Derived.Test.YthdlpeejmmobmaaGreatAo06
import Derived.Test.YthdlpeejmmobmaaGreatAo07
import Derived.Test.YthdlpeejmmobmaaGreatAo08
import Derived.Test.YthdlpeejmmobmaaGreatAo09
import Derived.Test.YthdlpeejmmobmaaGreatAo10
import Derived.Test.YthdlpeejmmobmaaGreatAo11
import Derived.Test.YthdlpeejmmobmaaGreatAo12
import Derived.Test.YthdlpeejmmobmaaGreatAo13
import Derived.Test.YthdlpeejmmobmaaGreatAo14
import Derived.Test.YthdlpeejmmobmaaGreatAo15
import Derived.Test.YthdlpeejmmobmaaGreatAo16
import Derived.Test.YthdlpeejmmobmaaGreatAo17
import Derived.Test.YthdlpeejmmobmaaGreatAo18
import Derived.Test.YthdlpeejmmobmaaGreatAo19
import Derived.Test.YthdlpeejmmobmaaGreatAo20
import Derived.Test.YthdlpeejmmobmaaGreatAo21
import Derived.Test.YthdlpeejmmobmaaGreatAo22
import Derived.Test.YthdlpeejmmobmaaGreatAo23
import Derived.Test.YthdlpeejmmobmaaGreatAo24
import Derived.Test.YthdlpeejmmobmaaGreatAo25
import Derived.Test.YthdlpeejmmobmaaGreatAo26
import Derived.Test.YthdlpeejmmobmaaGreatAo27
import Derived.Test.YthdlpeejmmobmaaGreatAo28
import Derived.Test.YthdlpeejmmobmaaGreatAo29
import Derived.Test.YthdlpeejmmobmaaGreatAo30
import Derived.Test.YthdlpeejmmobmaaGreatAo31
import Derived.Test.YthdlpeejmmobmaaGreatAo32
import Derived.Test.YthdlpeejmmobmaaGreatAo33
import Derived.Test.YthdlpeejmmobmaaGreatAo34
import Derived.Test.YthdlpeejmmobmaaGreatAo35

namespace Go.Proofs.YthdlpeejmmobmaaGreat
open Go.ChangeShapes Go.WideShapes Go.ChangeAt Go.RowKit
set_option linter.unusedVariables false
set_option maxRecDepth 100000

theorem and_intro {a b : Bool} (h : a = true) (k : b = true) : (a && b) = true := by rw [h, k]; rfl

theorem snapFull_j9 : (Rows.snapFullRow.inPlace == Tryz.prog.inPlace 3) = true := by kernel_rfl
theorem snapFull_j10 : (Rows.snapFullRow.unfollowed == Tryz.prog.unfollowed 3) = true := by kernel_rfl
theorem snapFull_j11 : (Rows.snapFullRow.recurses == Tryz.prog.recurses 3) = true := by kernel_rfl
theorem snapFull_j12 : (Rows.snapFullRow.named == Tryz.prog.varsNamed 3) = true := by kernel_rfl
set_option maxHeartbeats 4000000 in
theorem snapFull_closed : joinedFacts Tryz.pinned.checked.prog 3 Tryz.f3 Rows.snapFullSpec Rows.snapFullRow = true := by
  unfold joinedFacts
  refine and_intro (and_intro (and_intro (and_intro (and_intro (and_intro (and_intro (and_intro (and_intro (and_intro (and_intro (and_intro (and_intro (and_intro (and_intro (and_intro (and_intro (and_intro (and_intro (and_intro (and_intro (and_intro (and_intro (and_intro (and_intro (and_intro (and_intro (and_intro (and_intro (and_intro (and_intro ?_ ?_) ?_) ?_) ?_) ?_) ?_) ?_) ?_) ?_) ?_) ?_) ?_) ?_) ?_) ?_) ?_) ?_) ?_) ?_) ?_) ?_) ?_) ?_) ?_) ?_) ?_) ?_) ?_) ?_) ?_) ?_
  · as_aux_lemma => kernel_rfl
  · as_aux_lemma => kernel_rfl
  · as_aux_lemma => kernel_rfl
  · as_aux_lemma => kernel_rfl
  · as_aux_lemma => kernel_rfl
  · as_aux_lemma => kernel_rfl
  · as_aux_lemma => kernel_rfl
  · as_aux_lemma => kernel_rfl
  · as_aux_lemma => kernel_rfl
  · exact snapFull_j9
  · exact snapFull_j10
  · exact snapFull_j11
  · exact snapFull_j12
  · as_aux_lemma => kernel_rfl
  · as_aux_lemma => kernel_rfl
  · as_aux_lemma => kernel_rfl
  · as_aux_lemma => kernel_rfl
  · as_aux_lemma => kernel_rfl
  · as_aux_lemma => kernel_rfl
  · as_aux_lemma => kernel_rfl
  · as_aux_lemma => kernel_rfl
  · as_aux_lemma => kernel_rfl
  · as_aux_lemma => kernel_rfl
  · as_aux_lemma => kernel_rfl
  · as_aux_lemma => kernel_rfl
  · as_aux_lemma => kernel_rfl
  · as_aux_lemma => kernel_rfl
  · as_aux_lemma => kernel_rfl
  · as_aux_lemma => kernel_rfl
  · as_aux_lemma => kernel_rfl
  · as_aux_lemma => kernel_rfl
  · as_aux_lemma => kernel_rfl

end Go.Proofs.YthdlpeejmmobmaaGreat
