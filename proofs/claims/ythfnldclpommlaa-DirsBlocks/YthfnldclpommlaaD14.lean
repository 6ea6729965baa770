/- dirs, the document's: With, Without. -/
import Derived.Test.YthfnldclpommlaaD12
namespace Go.Proofs.Ythfnldclpommlaa
open Go.RowKit
set_option linter.unusedVariables false

theorem deX_yes {n : Nat} {xs : List Int} (h : mayB n xs) : deX n xs = 0 := by unfold deX; rw [if_pos h]
theorem deX_no {n : Nat} {xs : List Int} (h : ¬ mayB n xs) : deX n xs = 6 := by unfold deX; rw [if_neg h]
end Go.Proofs.Ythfnldclpommlaa
