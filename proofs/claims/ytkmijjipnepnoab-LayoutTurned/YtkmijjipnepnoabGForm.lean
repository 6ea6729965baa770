/- Headers out of bytes: whether they are in form. -/
import Derived.Test.YtkmijjipnepnoabDGroup
namespace Go.Proofs.Ytkmijjipnepnoab
open Go.RowKit
set_option linter.unusedVariables false

/-- The bytes are those that are written for what they say. -/
def GGood (xs : List Int) (N : Int) (ys : List Int) : Prop := GMay N ∧ groupL N ys = xs
instance (xs : List Int) (N : Int) (ys : List Int) : Decidable (GGood xs N ys) := by unfold GGood; infer_instance

end Go.Proofs.Ytkmijjipnepnoab
