/- dirs, the document's: Find, Free. -/
import Derived.Test.YthfnldclpommlaaD10
import Derived.Deep.QuietTactic
import Derived.BigQuiet
namespace Go.Proofs.Ythfnldclpommlaa
open Go.RowKit
set_option linter.unusedVariables false

end Go.Proofs.Ythfnldclpommlaa
