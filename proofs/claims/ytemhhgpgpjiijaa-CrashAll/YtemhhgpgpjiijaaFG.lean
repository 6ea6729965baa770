/- CrashAll: a mask that came in. -/
import Derived.Test.YtemhhgpgpjiijaaFF
import Derived.Test.YtemhhgpgpjiijaaEO
namespace Go.Proofs.Ytemhhgpgpjiijaa
open Go.ChangeShapes Go.WideShapes Go.ChangeAt Go.RowKit

theorem u64_nat {x : Int} (h : (Lit.int .u64 x).wf = true) : ∃ K : Nat, x = (K : Int) ∧ K < 18446744073709551616 := by
  simp [Lit.wf, IntKind.min, IntKind.max, IntKind.signed, IntKind.bits] at h
  exact ⟨x.toNat, by omega, by omega⟩
end Go.Proofs.Ytemhhgpgpjiijaa
