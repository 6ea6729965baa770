/- The document's disk: New. -/
import Derived.Test.YtinigfidofgaiaaGreatSame
namespace Go.Proofs.YtinigfidofgaiaaGreat
open Go.RowKit Go.Maps

set_option maxHeartbeats 400000 in
theorem new_arg (n : Int) (h : n < 1 ∨ 2048 < n) (w : World) : Calls Tryz.prog 28 #[.int .i64 n] w fun e w' => e = .returned (.tuple #[.pointer none, .int .i64 1]) ∧ w' = w := by
  by_cases h1 : n < 1
  · go_enter Tryz.func28, Tryz.ntmps28
    go_wp2
    go_ret2
    exact ⟨rfl, rfl⟩
  · have h2 : 2048 < n := by omega
    go_enter Tryz.func28, Tryz.ntmps28
    go_wp2
    go_ret2
    exact ⟨rfl, rfl⟩

section
variable {B : Nat} {w w' : World} {x n j : Nat} {bv fv : Value} {gB : List (Nat × Nat)} {L : Nat → List Int}

end

end Go.Proofs.YtinigfidofgaiaaGreat
