/- GaugeFills: the walk. -/
import Derived.Test.YtllcpggdfdnjcabFa
namespace Go.Proofs.Ytllcpggdfdnjcab
open Go.RowKit
set_option linter.unusedVariables false
theorem drew_at {P : Program} {f : FuncId} {args : Array Value} {w : World} {v : Value} {Q : Ending → World → Prop} (h : Calls P f args w fun e w' => e = .returned v ∧ ∃ k, w' = w.drewN k) (hq : ∀ k, Q (.returned v) (w.drewN k)) : Calls P f args w Q :=
  h.mono fun _ _ ⟨he, k, hw⟩ => by rw [he, hw]; exact hq k

theorem fill_quarter : tl (oFill 1 4) = 4598175219545276416 := by decide

set_option maxRecDepth 100000 in
theorem gaugeFills_walk (a b c d : Int) (w : World) : Calls Try.prog 4 #[.int .i64 a, .int .i64 b, .int .i64 c, .int .i64 d] w fun e w' => e = .returned (.bool true) ∧ ∃ k, w' = w.drewN k := by
  have h1 := fill_ok
  have h2 := rfill_ok
  have h3 := score_ok
  have h4 := rscore_ok
  have h5 := fun w => called24 4598175219545276416 w
  have h6 := fill_quarter
  go_enter Try.func4, Try.ntmps4
  go_wp2_with (first
    | (go_at_call 20; refine drew_at (h1 _ _ _) ?_; intro k)
    | (go_at_call 21; refine drew_at (h2 _ _ _) ?_; intro k)
    | (go_at_call 22; refine drew_at (h3 _ _ _ _ _) ?_; intro k)
    | (go_at_call 23; refine drew_at (h4 _ _ _ _ _) ?_; intro k))
  go_ret
  exact ⟨rfl, _, rfl⟩
end Go.Proofs.Ytllcpggdfdnjcab
