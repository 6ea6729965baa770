/- How many bits a small number takes: the library's bits.Len answers. -/
import Derived.Test.YtliljdencaocaaaCollect
namespace Go.Proofs.Ytliljdencaocaaa
open Go.RowKit Go.Maps
set_option linter.unusedVariables false

set_option maxRecDepth 100000 in
set_option maxHeartbeats 1000000 in
theorem len64_small (n : Nat) (h : n ≤ 12) (w : World) : Calls Try.prog 90 #[.int .u64 (n : Int)] w fun e w' => (∃ k : Int, e = .returned (.int .i64 k)) ∧ w' = w := by
  rcases (by omega : n = 0 ∨ n = 1 ∨ n = 2 ∨ n = 3 ∨ n = 4 ∨ n = 5 ∨ n = 6 ∨ n = 7 ∨ n = 8 ∨ n = 9 ∨ n = 10 ∨ n = 11 ∨ n = 12) with rfl | rfl | rfl | rfl | rfl | rfl | rfl | rfl | rfl | rfl | rfl | rfl | rfl
  all_goals
    go_enter Try.func90, Try.ntmps90
    go_wp2
    go_ret
    exact ⟨⟨_, rfl⟩, rfl⟩

set_option maxHeartbeats 400000 in
theorem len_small (n : Nat) (h : n ≤ 12) (w : World) : Calls Try.prog 56 #[.int .u64 (n : Int)] w fun e w' => (∃ k : Int, e = .returned (.int .i64 k)) ∧ w' = w := by
  have hk := len64_small n h w
  go_enter Try.func56, Try.ntmps56
  go_wp2_with (first | (go_at_call 90; refine Calls.mono hk ?_; rintro e w' ⟨⟨k, rfl⟩, rfl⟩))
  go_ret
  exact ⟨⟨k, rfl⟩, rfl⟩
end Go.Proofs.Ytliljdencaocaaa
