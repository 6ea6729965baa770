/- A volume that no call made. -/
import Derived.Test.YtijbbkkapimljaaGreatNobody
namespace Go.Proofs.YtijbbkkapimljaaGreat
open Go.RowKit
set_option linter.unusedVariables false

/-- v stands for a volume that no call made. -/
def VVoid (w : World) (v : Value) : Prop := v = .pointer none ∨ ∃ z, v = .pointer (some ⟨z, 0, none⟩) ∧ w.cell? ⟨z, 2, none⟩ = some (.pointer none)

section
variable {w : World} {v : Value}
set_option maxHeartbeats 400000 in
theorem vmade_void (h : VVoid w v) : Calls Tryz.prog 27 #[v] w fun e w' => e = .returned (.bool false) ∧ w' = w := by
  rcases h with rfl | ⟨z, rfl, hc⟩
  · go_enter Tryz.func27, Tryz.ntmps27
    go_wp2
    go_ret
    exact ⟨rfl, rfl⟩
  · go_enter Tryz.func27, Tryz.ntmps27
    go_wp2
    go_ret
    exact ⟨rfl, rfl⟩
set_option maxHeartbeats 400000 in
theorem vread_void (h : VVoid w v) (b : Int) : Calls Tryz.prog 18 #[v, .int .i64 b] w fun e w' => e = .returned (.tuple #[.slice none 0 0, .int .i64 2]) ∧ w' = w := by
  have hm := vmade_void h
  go_enter Tryz.func18, Tryz.ntmps18
  go_wp2_with (first | (go_at_call 27; refine same_at hm ?_))
  go_ret2
  exact ⟨rfl, rfl⟩
set_option maxHeartbeats 400000 in
theorem vchange_void (h : VVoid w v) (b : Int) (s : Value) : Calls Tryz.prog 92 #[v, .int .i64 b, .int .i64 0, s, .slice none 0 0] w fun e w' => e = .returned (.tuple #[.int .i64 0, .int .i64 2]) ∧ w' = w := by
  have hm := vmade_void h
  go_enter Tryz.func92, Tryz.ntmps92
  go_wp2_with (first | (go_at_call 27; refine same_at hm ?_))
  go_ret2
  exact ⟨rfl, rfl⟩
set_option maxHeartbeats 400000 in
theorem vundo_void (h : VVoid w v) (b : Int) : Calls Tryz.prog 97 #[v, .int .i64 b] w fun e w' => e = .returned (.int .i64 2) ∧ w' = w := by
  have hm := vmade_void h
  go_enter Tryz.func97, Tryz.ntmps97
  go_wp2_with (first | (go_at_call 27; refine same_at hm ?_))
  go_ret
  exact ⟨rfl, rfl⟩
set_option maxHeartbeats 400000 in
theorem vlast_void (h : VVoid w v)  : Calls Tryz.prog 95 #[v] w fun e w' => e = .returned (.int .i64 0) ∧ w' = w := by
  have hm := vmade_void h
  go_enter Tryz.func95, Tryz.ntmps95
  go_wp2_with (first | (go_at_call 27; refine same_at hm ?_))
  go_ret
  exact ⟨rfl, rfl⟩
set_option maxHeartbeats 400000 in
theorem vblocks_void (h : VVoid w v)  : Calls Tryz.prog 17 #[v] w fun e w' => e = .returned (.int .i64 0) ∧ w' = w := by
  have hm := vmade_void h
  go_enter Tryz.func17, Tryz.ntmps17
  go_wp2_with (first | (go_at_call 27; refine same_at hm ?_))
  go_ret
  exact ⟨rfl, rfl⟩
end
end Go.Proofs.YtijbbkkapimljaaGreat
