/- A volume that no call made. -/
import Derived.Test.YtinigfidofgaiaaGreatNobody
namespace Go.Proofs.YtinigfidofgaiaaGreat
open Go.RowKit
set_option linter.unusedVariables false

/-- v stands for a volume that no call made. -/
def VVoid (w : World) (v : Value) : Prop := v = .pointer none ∨ ∃ z, v = .pointer (some ⟨z, 0, none⟩) ∧ w.cell? ⟨z, 2, none⟩ = some (.pointer none)

section
variable {w : World} {v : Value}
set_option maxHeartbeats 400000 in
theorem vmade_void (h : VVoid w v) : Calls Tryz.prog 38 #[v] w fun e w' => e = .returned (.bool false) ∧ w' = w := by
  rcases h with rfl | ⟨z, rfl, hc⟩
  · go_enter Tryz.func38, Tryz.ntmps38
    go_wp2
    go_ret
    exact ⟨rfl, rfl⟩
  · go_enter Tryz.func38, Tryz.ntmps38
    go_wp2
    go_ret
    exact ⟨rfl, rfl⟩
set_option maxHeartbeats 400000 in
theorem vread_void (h : VVoid w v) (b : Int) : Calls Tryz.prog 33 #[v, .int .i64 b] w fun e w' => e = .returned (.tuple #[.slice none 0 0, .int .i64 2]) ∧ w' = w := by
  have hm := vmade_void h
  go_enter Tryz.func33, Tryz.ntmps33
  go_wp2_with (first | (go_at_call 38; refine same_at hm ?_))
  go_ret2
  exact ⟨rfl, rfl⟩
set_option maxHeartbeats 400000 in
theorem vchange_void (h : VVoid w v) (b : Int) (s : Value) : Calls Tryz.prog 30 #[v, .int .i64 b, .int .i64 0, s, .slice none 0 0] w fun e w' => e = .returned (.tuple #[.int .i64 0, .int .i64 2]) ∧ w' = w := by
  have hm := vmade_void h
  go_enter Tryz.func30, Tryz.ntmps30
  go_wp2_with (first | (go_at_call 38; refine same_at hm ?_))
  go_ret2
  exact ⟨rfl, rfl⟩
set_option maxHeartbeats 400000 in
theorem vold_void (h : VVoid w v) (b : Int) : Calls Tryz.prog 24 #[v, .int .i64 b] w fun e w' => e = .returned (.tuple #[.slice none 0 0, .int .i64 2]) ∧ w' = w := by
  have hm := vmade_void h
  go_enter Tryz.func24, Tryz.ntmps24
  go_wp2_with (first | (go_at_call 38; refine same_at hm ?_))
  go_ret2
  exact ⟨rfl, rfl⟩
set_option maxHeartbeats 400000 in
theorem vundo_void (h : VVoid w v) (b : Int) : Calls Tryz.prog 23 #[v, .int .i64 b] w fun e w' => e = .returned (.int .i64 2) ∧ w' = w := by
  have hm := vmade_void h
  go_enter Tryz.func23, Tryz.ntmps23
  go_wp2_with (first | (go_at_call 38; refine same_at hm ?_))
  go_ret
  exact ⟨rfl, rfl⟩
set_option maxHeartbeats 400000 in
theorem vwrite_void (h : VVoid w v) (b : Int) : Calls Tryz.prog 12 #[v, .int .i64 b] w fun e w' => e = .returned (.int .i64 2) ∧ w' = w := by
  have hm := vmade_void h
  go_enter Tryz.func12, Tryz.ntmps12
  go_wp2_with (first | (go_at_call 38; refine same_at hm ?_))
  go_ret
  exact ⟨rfl, rfl⟩
set_option maxHeartbeats 400000 in
theorem vcomplete_void (h : VVoid w v) (b : Int) (k : Bool) : Calls Tryz.prog 15 #[v, .int .i64 b, .bool k] w fun e w' => e = .returned (.int .i64 2) ∧ w' = w := by
  have hm := vmade_void h
  go_enter Tryz.func15, Tryz.ntmps15
  go_wp2_with (first | (go_at_call 38; refine same_at hm ?_))
  go_ret
  exact ⟨rfl, rfl⟩
set_option maxHeartbeats 400000 in
theorem vsync_void (h : VVoid w v)  : Calls Tryz.prog 17 #[v, .slice none 0 0] w fun e w' => e = .returned (.int .i64 2) ∧ w' = w := by
  have hm := vmade_void h
  go_enter Tryz.func17, Tryz.ntmps17
  go_wp2_with (first | (go_at_call 38; refine same_at hm ?_))
  go_ret
  exact ⟨rfl, rfl⟩
set_option maxHeartbeats 400000 in
theorem vfreeze_void (h : VVoid w v) (b : Int) : Calls Tryz.prog 20 #[v, .int .i64 b] w fun e w' => e = .returned (.int .i64 2) ∧ w' = w := by
  have hm := vmade_void h
  go_enter Tryz.func20, Tryz.ntmps20
  go_wp2_with (first | (go_at_call 38; refine same_at hm ?_))
  go_ret
  exact ⟨rfl, rfl⟩
set_option maxHeartbeats 400000 in
theorem vthaw_void (h : VVoid w v)  : Calls Tryz.prog 34 #[v] w fun e w' => e = .returned (.int .i64 2) ∧ w' = w := by
  have hm := vmade_void h
  go_enter Tryz.func34, Tryz.ntmps34
  go_wp2_with (first | (go_at_call 38; refine same_at hm ?_))
  go_ret
  exact ⟨rfl, rfl⟩
set_option maxHeartbeats 400000 in
theorem visDone_void (h : VVoid w v) (b : Int) : Calls Tryz.prog 18 #[v, .int .i64 b] w fun e w' => e = .returned (.bool false) ∧ w' = w := by
  have hm := vmade_void h
  go_enter Tryz.func18, Tryz.ntmps18
  go_wp2_with (first | (go_at_call 38; refine same_at hm ?_))
  go_ret
  exact ⟨rfl, rfl⟩
set_option maxHeartbeats 400000 in
theorem vbroken_void (h : VVoid w v)  : Calls Tryz.prog 26 #[v] w fun e w' => e = .returned (.bool false) ∧ w' = w := by
  have hm := vmade_void h
  go_enter Tryz.func26, Tryz.ntmps26
  go_wp2_with (first | (go_at_call 38; refine same_at hm ?_))
  go_ret
  exact ⟨rfl, rfl⟩
set_option maxHeartbeats 400000 in
theorem vkept_void (h : VVoid w v)  : Calls Tryz.prog 27 #[v] w fun e w' => e = .returned (.int .i64 0) ∧ w' = w := by
  have hm := vmade_void h
  go_enter Tryz.func27, Tryz.ntmps27
  go_wp2_with (first | (go_at_call 38; refine same_at hm ?_))
  go_ret
  exact ⟨rfl, rfl⟩
set_option maxHeartbeats 400000 in
theorem vlast_void (h : VVoid w v)  : Calls Tryz.prog 16 #[v] w fun e w' => e = .returned (.int .i64 0) ∧ w' = w := by
  have hm := vmade_void h
  go_enter Tryz.func16, Tryz.ntmps16
  go_wp2_with (first | (go_at_call 38; refine same_at hm ?_))
  go_ret
  exact ⟨rfl, rfl⟩
set_option maxHeartbeats 400000 in
theorem vblocks_void (h : VVoid w v)  : Calls Tryz.prog 21 #[v] w fun e w' => e = .returned (.int .i64 0) ∧ w' = w := by
  have hm := vmade_void h
  go_enter Tryz.func21, Tryz.ntmps21
  go_wp2_with (first | (go_at_call 38; refine same_at hm ?_))
  go_ret
  exact ⟨rfl, rfl⟩
set_option maxHeartbeats 400000 in
theorem vdirty_void (h : VVoid w v)  : Calls Tryz.prog 10 #[v] w fun e w' => e = .returned (.slice none 0 0) ∧ w' = w := by
  have hm := vmade_void h
  go_enter Tryz.func10, Tryz.ntmps10
  go_wp2_with (first | (go_at_call 38; refine same_at hm ?_))
  go_ret
  exact ⟨rfl, rfl⟩
set_option maxHeartbeats 400000 in
theorem vpending_void (h : VVoid w v) (b : Int) : Calls Tryz.prog 35 #[v, .int .i64 b] w fun e w' => e = .returned (.slice none 0 0) ∧ w' = w := by
  have hm := vmade_void h
  go_enter Tryz.func35, Tryz.ntmps35
  go_wp2_with (first | (go_at_call 38; refine same_at hm ?_))
  go_ret
  exact ⟨rfl, rfl⟩
set_option maxHeartbeats 400000 in
theorem vready_void (h : VVoid w v)  : Calls Tryz.prog 11 #[v] w fun e w' => e = .returned (.slice none 0 0) ∧ w' = w := by
  have hm := vmade_void h
  go_enter Tryz.func11, Tryz.ntmps11
  go_wp2_with (first | (go_at_call 38; refine same_at hm ?_))
  go_ret
  exact ⟨rfl, rfl⟩
set_option maxHeartbeats 400000 in
theorem vway_void (h : VVoid w v)  : Calls Tryz.prog 14 #[v] w fun e w' => e = .returned (.slice none 0 0) ∧ w' = w := by
  have hm := vmade_void h
  go_enter Tryz.func14, Tryz.ntmps14
  go_wp2_with (first | (go_at_call 38; refine same_at hm ?_))
  go_ret
  exact ⟨rfl, rfl⟩
end
end Go.Proofs.YtinigfidofgaiaaGreat
