/- A cache that no call made. -/
import Derived.Test.YtliljdencaocaaaRepeat
namespace Go.Proofs.Ytliljdencaocaaa
open Go.RowKit Go.Maps
set_option linter.unusedVariables false

/-- v stands for a cache that no call made. -/
def CVoid (w : World) (v : Value) : Prop := v = .pointer none ∨ ∃ z, v = .pointer (some ⟨z, 0, none⟩) ∧ w.cell? ⟨z, 0, none⟩ = some (.pointer none)
theorem CVoid.kept {w w' : World} {v : Value} (h : CVoid w v) (hb : Below w.heap.size w w') : CVoid w' v := by
  rcases h with h | ⟨z, e, hc⟩
  · exact .inl h
  · exact .inr ⟨z, e, by rw [hb.cell (p := ⟨z, 0, none⟩) (lt_of_cell hc)]; exact hc⟩

section
variable {w : World} {v : Value}
set_option maxHeartbeats 400000 in
theorem cmade_void (h : CVoid w v) : Calls Try.prog 46 #[v] w fun e w' => e = .returned (.bool false) ∧ w' = w := by
  rcases h with rfl | ⟨z, rfl, hc⟩
  · go_enter Try.func46, Try.ntmps46
    go_wp2
    go_ret
    exact ⟨rfl, rfl⟩
  · go_enter Try.func46, Try.ntmps46
    go_wp2
    go_ret
    exact ⟨rfl, rfl⟩
set_option maxHeartbeats 400000 in
theorem crefusal_void (h : CVoid w v) (b : Int) : Calls Try.prog 51 #[v, .int .i64 b] w fun e w' => e = .returned (.int .i64 2) ∧ w' = w := by
  have hm := cmade_void h
  go_enter Try.func51, Try.ntmps51
  go_wp2_with (first | (go_at_call 46; refine same_at hm ?_))
  go_ret
  exact ⟨rfl, rfl⟩
set_option maxHeartbeats 400000 in
theorem cget_void (h : CVoid w v) (b : Int) : Calls Try.prog 15 #[v, .int .i64 b] w fun e w' => e = .returned (.tuple #[.slice none 0 0, .int .i64 2]) ∧ w' = w := by
  have hm := crefusal_void h b
  go_enter Try.func15, Try.ntmps15
  go_wp2_with (first | (go_at_call 51; refine same_at hm ?_))
  go_ret2
  exact ⟨rfl, rfl⟩
set_option maxHeartbeats 400000 in
theorem cput_void (h : CVoid w v) (b : Int) (s : Value) : Calls Try.prog 23 #[v, .int .i64 b, s] w fun e w' => e = .returned (.int .i64 2) ∧ w' = w := by
  have hm := crefusal_void h b
  go_enter Try.func23, Try.ntmps23
  go_wp2_with (first | (go_at_call 51; refine same_at hm ?_))
  go_ret
  exact ⟨rfl, rfl⟩
set_option maxHeartbeats 400000 in
theorem cdrop_void (h : CVoid w v) (b : Int) : Calls Try.prog 26 #[v, .int .i64 b] w fun e w' => e = .returned (.int .i64 2) ∧ w' = w := by
  have hm := crefusal_void h b
  go_enter Try.func26, Try.ntmps26
  go_wp2_with (first | (go_at_call 51; refine same_at hm ?_))
  go_ret
  exact ⟨rfl, rfl⟩
set_option maxHeartbeats 400000 in
theorem cunpin_void (h : CVoid w v) (b : Int) : Calls Try.prog 17 #[v, .int .i64 b] w fun e w' => e = .returned (.int .i64 2) ∧ w' = w := by
  have hm := crefusal_void h b
  go_enter Try.func17, Try.ntmps17
  go_wp2_with (first | (go_at_call 51; refine same_at hm ?_))
  go_ret
  exact ⟨rfl, rfl⟩
set_option maxHeartbeats 400000 in
theorem cpin_void (h : CVoid w v) (b : Int) : Calls Try.prog 16 #[v, .int .i64 b] w fun e w' => e = .returned (.int .i64 2) ∧ w' = w := by
  have hm := cget_void h b
  go_enter Try.func16, Try.ntmps16
  go_wp2_with (first | (go_at_call 15; refine same_at hm ?_))
  go_ret
  exact ⟨rfl, rfl⟩
set_option maxHeartbeats 400000 in
theorem chits_void (h : CVoid w v) : Calls Try.prog 13 #[v] w fun e w' => e = .returned (.tuple #[.int .i64 0, .int .i64 0]) ∧ w' = w := by
  have hm := cmade_void h
  go_enter Try.func13, Try.ntmps13
  go_wp2_with (first | (go_at_call 46; refine same_at hm ?_))
  go_ret2
  exact ⟨rfl, rfl⟩
set_option maxHeartbeats 400000 in
theorem cheld_void (h : CVoid w v) : Calls Try.prog 11 #[v] w fun e w' => e = .returned (.slice none 0 0) ∧ Below w.heap.size w w' := by
  have hb0 : Below w.heap.size w (w.alloc (.cells #[v] 23)) := (Below.refl _ w).alloc (Nat.le_refl _) _
  have hm := cmade_void (h.kept hb0)
  have bx := (Boxed.new w 23 v).cell
  rcases h with rfl | ⟨z, rfl, hc⟩
  all_goals
    go_enter Try.func11, Try.ntmps11
    go_wp2_with (first | (go_at_call 46; refine same_at hm ?_))
    go_ret
    exact ⟨rfl, hb0⟩
set_option maxHeartbeats 400000 in
/-- A cache over no disk: New tells that there is none. -/
theorem cnew_void (d : Value) (bd : Int) (hd : Calls Try.prog 21 #[d] w fun e w' => e = .returned (.int .i64 0) ∧ w' = w) : Calls Try.prog 27 #[d, .int .i64 bd] w fun e w' => e = .returned (.tuple #[.pointer none, .int .i64 2]) ∧ w' = w := by
  go_enter Try.func27, Try.ntmps27
  go_wp2_with (first | (go_at_call 21; refine same_at hd ?_))
  go_ret2
  exact ⟨rfl, rfl⟩
end
end Go.Proofs.Ytliljdencaocaaa
