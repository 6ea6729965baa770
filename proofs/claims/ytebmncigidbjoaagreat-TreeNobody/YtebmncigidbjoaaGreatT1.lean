/- A tree that no call made. -/
import Derived.Test.YtebmncigidbjoaaGreatChecked
import Derived.WalkKit
import Derived.WalkSpells
import Derived.WalkLawsBesides
import Derived.BigQuiet
import Derived.Deep.QuietTactic
namespace Go.Proofs.YtebmncigidbjoaaGreat
open Go.RowKit
set_option linter.unusedVariables false
set_option maxRecDepth 100000

theorem same_at {P : Program} {f : FuncId} {args : Array Value} {w : World} {v : Value} {Q : Ending → World → Prop} (h : Calls P f args w fun e w' => e = .returned v ∧ w' = w) (hq : Q (.returned v) w) : Calls P f args w Q :=
  h.mono (by rintro e w' ⟨rfl, rfl⟩; exact hq)

theorem mapIsNil {P : Program} {t k e : TypeId} (h : P.underlying t = some (.map k e)) (n : Nat) (p : Option Nat) (w : World) : (Op.equalIn (n + 1) t (.map p) (.map none)).run P w = .ok p.isNone w := by
  cases p <;> simp [Op.equalIn, run_underlying h]
theorem mapNeqNil {P : Program} {t k e : TypeId} (h : P.underlying t = some (.map k e)) (p : Option Nat) (w : World) : (binOp .neq t (.map p) (.map none)).run P w = .ok (.bool p.isSome) w := by
  have h1 := mapIsNil h 9999 p w
  have h2 : Op.equal t (.map p) (.map none) = Op.equalIn (9999 + 1) t (.map p) (.map none) := rfl
  simp only [binOp, h2]
  generalize Op.equalIn (9999 + 1) t (.map p) (.map none) = s at h1
  cases p <;> simp [h1]

/-- v stands for a tree that no call made. -/
def TVoid (w : World) (v : Value) : Prop := v = .pointer none ∨ ∃ z, v = .pointer (some ⟨z, 0, none⟩) ∧ w.cell? ⟨z, 0, none⟩ = some (.map none)

section
variable {w : World} {v : Value}
set_option maxHeartbeats 400000 in
theorem made_void (h : TVoid w v) : Calls Tryz.prog 30 #[v] w fun e w' => e = .returned (.bool false) ∧ w' = w := by
  rcases h with rfl | ⟨z, rfl, hc⟩
  · go_enter Tryz.func30, Tryz.ntmps30
    go_wp2
    go_ret
    exact ⟨rfl, rfl⟩
  · have hn := mapNeqNil Tryz.underlying51 none w
    go_enter Tryz.func30, Tryz.ntmps30
    go_wp2
    go_ret
    exact ⟨rfl, rfl⟩
set_option maxHeartbeats 400000 in
theorem paths_void (h : TVoid w v) : Calls Tryz.prog 16 #[v] w fun e w' => e = .returned (.slice none 0 0) ∧ w' = w := by
  have hm := made_void h
  go_enter Tryz.func16, Tryz.ntmps16
  go_wp2_with (first | (go_at_call 30; refine same_at hm ?_))
  go_ret
  exact ⟨rfl, rfl⟩
set_option maxHeartbeats 400000 in
theorem copy_void (h : TVoid w v) : Calls Tryz.prog 21 #[v] w fun e w' => e = .returned (.pointer none) ∧ w' = w := by
  have hm := made_void h
  go_enter Tryz.func21, Tryz.ntmps21
  go_wp2_with (first | (go_at_call 30; refine same_at hm ?_))
  go_ret
  exact ⟨rfl, rfl⟩
set_option maxHeartbeats 400000 in
theorem reopen_void (h : TVoid w v) : Calls Tryz.prog 22 #[v] w fun e w' => e = .returned (.tuple #[]) ∧ w' = w := by
  have hm := made_void h
  go_enter Tryz.func22, Tryz.ntmps22
  go_wp2_with (first | (go_at_call 30; refine same_at hm ?_))
  refine bodyPost_ret (results_none rfl _ _ _) rfl ?_
  exact ⟨rfl, rfl⟩
set_option maxHeartbeats 400000 in
theorem made_some (z m : Nat) (hc : w.cell? ⟨z, 0, none⟩ = some (.map (some m))) : Calls Tryz.prog 30 #[.pointer (some ⟨z, 0, none⟩)] w fun e w' => e = .returned (.bool true) ∧ w' = w := by
  have hn := mapNeqNil Tryz.underlying51 (some m) w
  go_enter Tryz.func30, Tryz.ntmps30
  go_wp2
  go_ret
  exact ⟨rfl, rfl⟩
set_option maxHeartbeats 400000 in
theorem same_void (h : TVoid w v) {u : Value} {k : Bool} (hu : Calls Tryz.prog 30 #[u] w fun e w' => e = .returned (.bool k) ∧ w' = w) : Calls Tryz.prog 19 #[v, u] w fun e w' => e = .returned (.bool !k) ∧ w' = w := by
  have hm := made_void h
  clear h
  go_enter Tryz.func19, Tryz.ntmps19
  go_wp2_with fail
  refine same_at hm ?_
  dsimp only
  go_wp2_with fail
  refine same_at hm ?_
  dsimp only
  go_wp2_with fail
  refine same_at hu ?_
  dsimp only
  go_wp2_with fail
  go_ret
  cases k <;> exact ⟨rfl, rfl⟩
end
end Go.Proofs.YtebmncigidbjoaaGreat
