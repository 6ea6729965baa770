/- dirs: a path's parts, without memory. -/
import Derived.Test.YtfchclpglcogoaaG1
namespace Go.Proofs.Ytfchclpglcogoaa
open Go.RowKit
set_option linter.unusedVariables false

theorem ext_size (s : ByteArray) (a n : Nat) (h : n ≤ s.size) : (s.extract a n).size = n - a := by
  rw [ByteArray.size_extract, Nat.min_eq_left h]

theorem cutB_size {s : ByteArray} (h : cutC s = true) : (cutB s).size < s.size := by
  have h1 : ixS s ≠ -1 := by unfold cutC at h; exact of_decide_eq_true h
  obtain ⟨i, hi, hlt⟩ := ixS_lt h1
  unfold cutB
  rw [if_neg h1, ext_size _ _ _ (Nat.le_refl _), hi]
  omega
/-- The parts between slashes. -/
def cps (s : ByteArray) : List ByteArray := cutA s :: (if h : cutC s = true then cps (cutB s) else [])
termination_by s.size
decreasing_by exact cutB_size h
theorem cps_yes {s : ByteArray} (h : cutC s = true) : cps s = cutA s :: cps (cutB s) := by rw [cps, dif_pos h]
theorem cps_no {s : ByteArray} (h : cutC s = false) : cps s = [cutA s] := by rw [cps, dif_neg (by rw [h]; simp)]

/-- What Split tells. -/
def okP (s : ByteArray) : Prop := slB s = true ∧ (s.size = 1 ∨ ∀ x ∈ cps (s.extract 1 s.size), Nm x)
instance (s : ByteArray) : Decidable (okP s) := by unfold okP; infer_instance
def pts (s : ByteArray) : List ByteArray := if s.size = 1 then [] else cps (s.extract 1 s.size)
def spE (s : ByteArray) : Int := if okP s then (if (pts s).length ≤ 32 then 0 else 219) else 7
def spL (s : ByteArray) : List ByteArray := if okP s ∧ (pts s).length ≤ 32 then pts s else []
/-- Texts in a row, and an error. -/
def PS2 (w : World) (s : ByteArray) (e : Ending) (w' : World) : Prop := ∃ q d, e = .returned (.tuple #[.slice q (spL s).length d, .int .i64 (spE s)]) ∧ SI w' q (spL s).length (spL s) ∧ Below w.heap.size w w' ∧ (spL s).length ≤ d ∧ d ≤ 9223372036854775807
theorem si_nil (w : World) : SI w none 0 [] := ⟨rfl, by omega, fun h => by omega⟩
theorem ps_bad {w w' : World} {s : ByteArray} (h : ¬ okP s) (hb : Below w.heap.size w w') : PS2 w s (.returned (.tuple #[.slice none 0 0, .int .i64 7])) w' := by
  have h1 : spL s = [] := by unfold spL; rw [if_neg (fun x => h x.1)]
  have h2 : spE s = 7 := by unfold spE; rw [if_neg h]
  refine ⟨none, 0, ?_, ?_, hb, ?_, by omega⟩
  · rw [h1, h2]; rfl
  · rw [h1]; exact si_nil _
  · rw [h1]; simp
theorem ps_root {w w' : World} {s : ByteArray} (h : slB s = true) (h1 : s.size = 1) (hb : Below w.heap.size w w') : PS2 w s (.returned (.tuple #[.slice none 0 0, .int .i64 0])) w' := by
  have hp : pts s = [] := by unfold pts; rw [if_pos h1]
  have hk : okP s := ⟨h, .inl h1⟩
  have e1 : spL s = [] := by unfold spL; rw [hp]; simp
  have e2 : spE s = 0 := by unfold spE; rw [if_pos hk, hp]; rfl
  refine ⟨none, 0, ?_, ?_, hb, ?_, by omega⟩
  · rw [e1, e2]; rfl
  · rw [e1]; exact si_nil _
  · rw [e1]; simp
theorem ps_long {w w' : World} {s : ByteArray} (h : okP s) (h1 : 32 < (pts s).length) (hb : Below w.heap.size w w') : PS2 w s (.returned (.tuple #[.slice none 0 0, .int .i64 219])) w' := by
  have e1 : spL s = [] := by unfold spL; rw [if_neg (by omega)]
  have e2 : spE s = 219 := by unfold spE; rw [if_pos h, if_neg (by omega)]
  refine ⟨none, 0, ?_, ?_, hb, ?_, by omega⟩
  · rw [e1, e2]; rfl
  · rw [e1]; exact si_nil _
  · rw [e1]; simp
theorem ps_good {w w' : World} {s : ByteArray} {q : Option Addr} {d : Nat} (h : okP s) (h1 : (pts s).length ≤ 32) (hS : SI w' q (pts s).length (pts s)) (hd : (pts s).length ≤ d ∧ d ≤ 9223372036854775807) (hb : Below w.heap.size w w') : PS2 w s (.returned (.tuple #[.slice q (pts s).length d, .int .i64 0])) w' := by
  have e1 : spL s = pts s := by unfold spL; rw [if_pos ⟨h, h1⟩]
  have e2 : spE s = 0 := by unfold spE; rw [if_pos h, if_pos h1]
  exact ⟨q, d, by rw [e1, e2], by rw [e1]; exact hS, hb, by rw [e1]; exact hd.1, hd.2⟩
end Go.Proofs.Ytfchclpglcogoaa
