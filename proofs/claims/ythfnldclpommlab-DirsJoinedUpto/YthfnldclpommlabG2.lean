/- dirs: a path's parts, without memory. -/
import Derived.Test.YthfnldclpommlabG1
namespace Go.Proofs.Ythfnldclpommlab
open Go.RowKit
set_option linter.unusedVariables false

theorem ext_list (s : ByteArray) (a n : Nat) : (s.extract a n).data.toList = (s.data.toList.drop a).take (n - a) := by
  rw [ByteArray.data_extract, Array.toList_extract]
theorem ext_at (s : ByteArray) (a : Nat) (k : Nat) : (s.extract a s.size).data.toList[k]? = s.data.toList[a + k]? := by
  rw [ext_list, List.getElem?_take]
  split
  · rw [List.getElem?_drop]
  · rw [List.getElem?_eq_none]
    rw [Array.length_toList]
    show s.size ≤ _
    omega
theorem ext_ext (s : ByteArray) (a b c : Nat) (h : a + c ≤ s.size) : (s.extract a s.size).extract b c = s.extract (a + b) (a + c) := by
  apply ByteArray.ext
  rw [ByteArray.data_extract, ByteArray.data_extract, ByteArray.data_extract, Array.extract_extract]
  rw [Nat.min_eq_left h]
theorem ext_size (s : ByteArray) (a n : Nat) (h : n ≤ s.size) : (s.extract a n).size = n - a := by
  rw [ByteArray.size_extract, Nat.min_eq_left h]

theorem ix_none {s : ByteArray} (h : ∀ k : Nat, s.data.toList[k]? ≠ some 47) : ixS s = -1 := by
  by_cases h1 : ixS s = -1
  · exact h1
  · obtain ⟨i, hi, _⟩ := ixS_lt h1
    exact absurd (Lib.indexByte_some (l := s.data.toList) (c := 47) (o := i) hi).1 (h i)
theorem ix_some {s : ByteArray} {o : Nat} (h : s.data.toList[o]? = some 47) (hno : ∀ k, k < o → s.data.toList[k]? ≠ some 47) : ixS s = (o : Int) := by
  by_cases h1 : ixS s = -1
  · exact absurd h (Lib.indexByte_none h1 o)
  · obtain ⟨i, hi, _⟩ := ixS_lt h1
    obtain ⟨h2, h3⟩ := Lib.indexByte_some (l := s.data.toList) (c := 47) (o := i) hi
    rcases Nat.lt_trichotomy i o with h4 | h4 | h4
    · exact absurd h2 (hno i h4)
    · rw [hi, h4]
    · exact absurd h (h3 o h4)

theorem cutB_size {s : ByteArray} (h : cutC s = true) : (cutB s).size < s.size := by
  have h1 : ixS s ≠ -1 := by unfold cutC at h; exact of_decide_eq_true h
  obtain ⟨i, hi, hlt⟩ := ixS_lt h1
  unfold cutB
  rw [if_neg h1, ext_size _ _ _ (Nat.le_refl _), hi]
  omega
/-- The parts between slashes. -/
def cps (s : ByteArray) : List ByteArray := cutA s :: (if h : cutC s = true then cps (cutB s) else [])
termination_by s.size
decreasing_by exact cutB_size h
theorem cps_yes {s : ByteArray} (h : cutC s = true) : cps s = cutA s :: cps (cutB s) := by rw [cps, dif_pos h]
theorem cps_no {s : ByteArray} (h : cutC s = false) : cps s = [cutA s] := by rw [cps, dif_neg (by rw [h]; simp)]

theorem part_end {s : ByteArray} {a : Nat} (ha : a ≤ s.size) (hno : ∀ k : Nat, a ≤ k → s.data.toList[k]? ≠ some 47) : cps (s.extract a s.size) = [s.extract a s.size] := by
  have h1 : ixS (s.extract a s.size) = -1 := ix_none (fun k => by rw [ext_at]; exact hno _ (by omega))
  have h2 : cutC (s.extract a s.size) = false := by unfold cutC; rw [h1]; rfl
  rw [cps_no h2]
  unfold cutA
  rw [if_pos h1]
theorem part_next {s : ByteArray} {a i : Nat} (ha : a ≤ i) (hi : i < s.size) (h47 : s.data.toList[i]? = some 47) (hno : ∀ k, a ≤ k → k < i → s.data.toList[k]? ≠ some 47) :
    cps (s.extract a s.size) = s.extract a i :: cps (s.extract (i + 1) s.size) := by
  have h1 : ixS (s.extract a s.size) = ((i - a : Nat) : Int) := ix_some (by rw [ext_at, show a + (i - a) = i by omega]; exact h47) (fun k hk => by rw [ext_at]; exact hno _ (by omega) (by omega))
  have hne : ixS (s.extract a s.size) ≠ -1 := by rw [h1]; omega
  have h2 : cutC (s.extract a s.size) = true := by unfold cutC; exact decide_eq_true hne
  rw [cps_yes h2]
  unfold cutA cutB
  rw [if_neg hne, if_neg hne, h1, Int.toNat_natCast, ext_ext _ _ _ _ (by omega), ext_size _ _ _ (Nat.le_refl _), ext_ext _ _ _ _ (by omega)]
  rw [show a + 0 = a by omega, show a + (i - a) = i by omega, show a + (i - a + 1) = i + 1 by omega, show a + (s.size - a) = s.size by omega]
theorem cps_len (s : ByteArray) : (cps s).length ≤ s.size + 1 := by
  generalize hn : s.size = n
  induction n using Nat.strongRecOn generalizing s with
  | ind n ih =>
    cases h : cutC s with
    | false => rw [cps_no h]; simp
    | true =>
      have h1 := cutB_size h
      have := ih _ (by omega) (cutB s) rfl
      rw [cps_yes h, List.length_cons]
      omega

/-- What Split tells. -/
def okP (s : ByteArray) : Prop := slB s = true ∧ (s.size = 1 ∨ ∀ x ∈ cps (s.extract 1 s.size), Nm x)
instance (s : ByteArray) : Decidable (okP s) := by unfold okP; infer_instance
def pts (s : ByteArray) : List ByteArray := if s.size = 1 then [] else cps (s.extract 1 s.size)
def spE (s : ByteArray) : Int := if okP s then (if (pts s).length ≤ 32 then 0 else 219) else 7
def spL (s : ByteArray) : List ByteArray := if okP s ∧ (pts s).length ≤ 32 then pts s else []
/-- Texts in a row, and an error. -/
def PS2 (w : World) (s : ByteArray) (e : Ending) (w' : World) : Prop := ∃ q d, e = .returned (.tuple #[.slice q (spL s).length d, .int .i64 (spE s)]) ∧ SI w' q (spL s).length (spL s) ∧ Below w.heap.size w w' ∧ (spL s).length ≤ d ∧ d ≤ 9223372036854775807
theorem si_nil (w : World) : SI w none 0 [] := ⟨rfl, by omega, fun h => by omega⟩
theorem ps_bad {w w' : World} {s : ByteArray} (h : ¬ okP s) (hb : Below w.heap.size w w') : PS2 w s (.returned (.tuple #[.slice none 0 0, .int .i64 7])) w' := by
  have h1 : spL s = [] := by unfold spL; rw [if_neg (fun x => h x.1)]
  have h2 : spE s = 7 := by unfold spE; rw [if_neg h]
  refine ⟨none, 0, ?_, ?_, hb, ?_, by omega⟩
  · rw [h1, h2]; rfl
  · rw [h1]; exact si_nil _
  · rw [h1]; simp
theorem ps_root {w w' : World} {s : ByteArray} (h : slB s = true) (h1 : s.size = 1) (hb : Below w.heap.size w w') : PS2 w s (.returned (.tuple #[.slice none 0 0, .int .i64 0])) w' := by
  have hp : pts s = [] := by unfold pts; rw [if_pos h1]
  have hk : okP s := ⟨h, .inl h1⟩
  have e1 : spL s = [] := by unfold spL; rw [hp]; simp
  have e2 : spE s = 0 := by unfold spE; rw [if_pos hk, hp]; rfl
  refine ⟨none, 0, ?_, ?_, hb, ?_, by omega⟩
  · rw [e1, e2]; rfl
  · rw [e1]; exact si_nil _
  · rw [e1]; simp
theorem ps_long {w w' : World} {s : ByteArray} (h : okP s) (h1 : 32 < (pts s).length) (hb : Below w.heap.size w w') : PS2 w s (.returned (.tuple #[.slice none 0 0, .int .i64 219])) w' := by
  have e1 : spL s = [] := by unfold spL; rw [if_neg (by omega)]
  have e2 : spE s = 219 := by unfold spE; rw [if_pos h, if_neg (by omega)]
  refine ⟨none, 0, ?_, ?_, hb, ?_, by omega⟩
  · rw [e1, e2]; rfl
  · rw [e1]; exact si_nil _
  · rw [e1]; simp
theorem ps_good {w w' : World} {s : ByteArray} {q : Option Addr} {d : Nat} (h : okP s) (h1 : (pts s).length ≤ 32) (hS : SI w' q (pts s).length (pts s)) (hd : (pts s).length ≤ d ∧ d ≤ 9223372036854775807) (hb : Below w.heap.size w w') : PS2 w s (.returned (.tuple #[.slice q (pts s).length d, .int .i64 0])) w' := by
  have e1 : spL s = pts s := by unfold spL; rw [if_pos ⟨h, h1⟩]
  have e2 : spE s = 0 := by unfold spE; rw [if_pos h, if_pos h1]
  exact ⟨q, d, by rw [e1, e2], by rw [e1]; exact hS, hb, by rw [e1]; exact hd.1, hd.2⟩
end Go.Proofs.Ythfnldclpommlab
