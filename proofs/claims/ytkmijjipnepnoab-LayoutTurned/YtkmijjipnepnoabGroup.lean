/- Headers as bytes, by the program. -/
import Derived.Test.YtkmijjipnepnoabRDec
namespace Go.Proofs.Ytkmijjipnepnoab
open Go.RowKit
set_option linter.unusedVariables false

/-- A header's cells: its number, and 40 bytes. -/
def groupA (N : Int) (ys : List Int) : Array Value := (Value.int .i64 N :: ys.map (Value.int .u8)).toArray
abbrev groupV (N : Int) (ys : List Int) : Value := .agg (groupA N ys)
theorem groupA_size (N : Int) (ys : List Int) (h : ys.length = 40) : (groupA N ys).size = 41 := by simp [groupA, h]
theorem groupA_zero (N : Int) (ys : List Int) : (groupA N ys)[0]? = some (.int .i64 N) := by simp [groupA]
theorem groupA_succ (N : Int) (ys : List Int) (i : Nat) (h : i < ys.length) : (groupA N ys)[i + 1]? = some (.int .u8 (ys.getD i 0)) := by
  simp [groupA, List.getD_eq_getElem?_getD, List.getElem?_eq_getElem h]

def GMay (N : Int) : Prop := 0 ≤ N ∧ N ≤ 7
instance (N : Int) : Decidable (GMay N) := by unfold GMay; infer_instance
/-- A header's bytes. -/
def groupL (N : Int) (ys : List Int) : List Int := splice (splice (Num.putTo (splice (zers 128) 0 [104, 100]) 2 N 1) 4 (ys.take 8)) 12 (ys.drop 8)

theorem groupL_len (N : Int) (ys : List Int) (hl : ys.length = 40) : (groupL N ys).length = 128 := by
  unfold groupL
  have h1 : (Num.putTo (splice (zers 128) 0 [104, 100]) 2 N 1).length = 128 := by rw [Num.putTo_length, splice_len _ _ _ (by rw [zers_len]; decide), zers_len]
  have h2 : (splice (Num.putTo (splice (zers 128) 0 [104, 100]) 2 N 1) 4 (ys.take 8)).length = 128 := by rw [splice_len _ _ _ (by simp [h1]; omega), h1]
  rw [splice_len _ _ _ (by simp [h2]; omega), h2]
theorem groupL_byt (N : Int) (ys : List Int) (hy : Num.Byt ys) : Num.Byt (groupL N ys) :=
  splice_byt (splice_byt (Num.putTo_byt (splice_byt (zers_byt _) (Num.byt_of_wf (by decide)) 0) _ _ _) (byt_take hy _) 4) (byt_drop hy _) 12

theorem getD_append (a b : List Int) (i : Nat) : (a ++ b).getD i 0 = if i < a.length then a.getD i 0 else b.getD (i - a.length) 0 := by
  simp only [List.getD_eq_getElem?_getD]
  split
  · rename_i h; rw [List.getElem?_append_left h]
  · rename_i h; rw [List.getElem?_append_right (by omega)]
theorem zers_getD (n i : Nat) : (zers n).getD i 0 = 0 := by
  unfold zers
  rw [List.getD_eq_getElem?_getD, List.getElem?_replicate]
  split <;> rfl

/-- The same, piece behind piece. -/
theorem groupL_eq (N : Int) (ys : List Int) (hl : ys.length = 40) (h : GMay N) : groupL N ys = [104, 100, N, 0] ++ ys ++ zers 84 := by
  unfold GMay at h
  have h0 : (splice (zers 128) 0 [104, 100]).length = 128 := by rw [splice_len _ _ _ (by rw [zers_len]; decide), zers_len]
  have h1 : (Num.putTo (splice (zers 128) 0 [104, 100]) 2 N 1).length = 128 := by rw [Num.putTo_length, h0]
  have h8 : (ys.take 8).length = 8 := by simp; omega
  have h32 : (ys.drop 8).length = 32 := by simp; omega
  have h2 : (splice (Num.putTo (splice (zers 128) 0 [104, 100]) 2 N 1) 4 (ys.take 8)).length = 128 := by rw [splice_len _ _ _ (by omega), h1]
  apply ext_getD
  · rw [groupL_len N ys hl]; simp [zers_len]; omega
  intro i _
  unfold groupL
  rw [getD_splice _ _ _ (by omega), getD_splice _ _ _ (by omega), getD_append, getD_append, h8, h32]
  simp only [List.length_append, List.length_cons, List.length_nil, hl]
  by_cases c1 : i < 4
  · rw [if_pos (by omega), if_pos c1, if_pos (by omega), if_pos (by omega)]
    by_cases c2 : i = 2
    · subst c2
      have := Num.putTo_in (splice (zers 128) 0 [104, 100]) 2 N 1 (by omega) 0 (by omega)
      rw [Nat.add_zero] at this
      rw [this]
      simp
      omega
    · rw [Num.putTo_out _ _ _ _ _ (by omega), getD_splice _ _ _ (by rw [zers_len]; decide), if_neg (by omega), zers_getD]
      rcases (by omega : i = 0 ∨ i = 1 ∨ i = 3) with rfl | rfl | rfl <;> rfl
  · by_cases c2 : i < 12
    · rw [if_pos c2, if_neg c1, if_pos (by omega), if_pos (by omega), if_neg (by omega), getD_take _ _ _ (by omega)]
    · rw [if_neg c2]
      by_cases c3 : i < 44
      · rw [if_pos (by omega), if_pos (by omega), if_neg (by omega), getD_drop']
        congr 1
        omega
      · rw [if_neg (by omega), if_neg (by omega), if_neg (by omega), if_neg (by omega), zers_getD, Num.putTo_out _ _ _ _ _ (by omega), getD_splice _ _ _ (by rw [zers_len]; decide), if_neg (by omega), if_neg (by simp; omega), zers_getD]
end Go.Proofs.Ytkmijjipnepnoab
