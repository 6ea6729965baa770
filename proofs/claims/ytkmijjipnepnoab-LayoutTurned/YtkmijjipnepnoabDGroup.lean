/- Headers out of bytes, by the program. -/
import Derived.Test.YtkmijjipnepnoabRGroup
namespace Go.Proofs.Ytkmijjipnepnoab
open Go.RowKit
set_option linter.unusedVariables false

theorem zero38 : groupA 0 (zers 40) = #[.int .i64 0, .int .u8 0, .int .u8 0, .int .u8 0, .int .u8 0, .int .u8 0, .int .u8 0, .int .u8 0, .int .u8 0, .int .u8 0, .int .u8 0, .int .u8 0, .int .u8 0, .int .u8 0, .int .u8 0, .int .u8 0, .int .u8 0, .int .u8 0, .int .u8 0, .int .u8 0, .int .u8 0, .int .u8 0, .int .u8 0, .int .u8 0, .int .u8 0, .int .u8 0, .int .u8 0, .int .u8 0, .int .u8 0, .int .u8 0, .int .u8 0, .int .u8 0, .int .u8 0, .int .u8 0, .int .u8 0, .int .u8 0, .int .u8 0, .int .u8 0, .int .u8 0, .int .u8 0, .int .u8 0] := rfl

theorem group_one (N : Int) (ys : List Int) : (groupA N ys).all (·.oneCell') = true := by
  simp [groupA, Value.oneCell']

theorem byteCells_nums {zs : List Int} (h : Num.Byt zs) : Lib.byteCells (strOfNums zs).data.toList = zs.map (Value.int .u8) := by
  rw [strOfNums_data]
  unfold Lib.byteCells
  rw [List.map_map]
  apply List.map_congr_left
  intro x hx
  have := byt_mem h x hx
  simp
  omega

/-- The cells of a header with some of its bytes turned. -/
theorem groupA_splice (N : Int) (ys zs : List Int) (i : Nat) (hf : i + zs.length ≤ ys.length) : (((groupA N ys).toList.take (i + 1)) ++ zs.map (Value.int .u8) ++ (groupA N ys).toList.drop (i + 1 + zs.length)).toArray = groupA N (splice ys i zs) := by
  unfold groupA splice
  rw [show i + 1 + zs.length = (i + zs.length) + 1 by omega]
  simp [List.map_take, List.map_drop]

theorem groupA_set (N M : Int) (ys : List Int) : (groupA N ys).setIfInBounds 0 (.int .i64 M) = groupA M ys := by
  simp [groupA]

theorem read_bytes (xs : List Int) (hl : xs.length = 128) : splice (splice (zers 40) 0 ((xs.drop 4).take 8)) 8 ((xs.drop 12).take 32) = (xs.drop 4).take 40 := by
  have h8 : ((xs.drop 4).take 8).length = 8 := by simp; omega
  have h32 : ((xs.drop 12).take 32).length = 32 := by simp; omega
  have h1 : (splice (zers 40) 0 ((xs.drop 4).take 8)).length = 40 := by rw [splice_len _ _ _ (by rw [h8, zers_len]; decide), zers_len]
  apply ext_getD
  · rw [splice_len _ _ _ (by omega), h1]; simp; omega
  intro i hi
  rw [splice_len _ _ _ (by omega), h1] at hi
  rw [getD_splice _ _ _ (by omega), getD_splice _ _ _ (by rw [h8, zers_len]; decide), h8, h32, getD_take _ 40 _ hi, getD_drop']
  by_cases c : i < 8
  · rw [if_pos c, if_neg (by omega), if_pos (by omega), getD_take _ _ _ (by omega), getD_drop']
    congr 1
  · rw [if_neg c, if_pos (by omega), getD_take _ _ _ (by omega), getD_drop']
    congr 1
    omega

end Go.Proofs.Ytkmijjipnepnoab
