/- A file's bytes, without memory. -/
import Derived.Test.YtfchclpglcogoaaT4
namespace Go.Proofs.Ytfchclpglcogoaa
open Go.RowKit Go.Maps
set_option linter.unusedVariables false
set_option maxRecDepth 100000

def zz : List Int := List.replicate 128 0
/-- A piece of a file's bytes. -/
def pcL (xs : List Int) (a : Nat) : List Int := (List.range 128).map (fun i => xs.getD (a * 128 + i) 0)
theorem pcL_len (xs : List Int) (a : Nat) : (pcL xs a).length = 128 := by simp [pcL]
theorem pcL_at (xs : List Int) (a i : Nat) (hi : i < 128) : (pcL xs a).getD i 0 = xs.getD (a * 128 + i) 0 := by
  unfold pcL
  rw [List.getD_eq_getElem?_getD, List.getElem?_map, List.getElem?_range hi]
  rfl
theorem ext128 {l m : List Int} (hl : l.length = 128) (hm : m.length = 128) (h : ∀ i, i < 128 → l.getD i 0 = m.getD i 0) : l = m := by
  apply List.ext_getElem (by omega)
  intro i h1 h2
  have := h i (by omega)
  rw [List.getD_eq_getElem?_getD, List.getD_eq_getElem?_getD, List.getElem?_eq_getElem h1, List.getElem?_eq_getElem h2] at this
  exact this
/-- Bytes written into a file. -/
def wrt (xs : List Int) (off : Nat) (b : List Int) : List Int := if b = [] then xs else (List.range (max xs.length (off + b.length))).map (fun i => if off ≤ i ∧ i < off + b.length then b.getD (i - off) 0 else xs.getD i 0)
theorem getD_past {xs : List Int} {i : Nat} (h : xs.length ≤ i) : xs.getD i 0 = 0 := by rw [List.getD_eq_getElem?_getD, List.getElem?_eq_none h]; rfl
theorem wrt_at (xs : List Int) (off : Nat) (b : List Int) (i : Nat) : (wrt xs off b).getD i 0 = if off ≤ i ∧ i < off + b.length then b.getD (i - off) 0 else xs.getD i 0 := by
  unfold wrt
  by_cases hb : b = []
  · rw [if_pos hb, if_neg (by rw [hb]; simp only [List.length_nil]; omega)]
  · rw [if_neg hb]
    by_cases hi : i < max xs.length (off + b.length)
    · rw [List.getD_eq_getElem?_getD, List.getElem?_map, List.getElem?_range hi]; rfl
    · rw [getD_past (by simp; omega), if_neg (by omega), getD_past (by omega)]
theorem wrt_len (xs : List Int) (off : Nat) (b : List Int) : (wrt xs off b).length = if b = [] then xs.length else max xs.length (off + b.length) := by
  unfold wrt
  split <;> simp
theorem wrt_nil (xs : List Int) (off : Nat) : wrt xs off [] = xs := by unfold wrt; simp
/-- Bytes laid into a row. -/
def spl (p : List Int) (r : Nat) (ys : List Int) : List Int := p.take r ++ ys ++ p.drop (r + ys.length)
theorem spl_len {p : List Int} {r : Nat} {ys : List Int} (h : r + ys.length ≤ p.length) : (spl p r ys).length = p.length := by unfold spl; simp; omega
theorem spl_at {p : List Int} {r : Nat} {ys : List Int} (h : r + ys.length ≤ p.length) (i : Nat) : (spl p r ys).getD i 0 = if r ≤ i ∧ i < r + ys.length then ys.getD (i - r) 0 else p.getD i 0 := by
  unfold spl
  rw [List.getD_eq_getElem?_getD]
  by_cases h1 : i < r
  · rw [if_neg (by omega), List.append_assoc, List.getElem?_append_left (by simp; omega), List.getElem?_take_of_lt h1, ← List.getD_eq_getElem?_getD]
  · by_cases h2 : i < r + ys.length
    · rw [if_pos (by omega), List.append_assoc, List.getElem?_append_right (by simp; omega), List.getElem?_append_left (by simp; omega), ← List.getD_eq_getElem?_getD]
      congr 1
      simp; omega
    · rw [if_neg (by omega), List.getElem?_append_right (by simp; omega), List.getElem?_drop, ← List.getD_eq_getElem?_getD]
      congr 1
      simp; omega
theorem take_at (b : List Int) (n i : Nat) : (b.take n).getD i 0 = if i < n then b.getD i 0 else 0 := by
  rw [List.getD_eq_getElem?_getD, List.getElem?_take]
  split
  · rw [← List.getD_eq_getElem?_getD]
  · rfl
theorem part_at (b : List Int) (d k i : Nat) (hi : i < k) : ((b.drop d).take k).getD i 0 = b.getD (d + i) 0 := by
  rw [take_at, if_pos hi, List.getD_eq_getElem?_getD, List.getElem?_drop, ← List.getD_eq_getElem?_getD]

theorem step_same {xs b : List Int} {off d a r k : Nat} (hd : d + k ≤ b.length) (hk : r + k ≤ 128) (he : off + d = a * 128 + r) : pcL (wrt xs off (b.take (d + k))) a = spl (pcL (wrt xs off (b.take d)) a) r ((b.drop d).take k) := by
  have hyl : ((b.drop d).take k).length = k := by simp; omega
  have hpl := pcL_len (wrt xs off (b.take d)) a
  have hsl : (spl (pcL (wrt xs off (b.take d)) a) r ((b.drop d).take k)).length = 128 := by rw [spl_len (by rw [hyl, hpl]; omega), hpl]
  refine ext128 (pcL_len _ _) hsl (fun i hi => ?_)
  rw [pcL_at _ _ _ hi, wrt_at, spl_at (by rw [hyl, hpl]; omega), hyl, pcL_at _ _ _ hi, wrt_at]
  have hl1 : (b.take (d + k)).length = d + k := by simp; omega
  have hl2 : (b.take d).length = d := by simp; omega
  rw [hl1, hl2, take_at b (d + k), take_at b d]
  by_cases h1 : r ≤ i ∧ i < r + k
  · rw [if_pos (by omega), if_pos (by omega), if_pos h1, part_at _ _ _ _ (by omega)]
    congr 1
    omega
  · rw [if_neg h1]
    by_cases h2 : off ≤ a * 128 + i ∧ a * 128 + i < off + d
    · rw [if_pos (by omega), if_pos (by omega), if_pos h2, if_pos (by omega)]
    · rw [if_neg (by omega), if_neg h2]
theorem step_other {xs b : List Int} {off d a r k a' : Nat} (hd : d + k ≤ b.length) (hk : r + k ≤ 128) (he : off + d = a * 128 + r) (hne : a' ≠ a) : pcL (wrt xs off (b.take (d + k))) a' = pcL (wrt xs off (b.take d)) a' := by
  refine ext128 (pcL_len _ _) (pcL_len _ _) (fun i hi => ?_)
  rw [pcL_at _ _ _ hi, wrt_at, pcL_at _ _ _ hi, wrt_at]
  have hl1 : (b.take (d + k)).length = d + k := by simp; omega
  have hl2 : (b.take d).length = d := by simp; omega
  have hout : ¬ (a * 128 + r ≤ a' * 128 + i ∧ a' * 128 + i < a * 128 + r + k) := by
    rcases Nat.lt_or_gt_of_ne hne with h | h
    · intro hh; omega
    · intro hh; omega
  rw [hl1, hl2, take_at b (d + k), take_at b d]
  by_cases h2 : off ≤ a' * 128 + i ∧ a' * 128 + i < off + d
  · rw [if_pos (by omega), if_pos (by omega), if_pos h2, if_pos (by omega)]
  · rw [if_neg (by omega), if_neg h2]
theorem step_len {xs b : List Int} {off d k : Nat} (hd : d + k ≤ b.length) (hk : 1 ≤ k) : (wrt xs off (b.take (d + k))).length = max (wrt xs off (b.take d)).length (off + d + k) := by
  rw [wrt_len, wrt_len]
  have hl1 : (b.take (d + k)).length = d + k := by simp; omega
  have hl2 : (b.take d).length = d := by simp; omega
  have hn : b.take (d + k) ≠ [] := fun e => by rw [e] at hl1; simp at hl1; omega
  rw [if_neg hn, hl1]
  split
  · rename_i h
    rw [h] at hl2
    simp at hl2
    omega
  · rw [hl2]; omega
/-- What is read piece by piece. -/
theorem read_piece {xs : List Int} {d a r k : Nat} (hk : r + k ≤ 128) (he : d = a * 128 + r) (hl : d + k ≤ xs.length) : ((pcL xs a).drop r).take k = (xs.drop d).take k := by
  apply List.ext_getElem
  · simp [pcL_len]; omega
  · intro i h1 h2
    have hik : i < k := by simp at h1; omega
    have e1 := part_at (pcL xs a) r k i hik
    have e2 := part_at xs d k i hik
    rw [pcL_at _ _ _ (by omega)] at e1
    rw [List.getD_eq_getElem?_getD, List.getElem?_eq_getElem h1] at e1
    rw [List.getD_eq_getElem?_getD, List.getElem?_eq_getElem h2] at e2
    simp only [Option.getD_some] at e1 e2
    rw [e1, e2]
    congr 1
    omega
end Go.Proofs.Ytfchclpglcogoaa
