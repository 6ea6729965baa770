/- What is read of what was written. -/
import Derived.Test.YtkmijjipnepnoaaRDEnt
import Derived.Test.YtkmijjipnepnoaaGroupsW
import Derived.Test.YtkmijjipnepnoaaSealed
import Derived.Test.YtkmijjipnepnoaaFan
namespace Go.Proofs.Ytkmijjipnepnoaa
open Go.RowKit
set_option linter.unusedVariables false

/-- A number that lies apart from what was put. -/
theorem num_out (xs : List Int) (b m : Nat) (v : Int) (a k : Nat) (h : a + k ≤ b ∨ b + m ≤ a) : Num.numD (Num.putTo xs b v m) a k = Num.numD xs a k :=
  Num.numD_congr k a fun i hi => Num.putTo_out xs b v m (a + i) (by omega)
theorem num_outs (xs : List Int) (b m : Nat) (zs : List Int) (n : Nat) (a k : Nat) (h : a + k ≤ b ∨ b + m * n ≤ a) : Num.numD (putsTo xs b m zs n) a k = Num.numD xs a k := by
  induction n with
  | zero => rfl
  | succ n ih =>
    rw [Nat.mul_succ] at h
    rw [putsTo, num_out _ _ _ _ _ _ (by omega), ih (by omega)]
theorem num_ins (xs : List Int) (b m : Nat) (zs : List Int) (n j : Nat) (hj : j < n) (hl : b + m * n ≤ xs.length) (h0 : 0 ≤ zs.getD j 0) (h1 : zs.getD j 0 < 256 ^ m) : Num.numD (putsTo xs b m zs n) (b + m * j) m = zs.getD j 0 := by
  induction n with
  | zero => omega
  | succ n ih =>
    rw [Nat.mul_succ] at hl
    rw [putsTo]
    by_cases e : j = n
    · subst e
      exact Num.num_put _ _ _ _ (by rw [putsTo_len]; omega) h0 h1
    · have : m * (j + 1) ≤ m * n := Nat.mul_le_mul_left m (by omega)
      rw [Nat.mul_succ] at this
      rw [num_out _ _ _ _ _ _ (by omega), ih (by omega) (by omega)]
theorem put_takes (xs : List Int) (a k m : Nat) (v : Int) (h : m ≤ a) : (Num.putTo xs a v k).take m = xs.take m := by
  have := congrArg (List.take m) (put_take xs a k v)
  rwa [List.take_take, List.take_take, Nat.min_eq_left h] at this

/-- A superblock is read as it was written. -/
theorem super_back {G B I M : Int} (h : SMay G B I M) : decE 128 (superS G B I M) = 0 ∧ decV 128 (superS G B I M) = superV G B I M := by
  have hl0 := splice_len128
  obtain ⟨⟨g1, g2, b1, b2, i1, i2, _, _⟩, m1, m2⟩ := id h
  have hsl : (superL G B I M).length = 128 := by unfold superL; simp only [Num.putTo_length]; exact hl0
  have e : superS G B I M = Num.putTo (superL G B I M) 124 (Num.sum (superL G B I M) 124) 4 := by unfold superS sealL; rw [hsl]
  have hG : rG (superS G B I M) = G := by
    unfold rG
    rw [e, num_out _ _ _ _ _ _ (by omega)]
    unfold superL
    rw [num_out _ _ _ _ _ _ (by omega), num_out _ _ _ _ _ _ (by omega), num_out _ _ _ _ _ _ (by omega)]
    exact Num.num_put _ _ _ _ (by omega) (by omega) (by omega)
  have hB : rB (superS G B I M) = B := by
    unfold rB
    rw [e, num_out _ _ _ _ _ _ (by omega)]
    unfold superL
    rw [num_out _ _ _ _ _ _ (by omega), num_out _ _ _ _ _ _ (by omega), Num.num_put _ _ _ _ (by rw [Num.putTo_length]; omega) (by omega) (by omega)]
    omega
  have hI : rI (superS G B I M) = I := by
    unfold rI
    rw [e, num_out _ _ _ _ _ _ (by omega)]
    unfold superL
    rw [num_out _ _ _ _ _ _ (by omega), Num.num_put _ _ _ _ (by simp only [Num.putTo_length]; omega) (by omega) (by omega)]
  have hM : rM (superS G B I M) = M := by
    unfold rM
    rw [e, num_out _ _ _ _ _ _ (by omega)]
    unfold superL
    rw [Num.num_put _ _ _ _ (by simp only [Num.putTo_length]; omega) (by omega) (by omega)]
  have ht : (superS G B I M).take 4 = [98, 111, 108, 108] := by
    rw [e, put_takes _ _ _ _ _ (by omega)]
    unfold superL
    rw [put_takes _ _ _ _ _ (by omega), put_takes _ _ _ _ _ (by omega), put_takes _ _ _ _ _ (by omega), put_takes _ _ _ _ _ (by omega)]
    decide
  have hs : Num.numD (superS G B I M) 124 4 = Num.sum (superS G B I M) 124 := by
    have := seal_seals (superL G B I M) 128 (by omega) hsl
    rw [beq_iff_eq] at this
    rw [e]
    exact this
  have hE : decE 128 (superS G B I M) = 0 := by
    unfold decE
    rw [if_neg (by omega), if_neg (by rw [ht]; simp), if_neg (by rw [hs]; simp), hG, hB, hI, hM, if_pos ⟨h, rfl⟩]
  refine ⟨hE, ?_⟩
  unfold decV
  rw [if_pos hE, hG, hB, hI, hM]

/-- A header is read as it was written. -/
theorem group_back {N : Int} {ys : List Int} (hl : ys.length = 40) (h : GMay N) : gdE 128 (groupL N ys) = 0 ∧ gdN 128 (groupL N ys) = N ∧ gdY 128 (groupL N ys) = ys := by
  obtain ⟨n1, n2⟩ := id h
  have l0 : (splice (zers 128) 0 [104, 100]).length = 128 := by rw [splice_len _ _ _ (by rw [zers_len]; decide), zers_len]
  have l1 : (Num.putTo (splice (zers 128) 0 [104, 100]) 2 N 1).length = 128 := by rw [Num.putTo_length, l0]
  have l2 : (splice (Num.putTo (splice (zers 128) 0 [104, 100]) 2 N 1) 4 (ys.take 8)).length = 128 := by rw [splice_len _ _ _ (by rw [l1]; simp; omega), l1]
  have l3 : (groupL N ys).length = 128 := by unfold groupL; rw [splice_len _ _ _ (by rw [l2]; simp; omega), l2]
  have hget : ∀ i, (groupL N ys).getD i 0 = if i < 4 then (Num.putTo (splice (zers 128) 0 [104, 100]) 2 N 1).getD i 0 else if i < 44 then ys.getD (i - 4) 0 else (Num.putTo (splice (zers 128) 0 [104, 100]) 2 N 1).getD i 0 := by
    intro i
    unfold groupL
    rw [getD_splice _ _ _ (by rw [l2]; simp; omega), getD_splice _ _ _ (by rw [l1]; simp; omega), List.length_drop, List.length_take, hl]
    simp only [show min 8 40 = 8 from rfl]
    by_cases h1 : i < 4
    · rw [if_pos (by omega), if_pos h1, if_pos h1]
    · by_cases h2 : i < 12
      · rw [if_pos h2, if_neg h1, if_pos (by omega), if_neg h1, if_pos (by omega), getD_take _ _ _ (by omega)]
      · by_cases h3 : i < 44
        · rw [if_neg h2, if_pos (by omega), if_neg h1, if_pos h3, getD_drop']
          congr 1
          omega
        · rw [if_neg h2, if_neg (by omega), if_neg h1, if_neg (by omega), if_neg h1, if_neg h3]
  have hN : rN (groupL N ys) = N := by
    unfold rN
    have : Num.numD (groupL N ys) 2 1 = Num.numD (Num.putTo (splice (zers 128) 0 [104, 100]) 2 N 1) 2 1 := Num.numD_congr 1 2 fun i hi => by rw [hget, if_pos (by omega)]
    rw [this]
    exact Num.num_put _ _ _ _ (by omega) (by omega) (by omega)
  have hY : rY (groupL N ys) = ys := by
    unfold rY
    apply ext_getD
    · simp; omega
    · intro i hi
      have hi : i < 40 := by simp at hi; omega
      rw [getD_take _ _ _ hi, getD_drop', hget, if_neg (by omega), if_pos (by omega)]
      congr 1
      omega
  have ht : (groupL N ys).take 2 = [104, 100] := by
    have e : [104, 100] = (splice (zers 128) 0 [104, 100]).take 2 := by decide
    rw [e]
    apply ext_getD
    · simp only [List.length_take, l3, l0]
    · intro i hi
      have hi : i < 2 := by simp at hi; omega
      rw [getD_take _ _ _ hi, getD_take _ _ _ hi, hget, if_pos (by omega), Num.putTo_out _ _ _ _ _ (by omega)]
  have hE : gdE 128 (groupL N ys) = 0 := by
    unfold gdE
    rw [if_neg (by omega), if_neg (by rw [ht]; simp), hN, hY, if_pos ⟨h, rfl⟩]
  refine ⟨hE, ?_, ?_⟩
  · unfold gdN; rw [if_pos hE, hN]
  · unfold gdY; rw [if_pos hE, hY]

theorem ads_of {zs : List Int} (h : Ads zs) (j : Nat) : 0 ≤ zs.getD j 0 ∧ zs.getD j 0 < 256 ^ 2 := by
  have := ads_at h j
  omega

/-- What the bytes of an inode in use say. -/
theorem din_says {m l s a b c d i j : Int} (h : UMay l s a b c d i j) (hm : 0 ≤ m ∧ m < 256) : Num.numD (dinS m l s a b c d i j) 0 1 = m ∧ rdV (dinS m l s a b c d i j) = dinV m l s a b c d i j ∧ (Num.numD (dinS m l s a b c d i j) 28 4 == Num.sum (dinS m l s a b c d i j) 28) = true := by
  have hl := dinL_len m l s a b c d i j
  have e : dinS m l s a b c d i j = Num.putTo (dinL m l s a b c d i j) 28 (Num.sum (dinL m l s a b c d i j) 28) 4 := by unfold dinS sealL; rw [hl]
  have hi := ads_of h.2.2.2 0
  have hj := ads_of h.2.2.2 1
  have z0 : (zers 32).length = 32 := zers_len 32
  have e0 : Num.numD (dinS m l s a b c d i j) 0 1 = m := by
    rw [e, num_out _ _ _ _ _ _ (by omega)]
    unfold dinL
    rw [num_out _ _ _ _ _ _ (by omega), num_out _ _ _ _ _ _ (by omega), num_outs _ _ _ _ _ _ _ (by omega), num_out _ _ _ _ _ _ (by omega), num_out _ _ _ _ _ _ (by omega)]
    exact Num.num_put _ _ _ _ (by omega) hm.1 (by omega)
  have e1 : Num.numD (dinS m l s a b c d i j) 2 2 = l := by
    rw [e, num_out _ _ _ _ _ _ (by omega)]
    unfold dinL
    rw [num_out _ _ _ _ _ _ (by omega), num_out _ _ _ _ _ _ (by omega), num_outs _ _ _ _ _ _ _ (by omega), num_out _ _ _ _ _ _ (by omega)]
    exact Num.num_put _ _ _ _ (by rw [Num.putTo_length]; omega) h.1.1 (by have := h.1.2; omega)
  have e2 : Num.numD (dinS m l s a b c d i j) 4 4 = s := by
    rw [e, num_out _ _ _ _ _ _ (by omega)]
    unfold dinL
    rw [num_out _ _ _ _ _ _ (by omega), num_out _ _ _ _ _ _ (by omega), num_outs _ _ _ _ _ _ _ (by omega)]
    exact Num.num_put _ _ _ _ (by simp only [Num.putTo_length]; omega) h.2.1.1 (by have := h.2.1.2; omega)
  have ej : ∀ k, k < 4 → Num.numD (dinS m l s a b c d i j) (8 + 2 * k) 2 = [a, b, c, d].getD k 0 := by
    intro k hk
    have hv := ads_of h.2.2.1 k
    rw [e, num_out _ _ _ _ _ _ (by omega)]
    unfold dinL
    rw [num_out _ _ _ _ _ _ (by omega), num_out _ _ _ _ _ _ (by omega)]
    exact num_ins _ _ _ _ _ _ hk (by simp only [Num.putTo_length]; omega) hv.1 hv.2
  have e8 : Num.numD (dinS m l s a b c d i j) 16 2 = i := by
    rw [e, num_out _ _ _ _ _ _ (by omega)]
    unfold dinL
    rw [num_out _ _ _ _ _ _ (by omega)]
    exact Num.num_put _ _ _ _ (by rw [putsTo_len]; simp only [Num.putTo_length]; omega) hi.1 hi.2
  have e9 : Num.numD (dinS m l s a b c d i j) 18 2 = j := by
    rw [e, num_out _ _ _ _ _ _ (by omega)]
    unfold dinL
    exact Num.num_put _ _ _ _ (by rw [Num.putTo_length, putsTo_len]; simp only [Num.putTo_length]; omega) hj.1 hj.2
  refine ⟨e0, ?_, ?_⟩
  · unfold rdV
    rw [e0, e1, e2, e8, e9, show Num.numD (dinS m l s a b c d i j) 8 2 = a from ej 0 (by omega), show Num.numD (dinS m l s a b c d i j) 10 2 = b from ej 1 (by omega), show Num.numD (dinS m l s a b c d i j) 12 2 = c from ej 2 (by omega), show Num.numD (dinS m l s a b c d i j) 14 2 = d from ej 3 (by omega)]
  · have := seal_seals (dinL m l s a b c d i j) 32 (by omega) hl
    rw [e]
    exact this

/-- An inode is read as it was written. -/
theorem dinode_back {m l s a b c d i j : Int} (h : DMay m l s a b c d i j) : ddE 32 (dinB m l s a b c d i j) = 0 ∧ ddV 32 (dinB m l s a b c d i j) = dinV m l s a b c d i j := by
  by_cases h0 : m = 0
  · subst h0
    obtain ⟨rfl, rfl, rfl, rfl, rfl, rfl, rfl, rfl⟩ := dmay_zero h
    have e : dinB 0 0 0 0 0 0 0 0 0 = zers 32 := by unfold dinB; rw [if_pos rfl]
    rw [e]
    have hE : ddE 32 (zers 32) = 0 := by unfold ddE; rw [if_neg (by omega), if_pos rfl]
    refine ⟨hE, ?_⟩
    unfold ddV
    rw [if_pos hE]
    unfold rdV
    simp only [numD_zers]
  · have e : dinB m l s a b c d i j = dinS m l s a b c d i j := by unfold dinB; rw [if_neg h0]
    have hU : UMay l s a b c d i j := by
      unfold DMay at h
      rcases h with h | h | h
      · exact absurd h.1 h0
      · exact h.2
      · exact h.2.1
    have hm : 0 ≤ m ∧ m < 256 := by unfold DMay at h; omega
    obtain ⟨e0, eV, eS⟩ := din_says hU hm
    rw [e]
    have hz : ¬ dinS m l s a b c d i j = zers 32 := by
      intro k
      rw [k, numD_zers] at e0
      exact h0 e0.symm
    have hR : RGood (dinS m l s a b c d i j) := by
      unfold RGood
      unfold rdV at eV
      have := eV
      simp only [Value.agg.injEq, Array.mk.injEq, List.cons.injEq, Value.int.injEq, true_and, and_true] at this
      obtain ⟨q0, q1, q2, q3, q4, q5, q6, q7, q8⟩ := this
      rw [q0, q1, q2, q3, q4, q5, q6, q7, q8]
      exact ⟨h, e⟩
    have hE : ddE 32 (dinS m l s a b c d i j) = 0 := by
      unfold ddE
      rw [if_neg (by omega), if_neg hz, if_neg (by rw [eS]; simp), if_pos hR]
    refine ⟨hE, ?_⟩
    unfold ddV
    rw [if_pos hE, eV]

theorem nums_back (s : ByteArray) : strOfNums (numsOf s) = s := by
  unfold strOfNums numsOf
  have e : ((fun n : Int => UInt8.ofNat n.toNat) ∘ fun b : UInt8 => (b.toNat : Int)) = id := by
    funext b
    simp
  rw [List.map_map, e, List.map_id]
/-- An entry is read as it was written. -/
theorem entry_back {N : Int} {s : ByteArray} (h : EMay N s) : deE 16 (entL N s) = 0 ∧ deV 16 (entL N s) = entV N s := by
  have hs := emay_size h
  have hn := emay_ino h
  have hl : (Num.putTo (Num.putTo (zers 16) 0 N 2) 2 (s.size : Int) 1).length = 16 := by rw [Num.putTo_length, Num.putTo_length, zers_len]
  have hfit : 3 + (numsOf s).length ≤ (Num.putTo (Num.putTo (zers 16) 0 N 2) 2 (s.size : Int) 1).length := by rw [hl, numsOf_len]; omega
  have hN : Num.numD (entL N s) 0 2 = N := by
    have : Num.numD (entL N s) 0 2 = Num.numD (Num.putTo (Num.putTo (zers 16) 0 N 2) 2 (s.size : Int) 1) 0 2 := Num.numD_congr 2 0 fun i hi => by
      unfold entL
      rw [getD_splice _ _ _ hfit, if_pos (by omega)]
    rw [this, num_out _ _ _ _ _ _ (by omega)]
    exact Num.num_put _ _ _ _ (by rw [zers_len]; omega) hn.1 (by omega)
  have hS : nameD (entL N s) = s := by
    unfold nameD
    rw [entL_len_byte N s hs, if_pos (by omega), Int.toNat_natCast]
    have : ((entL N s).drop 3).take s.size = numsOf s := by
      apply ext_getD
      · rw [List.length_take, List.length_drop, entL_len N s hs, numsOf_len]; omega
      · intro i hi
        have hi : i < s.size := by rw [List.length_take] at hi; omega
        rw [getD_take _ _ _ hi, getD_drop']
        unfold entL
        rw [getD_splice _ _ _ hfit, if_neg (by omega), if_pos (by rw [numsOf_len]; omega)]
        congr 1
        omega
    rw [this, nums_back]
  have hG : EGood (entL N s) := by
    unfold EGood
    rw [hN, hS]
    exact ⟨h, rfl⟩
  have hE : deE 16 (entL N s) = 0 := by unfold deE; rw [if_neg (by omega), if_pos hG]
  refine ⟨hE, ?_⟩
  unfold deV
  rw [if_pos hE, hN, hS]
end Go.Proofs.Ytkmijjipnepnoaa
