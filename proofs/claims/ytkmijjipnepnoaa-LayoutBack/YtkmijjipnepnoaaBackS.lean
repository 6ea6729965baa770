/- LayoutBack: structures are read as they were written. -/
import Derived.Test.YtkmijjipnepnoaaRDEnt
import Derived.Test.YtkmijjipnepnoaaGroupsW
import Derived.Test.YtkmijjipnepnoaaSealed
import Derived.Test.YtkmijjipnepnoaaFan
import Derived.Deep.DeepCutAuto
namespace Go.Proofs.Ytkmijjipnepnoaa
open Go.RowKit
set_option linter.unusedVariables false

/-- A number that lies apart from what was put. -/
theorem num_out (xs : List Int) (b m : Nat) (v : Int) (a k : Nat) (h : a + k ≤ b ∨ b + m ≤ a) : Num.numD (Num.putTo xs b v m) a k = Num.numD xs a k :=
  Num.numD_congr k a fun i hi => Num.putTo_out xs b v m (a + i) (by omega)
theorem num_outs (xs : List Int) (b m : Nat) (zs : List Int) (n : Nat) (a k : Nat) (h : a + k ≤ b ∨ b + m * n ≤ a) : Num.numD (putsTo xs b m zs n) a k = Num.numD xs a k := by
  induction n with
  | zero => rfl
  | succ n ih =>
    rw [Nat.mul_succ] at h
    rw [putsTo, num_out _ _ _ _ _ _ (by omega), ih (by omega)]
theorem num_ins (xs : List Int) (b m : Nat) (zs : List Int) (n j : Nat) (hj : j < n) (hl : b + m * n ≤ xs.length) (h0 : 0 ≤ zs.getD j 0) (h1 : zs.getD j 0 < 256 ^ m) : Num.numD (putsTo xs b m zs n) (b + m * j) m = zs.getD j 0 := by
  induction n with
  | zero => omega
  | succ n ih =>
    rw [Nat.mul_succ] at hl
    rw [putsTo]
    by_cases e : j = n
    · subst e
      exact Num.num_put _ _ _ _ (by rw [putsTo_len]; omega) h0 h1
    · have : m * (j + 1) ≤ m * n := Nat.mul_le_mul_left m (by omega)
      rw [Nat.mul_succ] at this
      rw [num_out _ _ _ _ _ _ (by omega), ih (by omega) (by omega)]
theorem put_takes (xs : List Int) (a k m : Nat) (v : Int) (h : m ≤ a) : (Num.putTo xs a v k).take m = xs.take m := by
  have := congrArg (List.take m) (put_take xs a k v)
  rwa [List.take_take, List.take_take, Nat.min_eq_left h] at this

/-- A superblock is read as it was written. -/
theorem super_back {G B I M : Int} (h : SMay G B I M) : decE 128 (superS G B I M) = 0 ∧ decV 128 (superS G B I M) = superV G B I M := by
  have hl0 := splice_len128
  obtain ⟨⟨g1, g2, b1, b2, i1, i2, _, _⟩, m1, m2⟩ := id h
  have hsl : (superL G B I M).length = 128 := by unfold superL; simp only [Num.putTo_length]; exact hl0
  have e : superS G B I M = Num.putTo (superL G B I M) 124 (Num.sum (superL G B I M) 124) 4 := by unfold superS sealL; rw [hsl]
  have hG : rG (superS G B I M) = G := by
    unfold rG
    rw [e, num_out _ _ _ _ _ _ (by omega)]
    unfold superL
    rw [num_out _ _ _ _ _ _ (by omega), num_out _ _ _ _ _ _ (by omega), num_out _ _ _ _ _ _ (by omega)]
    exact Num.num_put _ _ _ _ (by omega) (by omega) (by omega)
  have hB : rB (superS G B I M) = B := by
    unfold rB
    rw [e, num_out _ _ _ _ _ _ (by omega)]
    unfold superL
    rw [num_out _ _ _ _ _ _ (by omega), num_out _ _ _ _ _ _ (by omega), Num.num_put _ _ _ _ (by rw [Num.putTo_length]; omega) (by omega) (by omega)]
    omega
  have hI : rI (superS G B I M) = I := by
    unfold rI
    rw [e, num_out _ _ _ _ _ _ (by omega)]
    unfold superL
    rw [num_out _ _ _ _ _ _ (by omega), Num.num_put _ _ _ _ (by simp only [Num.putTo_length]; omega) (by omega) (by omega)]
  have hM : rM (superS G B I M) = M := by
    unfold rM
    rw [e, num_out _ _ _ _ _ _ (by omega)]
    unfold superL
    rw [Num.num_put _ _ _ _ (by simp only [Num.putTo_length]; omega) (by omega) (by omega)]
  have ht : (superS G B I M).take 4 = [98, 111, 108, 108] := by
    rw [e, put_takes _ _ _ _ _ (by omega)]
    unfold superL
    rw [put_takes _ _ _ _ _ (by omega), put_takes _ _ _ _ _ (by omega), put_takes _ _ _ _ _ (by omega), put_takes _ _ _ _ _ (by omega)]
    decide
  have hs : Num.numD (superS G B I M) 124 4 = Num.sum (superS G B I M) 124 := by
    have := seal_seals (superL G B I M) 128 (by omega) hsl
    rw [beq_iff_eq] at this
    rw [e]
    exact this
  have hE : decE 128 (superS G B I M) = 0 := by
    unfold decE
    rw [if_neg (by omega), if_neg (by rw [ht]; simp), if_neg (by rw [hs]; simp), hG, hB, hI, hM, if_pos ⟨h, rfl⟩]
  refine ⟨hE, ?_⟩
  unfold decV
  rw [if_pos hE, hG, hB, hI, hM]

/-- A header is read as it was written. -/
theorem group_back {N : Int} {ys : List Int} (hl : ys.length = 40) (h : GMay N) : gdE 128 (groupL N ys) = 0 ∧ gdN 128 (groupL N ys) = N ∧ gdY 128 (groupL N ys) = ys := by
  obtain ⟨n1, n2⟩ := id h
  have l0 : (splice (zers 128) 0 [104, 100]).length = 128 := by rw [splice_len _ _ _ (by rw [zers_len]; decide), zers_len]
  have l1 : (Num.putTo (splice (zers 128) 0 [104, 100]) 2 N 1).length = 128 := by rw [Num.putTo_length, l0]
  have l2 : (splice (Num.putTo (splice (zers 128) 0 [104, 100]) 2 N 1) 4 (ys.take 8)).length = 128 := by rw [splice_len _ _ _ (by rw [l1]; simp; omega), l1]
  have l3 : (groupL N ys).length = 128 := by unfold groupL; rw [splice_len _ _ _ (by rw [l2]; simp; omega), l2]
  have hget : ∀ i, (groupL N ys).getD i 0 = if i < 4 then (Num.putTo (splice (zers 128) 0 [104, 100]) 2 N 1).getD i 0 else if i < 44 then ys.getD (i - 4) 0 else (Num.putTo (splice (zers 128) 0 [104, 100]) 2 N 1).getD i 0 := by
    intro i
    unfold groupL
    rw [getD_splice _ _ _ (by rw [l2]; simp; omega), getD_splice _ _ _ (by rw [l1]; simp; omega), List.length_drop, List.length_take, hl]
    simp only [show min 8 40 = 8 from rfl]
    by_cases h1 : i < 4
    · rw [if_pos (by omega), if_pos h1, if_pos h1]
    · by_cases h2 : i < 12
      · rw [if_pos h2, if_neg h1, if_pos (by omega), if_neg h1, if_pos (by omega), getD_take _ _ _ (by omega)]
      · by_cases h3 : i < 44
        · rw [if_neg h2, if_pos (by omega), if_neg h1, if_pos h3, getD_drop']
          congr 1
          omega
        · rw [if_neg h2, if_neg (by omega), if_neg h1, if_neg (by omega), if_neg h1, if_neg h3]
  have hN : rN (groupL N ys) = N := by
    unfold rN
    have : Num.numD (groupL N ys) 2 1 = Num.numD (Num.putTo (splice (zers 128) 0 [104, 100]) 2 N 1) 2 1 := Num.numD_congr 1 2 fun i hi => by rw [hget, if_pos (by omega)]
    rw [this]
    exact Num.num_put _ _ _ _ (by omega) (by omega) (by omega)
  have hY : rY (groupL N ys) = ys := by
    unfold rY
    apply ext_getD
    · simp; omega
    · intro i hi
      have hi : i < 40 := by simp at hi; omega
      rw [getD_take _ _ _ hi, getD_drop', hget, if_neg (by omega), if_pos (by omega)]
      congr 1
      omega
  have ht : (groupL N ys).take 2 = [104, 100] := by
    have e : [104, 100] = (splice (zers 128) 0 [104, 100]).take 2 := by decide
    rw [e]
    apply ext_getD
    · simp only [List.length_take, l3, l0]
    · intro i hi
      have hi : i < 2 := by simp at hi; omega
      rw [getD_take _ _ _ hi, getD_take _ _ _ hi, hget, if_pos (by omega), Num.putTo_out _ _ _ _ _ (by omega)]
  have hE : gdE 128 (groupL N ys) = 0 := by
    unfold gdE
    rw [if_neg (by omega), if_neg (by rw [ht]; simp), hN, hY, if_pos ⟨h, rfl⟩]
  refine ⟨hE, ?_, ?_⟩
  · unfold gdN; rw [if_pos hE, hN]
  · unfold gdY; rw [if_pos hE, hY]

theorem ads_of {zs : List Int} (h : Ads zs) (j : Nat) : 0 ≤ zs.getD j 0 ∧ zs.getD j 0 < 256 ^ 2 := by
  have := ads_at h j
  omega

/-- What the bytes of an inode in use say. -/
theorem din_says {m l s a b c d i j : Int} (h : UMay l s a b c d i j) (hm : 0 ≤ m ∧ m < 256) : Num.numD (dinS m l s a b c d i j) 0 1 = m ∧ rdV (dinS m l s a b c d i j) = dinV m l s a b c d i j ∧ (Num.numD (dinS m l s a b c d i j) 28 4 == Num.sum (dinS m l s a b c d i j) 28) = true := by
  have hl := dinL_len m l s a b c d i j
  have e : dinS m l s a b c d i j = Num.putTo (dinL m l s a b c d i j) 28 (Num.sum (dinL m l s a b c d i j) 28) 4 := by unfold dinS sealL; rw [hl]
  have hi := ads_of h.2.2.2 0
  have hj := ads_of h.2.2.2 1
  have z0 : (zers 32).length = 32 := zers_len 32
  have e0 : Num.numD (dinS m l s a b c d i j) 0 1 = m := by
    rw [e, num_out _ _ _ _ _ _ (by omega)]
    unfold dinL
    rw [num_out _ _ _ _ _ _ (by omega), num_out _ _ _ _ _ _ (by omega), num_outs _ _ _ _ _ _ _ (by omega), num_out _ _ _ _ _ _ (by omega), num_out _ _ _ _ _ _ (by omega)]
    exact Num.num_put _ _ _ _ (by omega) hm.1 (by omega)
  have e1 : Num.numD (dinS m l s a b c d i j) 2 2 = l := by
    rw [e, num_out _ _ _ _ _ _ (by omega)]
    unfold dinL
    rw [num_out _ _ _ _ _ _ (by omega), num_out _ _ _ _ _ _ (by omega), num_outs _ _ _ _ _ _ _ (by omega), num_out _ _ _ _ _ _ (by omega)]
    exact Num.num_put _ _ _ _ (by rw [Num.putTo_length]; omega) h.1.1 (by have := h.1.2; omega)
  have e2 : Num.numD (dinS m l s a b c d i j) 4 4 = s := by
    rw [e, num_out _ _ _ _ _ _ (by omega)]
    unfold dinL
    rw [num_out _ _ _ _ _ _ (by omega), num_out _ _ _ _ _ _ (by omega), num_outs _ _ _ _ _ _ _ (by omega)]
    exact Num.num_put _ _ _ _ (by simp only [Num.putTo_length]; omega) h.2.1.1 (by have := h.2.1.2; omega)
  have ej : ∀ k, k < 4 → Num.numD (dinS m l s a b c d i j) (8 + 2 * k) 2 = [a, b, c, d].getD k 0 := by
    intro k hk
    have hv := ads_of h.2.2.1 k
    rw [e, num_out _ _ _ _ _ _ (by omega)]
    unfold dinL
    rw [num_out _ _ _ _ _ _ (by omega), num_out _ _ _ _ _ _ (by omega)]
    exact num_ins _ _ _ _ _ _ hk (by simp only [Num.putTo_length]; omega) hv.1 hv.2
  have e8 : Num.numD (dinS m l s a b c d i j) 16 2 = i := by
    rw [e, num_out _ _ _ _ _ _ (by omega)]
    unfold dinL
    rw [num_out _ _ _ _ _ _ (by omega)]
    exact Num.num_put _ _ _ _ (by rw [putsTo_len]; simp only [Num.putTo_length]; omega) hi.1 hi.2
  have e9 : Num.numD (dinS m l s a b c d i j) 18 2 = j := by
    rw [e, num_out _ _ _ _ _ _ (by omega)]
    unfold dinL
    exact Num.num_put _ _ _ _ (by rw [Num.putTo_length, putsTo_len]; simp only [Num.putTo_length]; omega) hj.1 hj.2
  refine ⟨e0, ?_, ?_⟩
  · unfold rdV
    rw [e0, e1, e2, e8, e9, show Num.numD (dinS m l s a b c d i j) 8 2 = a from ej 0 (by omega), show Num.numD (dinS m l s a b c d i j) 10 2 = b from ej 1 (by omega), show Num.numD (dinS m l s a b c d i j) 12 2 = c from ej 2 (by omega), show Num.numD (dinS m l s a b c d i j) 14 2 = d from ej 3 (by omega)]
  · have := seal_seals (dinL m l s a b c d i j) 32 (by omega) hl
    rw [e]
    exact this

/-- An inode is read as it was written. -/
theorem dinode_back {m l s a b c d i j : Int} (h : DMay m l s a b c d i j) : ddE 32 (dinB m l s a b c d i j) = 0 ∧ ddV 32 (dinB m l s a b c d i j) = dinV m l s a b c d i j := by
  by_cases h0 : m = 0
  · subst h0
    obtain ⟨rfl, rfl, rfl, rfl, rfl, rfl, rfl, rfl⟩ := dmay_zero h
    have e : dinB 0 0 0 0 0 0 0 0 0 = zers 32 := by unfold dinB; rw [if_pos rfl]
    rw [e]
    have hE : ddE 32 (zers 32) = 0 := by unfold ddE; rw [if_neg (by omega), if_pos rfl]
    refine ⟨hE, ?_⟩
    unfold ddV
    rw [if_pos hE]
    unfold rdV
    simp only [numD_zers]
  · have e : dinB m l s a b c d i j = dinS m l s a b c d i j := by unfold dinB; rw [if_neg h0]
    have hU : UMay l s a b c d i j := by
      unfold DMay at h
      rcases h with h | h | h
      · exact absurd h.1 h0
      · exact h.2
      · exact h.2.1
    have hm : 0 ≤ m ∧ m < 256 := by unfold DMay at h; omega
    obtain ⟨e0, eV, eS⟩ := din_says hU hm
    rw [e]
    have hz : ¬ dinS m l s a b c d i j = zers 32 := by
      intro k
      rw [k, numD_zers] at e0
      exact h0 e0.symm
    have hR : RGood (dinS m l s a b c d i j) := by
      unfold RGood
      unfold rdV at eV
      have := eV
      simp only [Value.agg.injEq, Array.mk.injEq, List.cons.injEq, Value.int.injEq, true_and, and_true] at this
      obtain ⟨q0, q1, q2, q3, q4, q5, q6, q7, q8⟩ := this
      rw [q0, q1, q2, q3, q4, q5, q6, q7, q8]
      exact ⟨h, e⟩
    have hE : ddE 32 (dinS m l s a b c d i j) = 0 := by
      unfold ddE
      rw [if_neg (by omega), if_neg hz, if_neg (by rw [eS]; simp), if_pos hR]
    refine ⟨hE, ?_⟩
    unfold ddV
    rw [if_pos hE, eV]

theorem nums_back (s : ByteArray) : strOfNums (numsOf s) = s := by
  unfold strOfNums numsOf
  have e : ((fun n : Int => UInt8.ofNat n.toNat) ∘ fun b : UInt8 => (b.toNat : Int)) = id := by
    funext b
    simp
  rw [List.map_map, e, List.map_id]
/-- An entry is read as it was written. -/
theorem entry_back {N : Int} {s : ByteArray} (h : EMay N s) : deE 16 (entL N s) = 0 ∧ deV 16 (entL N s) = entV N s := by
  have hs := emay_size h
  have hn := emay_ino h
  have hl : (Num.putTo (Num.putTo (zers 16) 0 N 2) 2 (s.size : Int) 1).length = 16 := by rw [Num.putTo_length, Num.putTo_length, zers_len]
  have hfit : 3 + (numsOf s).length ≤ (Num.putTo (Num.putTo (zers 16) 0 N 2) 2 (s.size : Int) 1).length := by rw [hl, numsOf_len]; omega
  have hN : Num.numD (entL N s) 0 2 = N := by
    have : Num.numD (entL N s) 0 2 = Num.numD (Num.putTo (Num.putTo (zers 16) 0 N 2) 2 (s.size : Int) 1) 0 2 := Num.numD_congr 2 0 fun i hi => by
      unfold entL
      rw [getD_splice _ _ _ hfit, if_pos (by omega)]
    rw [this, num_out _ _ _ _ _ _ (by omega)]
    exact Num.num_put _ _ _ _ (by rw [zers_len]; omega) hn.1 (by omega)
  have hS : nameD (entL N s) = s := by
    unfold nameD
    rw [entL_len_byte N s hs, if_pos (by omega), Int.toNat_natCast]
    have : ((entL N s).drop 3).take s.size = numsOf s := by
      apply ext_getD
      · rw [List.length_take, List.length_drop, entL_len N s hs, numsOf_len]; omega
      · intro i hi
        have hi : i < s.size := by rw [List.length_take] at hi; omega
        rw [getD_take _ _ _ hi, getD_drop']
        unfold entL
        rw [getD_splice _ _ _ hfit, if_neg (by omega), if_pos (by rw [numsOf_len]; omega)]
        congr 1
        omega
    rw [this, nums_back]
  have hG : EGood (entL N s) := by
    unfold EGood
    rw [hN, hS]
    exact ⟨h, rfl⟩
  have hE : deE 16 (entL N s) = 0 := by unfold deE; rw [if_neg (by omega), if_pos hG]
  refine ⟨hE, ?_⟩
  unfold deV
  rw [if_pos hE, hN, hS]

theorem eq45_same (m l s a b c d i j : Int) (w : World) : (Op.equalIn 10000 45 (dinV m l s a b c d i j) (dinV m l s a b c d i j)).run Try.prog w = .ok true w := by
  rw [eq45]
  rw [decide_eq_true ⟨rfl, rfl, rfl, ⟨rfl, rfl, rfl, rfl⟩, rfl, rfl⟩]

theorem super_pair (G B I M : Int) : ∃ (er : Int) (n : Nat) (zs : List Int) (er2 G2 B2 I2 M2 : Int),
    (∀ w, Calls Try.prog 9 #[superV G B I M] w fun e w' => ∃ p c, e = .returned (.tuple #[.slice p n c, .int .i64 er]) ∧ n ≤ c ∧ BI w' p n zs ∧ Below w.heap.size w w') ∧
    (∀ w, Calls Try.prog 10 #[superV G B I M] w fun e w' => ∃ p c, e = .returned (.tuple #[.slice p n c, .int .i64 er]) ∧ Below w.heap.size w w') ∧
    (∀ w p c, n ≤ c → BI w p n zs → Calls Try.prog 12 #[.slice p n c] w fun e w' => e = .returned (.tuple #[superV G2 B2 I2 M2, .int .i64 er2]) ∧ Below w.heap.size w w') ∧
    (er = 0 ∧ er2 = 0 ∧ G2 = G ∧ B2 = B ∧ I2 = I ∧ M2 = M ∨ er = 1) := by
  by_cases h : SMay G B I M
  · refine ⟨0, 128, superS G B I M, 0, G, B, I, M, fun w => ?_, fun w => ?_, fun w p c hc hb => ?_, Or.inl ⟨rfl, rfl, rfl, rfl, rfl, rfl⟩⟩
    · exact (encodeSuper_yes G B I M h w).mono fun e w' ⟨g, cap, he, ho, hb⟩ => ⟨_, cap, he, ho.room.1, ho.bi (by omega) (superS_byt _ _ _ _), hb⟩
    · exact (rencodeSuper_yes G B I M h w).mono fun e w' ⟨g, cap, he, ho, hb⟩ => ⟨_, cap, he, hb⟩
    · have := decodeSuper_ok p 128 c _ w hb hc
      rwa [(super_back h).1, (super_back h).2] at this
  · have hE : decE 0 [] = 6 := by unfold decE; rw [if_pos (by omega)]
    have hV : decV 0 [] = superV 0 0 0 0 := by unfold decV; rw [hE, if_neg (by decide)]
    refine ⟨1, 0, [], 6, 0, 0, 0, 0, fun w => ?_, fun w => ?_, fun w p c hc hb => ?_, Or.inr rfl⟩
    · exact (encodeSuper_no G B I M h w).mono fun e w' ⟨he, hb⟩ => ⟨_, 0, he, Nat.le_refl _, BI.none _ _, hb⟩
    · exact (rencodeSuper_no G B I M h w).mono fun e w' ⟨he, hb⟩ => ⟨_, 0, he, hb⟩
    · have := decodeSuper_ok p 0 c _ w hb hc
      rwa [hE, hV] at this
theorem group_pair (N : Int) (ys : List Int) (hl : ys.length = 40) (hy : Num.Byt ys) : ∃ (er : Int) (n : Nat) (zs : List Int) (er2 N2 : Int) (y2 : List Int), y2.length = 40 ∧ Num.Byt y2 ∧
    (∀ w, Calls Try.prog 15 #[groupV N ys] w fun e w' => ∃ p c, e = .returned (.tuple #[.slice p n c, .int .i64 er]) ∧ n ≤ c ∧ BI w' p n zs ∧ Below w.heap.size w w') ∧
    (∀ w p c, n ≤ c → BI w p n zs → Calls Try.prog 17 #[.slice p n c] w fun e w' => e = .returned (.tuple #[groupV N2 y2, .int .i64 er2]) ∧ Below w.heap.size w w') ∧
    (er = 0 ∧ er2 = 0 ∧ N2 = N ∧ y2 = ys ∧ GMay N ∨ er = 1) := by
  by_cases h : GMay N
  · refine ⟨0, 128, groupL N ys, 0, N, ys, hl, hy, fun w => ?_, fun w p c hc hb => ?_, Or.inl ⟨rfl, rfl, rfl, rfl, h⟩⟩
    · exact (encodeGroup_yes1 N ys hl hy h w).mono fun e w' ⟨g, cap, he, ho, hb⟩ => ⟨_, cap, he, ho.room.1, ho.bi (by omega) (groupL_byt _ _ hy), hb⟩
    · have := decodeGroup_ok p 128 c _ w hb hc
      obtain ⟨k1, k2, k3⟩ := group_back hl h
      rwa [k1, k2, k3] at this
  · have hE : gdE 0 [] = 6 := by unfold gdE; rw [if_pos (by omega)]
    have hN : gdN 0 [] = 0 := by unfold gdN; rw [hE, if_neg (by decide)]
    have hY : gdY 0 [] = zers 40 := by unfold gdY; rw [hE, if_neg (by decide)]
    refine ⟨1, 0, [], 6, 0, zers 40, zers_len 40, zers_byt 40, fun w => ?_, fun w p c hc hb => ?_, Or.inr rfl⟩
    · exact (encodeGroup_no N ys hl h w).mono fun e w' ⟨he, hb⟩ => ⟨_, 0, he, Nat.le_refl _, BI.none _ _, hb⟩
    · have := decodeGroup_ok p 0 c _ w hb hc
      rwa [hE, hN, hY] at this
theorem dinode_pair (m l s a b c d i j : Int) : ∃ (er : Int) (n : Nat) (zs : List Int) (er2 m2 l2 s2 a2 b2 c2 d2 i2 j2 : Int),
    (∀ w, Calls Try.prog 19 #[dinV m l s a b c d i j] w fun e w' => ∃ p c, e = .returned (.tuple #[.slice p n c, .int .i64 er]) ∧ n ≤ c ∧ BI w' p n zs ∧ Below w.heap.size w w') ∧
    (∀ w p c, n ≤ c → BI w p n zs → Calls Try.prog 21 #[.slice p n c] w fun e w' => e = .returned (.tuple #[dinV m2 l2 s2 a2 b2 c2 d2 i2 j2, .int .i64 er2]) ∧ Below w.heap.size w w') ∧
    (er = 0 ∧ er2 = 0 ∧ m2 = m ∧ l2 = l ∧ s2 = s ∧ a2 = a ∧ b2 = b ∧ c2 = c ∧ d2 = d ∧ i2 = i ∧ j2 = j ∨ er = 1) := by
  by_cases h : DMay m l s a b c d i j
  · refine ⟨0, 32, dinB m l s a b c d i j, 0, m, l, s, a, b, c, d, i, j, fun w => ?_, fun w p c hc hb => ?_, Or.inl ⟨rfl, rfl, rfl, rfl, rfl, rfl, rfl, rfl, rfl, rfl, rfl⟩⟩
    · exact (encodeDinode_yes m l s a b c d i j h w).mono fun e w' ⟨g, cap, he, ho, hb⟩ => ⟨_, cap, he, ho.room.1, ho.bi (by omega) (dinB_byt _ _ _ _ _ _ _ _ _), hb⟩
    · have := decodeDinode_ok p 32 c _ w hb hc
      rwa [(dinode_back h).1, (dinode_back h).2] at this
  · have hE : ddE 0 [] = 6 := by unfold ddE; rw [if_pos (by omega)]
    have hV : ddV 0 [] = dinV 0 0 0 0 0 0 0 0 0 := by unfold ddV; rw [hE, if_neg (by decide)]
    refine ⟨1, 0, [], 6, 0, 0, 0, 0, 0, 0, 0, 0, 0, fun w => ?_, fun w p c hc hb => ?_, Or.inr rfl⟩
    · exact (encodeDinode_no m l s a b c d i j h w).mono fun e w' ⟨he, hb⟩ => ⟨_, 0, he, Nat.le_refl _, BI.none _ _, hb⟩
    · have := decodeDinode_ok p 0 c _ w hb hc
      rwa [hE, hV] at this
theorem entry_pair (N : Int) (s : ByteArray) (hs : s.size ≤ 140737488355328) : ∃ (er : Int) (n : Nat) (zs : List Int) (er2 N2 : Int) (s2 : ByteArray),
    (∀ w, Calls Try.prog 23 #[entV N s] w fun e w' => ∃ p c, e = .returned (.tuple #[.slice p n c, .int .i64 er]) ∧ BI w' p n zs ∧ Below w.heap.size w w') ∧
    (∀ w p c, BI w p n zs → Calls Try.prog 25 #[.slice p n c] w fun e w' => e = .returned (.tuple #[entV N2 s2, .int .i64 er2]) ∧ Below w.heap.size w w') ∧
    (er = 0 ∧ er2 = 0 ∧ N2 = N ∧ s2 = s ∨ er = 1) := by
  by_cases h : EMay N s
  · refine ⟨0, 16, entL N s, 0, N, s, fun w => encodeEntry_yes N s h w, fun w p c hb => ?_, Or.inl ⟨rfl, rfl, rfl, rfl⟩⟩
    have := decodeEntry_ok p 16 c _ w hb
    rwa [(entry_back h).1, (entry_back h).2] at this
  · have hE : deE 0 [] = 6 := by unfold deE; rw [if_pos (by omega)]
    have hV : deV 0 [] = entV 0 ent0 := by unfold deV; rw [hE, if_neg (by decide)]
    refine ⟨1, 0, [], 6, 0, ent0, fun w => ?_, fun w p c hb => ?_, Or.inr rfl⟩
    · exact (encodeEntry_no N s hs h w).mono fun e w' ⟨he, hb⟩ => ⟨_, 0, he, BI.none _ _, hb⟩
    · have := decodeEntry_ok p 0 c _ w hb
      rwa [hE, hV] at this

theorem wpList_neq_wanted {P : Program} {ops : Array Oper} {rest : List Oper} {o : Oper} {a : Act} {w : World} {Q : Exit → Act → World → Prop} (hwant : Region.wanted o (yielded ops a.tmps) = true) (t : TypeId) (x y : Operand) (ho : o.op = .binOp .neq t x y t)
    (A B : Array Value) (hx : a.eval x = .agg A) (hy : a.eval y = .agg B) (hg : P.eqGuardType P.depth t = false) (r : Bool) (hr : (Op.equalIn 10000 t (.agg A) (.agg B)).run P w = .ok r w)
    (h : wpList P ops Q rest (a.put o.dst (.bool (!r))) w) : wpList P ops Q (o :: rest) a w :=
  wpList_step fun K hK => by
    rw [if_pos hwant]
    unfold Oper.wp
    have h1 := run_eqGuard_agg (P := P) (w := w) BinOp.neq t x y A B hg
    have h2 := run_neq_struct (P := P) (w := w) t A B
    rw [hr] at h2
    simp [execOp, ho, hx, hy, h1, h2, Result.andThen]
    exact hK _ _ h

/-- The four structures as they came in. -/
structure Bk (w0 w : World) (So Go_ Do Eo : Obj) : Prop where
  s : w.heap[w0.heap.size]? = some So
  g : w.heap[w0.heap.size + 1]? = some Go_
  d : w.heap[w0.heap.size + 2]? = some Do
  e : w.heap[w0.heap.size + 3]? = some Eo
  b : Below w0.heap.size w0 w
theorem Bk.kept {w0 w w' : World} {So Go_ Do Eo : Obj} (h : Bk w0 w So Go_ Do Eo) (hb : Below w.heap.size w w') : Bk w0 w' So Go_ Do Eo :=
  ⟨(hb.block _ (Array.getElem?_eq_some_iff.1 h.s).1).trans h.s, (hb.block _ (Array.getElem?_eq_some_iff.1 h.g).1).trans h.g, (hb.block _ (Array.getElem?_eq_some_iff.1 h.d).1).trans h.d, (hb.block _ (Array.getElem?_eq_some_iff.1 h.e).1).trans h.e, grew_trans h.b hb⟩
theorem bk_mk (w : World) (So Go_ Do Eo : Obj) : Bk w ((((w.alloc So).alloc Go_).alloc Do).alloc Eo) So Go_ Do Eo := by
  have h1 := heap_new w So
  have h2 := heap_new (w.alloc So) Go_
  have h3 := heap_new ((w.alloc So).alloc Go_) Do
  have h4 := heap_new (((w.alloc So).alloc Go_).alloc Do) Eo
  simp only [size_alloc] at h2 h3 h4
  refine ⟨?_, ?_, ?_, ?_, grew_trans (grew_trans (grew_trans (grew_alloc _ _) (grew_alloc _ _)) (grew_alloc _ _)) (grew_alloc _ _)⟩
  · rw [Below.heap_alloc _ _ _ (by simp only [size_alloc]; omega), Below.heap_alloc _ _ _ (by simp only [size_alloc]; omega), Below.heap_alloc _ _ _ (by simp only [size_alloc]; omega)]; exact h1
  · rw [Below.heap_alloc _ _ _ (by simp only [size_alloc]; omega), Below.heap_alloc _ _ _ (by simp only [size_alloc]; omega)]; exact h2
  · rw [Below.heap_alloc _ _ _ (by simp only [size_alloc]; omega)]; exact h3
  · exact h4

set_option maxRecDepth 10000 in
set_option maxHeartbeats 2000000 in
theorem layoutBack_walk (G B I M : Int) (N : Int) (ys : List Int) (hl : ys.length = 40) (hy : Num.Byt ys) (m l s a b c d i j : Int) (E : Int) (t : ByteArray) (ht : t.size ≤ 140737488355328) (w : World) :
    Calls Try.prog 8 #[superV G B I M, groupV N ys, dinV m l s a b c d i j, entV E t] w fun e w' => e = .returned (.bool true) ∧ Below w.heap.size w w' := by
  have hk := bk_mk w (superO G B I M) (groupO N ys) (dinO m l s a b c d i j) (entO E t)
  obtain ⟨er, n, zs, er2, G2, B2, I2, M2, s1, s2, s3, hs⟩ := super_pair G B I M
  have hks := hk.s
  go_enter Try.func8, Try.ntmps8
  go_upto_region 5 with (first
    | (refine wpList_load_row rfl 25 (.tmp 4) rfl w.heap.size rfl 25 _ (0, 0) _ hks Try.underlying25 rfl (by kernel_rfl) ?_)
    | (go_at_call 9; refine Calls.mono (s1 _) ?_; rintro e w1 ⟨p1, q1, rfl, hq1, b1, hb⟩; have hk := hk.kept hb; have hks := hk.s; clear hb)
    | (go_at_call 10; refine Calls.mono (s2 _) ?_; rintro e w2 ⟨p2, q2, rfl, hb⟩; have hk := hk.kept hb; have b1 := b1.kept hb; clear hb))
  go_upto_region 6 with (first
    | (go_at_call 12; refine grew_at (s3 _ _ _ hq1 b1) ?_; intro w3 hb; have hk := hk.kept hb; clear hb))
  have hb := grew_alloc w3 (superO G2 B2 I2 M2)
  have hx := heap_new w3 (superO G2 B2 I2 M2)
  have hk := hk.kept hb
  generalize w3.alloc (superO G2 B2 I2 M2) = w4 at *
  generalize w3.heap.size = x1 at *
  have hks := hk.s
  clear hb s1 s2 s3 b1 hq1
  go_cut [52] (fun v wx => v = .bool false ∧ wx = w4)
  case first =>
    rcases hs with ⟨rfl, rfl, rfl, rfl, rfl, rfl⟩ | rfl
    · go_wp2_with (first
        | (refine wpList_load_wanted (by rfl) 25 (.tmp 13) rfl x1 rfl 25 _ (0, 0) _ hx Try.underlying25 rfl info25 ?_)
        | (refine wpList_load_wanted (by rfl) 25 (.tmp 4) rfl w.heap.size rfl 25 _ (0, 0) _ hks Try.underlying25 rfl info25 ?_))
      go_meet
      case rel => exact ⟨rfl, rfl⟩
    · go_wp2_with fail
      go_meet
      case rel => exact ⟨rfl, rfl⟩
  case rest =>
    obtain ⟨rfl, rfl⟩ := hcut
    clear hs hx hks
    obtain ⟨er, n, zs, er2, N2, y2, hl2, hy2, s1, s3, hs⟩ := group_pair N ys hl hy
    have hkg := hk.g
    have hin := info38 N ys hl
    have hi2 := info38 N2 y2 hl2
    have ho2 := group_one N2 y2
    have hs2 := (groupA_size 0 (zers 40) (zers_len 40)).trans (groupA_size N2 y2 hl2).symm
    rw [zero38] at hs2
    go_upto_region 10 with (first
      | (refine wpList_load_row rfl 38 (.tmp 5) rfl (w.heap.size + 1) rfl 38 _ (0, 0) _ hkg Try.underlying38 rfl hin ?_)
      | (go_at_call 15; refine Calls.mono (s1 _) ?_; rintro e w1 ⟨p1, q1, rfl, hq1, b1, hb⟩; have hk := hk.kept hb; clear hb)
      | (go_at_call 17; refine grew_at (s3 _ _ _ hq1 b1) ?_; intro w3 hb; have hk := hk.kept hb; clear hb)
      | (refine wpList_store_row rfl 38 (.tmp 16) (.tmp 61) rfl w3.heap.size _ rfl rfl 38 _ (heap_new w3 _) hi2 hs2 ho2 ?_))
    rw [← zero38]
    obtain ⟨hb, hx⟩ := made38 w3 (groupA N2 y2)
    have hk := hk.kept hb
    generalize (w3.alloc (groupO 0 (zers 40))).setRow w3.heap.size (groupA N2 y2) = w4 at *
    generalize w3.heap.size = x2 at *
    have hkg := hk.g
    clear hb s1 s3 b1 hq1
    go_cut [73] (fun v wx => v = .bool false ∧ wx = w4)
    case first =>
      rcases hs with ⟨rfl, rfl, rfl, rfl, hN⟩ | rfl
      · have heq := eq_group N2 (by unfold GMay at hN; omega) y2 hl2 hy2
        go_wp2_with (first
          | (refine wpList_load_wanted (by rfl) 38 (.tmp 16) rfl x2 rfl 38 _ (0, 0) _ hx Try.underlying38 rfl hi2 ?_)
          | (refine wpList_load_wanted (by rfl) 38 (.tmp 5) rfl (w.heap.size + 1) rfl 38 _ (0, 0) _ hkg Try.underlying38 rfl hi2 ?_)
          | (refine wpList_neq_wanted (by rfl) 38 (.tmp 69) (.tmp 70) rfl (groupA N2 y2) (groupA N2 y2) rfl rfl guard38 true (heq _) ?_))
        go_meet
        case rel => exact ⟨rfl, rfl⟩
      · go_wp2_with fail
        go_meet
        case rel => exact ⟨rfl, rfl⟩
    case rest =>
      obtain ⟨rfl, rfl⟩ := hcut
      clear hs hx hkg hin hi2 ho2 hs2
      obtain ⟨er, n, zs, er2, m2, l2, s2, a2, b2, c2, d2, i2, j2, s1, s3, hs⟩ := dinode_pair m l s a b c d i j
      have hkd := hk.d
      go_upto_region 14 with (first
        | (refine wpList_load_row rfl 45 (.tmp 6) rfl (w.heap.size + 2) rfl 45 _ (0, 0) _ hkd Try.underlying45 rfl info45 ?_)
        | (go_at_call 19; refine Calls.mono (s1 _) ?_; rintro e w1 ⟨p1, q1, rfl, hq1, b1, hb⟩; have hk := hk.kept hb; clear hb)
        | (go_at_call 21; refine grew_at (s3 _ _ _ hq1 b1) ?_; intro w3 hb; have hk := hk.kept hb; clear hb))
      have hb := grew_alloc w3 (dinO m2 l2 s2 a2 b2 c2 d2 i2 j2)
      have hx := heap_new w3 (dinO m2 l2 s2 a2 b2 c2 d2 i2 j2)
      have hk := hk.kept hb
      generalize w3.alloc (dinO m2 l2 s2 a2 b2 c2 d2 i2 j2) = w4 at *
      generalize w3.heap.size = x3 at *
      have hkd := hk.d
      clear hb s1 s3 b1 hq1
      go_cut [94] (fun v wx => v = .bool false ∧ wx = w4)
      case first =>
        rcases hs with ⟨rfl, rfl, rfl, rfl, rfl, rfl, rfl, rfl, rfl, rfl, rfl⟩ | rfl
        · have heq := eq45_same m2 l2 s2 a2 b2 c2 d2 i2 j2
          go_wp2_with (first
            | (refine wpList_load_wanted (by rfl) 45 (.tmp 19) rfl x3 rfl 45 _ (0, 0) _ hx Try.underlying45 rfl info45 ?_)
            | (refine wpList_load_wanted (by rfl) 45 (.tmp 6) rfl (w.heap.size + 2) rfl 45 _ (0, 0) _ hkd Try.underlying45 rfl info45 ?_)
            | (refine wpList_neq_wanted (by rfl) 45 (.tmp 90) (.tmp 91) rfl _ _ rfl rfl guard45 true (heq _) ?_))
          go_meet
          case rel => exact ⟨rfl, rfl⟩
        · go_wp2_with fail
          go_meet
          case rel => exact ⟨rfl, rfl⟩
      case rest =>
        obtain ⟨rfl, rfl⟩ := hcut
        clear hs hx hkd
        obtain ⟨er, n, zs, er2, E2, t2, s1, s3, hs⟩ := entry_pair E t ht
        have hke := hk.e
        go_upto_region 18 with (first
          | (refine wpList_load_row rfl 51 (.tmp 7) rfl (w.heap.size + 3) rfl 51 _ (0, 0) _ hke Try.underlying51 rfl info51 ?_)
          | (go_at_call 23; refine Calls.mono (s1 _) ?_; rintro e w1 ⟨p1, q1, rfl, b1, hb⟩; have hk := hk.kept hb; clear hb)
          | (go_at_call 25; refine grew_at (s3 _ _ _ b1) ?_; intro w3 hb; have hk := hk.kept hb; clear hb))
        have hb := grew_alloc w3 (entO E2 t2)
        have hx := heap_new w3 (entO E2 t2)
        have hk := hk.kept hb
        generalize w3.alloc (entO E2 t2) = w4 at *
        generalize w3.heap.size = x4 at *
        have hke := hk.e
        have hkb := hk.b
        clear hb s1 s3 b1
        rcases hs with ⟨rfl, rfl, rfl, rfl⟩ | rfl
        · go_wp2_with (first
            | (refine wpList_load_wanted (by rfl) 51 (.tmp 22) rfl x4 rfl 51 _ (0, 0) _ hx Try.underlying51 rfl info51 ?_)
            | (refine wpList_load_wanted (by rfl) 51 (.tmp 7) rfl (w.heap.size + 3) rfl 51 _ (0, 0) _ hke Try.underlying51 rfl info51 ?_))
          go_ret
          exact ⟨rfl, hkb⟩
        · go_wp2_with fail
          go_ret
          exact ⟨rfl, hkb⟩
end Go.Proofs.Ytkmijjipnepnoaa
