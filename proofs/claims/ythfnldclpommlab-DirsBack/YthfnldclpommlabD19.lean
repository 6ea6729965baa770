/- dirs: what was written is read. -/
import Derived.Test.YthfnldclpommlabD18
namespace Go.Proofs.Ythfnldclpommlab
open Go.RowKit
set_option linter.unusedVariables false

theorem Num.numD_congr {xs ys : List Int} (k : Nat) : ∀ a, (∀ i, i < k → xs.getD (a + i) 0 = ys.getD (a + i) 0) → Num.numD xs a k = Num.numD ys a k := by
  induction k with
  | zero => intro a _; rfl
  | succ k ih =>
    intro a h
    show xs.getD a 0 + 256 * Num.numD xs (a + 1) k = ys.getD a 0 + 256 * Num.numD ys (a + 1) k
    rw [ih (a + 1) (fun i hi => by rw [show a + 1 + i = a + (i + 1) from by omega]; exact h (i + 1) (by omega))]
    have := h 0 (by omega)
    simp only [Nat.add_zero] at this
    rw [this]
theorem num_out (xs : List Int) (b m : Nat) (v : Int) (a k : Nat) (h : a + k ≤ b ∨ b + m ≤ a) : Num.numD (Num.putTo xs b v m) a k = Num.numD xs a k :=
  Num.numD_congr k a fun i hi => Num.putTo_out xs b v m (a + i) (by omega)
theorem nums_back (s : ByteArray) : strOfNums (numsOf s) = s := by
  unfold strOfNums numsOf
  have e : ((fun n : Int => UInt8.ofNat n.toNat) ∘ fun b : UInt8 => (b.toNat : Int)) = id := by
    funext b
    simp
  rw [List.map_map, e, List.map_id]
theorem entL_back {N : Int} {s : ByteArray} (h : EMay N s) : EGood (entL N s) ∧ Num.numD (entL N s) 0 2 = N ∧ nameD (entL N s) = s := by
  have hs := emay_size h
  have hn := emay_ino h
  have hl : (Num.putTo (Num.putTo (zers 16) 0 N 2) 2 (s.size : Int) 1).length = 16 := by rw [Num.putTo_length, Num.putTo_length, zers_len]
  have hfit : 3 + (numsOf s).length ≤ (Num.putTo (Num.putTo (zers 16) 0 N 2) 2 (s.size : Int) 1).length := by rw [hl, numsOf_len]; omega
  have hN : Num.numD (entL N s) 0 2 = N := by
    have : Num.numD (entL N s) 0 2 = Num.numD (Num.putTo (Num.putTo (zers 16) 0 N 2) 2 (s.size : Int) 1) 0 2 := Num.numD_congr 2 0 fun i hi => by
      unfold entL
      rw [getD_splice _ _ _ hfit, if_pos (by omega)]
    rw [this, num_out _ _ _ _ _ _ (by omega)]
    exact Num.num_put _ _ _ _ (by rw [zers_len]; omega) hn.1 (by omega)
  have hS : nameD (entL N s) = s := by
    unfold nameD
    rw [entL_len_byte N s hs, if_pos (by omega), Int.toNat_natCast]
    have : ((entL N s).drop 3).take s.size = numsOf s := by
      apply ext_getD
      · rw [List.length_take, List.length_drop, entL_len N s hs, numsOf_len]; omega
      · intro i hi
        have hi : i < s.size := by rw [List.length_take] at hi; omega
        rw [getD_take _ _ _ hi, getD_drop']
        unfold entL
        rw [getD_splice _ _ _ hfit, if_neg (by omega), if_pos (by rw [numsOf_len]; omega)]
        congr 1
        omega
    rw [this, nums_back]
  have hG : EGood (entL N s) := by
    unfold EGood
    rw [hN, hS]
    exact ⟨h, rfl⟩
  exact ⟨hG, hN, hS⟩

theorem encL_chk : ∀ (P : List En) (i : Nat) (e : En), (∀ e ∈ P, EMay e.n e.s) → P[i]? = some e → chk (encL P) i = entL e.n e.s
  | [], i, e, _, h => by simp at h
  | x :: l, 0, e, hm, h => by
    simp at h
    subst h
    have hl := entL_len x.n x.s (emay_size (hm x List.mem_cons_self))
    unfold chk encL
    rw [List.flatMap_cons, Nat.zero_mul, List.drop_zero, List.take_left' hl]
  | x :: l, i + 1, e, hm, h => by
    have hl := entL_len x.n x.s (emay_size (hm x List.mem_cons_self))
    have ih := encL_chk l i e (fun y hy => hm y (List.mem_cons_of_mem _ hy)) (by simpa using h)
    unfold chk encL at *
    rw [List.flatMap_cons, show (i + 1) * 16 = (entL x.n x.s).length + i * 16 by omega, List.drop_length_add_append]
    exact ih
theorem enc_ent {P : List En} (hm : ∀ e ∈ P, EMay e.n e.s) {i : Nat} {e : En} (h : P[i]? = some e) : EGood (chk (encL P) i) ∧ entA (encL P) i = e := by
  have hc := encL_chk P i e hm h
  obtain ⟨h1, h2, h3⟩ := entL_back (hm e (List.mem_of_getElem? h))
  unfold entA
  rw [hc, h2, h3]
  exact ⟨h1, rfl⟩
theorem enc_ents {P : List En} (hm : ∀ e ∈ P, EMay e.n e.s) (hl : P.length = 8) : ents (encL P) 8 = P := by
  apply List.ext_getElem?
  intro i
  by_cases hi : i < 8
  · obtain ⟨e, he⟩ : ∃ e, P[i]? = some e := ⟨_, List.getElem?_eq_getElem (by omega)⟩
    rw [he]
    unfold ents
    rw [List.getElem?_map, List.getElem?_range hi]
    simp [(enc_ent hm he).2]
  · rw [List.getElem?_eq_none (by rw [ents_len]; omega), List.getElem?_eq_none (by omega)]
theorem enc_may {P : List En} (hm : ∀ e ∈ P, EMay e.n e.s) (hl : P.length = 8) (hc : clB P = false) : mayB 128 (encL P) := by
  refine ⟨rfl, fun i hi => ?_, by rw [enc_ents hm hl]; exact hc⟩
  obtain ⟨e, he⟩ : ∃ e, P[i]? = some e := ⟨_, List.getElem?_eq_getElem (by omega)⟩
  exact (enc_ent hm he).1
theorem clB_pad {L : List En} (h : clB L = false) : clB (pad L) = false := by
  rw [clB_iff] at h ⊢
  intro i j e x hij he hx h0
  have key : ∀ (k : Nat) (y : En), (pad L)[k]? = some y → y.n ≠ 0 → L[k]? = some y := fun k y hy hy0 => by
    unfold pad at hy
    rw [List.getElem?_append] at hy
    split at hy
    · exact hy
    · have := List.eq_of_mem_replicate (List.mem_of_getElem? hy)
      subst this
      exact absurd rfl hy0
  by_cases hx0 : x.n = 0
  · simp [hit, hx0]
  · exact h i j e x hij (key i e he h0) (key j x hx hx0) h0
theorem back_may {L : List En} (h : mayE L) : mayB 128 (encL (pad L)) := enc_may (pad_may h.2.2) (pad_len h.1) (clB_pad h.2.1)
theorem back_El {L : List En} (h : mayE L) : El 128 (encL (pad L)) = pad L := by
  unfold El
  rw [if_pos (back_may h), enc_ents (pad_may h.2.2) (pad_len h.1)]
theorem back_dec {L : List En} (h : mayE L) : dec8 128 (encL (pad L)) = pad L := by
  rw [← El_yes (back_may h), back_El h]
end Go.Proofs.Ythfnldclpommlab
