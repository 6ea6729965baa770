/- WordSealed: sealed bytes with one byte turned are not sealed, of up to a thousand, whatever the bytes are, and whichever byte is turned to whatever. -/
import Derived.Test.YtkmijjipnepnoabSums
namespace Go.Proofs.Ytkmijjipnepnoab
open Go.RowKit

namespace Num
theorem sum_congr {xs ys : List Int} (m : Nat) (h : ∀ i, i < m → xs.getD i 0 = ys.getD i 0) : ∀ k, k ≤ m → lo xs k = lo ys k ∧ hi xs k = hi ys k := by
  intro k
  induction k with
  | zero => intro _; exact ⟨rfl, rfl⟩
  | succ k ih =>
    intro hk
    obtain ⟨i1, i2⟩ := ih (by omega)
    have e : lo xs (k + 1) = lo ys (k + 1) := by
      show (lo xs k + xs.getD k 0) % 65521 = (lo ys k + ys.getD k 0) % 65521
      rw [i1, h k (by omega)]
    refine ⟨e, ?_⟩
    show (hi xs k + lo xs (k + 1)) % 65521 = (hi ys k + lo ys (k + 1)) % 65521
    rw [i2, e]

theorem sum_same {xs ys : List Int} (m : Nat) (h : ∀ i, i < m → xs.getD i 0 = ys.getD i 0) : sum xs m = sum ys m := by
  obtain ⟨h1, h2⟩ := sum_congr m h m (Nat.le_refl _)
  unfold sum
  rw [h1, h2]

/-- One byte among the first m is another: the low half of the sum is another. -/
theorem lo_turn {xs ys : List Int} (i : Nat) (d : Int) (hd : ys.getD i 0 = xs.getD i 0 + d) (h : ∀ j, j ≠ i → ys.getD j 0 = xs.getD j 0) : ∀ m, i < m → (lo ys m - lo xs m - d) % 65521 = 0 := by
  intro m
  induction m with
  | zero => intro h; omega
  | succ m ih =>
    intro hm
    have e1 : lo ys (m + 1) = (lo ys m + ys.getD m 0) % 65521 := rfl
    have e2 : lo xs (m + 1) = (lo xs m + xs.getD m 0) % 65521 := rfl
    by_cases e : i = m
    · subst e
      have e3 : lo ys i = lo xs i := (sum_congr (xs := ys) (ys := xs) i (fun j hj => h j (by omega)) i (Nat.le_refl _)).1
      rw [e1, e2, hd, e3]
      omega
    · have := ih (by omega)
      rw [e1, e2, h m (by omega)]
      omega

theorem sum_turn {xs ys : List Int} (i m : Nat) (d : Int) (hi : i < m) (hd : ys.getD i 0 = xs.getD i 0 + d) (h0 : d ≠ 0) (h1 : -256 < d) (h2 : d < 256) (h : ∀ j, j ≠ i → ys.getD j 0 = xs.getD j 0) : sum ys m ≠ sum xs m := by
  have ht := lo_turn i d hd h m hi
  have b1 := lo_bd xs m
  have b2 := lo_bd ys m
  intro e
  unfold sum at e
  omega

/-- One byte of a number is another: the number is another. -/
theorem num_turn {xs ys : List Int} (hx : Byt xs) (hy : Byt ys) (k : Nat) : ∀ a i, a ≤ i → i < a + k → ys.getD i 0 ≠ xs.getD i 0 → numD ys a k ≠ numD xs a k := by
  induction k with
  | zero => intro a i h1 h2; omega
  | succ k ih =>
    intro a i h1 h2 hne e
    have e1 : numD ys a (k + 1) = ys.getD a 0 + 256 * numD ys (a + 1) k := rfl
    have e2 : numD xs a (k + 1) = xs.getD a 0 + 256 * numD xs (a + 1) k := rfl
    have b1 := hx a
    have b2 := hy a
    by_cases e3 : i = a
    · subst e3
      omega
    · have := ih (a + 1) i (by omega) (by omega) hne
      omega

end Num

/-- Sealed bytes are sealed. -/
theorem seal_seals (xs : List Int) (n : Nat) (hn : 4 ≤ n) (hl : xs.length = n) :
    (Num.numD (Num.putTo xs (n - 4) (Num.sum xs (n - 4)) 4) (n - 4) 4 == Num.sum (Num.putTo xs (n - 4) (Num.sum xs (n - 4)) 4) (n - 4)) = true := by
  have hs := Num.sum_bd xs (n - 4)
  rw [Num.num_put xs (n - 4) _ 4 (by omega) hs.1 (by simpa using hs.2), Num.sum_same (n - 4) (fun i hi => Num.putTo_out xs (n - 4) (Num.sum xs (n - 4)) 4 i (by omega))]
  simp

/-- With one byte turned they are not. -/
theorem turned (zs : List Int) (n i : Nat) (y : Int) (hn : 4 ≤ n) (hl : zs.length = n) (hi : i < n) (hz : Num.Byt zs) (hy0 : 0 ≤ y) (hy1 : y < 256) (hne : y ≠ zs.getD i 0)
    (h : (Num.numD zs (n - 4) 4 == Num.sum zs (n - 4)) = true) : (Num.numD (zs.set i y) (n - 4) 4 == Num.sum (zs.set i y) (n - 4)) = false := by
  rw [beq_iff_eq] at h
  rw [beq_eq_false_iff_ne]
  have hset : ∀ j, (zs.set i y).getD j 0 = if j = i then y else zs.getD j 0 := by
    intro j
    rw [Num.getD_set]
    by_cases e : j = i
    · rw [if_pos ⟨e, by omega⟩, if_pos e]
    · rw [if_neg (by omega), if_neg e]
  have hb : Num.Byt (zs.set i y) := by
    intro j
    rw [hset]
    split
    · omega
    · exact hz j
  have hzi := hz i
  by_cases hlt : i < n - 4
  · have e1 : Num.numD (zs.set i y) (n - 4) 4 = Num.numD zs (n - 4) 4 := Num.numD_congr 4 (n - 4) (fun j _ => by rw [hset, if_neg (by omega)])
    have e2 := Num.sum_turn (xs := zs) (ys := zs.set i y) i (n - 4) (y - zs.getD i 0) hlt (by rw [hset, if_pos rfl]; omega) (by omega) (by omega) (by omega) (fun j hj => by rw [hset, if_neg hj])
    rw [e1, h]
    exact fun e => e2 e.symm
  · have e1 : Num.sum (zs.set i y) (n - 4) = Num.sum zs (n - 4) := Num.sum_same (n - 4) (fun j hj => by rw [hset, if_neg (by omega)])
    have e2 := Num.num_turn (xs := zs) (ys := zs.set i y) hz hb 4 (n - 4) i (by omega) (by omega) (by rw [hset, if_pos rfl]; exact hne)
    rw [e1, ← h]
    exact e2

theorem wrap_u64_bd (k : Int) : 0 ≤ IntKind.u64.wrap k := by
  simp [IntKind.wrap, IntKind.bits, IntKind.signed]
  omega

theorem tmod_nat (k : Int) (n : Nat) (hn : 0 < n) : ∃ i : Nat, i < n ∧ (IntKind.u64.wrap k).tmod (n : Int) = (i : Int) := by
  have h0 := wrap_u64_bd k
  rw [Int.tmod_eq_emod_of_nonneg h0]
  generalize IntKind.u64.wrap k = u at *
  refine ⟨(u % (n : Int)).toNat, ?_, ?_⟩
  · have := Int.emod_lt_of_pos u (show (0 : Int) < n by omega)
    omega
  · have := Int.emod_nonneg u (show (n : Int) ≠ 0 by omega)
    omega

theorem xor_turns (z d : Int) (hz0 : 0 ≤ z) (hz1 : z < 256) (hd0 : 1 ≤ d) (hd1 : d < 256) : 0 ≤ bits BinOp.xor IntKind.u8 z d ∧ bits BinOp.xor IntKind.u8 z d < 256 ∧ bits BinOp.xor IntKind.u8 z d ≠ z := by
  rw [u8_xor z d hz0 hz1 (by omega) hd1]
  have hb : z.toNat ^^^ d.toNat < 2 ^ 8 := Nat.xor_lt_two_pow (by omega) (by omega)
  refine ⟨by omega, by omega, fun e => ?_⟩
  have e1 : z.toNat ^^^ d.toNat = z.toNat := by omega
  have e2 : z.toNat ^^^ (z.toNat ^^^ d.toNat) = z.toNat ^^^ z.toNat := by rw [e1]
  rw [← Nat.xor_assoc, Nat.xor_self, Nat.zero_xor] at e2
  omega

end Go.Proofs.Ytkmijjipnepnoab
