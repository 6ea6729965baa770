/- Numbers in bytes as plain lists of integers: the number that stands at a place, the list with a number put there, and that the one gives back the other. -/
import Derived.WalkKit
namespace Go.Proofs.Ytppipcjchlnolaa
set_option linter.unusedVariables false
namespace Num

def numD (xs : List Int) : Nat → Nat → Int
  | _, 0 => 0
  | a, k + 1 => xs.getD a 0 + 256 * numD xs (a + 1) k

def Byt (xs : List Int) : Prop := ∀ i, 0 ≤ xs.getD i 0 ∧ xs.getD i 0 < 256

theorem numD_snoc (xs : List Int) (k : Nat) : ∀ a, numD xs a (k + 1) = numD xs a k + xs.getD (a + k) 0 * 256 ^ k := by
  induction k with
  | zero => intro a; simp [numD]
  | succ k ih =>
    intro a
    have h1 : numD xs a (k + 1 + 1) = xs.getD a 0 + 256 * numD xs (a + 1) (k + 1) := rfl
    have h2 : numD xs a (k + 1) = xs.getD a 0 + 256 * numD xs (a + 1) k := rfl
    rw [h1, h2, ih (a + 1), Int.pow_succ, show a + 1 + k = a + (k + 1) from by omega]
    generalize xs.getD (a + (k + 1)) 0 = y
    generalize (256 : Int) ^ k = p
    have : y * (p * 256) = 256 * (y * p) := by rw [← Int.mul_assoc, Int.mul_comm]
    rw [this]; omega

theorem numD_bd {xs : List Int} (h : Byt xs) (k : Nat) : ∀ a, 0 ≤ numD xs a k ∧ numD xs a k < 256 ^ k := by
  induction k with
  | zero => intro a; simp [numD]
  | succ k ih =>
    intro a
    have h1 : numD xs a (k + 1) = xs.getD a 0 + 256 * numD xs (a + 1) k := rfl
    have h2 := ih (a + 1)
    have h3 := h a
    rw [h1, Int.pow_succ]
    generalize (256 : Int) ^ k = p at *
    omega

def putTo (xs : List Int) (a : Nat) (v : Int) : Nat → List Int
  | 0 => xs
  | k + 1 => (putTo xs a v k).set (a + k) (v / 256 ^ k % 256)

theorem putTo_length (xs : List Int) (a : Nat) (v : Int) (k : Nat) : (putTo xs a v k).length = xs.length := by
  induction k with
  | zero => rfl
  | succ k ih => simp [putTo, ih]

theorem getD_set (xs : List Int) (j i : Nat) (y : Int) : (xs.set j y).getD i 0 = if i = j ∧ j < xs.length then y else xs.getD i 0 := by
  simp only [List.getD_eq_getElem?_getD, List.getElem?_set]
  by_cases h : j = i
  · subst h
    by_cases hl : j < xs.length
    · simp [hl]
    · simp [hl]
  · have h' : ¬ i = j := fun e => h e.symm
    simp [h, h']

theorem putTo_byt {xs : List Int} (h : Byt xs) (a : Nat) (v : Int) (k : Nat) : Byt (putTo xs a v k) := by
  induction k with
  | zero => exact h
  | succ k ih =>
    intro i
    show 0 ≤ ((putTo xs a v k).set (a + k) (v / 256 ^ k % 256)).getD i 0 ∧ ((putTo xs a v k).set (a + k) (v / 256 ^ k % 256)).getD i 0 < 256
    rw [getD_set]
    split
    · omega
    · exact ih i

theorem putTo_out (xs : List Int) (a : Nat) (v : Int) (k : Nat) (i : Nat) (hi : i < a ∨ a + k ≤ i) : (putTo xs a v k).getD i 0 = xs.getD i 0 := by
  induction k with
  | zero => rfl
  | succ k ih =>
    show ((putTo xs a v k).set (a + k) (v / 256 ^ k % 256)).getD i 0 = _
    rw [getD_set, if_neg (by omega)]
    exact ih (by omega)

theorem putTo_in (xs : List Int) (a : Nat) (v : Int) (k : Nat) (hk : a + k ≤ xs.length) (i : Nat) (hi : i < k) : (putTo xs a v k).getD (a + i) 0 = v / 256 ^ i % 256 := by
  induction k with
  | zero => omega
  | succ k ih =>
    show ((putTo xs a v k).set (a + k) (v / 256 ^ k % 256)).getD (a + i) 0 = _
    rw [getD_set, putTo_length]
    by_cases e : i = k
    · subst e; rw [if_pos ⟨rfl, by omega⟩]
    · rw [if_neg (by omega)]; exact ih (by omega) (by omega)

theorem numD_congr {xs ys : List Int} (k : Nat) : ∀ a, (∀ i, i < k → xs.getD (a + i) 0 = ys.getD (a + i) 0) → numD xs a k = numD ys a k := by
  induction k with
  | zero => intro a _; rfl
  | succ k ih =>
    intro a h
    show xs.getD a 0 + 256 * numD xs (a + 1) k = ys.getD a 0 + 256 * numD ys (a + 1) k
    rw [ih (a + 1) (fun i hi => by rw [show a + 1 + i = a + (i + 1) from by omega]; exact h (i + 1) (by omega))]
    have := h 0 (by omega)
    simp only [Nat.add_zero] at this
    rw [this]

theorem numD_digits (ys : List Int) (v : Int) (k : Nat) (a : Nat) (h : ∀ i, i < k → ys.getD (a + i) 0 = v / 256 ^ i % 256) : numD ys a k = v % 256 ^ k := by
  induction k with
  | zero => simp [numD]
  | succ k ih =>
    rw [numD_snoc, ih (fun i hi => h i (by omega)), h k (by omega), Int.pow_succ]
    have hp : (0 : Int) < 256 ^ k := Int.pow_pos (by decide)
    generalize (256 : Int) ^ k = p at *
    have e1 := Int.emod_add_mul_ediv v p
    have e2 := Int.emod_add_mul_ediv (v / p) 256
    have e3 : v / (p * 256) = v / p / 256 := (Int.ediv_ediv_of_nonneg (by omega)).symm
    have e4 := Int.emod_add_mul_ediv v (p * 256)
    rw [e3] at e4
    generalize v / p / 256 = q2 at *
    generalize v / p % 256 = r2 at *
    generalize v / p = q1 at *
    generalize v % p = r1 at *
    generalize v % (p * 256) = r4 at *
    subst e2
    rw [Int.mul_add, ← Int.mul_assoc] at e1
    rw [Int.mul_comm r2 p]
    omega

theorem num_put (xs : List Int) (a : Nat) (v : Int) (k : Nat) (hk : a + k ≤ xs.length) (h0 : 0 ≤ v) (h1 : v < 256 ^ k) : numD (putTo xs a v k) a k = v := by
  rw [numD_digits _ v k a (fun i hi => putTo_in xs a v k hk i hi)]
  exact Int.emod_eq_of_lt h0 h1

theorem wraps_i64 (n : Int) (h0 : 0 ≤ n) (h1 : n < 2 ^ 40) : IntKind.i64.wrap n = n := by
  rw [IntKind.wrap_i64]; simp at h1; omega

theorem or_comm' (k : IntKind) (x y : Int) : bits .or k x y = bits .or k y x := by
  simp only [bits]
  rw [BitVec.or_comm]

theorem or_num (t x : Int) (j : Nat) (hj : j ≤ 3) (h0 : 0 ≤ t) (h1 : t < 256 ^ j) (hx0 : 0 ≤ x) (hx1 : x < 256) :
    bits BinOp.or IntKind.i64 t (RowKit.wrap64 (x * 2 ^ (8 * j))) = t + x * 256 ^ j := by
  have e : RowKit.wrap64 (x * 2 ^ (8 * j)) = x * 256 ^ j := by
    unfold RowKit.wrap64
    rcases (by omega : j = 0 ∨ j = 1 ∨ j = 2 ∨ j = 3) with rfl | rfl | rfl | rfl <;> simp <;> omega
  rw [e, or_comm']
  have := bits_join IntKind.i64 40 (by decide) wraps_i64 (8 * j) (x * 256 ^ j) t
    (by rcases (by omega : j = 0 ∨ j = 1 ∨ j = 2 ∨ j = 3) with rfl | rfl | rfl | rfl <;> simp <;> omega)
    (by rcases (by omega : j = 0 ∨ j = 1 ∨ j = 2 ∨ j = 3) with rfl | rfl | rfl | rfl <;> simp <;> omega)
    (by rcases (by omega : j = 0 ∨ j = 1 ∨ j = 2 ∨ j = 3) with rfl | rfl | rfl | rfl <;> simp <;> omega)
    h0
    (by rcases (by omega : j = 0 ∨ j = 1 ∨ j = 2 ∨ j = 3) with rfl | rfl | rfl | rfl <;> simp at h1 ⊢ <;> omega)
    (by rcases (by omega : j = 0 ∨ j = 1 ∨ j = 2 ∨ j = 3) with rfl | rfl | rfl | rfl <;> simp at h1 ⊢ <;> omega)
  rw [this, Int.add_comm]

theorem byt_of_wf {xs : List Int} (h : ∀ n ∈ xs, (Lit.int .u8 n).wf = true) : Byt xs := by
  intro i
  rw [List.getD_eq_getElem?_getD]
  by_cases hi : i < xs.length
  · rw [List.getElem?_eq_getElem hi]
    have := h _ (List.getElem_mem hi)
    simp [Lit.wf, IntKind.min, IntKind.max, IntKind.signed, IntKind.bits] at this
    simp only [Option.getD_some]
    omega
  · rw [List.getElem?_eq_none (by omega)]; simp

end Num
end Go.Proofs.Ytppipcjchlnolaa
