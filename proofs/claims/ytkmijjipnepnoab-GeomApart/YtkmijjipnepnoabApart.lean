/- Blocks of a geometry, as numbers: which are superblocks, headers and data, and in which inodes lie. -/
import Derived.Test.YtkmijjipnepnoabGeomC
namespace Go.Proofs.Ytkmijjipnepnoab
open Go.RowKit
set_option linter.unusedVariables false

namespace Ap
/-- A superblock, a header or a block of data of one of the first n groups. -/
def Base (B c n j : Nat) : Prop := j / B < n ∧ (j % B < 2 ∨ c ≤ j % B)
def blk (B I i : Nat) : Nat := i / I * B + 2 + i % I / 4
def off (I i : Nat) : Nat := i % I % 4 * 32

theorem div_at {B q r : Nat} (h : r < B) : (q * B + r) / B = q := by
  rw [Nat.mul_comm, Nat.mul_add_div (by omega), Nat.div_eq_of_lt h, Nat.add_zero]
theorem mod_at {B q r : Nat} (h : r < B) : (q * B + r) % B = r := by
  rw [Nat.mul_comm, Nat.mul_add_mod, Nat.mod_eq_of_lt h]
theorem split (B j : Nat) : j / B * B + j % B = j := Nat.div_add_mod' j B

theorem base_step {B c n : Nat} (hB : 8 ≤ B) (hc0 : 2 ≤ c) (hc : c < B) (j : Nat) :
    ((Base B c n j ∨ j = n * B) ∨ j = n * B + 1) ∨ (∃ t, t < B - c ∧ j = n * B + c + t) ↔ Base B c (n + 1) j := by
  have hs := split B j
  have hr := Nat.mod_lt j (show 0 < B by omega)
  constructor
  · rintro (((h | h) | h) | ⟨t, ht, h⟩)
    · exact ⟨by have := h.1; omega, h.2⟩
    · subst h
      have h1 := div_at (q := n) (r := 0) (show 0 < B by omega)
      have h2 := mod_at (q := n) (r := 0) (show 0 < B by omega)
      rw [Nat.add_zero] at h1 h2
      exact ⟨by rw [h1]; omega, .inl (by rw [h2]; omega)⟩
    · subst h
      exact ⟨by rw [div_at (by omega)]; omega, .inl (by rw [mod_at (by omega)]; omega)⟩
    · subst h
      rw [Nat.add_assoc]
      exact ⟨by rw [div_at (by omega)]; omega, .inr (by rw [mod_at (by omega)]; omega)⟩
  · rintro ⟨h1, h2⟩
    by_cases h3 : j / B < n
    · exact .inl (.inl (.inl ⟨h3, h2⟩))
    · have h4 : j / B = n := by omega
      rw [h4] at hs
      rcases h2 with h2 | h2
      · by_cases h5 : j % B = 0
        · exact .inl (.inl (.inr (by omega)))
        · exact .inl (.inr (by omega))
      · exact .inr ⟨j % B - c, by omega, by omega⟩

theorem not_base {B c n j : Nat} (hB : 8 ≤ B) (h : n * B ≤ j) : ¬ Base B c n j := by
  rintro ⟨h1, _⟩
  have := (Nat.le_div_iff_mul_le (show 0 < B by omega)).2 h
  omega

theorem in_all {G B n r : Nat} (hn : n < G) (hr : r < B) : n * B + r < G * B := by
  have : (n + 1) * B ≤ G * B := Nat.mul_le_mul_right B hn
  rw [Nat.succ_mul] at this
  omega

theorem blk_lt {G B I i : Nat} (hI : 4 ≤ I) (h4 : I % 4 = 0) (hB : 3 + I / 4 ≤ B) (hi : i < G * I) : i / I < G ∧ 2 + i % I / 4 < 2 + I / 4 ∧ blk B I i < G * B := by
  have h1 : i / I < G := Nat.div_lt_of_lt_mul (by rw [Nat.mul_comm]; exact hi)
  have h2 := Nat.mod_lt i (show 0 < I by omega)
  have h3 : i % I / 4 < I / 4 := by omega
  refine ⟨h1, by omega, ?_⟩
  unfold blk
  rw [Nat.add_assoc]
  exact in_all h1 (by omega)

theorem blk_div {G B I i : Nat} (hI : 4 ≤ I) (h4 : I % 4 = 0) (hB : 3 + I / 4 ≤ B) (hi : i < G * I) : blk B I i / B = i / I ∧ blk B I i % B = 2 + i % I / 4 := by
  obtain ⟨_, h2, _⟩ := blk_lt hI h4 hB hi
  unfold blk
  rw [Nat.add_assoc]
  exact ⟨div_at (by omega), mod_at (by omega)⟩

theorem blk_not {G B I i n : Nat} (hI : 4 ≤ I) (h4 : I % 4 = 0) (hB : 3 + I / 4 ≤ B) (hi : i < G * I) : ¬ Base B (2 + I / 4) n (blk B I i) := by
  obtain ⟨_, h2, _⟩ := blk_lt hI h4 hB hi
  obtain ⟨_, h5⟩ := blk_div hI h4 hB hi
  rintro ⟨_, h⟩
  rw [h5] at h
  omega

theorem place_inj {G B I i j : Nat} (hI : 4 ≤ I) (h4 : I % 4 = 0) (hB : 3 + I / 4 ≤ B) (hi : i < G * I) (hj : j < G * I) (h1 : blk B I i = blk B I j) (h2 : off I i = off I j) : i = j := by
  obtain ⟨a1, a2⟩ := blk_div hI h4 hB hi
  obtain ⟨b1, b2⟩ := blk_div hI h4 hB hj
  rw [h1] at a1 a2
  unfold off at h2
  have e1 : i / I = j / I := by omega
  have e2 : i % I = j % I := by omega
  rw [← split I i, ← split I j, e1, e2]

theorem all_met {G B I : Nat} (hB8 : 8 ≤ B) (hI : 4 ≤ I) (h4 : I % 4 = 0) (hB : 3 + I / 4 ≤ B) {j : Nat} (hj : j < G * B) : Base B (2 + I / 4) G j ∨ ∃ i, i < G * I ∧ j = blk B I i := by
  have h1 : j / B < G := Nat.div_lt_of_lt_mul (by rw [Nat.mul_comm]; exact hj)
  by_cases h2 : j % B < 2 ∨ 2 + I / 4 ≤ j % B
  · exact .inl ⟨h1, h2⟩
  · right
    have h3 : 2 ≤ j % B ∧ j % B < 2 + I / 4 := by omega
    have h5 : (j % B - 2) * 4 < I := by omega
    refine ⟨j / B * I + (j % B - 2) * 4, in_all h1 h5, ?_⟩
    unfold blk
    rw [div_at h5, mod_at h5, Nat.mul_div_cancel _ (by decide)]
    have := split B j
    omega
end Ap
end Go.Proofs.Ytkmijjipnepnoab
