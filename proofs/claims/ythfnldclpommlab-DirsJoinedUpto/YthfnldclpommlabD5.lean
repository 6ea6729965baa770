/- dirs: the entries of a block, without memory. -/
import Derived.Test.YthfnldclpommlabD4
namespace Go.Proofs.Ythfnldclpommlab
open Go.RowKit
set_option linter.unusedVariables false

/-- Sixteen of the bytes. -/
def chk (xs : List Int) (i : Nat) : List Int := (xs.drop (i * 16)).take 16
/-- The entry that they are. -/
def entA (xs : List Int) (i : Nat) : En := ⟨Num.numD (chk xs i) 0 2, nameD (chk xs i)⟩
/-- The first so many. -/
def ents (xs : List Int) (j : Nat) : List En := (List.range j).map (entA xs)
theorem ents_succ (xs : List Int) (j : Nat) : ents xs (j + 1) = ents xs j ++ [entA xs j] := by simp [ents, List.range_succ]
theorem ents_len (xs : List Int) (j : Nat) : (ents xs j).length = j := by simp [ents]

/-- Whether two have one name: from the last one on. -/
def clR : List En → Bool
  | [] => false
  | e :: r => clR r || (decide (e.n ≠ 0) && r.any (hit e.s))
def clB (E : List En) : Bool := clR E.reverse
theorem clB_snoc (E : List En) (e : En) : clB (E ++ [e]) = (clB E || (decide (e.n ≠ 0) && E.any (hit e.s))) := by
  simp [clB, clR]
theorem clB_nil : clB [] = false := rfl
theorem clB_mono (xs : List Int) (j : Nat) : ∀ k, clB (ents xs (j + k)) = false → clB (ents xs j) = false
  | 0, h => h
  | k + 1, h => by
    rw [show j + (k + 1) = j + k + 1 by omega, ents_succ, clB_snoc, Bool.or_eq_false_iff] at h
    exact clB_mono xs j k h.1

/-- The entries of a block, if it may be. -/
def mayB (n : Nat) (xs : List Int) : Prop := n = 128 ∧ (∀ i, i < 8 → EGood (chk xs i)) ∧ clB (ents xs 8) = false
instance (n : Nat) (xs : List Int) : Decidable (mayB n xs) := by unfold mayB; infer_instance
def ent00 : En := ⟨0, ⟨#[]⟩⟩
def dec8 (n : Nat) (xs : List Int) : List En := if mayB n xs then ents xs 8 else List.replicate 8 ent00

theorem egood_may {xs : List Int} (h : EGood xs) : EMay (Num.numD xs 0 2) (nameD xs) := h.1
theorem may_non {e : En} (h : EMay e.n e.s) (h0 : e.n = 0) : e.s = ⟨#[]⟩ := str_none (by rcases h with h | h <;> omega)
theorem idx_any (E : List En) (p : En → Bool) : E.findIdx? p = none ↔ E.any p = false := by
  rw [List.findIdx?_eq_none_iff, List.any_eq_false]
  simp

/-- A page while it is read. -/
def pgJ (xs : List Int) (j : Nat) : List En := ents xs j ++ List.replicate (8 - j) ent00
theorem pgJ_len (xs : List Int) {j : Nat} (h : j ≤ 8) : (pgJ xs j).length = 8 := by simp [pgJ, ents_len]; omega
theorem pgJ_set (xs : List Int) {j : Nat} (h : j < 8) : (pgJ xs j).set j (entA xs j) = pgJ xs (j + 1) := by
  unfold pgJ
  rw [List.set_append_right _ _ (by rw [ents_len]; omega), ents_len, Nat.sub_self, show 8 - j = (8 - (j + 1)) + 1 by omega, List.replicate_succ, List.set_cons_zero, ents_succ, List.append_assoc]
  rfl
theorem pgJ_any (xs : List Int) (j : Nat) (s : ByteArray) : (pgJ xs j).any (hit s) = (ents xs j).any (hit s) := by
  unfold pgJ
  rw [List.any_append]
  have : (List.replicate (8 - j) ent00).any (hit s) = false := by
    rw [List.any_eq_false]
    intro x hx
    rw [List.eq_of_mem_replicate hx]
    simp [hit, ent00]
  rw [this, Bool.or_false]
theorem pgJ_eight (xs : List Int) : pgJ xs 8 = ents xs 8 := by simp [pgJ]
theorem pgJ_zero (xs : List Int) : pgJ xs 0 = List.replicate 8 ent00 := by simp [pgJ, ents]
end Go.Proofs.Ythfnldclpommlab
