/- CA -/
import Derived.Test.YthdlpeejmmobmaaGreatAo32

namespace Go.Proofs.YthdlpeejmmobmaaGreat
open Go.RowKit Go.Maps
open Mk.Al (putY rowOf fN eN lo zc)
set_option maxRecDepth 100000
set_option linter.unusedVariables false

theorem row_updF {H : Nat → List Int} {n i k : Nat} (r bb : Bool) (hl : (H n).length = 40) : rowOf r (updH H n (putY r (H n) i bb) k) = if k = n then Mk.Bit.put (rowOf r (H n)) i bb else rowOf r (H k) := by
  unfold updH
  by_cases e : k = n
  · rw [if_pos e, if_pos e]; exact Mk.Al.row_put r hl i bb
  · rw [if_neg e, if_neg e]
theorem div_at {n i b : Nat} (hi : i < b) : (n * b + i) / b = n ∧ (n * b + i) % b = i := by
  refine ⟨?_, ?_⟩
  · rw [Nat.add_comm, Nat.add_mul_div_right _ _ (by omega), Nat.div_eq_of_lt hi]; omega
  · rw [Nat.add_comm, Nat.add_mul_mod_self_right, Nat.mod_eq_of_lt hi]
/-- The blocks of S are data, and given. -/
def Gvb (H : Nat → List Int) (G B Q : Nat) (S : Nat → Bool) : Prop := ∀ x, S x = true → x < G * B ∧ 2 + Q / 4 ≤ x % B ∧ Mk.Bit.on (rowOf false (H (x / B))) (x % B) = true
theorem gvb_new {H : Nat → List Int} {G B Q : Nat} : Gvb H G B Q (fun _ => false) := fun x hx => by cases hx
theorem gvb_give {H : Nat → List Int} {G B Q n i : Nat} {S : Nat → Bool} (hm : Mk.Gm.May (G : Int) B Q) (hl : (H n).length = 40) (hy : Mk.Num.Byt (H n)) (hn : n < G) (h : frs H false B Q n = some i) (hS : Gvb H G B Q S) :
    S (n * B + i) = false ∧ Gvb (updH H n (putY false (H n) i true)) G B Q (upd S (n * B + i) true) ∧ n * B + i < G * B ∧ 2 + Q / 4 ≤ (n * B + i) % B ∧ Mk.Bit.on (rowOf false (updH H n (putY false (H n) i true) ((n * B + i) / B))) ((n * B + i) % B) = true := by
  obtain ⟨h1, h2, h3⟩ := frs_some hm h
  have h1 : 2 + Q / 4 ≤ i := h1
  have h2 : i < B := h2
  have hfe := Mk.Al.fe_lt hm false n
  have hB8 : B ≤ 8 * 32 := hfe.2.1
  have hi : i / 8 < (rowOf false (H n)).length := by rw [Mk.Al.row_len false hl]; show i / 8 < 32; omega
  have hby := Mk.Al.row_byt false hy
  obtain ⟨d1, d2⟩ := div_at (n := n) h2
  have hlt : n * B + i < G * B := by
    have : (n + 1) * B ≤ G * B := Nat.mul_le_mul_right _ (by omega)
    rw [Nat.add_mul] at this
    omega
  have hon : Mk.Bit.on (rowOf false (updH H n (putY false (H n) i true) ((n * B + i) / B))) ((n * B + i) % B) = true := by
    rw [d1, d2, row_updF false true hl, if_pos rfl, Mk.Bit.put_on hby hi]
  refine ⟨?_, ?_, hlt, by rw [d2]; exact h1, hon⟩
  · cases hx : S (n * B + i) with
    | false => rfl
    | true =>
      have := (hS _ hx).2.2
      rw [d1, d2, h3] at this
      cases this
  · intro x hx
    unfold upd at hx
    by_cases e : x = n * B + i
    · subst e; exact ⟨hlt, by rw [d2]; exact h1, hon⟩
    · rw [if_neg e] at hx
      obtain ⟨a1, a2, a3⟩ := hS _ hx
      refine ⟨a1, a2, ?_⟩
      rw [row_updF false true hl]
      by_cases e2 : x / B = n
      · rw [if_pos e2, Mk.Bit.put_other hby hi true (fun e3 => e (by have := Nat.div_add_mod x B; rw [e2, e3, Nat.mul_comm] at this; omega))]
        rw [← e2]; exact a3
      · rw [if_neg e2]; exact a3
theorem gvb_take {H : Nat → List Int} {G B Q x : Nat} {S : Nat → Bool} (hm : Mk.Gm.May (G : Int) B Q) (hl : (H (x / B)).length = 40) (hy : Mk.Num.Byt (H (x / B))) (hx : S x = true) (hS : Gvb H G B Q S) :
    Gvb (updH H (x / B) (putY false (H (x / B)) (x % B) false)) G B Q (upd S x false) ∧ Mk.Bit.on (rowOf false (updH H (x / B) (putY false (H (x / B)) (x % B) false) (x / B))) (x % B) = false := by
  have hfe := Mk.Al.fe_lt hm false 0
  have hB8 : B ≤ 8 * 32 := hfe.2.1
  have hB0 : 0 < B := by have := hfe.1; have : fN false Q 0 < B := this; omega
  have hlt := Nat.mod_lt x hB0
  have hi : x % B / 8 < (rowOf false (H (x / B))).length := by rw [Mk.Al.row_len false hl]; show x % B / 8 < 32; omega
  have hby := Mk.Al.row_byt false hy
  refine ⟨?_, by rw [row_updF false false hl, if_pos rfl, Mk.Bit.put_on hby hi]⟩
  intro y hy'
  unfold upd at hy'
  by_cases e : y = x
  · rw [if_pos e] at hy'; cases hy'
  · rw [if_neg e] at hy'
    obtain ⟨a1, a2, a3⟩ := hS _ hy'
    refine ⟨a1, a2, ?_⟩
    rw [row_updF false false hl]
    by_cases e2 : y / B = x / B
    · rw [if_pos e2, Mk.Bit.put_other hby hi false (fun e3 => e (by have h5 := Nat.div_add_mod y B; have h6 := Nat.div_add_mod x B; rw [e2, e3] at h5; omega))]
      rw [← e2]; exact a3
    · rw [if_neg e2]; exact a3
/-- The least number below k of a set. -/
def lst (S : Nat → Bool) : Nat → Option Nat
  | 0 => none
  | k + 1 => match lst S k with
    | some x => some x
    | none => if S k then some k else none
def lstI (o : Option Nat) : Int := match o with | some x => (x : Int) | none => -1
theorem lst_some {S : Nat → Bool} : ∀ {k x}, lst S k = some x → x < k ∧ S x = true
  | 0, x, h => by cases h
  | k + 1, x, h => by
    simp only [lst] at h
    cases e : lst S k with
    | some y => rw [e] at h; cases h; have := lst_some e; exact ⟨by omega, this.2⟩
    | none =>
      rw [e] at h
      by_cases hs : S k = true
      · simp [hs] at h; subst h; exact ⟨by omega, hs⟩
      · simp [hs] at h
end Go.Proofs.YthdlpeejmmobmaaGreat
