/- dirs: a block with an entry more, or less, has no clash. -/
import Derived.Test.YthfnldclpommlabD12
namespace Go.Proofs.Ythfnldclpommlab
open Go.RowKit
set_option linter.unusedVariables false

theorem clB_iff (L : List En) : clB L = false ↔ ∀ (i j : Nat) (e x : En), j < i → L[i]? = some e → L[j]? = some x → e.n ≠ 0 → hit e.s x = false := by
  constructor
  · intro h i j e x hij he hx h0
    cases hh : hit e.s x with
    | false => rfl
    | true => rw [clB_hit he hx hij h0 hh] at h; cases h
  · intro h
    have key : ∀ j, j ≤ L.length → clB (L.take j) = false := fun j => by
      induction j with
      | zero => intro _; rfl
      | succ j ih =>
        intro hj
        obtain ⟨e, he⟩ : ∃ e, L[j]? = some e := ⟨_, List.getElem?_eq_getElem (by omega)⟩
        rw [List.take_add_one, he]
        show clB (L.take j ++ [e]) = false
        rw [clB_snoc, ih (by omega), Bool.false_or]
        by_cases h0 : e.n = 0
        · rw [decide_eq_false (by simpa using h0)]; rfl
        · rw [decide_eq_true h0, Bool.true_and, List.any_eq_false]
          intro x hx
          obtain ⟨k, hk, hxk⟩ := List.mem_iff_getElem.1 hx
          rw [List.length_take] at hk
          have := h j k e x (by omega) he (by rw [List.getElem_take] at hxk; rw [List.getElem?_eq_getElem (by omega), hxk]) h0
          rw [this]
          simp
    have := key L.length (Nat.le_refl _)
    rwa [List.take_length] at this

theorem clB_set {L : List En} {k : Nat} {e : En} (h : clB L = false) (ha : e.n ≠ 0 → L.any (hit e.s) = false) : clB (L.set k e) = false := by
  rw [clB_iff] at h ⊢
  intro i j y x hij hy hx h0
  rw [List.getElem?_set] at hy hx
  have hnot : e.n ≠ 0 → ∀ {z : En} {m : Nat}, L[m]? = some z → hit e.s z = false := fun he0 z m hz => by
    have h1 := List.any_eq_false.1 (ha he0) z (List.mem_of_getElem? hz)
    simpa using h1
  by_cases e1 : k = i
  · rw [if_pos e1] at hy
    split at hy
    · injection hy with hy
      subst hy
      rw [if_neg (by omega)] at hx
      exact hnot h0 hx
    · cases hy
  · rw [if_neg e1] at hy
    by_cases e2 : k = j
    · rw [if_pos e2] at hx
      split at hx
      · injection hx with hx
        subst hx
        by_cases he0 : e.n = 0
        · simp [hit, he0]
        · have h1 := hnot he0 hy
          unfold hit at h1 ⊢
          rw [decide_eq_true h0, Bool.true_and, beq_eq_false_iff_ne] at h1
          rw [decide_eq_true he0, Bool.true_and, beq_eq_false_iff_ne]
          exact fun e => h1 e.symm
      · cases hx
    · rw [if_neg e2] at hx
      exact h i j y x hij hy hx h0

theorem mayB_cl {n : Nat} {xs : List Int} (h : mayB n xs) : clB (dec8 n xs) = false := by unfold dec8; rw [if_pos h]; exact h.2.2
theorem enB_set {n : Nat} {xs : List Int} (h : mayB n xs) {k : Nat} {e : En} (he : EMay e.n e.s) (ha : e.n ≠ 0 → (dec8 n xs).any (hit e.s) = false) : enB ((dec8 n xs).set k e) = encL ((dec8 n xs).set k e) := by
  have hm : mayE ((dec8 n xs).set k e) := ⟨by rw [List.length_set, dec8_len]; omega, clB_set (mayB_cl h) ha, set_may (dec8_may n xs) he⟩
  unfold enB
  rw [if_pos hm]
  unfold pad
  rw [List.length_set, dec8_len]
  simp

theorem er_set {B : Nat} {w : World} {g cap : Nat} {L : List En} (h : Er B w (.slice (some ⟨g, 0, none⟩) L.length cap) L) {k : Nat} (hk : k < L.length) (e : En) :
    Er B ((w.setCell ⟨g, k * 2, none⟩ (.int .i64 e.n)).setCell ⟨g, k * 2 + 1, none⟩ (.string e.s)) (.slice (some ⟨g, 0, none⟩) (L.set k e).length cap) (L.set k e) := by
  have h1 := (World.ownsRow.stored h (k * 2) (.int .i64 e.n)).1
  have h2 := (World.ownsRow.stored h1 (k * 2 + 1) (.string e.s)).1
  unfold Er
  rw [flat2_set L k e hk, List.length_set]
  exact h2
end Go.Proofs.Ythfnldclpommlab
