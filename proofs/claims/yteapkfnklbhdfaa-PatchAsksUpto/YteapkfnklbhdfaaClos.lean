/- What is reached from numbers by needs. -/
import Derived.Test.YteapkfnklbhdfaaClo
namespace Go.Proofs.Yteapkfnklbhdfaa
open Go.RowKit Go.Maps
set_option linter.unusedVariables false

/-- Pending, and asked for or needed by one that is reached. -/
inductive Rch (P : List Pv) (zs : List Int) : Int → Prop
  | base {x : Int} : x ∈ zs → (fP P x).isSome = true → Rch P zs x
  | step {x y : Int} {p : Pv} : Rch P zs y → fP P y = some p → x ∈ p.nd → (fP P x).isSome = true → Rch P zs x
theorem Rch.pend {P : List Pv} {zs : List Int} {x : Int} (h : Rch P zs x) : (fP P x).isSome = true := by cases h <;> assumption

theorem nodup_len : ∀ (n : Nat) (l : List Int), l.Nodup → (∀ x ∈ l, 1 ≤ x ∧ x ≤ (n : Int)) → l.length ≤ n
  | 0, l, _, h => by
    cases l with
    | nil => exact Nat.le_refl _
    | cons x l => have := h x List.mem_cons_self; omega
  | n + 1, l, hn, h => by
    by_cases hm : ((n + 1 : Nat) : Int) ∈ l
    · have h1 := nodup_len n (l.erase ((n + 1 : Nat) : Int)) (hn.erase _) (fun x hx => by
        have hx' := (List.Nodup.mem_erase_iff hn).1 hx
        have := h x hx'.2
        have := hx'.1
        omega)
      rw [List.length_erase_of_mem hm] at h1
      omega
    · have h1 := nodup_len n l hn (fun x hx => by
        have := h x hx
        have : x ≠ ((n + 1 : Nat) : Int) := fun e => hm (e ▸ hx)
        omega)
      omega

/-- What holds of the numbers found so far. -/
structure Fnd (P : List Pv) (zs : List Int) (O : List Int) : Prop where
  nd : O.Nodup
  rch : ∀ x ∈ O, Rch P zs x

theorem nxC_mem (P : List Pv) (I : List Int) (k x : Int) : x ∈ nxC P I k ↔ x ∈ I ∨ (x = k ∧ (fP P k).isSome = true) := by
  unfold nxC
  by_cases h1 : (fP P k).isSome = true
  · by_cases h2 : k ∈ I
    · simp [h1, h2]; rintro rfl; exact h2
    · simp [h1, h2]
  · simp [h1]
theorem nxC_nodup {P : List Pv} {I : List Int} (h : I.Nodup) (k : Int) : (nxC P I k).Nodup := by
  unfold nxC
  split
  · rename_i hc
    simp at hc
    rw [List.nodup_append]
    exact ⟨h, by simp, fun a ha b hb => by rw [List.mem_singleton.1 hb]; exact fun e => hc.2 (e ▸ ha)⟩
  · exact h
/-- k numbers more. -/
def nxCs (P : List Pv) (I : List Int) (l : List Int) : List Int := l.foldl (nxC P) I
theorem nxCs_snoc (P : List Pv) (I l : List Int) (k : Int) : nxCs P I (l ++ [k]) = nxC P (nxCs P I l) k := by unfold nxCs; rw [List.foldl_append]; rfl
theorem nxCs_mem (P : List Pv) : ∀ (l I : List Int) (x : Int), x ∈ nxCs P I l ↔ x ∈ I ∨ (x ∈ l ∧ (fP P x).isSome = true)
  | [], I, x => by simp [nxCs]
  | k :: l, I, x => by
    have := nxCs_mem P l (nxC P I k) x
    rw [nxC_mem] at this
    rw [show nxCs P I (k :: l) = nxCs P (nxC P I k) l from rfl, this]
    constructor
    · rintro ((h | ⟨rfl, h⟩) | ⟨h1, h2⟩)
      · exact .inl h
      · exact .inr ⟨List.mem_cons_self, h⟩
      · exact .inr ⟨List.mem_cons_of_mem _ h1, h2⟩
    · rintro (h | ⟨h1, h2⟩)
      · exact .inl (.inl h)
      · rcases List.mem_cons.1 h1 with rfl | h1
        · exact .inl (.inr ⟨rfl, h2⟩)
        · exact .inr ⟨h1, h2⟩
theorem nxCs_nodup {P : List Pv} : ∀ (l I : List Int), I.Nodup → (nxCs P I l).Nodup
  | [], _, h => h
  | k :: l, I, h => nxCs_nodup l _ (nxC_nodup h k)
theorem nxCs_len (P : List Pv) : ∀ (l I : List Int), I.length ≤ (nxCs P I l).length
  | [], _ => Nat.le_refl _
  | k :: l, I => by
    refine Nat.le_trans ?_ (nxCs_len P l (nxC P I k))
    unfold nxC; split <;> simp
theorem nxCs_pre (P : List Pv) : ∀ (l I : List Int), ∃ r, nxCs P I l = I ++ r
  | [], I => ⟨[], by simp [nxCs]⟩
  | k :: l, I => by
    obtain ⟨r, hr⟩ := nxCs_pre P l (nxC P I k)
    refine ⟨(if (fP P k).isSome && !decide (k ∈ I) then [k] else []) ++ r, ?_⟩
    rw [show nxCs P I (k :: l) = nxCs P (nxC P I k) l from rfl, hr]
    unfold nxC
    split <;> simp

/-- All of the first j have had their needs asked for. -/
def Dn (P : List Pv) (O : List Int) (j : Nat) : Prop := ∀ i, i < j → ∀ p, fP P (O.getD i 0) = some p → ∀ x ∈ p.nd, (fP P x).isSome = true → x ∈ O

theorem Fnd.first {P : List Pv} {zs : List Int} : Fnd P zs (nxCs P [] zs) :=
  ⟨nxCs_nodup _ _ List.nodup_nil, fun x hx => by
    rcases (nxCs_mem P zs [] x).1 hx with h | ⟨h1, h2⟩
    · cases h
    · exact .base h1 h2⟩
theorem Fnd.next {P : List Pv} {zs O : List Int} (h : Fnd P zs O) {y : Int} {p : Pv} (hy : y ∈ O) (hp : fP P y = some p) : Fnd P zs (nxCs P O p.nd) :=
  ⟨nxCs_nodup _ _ h.nd, fun x hx => by
    rcases (nxCs_mem P p.nd O x).1 hx with hx | ⟨h1, h2⟩
    · exact h.rch x hx
    · exact .step (h.rch y hy) hp h1 h2⟩
theorem Fnd.all {P : List Pv} {zs O : List Int} (h : Fnd P zs O) (hz : ∀ x ∈ zs, (fP P x).isSome = true → x ∈ O) (hd : Dn P O O.length) : ∀ x, x ∈ O ↔ Rch P zs x := by
  intro x
  refine ⟨h.rch x, fun hr => ?_⟩
  induction hr with
  | base h1 h2 => exact hz _ h1 h2
  | step hy hp hx h2 ih =>
    obtain ⟨i, hi, e⟩ := List.mem_iff_getElem.1 ih
    refine hd i hi _ ?_ _ hx h2
    rw [List.getD_eq_getElem?_getD, List.getElem?_eq_getElem hi, Option.getD_some, e]
    exact hp
theorem Fnd.len {P : List Pv} {zs O : List Int} {last : Nat} (h : Fnd P zs O) (hP : ∀ p ∈ P, 1 ≤ p.id ∧ p.id ≤ last) : O.length ≤ last :=
  nodup_len last O h.nd (fun x hx => by
    obtain ⟨p, hp⟩ := Option.isSome_iff_exists.1 (h.rch x hx).pend
    obtain ⟨h1, h2⟩ := fP_some hp
    have := hP p h1
    omega)
theorem Dn.next {P : List Pv} {O : List Int} {j : Nat} (h : Dn P O j) (hj : j < O.length) {p : Pv} (hp : fP P (O.getD j 0) = some p) : Dn P (nxCs P O p.nd) (j + 1) := by
  obtain ⟨r, hr⟩ := nxCs_pre P p.nd O
  intro i hi q hq x hx h2
  have e : (nxCs P O p.nd).getD i 0 = O.getD i 0 := by
    rw [hr, List.getD_eq_getElem?_getD, List.getD_eq_getElem?_getD, List.getElem?_append_left (by omega)]
  rw [e] at hq
  rw [nxCs_mem]
  by_cases h3 : i < j
  · exact .inl (h i h3 q hq x hx h2)
  · obtain rfl : i = j := by omega
    rw [hp] at hq
    obtain rfl := Option.some.inj hq
    exact .inr ⟨hx, h2⟩
end Go.Proofs.Yteapkfnklbhdfaa
