/- PUpm -/
import Derived.Test.YtjecicjpplibaaaGreatNw24

/- What uppermost tells: of each byte's place the latest patch that has it. -/
namespace Go.Proofs.YtjecicjpplibaaaGreat.Pt
open Go.RowKit Go.Maps
set_option maxRecDepth 100000
set_option linter.unusedVariables false

/-- A patch has a byte's place. -/
def cvs1 (p : Pv) (i : Nat) : Prop := p.off ≤ i ∧ i < endP p

/-- Patches gone through, until nothing is bare. -/
def uppF (p : Pv) : List Pv → List Bool × Int → List Int → List Int
  | [], _, I => I
  | u :: l, s, I => if 0 < (upS p u s).2 then uppF p l (upS p u s) (upI p u s I) else upI p u s I
def cov0 : List Bool := List.replicate 128 false
def uppL (P : List Pv) (p : Pv) : List Int := uppF p (ofB P (p.blk : Int)).reverse (cov0, (p.bs.length : Int)) []

theorem cvs_len (s : List Bool × Int) (i : Nat) : (cvs s i).1.length = s.1.length := by unfold cvs; split <;> simp
theorem cvr_len (s : List Bool × Int) (lo : Nat) : ∀ k, (cvr s lo k).1.length = s.1.length
  | 0 => rfl
  | k + 1 => by rw [show cvr s lo (k + 1) = cvs (cvr s lo k) (lo + k) from rfl, cvs_len, cvr_len s lo k]
theorem cvs_at (s : List Bool × Int) (i j : Nat) (hj : j < s.1.length) : (cvs s i).1.getD j true = true ↔ s.1.getD j true = true ∨ j = i := by
  unfold cvs
  by_cases h : s.1.getD i true = true
  · rw [if_pos h]
    constructor
    · exact .inl
    · rintro (h1 | rfl)
      · exact h1
      · exact h
  · rw [if_neg h]
    by_cases e : j = i
    · subst e
      simp [List.getD_eq_getElem?_getD, hj]
    · simp [List.getD_eq_getElem?_getD, e, Ne.symm e]
theorem cvr_at (s : List Bool × Int) (lo : Nat) (j : Nat) (hj : j < s.1.length) : ∀ k, (cvr s lo k).1.getD j true = true ↔ s.1.getD j true = true ∨ (lo ≤ j ∧ j < lo + k)
  | 0 => by
    rw [show cvr s lo 0 = s from rfl]
    constructor
    · exact .inl
    · rintro (h | h)
      · exact h
      · omega
  | k + 1 => by
    rw [show cvr s lo (k + 1) = cvs (cvr s lo k) (lo + k) from rfl, cvs_at _ _ _ (by rw [cvr_len]; exact hj), cvr_at s lo j hj k]
    constructor
    · rintro ((h | h) | h)
      · exact .inl h
      · exact .inr (by omega)
      · exact .inr (by omega)
    · rintro (h | h)
      · exact .inl (.inl h)
      · by_cases e : j = lo + k
        · exact .inr e
        · exact .inl (.inr (by omega))
theorem cvs_cnt (s : List Bool × Int) (i : Nat) : (cvs s i).2 + (trs (cvs s i).1 : Int) = s.2 + (trs s.1 : Int) := by
  unfold cvs
  by_cases h : s.1.getD i true = true
  · rw [if_pos h]
  · rw [if_neg h]
    have := trs_set s.1 i (by simpa using h)
    simp only [this]
    omega
theorem cvr_cnt (s : List Bool × Int) (lo : Nat) : ∀ k, (cvr s lo k).2 + (trs (cvr s lo k).1 : Int) = s.2 + (trs s.1 : Int)
  | 0 => rfl
  | k + 1 => by rw [show cvr s lo (k + 1) = cvs (cvr s lo k) (lo + k) from rfl, cvs_cnt, cvr_cnt s lo k]
theorem cvs_le (s : List Bool × Int) (i : Nat) : (cvs s i).2 ≤ s.2 := by unfold cvs; split <;> simp <;> omega
theorem cvr_le (s : List Bool × Int) (lo : Nat) : ∀ k, (cvr s lo k).2 ≤ s.2
  | 0 => Int.le_refl _
  | k + 1 => Int.le_trans (cvs_le _ _) (cvr_le s lo k)
/-- Where a place was bare, one less is. -/
theorem cvr_lt (s : List Bool × Int) (lo j : Nat) (hj : j < s.1.length) (hb : s.1.getD j true = false) : ∀ k, lo ≤ j → j < lo + k → (cvr s lo k).2 < s.2
  | 0, h1, h2 => by omega
  | k + 1, h1, h2 => by
    rw [show cvr s lo (k + 1) = cvs (cvr s lo k) (lo + k) from rfl]
    by_cases e : j < lo + k
    · exact Int.lt_of_le_of_lt (cvs_le _ _) (cvr_lt s lo j hj hb k h1 e)
    · obtain rfl : j = lo + k := by omega
      have hn : (cvr s lo k).1.getD (lo + k) true = false := by
        rw [← Bool.not_eq_true, cvr_at s lo (lo + k) hj k]
        rintro (h | h)
        · rw [hb] at h; cases h
        · omega
      have := cvr_le s lo k
      unfold cvs
      rw [hn]
      simp
      omega

theorem trs_win : ∀ (l : List Bool) (lo k : Nat), (∀ i, l[i]? = some true → lo ≤ i ∧ i < lo + k) → trs l ≤ k
  | [], _, k, _ => Nat.zero_le k
  | b :: l, 0, 0, h => by
    cases b with
    | true => have := h 0 rfl; omega
    | false =>
      have := trs_win l 0 0 (fun i hi => by have := h (i + 1) (by simpa using hi); omega)
      simp [trs]; omega
  | b :: l, 0, k + 1, h => by
    have := trs_win l 0 k (fun i hi => by have := h (i + 1) (by simpa using hi); omega)
    cases b <;> simp [trs] <;> omega
  | b :: l, lo + 1, k, h => by
    have := trs_win l lo k (fun i hi => by have := h (i + 1) (by simpa using hi); omega)
    cases b with
    | true => have := h 0 rfl; omega
    | false => simp [trs]; omega
/-- Where as many are covered as there are places, all are. -/
theorem trs_full {l : List Bool} {lo k : Nat} (h : ∀ i, l[i]? = some true → lo ≤ i ∧ i < lo + k) (hk : k ≤ trs l) {j : Nat} (hj : lo ≤ j ∧ j < lo + k) (hl : j < l.length) : l.getD j true = true := by
  by_cases e : l.getD j true = true
  · exact e
  · exfalso
    have h1 := trs_set l j (by simpa using e)
    have h2 := trs_win (l.set j true) lo k (fun i hi => by
      by_cases e2 : i = j
      · subst e2; exact hj
      · rw [List.getElem?_set_ne (Ne.symm e2)] at hi; exact h i hi)
    omega

theorem lo_k (p u : Pv) (i : Nat) : (loP p u ≤ i ∧ i < loP p u + kP p u) ↔ cvs1 p i ∧ cvs1 u i := by
  unfold cvs1 loP kP loP
  omega

/-- What is known behind some patches. -/
structure UInv (p : Pv) (V : List Pv) (s : List Bool × Int) (I : List Int) : Prop where
  len : s.1.length = 128
  cnt : s.2 + (trs s.1 : Int) = (p.bs.length : Int)
  cov : ∀ i, i < 128 → (s.1.getD i true = true ↔ cvs1 p i ∧ ∃ u ∈ V, cvs1 u i)
  mem : ∀ x ∈ I, ∃ u ∈ V, (u.id : Int) = x ∧ ∃ i, cvs1 p i ∧ cvs1 u i
  top : ∀ i, cvs1 p i → ∀ q ∈ V, cvs1 q i → ∃ u ∈ V, (u.id : Int) ∈ I ∧ cvs1 u i ∧ q.id ≤ u.id

theorem trs_rep : ∀ n, trs (List.replicate n false) = 0
  | 0 => rfl
  | n + 1 => by rw [List.replicate_succ]; simp [trs, trs_rep n]
theorem uinv_nil (p : Pv) (h : p.off + p.bs.length ≤ 128) : UInv p [] (cov0, (p.bs.length : Int)) [] := by
  have h0 : trs cov0 = 0 := trs_rep 128
  have h1 : ∀ i, i < 128 → cov0.getD i true = false := fun i hi => by
    unfold cov0
    rw [List.getD_eq_getElem?_getD, List.getElem?_replicate, if_pos hi]
    rfl
  have h2 : cov0.length = 128 := List.length_replicate
  generalize cov0 = c0 at *
  refine ⟨h2, by simp only [h0]; omega, fun i hi => ?_, (fun x hx => by cases hx), (fun i _ q hq => by cases hq)⟩
  constructor
  · intro h'
    have := h1 i hi
    simp only at h'
    rw [this] at h'
    cases h'
  · rintro ⟨_, u, hu, _⟩
    cases hu

theorem UInv.step {p : Pv} {V : List Pv} {s : List Bool × Int} {I : List Int} (h : UInv p V s I) (hp : p.off + p.bs.length ≤ 128) (u : Pv) (hu : ∀ q ∈ V, u.id < q.id) : UInv p (V ++ [u]) (upS p u s) (upI p u s I) := by
  have hat : ∀ i, i < 128 → ((upS p u s).1.getD i true = true ↔ s.1.getD i true = true ∨ (cvs1 p i ∧ cvs1 u i)) := fun i hi => by
    unfold upS
    rw [cvr_at s _ i (by rw [h.len]; exact hi), lo_k]
  have hlt : ∀ i, i < 128 → cvs1 p i → cvs1 u i → s.1.getD i true = false → (upS p u s).2 < s.2 := fun i hi h1 h2 hb => by
    have := (lo_k p u i).2 ⟨h1, h2⟩
    exact cvr_lt s _ i (by rw [h.len]; exact hi) hb _ this.1 this.2
  have hmono : ∀ x ∈ I, x ∈ upI p u s I := fun x hx => by
    unfold upI
    split
    · exact List.mem_append_left _ hx
    · exact hx
  refine ⟨by unfold upS; rw [cvr_len]; exact h.len, by unfold upS; rw [cvr_cnt]; exact h.cnt, fun i hi => ?_, fun x hx => ?_, fun i hpi q hq hqi => ?_⟩
  · rw [hat i hi, h.cov i hi]
    constructor
    · rintro (⟨h1, v, hv, h2⟩ | ⟨h1, h2⟩)
      · exact ⟨h1, v, List.mem_append_left _ hv, h2⟩
      · exact ⟨h1, u, by simp, h2⟩
    · rintro ⟨h1, v, hv, h2⟩
      rcases List.mem_append.1 hv with hv | hv
      · exact .inl ⟨h1, v, hv, h2⟩
      · simp only [List.mem_singleton] at hv
        subst hv
        exact .inr ⟨h1, h2⟩
  · unfold upI at hx
    split at hx
    · rename_i hl
      rcases List.mem_append.1 hx with hx | hx
      · obtain ⟨v, hv, e⟩ := h.mem x hx
        exact ⟨v, List.mem_append_left _ hv, e⟩
      · simp only [List.mem_singleton] at hx
        refine ⟨u, by simp, hx.symm, ?_⟩
        unfold upS at hl
        cases hk : kP p u with
        | zero => rw [hk] at hl; exact absurd hl (by simp [cvr])
        | succ k => exact ⟨loP p u, (lo_k p u _).1 ⟨Nat.le_refl _, by omega⟩⟩
    · obtain ⟨v, hv, e⟩ := h.mem x hx
      exact ⟨v, List.mem_append_left _ hv, e⟩
  · have hi : i < 128 := by have := hpi.2; unfold endP at this; omega
    rcases List.mem_append.1 hq with hq | hq
    · obtain ⟨v, hv, h1, h2, h3⟩ := h.top i hpi q hq hqi
      exact ⟨v, List.mem_append_left _ hv, hmono _ h1, h2, h3⟩
    · simp only [List.mem_singleton] at hq
      subst hq
      cases hb : s.1.getD i true with
      | true =>
        obtain ⟨_, v, hv, hvi⟩ := (h.cov i hi).1 hb
        obtain ⟨v2, hv2, h1, h2, h3⟩ := h.top i hpi v hv hvi
        exact ⟨v2, List.mem_append_left _ hv2, hmono _ h1, h2, by have := hu v hv; omega⟩
      | false =>
        refine ⟨q, by simp, ?_, hqi, Nat.le_refl _⟩
        unfold upI
        rw [if_pos (hlt i hi hpi hqi hb)]
        simp

theorem uppF_ok {p : Pv} (hp : p.off + p.bs.length ≤ 128) : ∀ (l V : List Pv) (s : List Bool × Int) (I : List Int), UInv p V s I → (V ++ l).Pairwise (fun a b => b.id < a.id) →
    (∀ x ∈ uppF p l s I, ∃ u ∈ V ++ l, (u.id : Int) = x ∧ ∃ i, cvs1 p i ∧ cvs1 u i) ∧
    (∀ i, cvs1 p i → ∀ q ∈ V ++ l, cvs1 q i → ∃ u ∈ V ++ l, (u.id : Int) ∈ uppF p l s I ∧ cvs1 u i ∧ q.id ≤ u.id)
  | [], V, s, I, h, hs => by
    rw [List.append_nil]
    exact ⟨h.mem, h.top⟩
  | u :: l, V, s, I, h, hs => by
    have hu : ∀ q ∈ V, u.id < q.id := fun q hq => (List.pairwise_append.1 hs).2.2 q hq u (by simp)
    have h' := h.step hp u hu
    have e : V ++ u :: l = V ++ [u] ++ l := by simp
    rw [e] at hs ⊢
    unfold uppF
    split
    · exact uppF_ok hp l _ _ _ h' hs
    · rename_i hz
      refine ⟨fun x hx => ?_, fun i hpi q hq hqi => ?_⟩
      · obtain ⟨v, hv, r⟩ := h'.mem x hx
        exact ⟨v, List.mem_append_left _ hv, r⟩
      · have hi : i < 128 := by have := hpi.2; unfold endP at this; omega
        have hfull : (upS p u s).1.getD i true = true := by
          refine trs_full (lo := p.off) (k := p.bs.length) (fun j hj => ?_) (by have := h'.cnt; omega) (j := i) (by have := hpi.1; have := hpi.2; unfold endP at *; omega) (by rw [h'.len]; exact hi)
          have hjl : j < 128 := by have := (List.getElem?_eq_some_iff.1 hj).1; rw [h'.len] at this; exact this
          have := (h'.cov j hjl).1 (by rw [List.getD_eq_getElem?_getD, hj]; rfl)
          have h1 := this.1
          unfold cvs1 endP at h1
          omega
        obtain ⟨_, v, hv, hvi⟩ := (h'.cov i hi).1 hfull
        rcases List.mem_append.1 hq with hq | hq
        · obtain ⟨v2, hv2, r⟩ := h'.top i hpi q hq hqi
          exact ⟨v2, List.mem_append_left _ hv2, r⟩
        · obtain ⟨v2, hv2, h1, h2, h3⟩ := h'.top i hpi v hv hvi
          have := (List.pairwise_append.1 hs).2.2 v hv q hq
          exact ⟨v2, List.mem_append_left _ hv2, h1, h2, by omega⟩

theorem mem_ofB {P : List Pv} {b : Int} {p : Pv} : p ∈ ofB P b ↔ p ∈ P ∧ (p.blk : Int) = b := by
  unfold ofB; rw [List.mem_filter, decide_eq_true_iff]

theorem uppL_ok {P : List Pv} (hs : P.Pairwise (fun p q => p.id < q.id)) {p : Pv} (hp : p.off + p.bs.length ≤ 128) :
    (∀ x ∈ uppL P p, ∃ u ∈ ofB P (p.blk : Int), (u.id : Int) = x ∧ ∃ i, cvs1 p i ∧ cvs1 u i) ∧
    (∀ i, cvs1 p i → ∀ q ∈ ofB P (p.blk : Int), cvs1 q i → ∃ u ∈ ofB P (p.blk : Int), (u.id : Int) ∈ uppL P p ∧ cvs1 u i ∧ q.id ≤ u.id) := by
  have := uppF_ok hp (ofB P (p.blk : Int)).reverse [] _ _ (uinv_nil p hp) (by rw [List.nil_append, List.pairwise_reverse]; exact List.Pairwise.filter _ hs)
  simpa [uppL] using this

theorem upI_len (p u : Pv) (s : List Bool × Int) (I : List Int) : (upI p u s I).length ≤ I.length + 1 := by unfold upI; split <;> simp
theorem uppF_len (p : Pv) : ∀ (l : List Pv) (s : List Bool × Int) (I : List Int), (uppF p l s I).length ≤ I.length + l.length
  | [], _, _ => by simp [uppF]
  | u :: l, s, I => by
    have h1 := upI_len p u s I
    unfold uppF
    split
    · have := uppF_len p l (upS p u s) (upI p u s I)
      simp; omega
    · simp; omega
theorem uppL_len (P : List Pv) (p : Pv) : (uppL P p).length ≤ P.length := by
  have h1 := uppF_len p (ofB P (p.blk : Int)).reverse (cov0, (p.bs.length : Int)) []
  have h2 : (ofB P (p.blk : Int)).length ≤ P.length := List.length_filter_le _ _
  unfold uppL
  simp at h1
  omega
end Go.Proofs.YtjecicjpplibaaaGreat.Pt
