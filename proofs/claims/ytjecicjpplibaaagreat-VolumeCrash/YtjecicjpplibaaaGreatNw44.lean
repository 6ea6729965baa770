/- POvr VF -/
import Derived.Test.YtjecicjpplibaaaGreatNw43
import Derived.Test.YtjecicjpplibaaaGreatNw42

/- Patches laid in another order: a set that has what it needs may go first. -/
namespace Go.Proofs.YtjecicjpplibaaaGreat.Pt
open Go.RowKit Go.Maps
set_option maxRecDepth 100000
set_option linter.unusedVariables false

/-- A plan: the patches, and the bytes. -/
def plnOf (P : List Pv) (b : Int) (xs : List Int) : List Int × List Int := pst P (ofB P b) ([], xs)

theorem ovr_get {xs : List Int} {p : Pv} (h : p.off + p.bs.length ≤ xs.length) (i : Nat) (hi : i < xs.length) : (ovr xs p)[i]? = if p.off ≤ i ∧ i < p.off + p.bs.length then p.bs[i - p.off]? else xs[i]? := by
  unfold ovr
  by_cases h1 : i < p.off
  · rw [if_neg (by omega), List.append_assoc, List.getElem?_append_left (by simp; omega), List.getElem?_take_of_lt h1]
  · by_cases h2 : i < p.off + p.bs.length
    · rw [if_pos (by omega), List.append_assoc, List.getElem?_append_right (by simp; omega), List.length_take, Nat.min_eq_left (by omega), List.getElem?_append_left (by omega)]
    · rw [if_neg (by omega), List.getElem?_append_right (by simp; omega), List.getElem?_drop]
      congr 1
      simp
      omega

theorem ovr_comm {xs : List Int} {p q : Pv} (hp : p.off + p.bs.length ≤ xs.length) (hq : q.off + q.bs.length ≤ xs.length) (hd : ∀ i, ¬ (cvs1 p i ∧ cvs1 q i)) : ovr (ovr xs p) q = ovr (ovr xs q) p := by
  have l1 := ovr_len hp
  have l2 := ovr_len hq
  refine List.ext_getElem? (fun i => ?_)
  by_cases hi : i < xs.length
  · rw [ovr_get (by rw [l1]; exact hq) i (by rw [l1]; exact hi), ovr_get hp i hi, ovr_get (by rw [l2]; exact hp) i (by rw [l2]; exact hi), ovr_get hq i hi]
    have := hd i
    unfold cvs1 endP at this
    by_cases c1 : p.off ≤ i ∧ i < p.off + p.bs.length
    · rw [if_pos c1, if_neg (fun c2 => this ⟨c1, c2⟩), if_pos c1]
    · rw [if_neg c1, if_neg c1]
  · have e1 : (ovr (ovr xs p) q).length = xs.length := by rw [ovr_len (by rw [l1]; exact hq), l1]
    have e2 : (ovr (ovr xs q) p).length = xs.length := by rw [ovr_len (by rw [l2]; exact hp), l2]
    rw [List.getElem?_eq_none (by omega), List.getElem?_eq_none (by omega)]

theorem ovrs_len : ∀ (l : List Pv) (xs : List Int), (∀ p ∈ l, p.off + p.bs.length ≤ xs.length) → (ovrs l xs).length = xs.length
  | [], _, _ => rfl
  | p :: l, xs, h => by
    have h1 := ovr_len (h p List.mem_cons_self)
    rw [show ovrs (p :: l) xs = ovrs l (ovr xs p) from rfl, ovrs_len l _ (fun q hq => by rw [h1]; exact h q (List.mem_cons_of_mem _ hq)), h1]

theorem ovrs_past : ∀ (M : List Pv) (p : Pv) (ys : List Int), p.off + p.bs.length ≤ ys.length → (∀ q ∈ M, q.off + q.bs.length ≤ ys.length) → (∀ q ∈ M, ∀ i, ¬ (cvs1 p i ∧ cvs1 q i)) → ovrs M (ovr ys p) = ovr (ovrs M ys) p
  | [], _, _, _, _, _ => rfl
  | q :: M, p, ys, hp, hM, hd => by
    have hq := hM q List.mem_cons_self
    rw [show ovrs (q :: M) (ovr ys p) = ovrs M (ovr (ovr ys p) q) from rfl, ovr_comm hp hq (hd q List.mem_cons_self)]
    have l2 := ovr_len hq
    exact ovrs_past M p (ovr ys q) (by rw [l2]; exact hp) (fun r hr => by rw [l2]; exact hM r (List.mem_cons_of_mem _ hr)) (fun r hr => hd r (List.mem_cons_of_mem _ hr))

theorem ovrs_app : ∀ (l m : List Pv) (xs : List Int), ovrs (l ++ m) xs = ovrs m (ovrs l xs)
  | [], _, _ => rfl
  | p :: l, m, xs => ovrs_app l m (ovr xs p)

/-- Those of c first, then the others: as all in their order. -/
theorem ovrs_split (c : Pv → Bool) : ∀ (n : Nat) (l : List Pv) (xs : List Int), l.length = n → (∀ p ∈ l, p.off + p.bs.length ≤ xs.length) → l.Pairwise (fun p q => c q = true → c p = false → ∀ i, ¬ (cvs1 q i ∧ cvs1 p i)) → ovrs (l.filter (fun p => !c p)) (ovrs (l.filter c) xs) = ovrs l xs
  | 0, l, xs, hn, _, _ => by
    have : l = [] := List.length_eq_zero_iff.1 hn
    subst this
    rfl
  | n + 1, l, xs, hn, hl, hp => by
    obtain ⟨l', p, rfl⟩ : ∃ l' p, l = l' ++ [p] := ⟨l.dropLast, l.getLast (by intro e; simp [e] at hn), (List.dropLast_concat_getLast _).symm⟩
    have hn' : l'.length = n := by simp at hn; exact hn
    obtain ⟨hp1, _, hp2⟩ := List.pairwise_append.1 hp
    have hl' : ∀ q ∈ l', q.off + q.bs.length ≤ xs.length := fun q hq => hl q (List.mem_append_left _ hq)
    have hpl := hl p (by simp)
    have ih := ovrs_split c n l' xs hn' hl' hp1
    rw [List.filter_append, List.filter_append, ovrs_snoc]
    cases hc : c p with
    | true =>
      have e1 : [p].filter c = [p] := by simp [hc]
      have e2 : [p].filter (fun p => !c p) = [] := by simp [hc]
      rw [e1, e2, List.append_nil, ovrs_snoc]
      have hlen : (ovrs (l'.filter c) xs).length = xs.length := ovrs_len _ _ (fun q hq => hl' q (List.mem_filter.1 hq).1)
      rw [ovrs_past _ p _ (by rw [hlen]; exact hpl) (fun q hq => by rw [hlen]; exact hl' q (List.mem_filter.1 hq).1) (fun q hq => by
        obtain ⟨h1, h2⟩ := List.mem_filter.1 hq
        exact hp2 q h1 p (by simp) hc (by simpa using h2)), ih]
    | false =>
      have e1 : [p].filter c = [] := by simp [hc]
      have e2 : [p].filter (fun p => !c p) = [p] := by simp [hc]
      rw [e1, e2, List.append_nil, ovrs_snoc, ih]

theorem pst_snd (P : List Pv) : ∀ (n : Nat) (l : List Pv) (xs : List Int), l.length = n → l.Pairwise (fun p q => p.id < q.id) → (pst P l ([], xs)).2 = ovrs (l.filter (fun p => decide ((p.id : Int) ∈ (pst P l ([], xs)).1))) xs ∧ ∀ x ∈ (pst P l ([], xs)).1, ∃ p ∈ l, (p.id : Int) = x
  | 0, l, xs, hn, _ => by
    have : l = [] := List.length_eq_zero_iff.1 hn
    subst this
    exact ⟨rfl, fun x hx => by cases hx⟩
  | n + 1, l, xs, hn, hs => by
    obtain ⟨l', p, rfl⟩ : ∃ l' p, l = l' ++ [p] := ⟨l.dropLast, l.getLast (by intro e; simp [e] at hn), (List.dropLast_concat_getLast _).symm⟩
    have hn' : l'.length = n := by simp at hn; exact hn
    obtain ⟨hp1, _, hp2⟩ := List.pairwise_append.1 hs
    obtain ⟨ih1, ih2⟩ := pst_snd P n l' xs hn' hp1
    rw [pst_snoc]
    dsimp only
    generalize hS : pst P l' ([], xs) = S at ih1 ih2
    have hnp : (p.id : Int) ∉ S.1 := fun h => by
      obtain ⟨q, hq, e⟩ := ih2 _ h
      have := hp2 q hq p (by simp)
      omega
    unfold nextC nextO
    by_cases hk : lk P S.1 p = true
    · rw [if_pos hk, if_pos hk, List.filter_append]
      have e : [p].filter (fun p => decide ((p.id : Int) ∈ S.1)) = [] := by simp [hnp]
      rw [e, List.append_nil]
      exact ⟨ih1, fun x hx => by obtain ⟨q, hq, e⟩ := ih2 x hx; exact ⟨q, List.mem_append_left _ hq, e⟩⟩
    · rw [if_neg hk, if_neg hk, List.filter_append]
      have e : [p].filter (fun q => decide ((q.id : Int) ∈ S.1 ++ [(p.id : Int)])) = [p] := by simp
      have e2 : l'.filter (fun q => decide ((q.id : Int) ∈ S.1 ++ [(p.id : Int)])) = l'.filter (fun q => decide ((q.id : Int) ∈ S.1)) := by
        refine List.filter_congr (fun q hq => ?_)
        have := hp2 q hq p (by simp)
        rw [decide_eq_decide, List.mem_append, List.mem_singleton]
        constructor
        · rintro (h | h)
          · exact h
          · omega
        · exact .inl
      rw [e, e2, ovrs_snoc, ih1]
      refine ⟨rfl, fun x hx => ?_⟩
      rcases List.mem_append.1 hx with hx | hx
      · obtain ⟨q, hq, e⟩ := ih2 x hx
        exact ⟨q, List.mem_append_left _ hq, e⟩
      · rw [List.mem_singleton] at hx
        exact ⟨p, by simp, hx.symm⟩

theorem ofB_kp (P : List Pv) (C : List Int) (b : Int) : ofB (kpP P C) b = (ofB P b).filter (fun p => !decide ((p.id : Int) ∈ C)) := by
  unfold ofB kpP
  rw [List.filter_filter, List.filter_filter]
  refine List.filter_congr (fun p _ => ?_)
  rw [Bool.and_comm]

/-- Behind a plan that was done the block is now as it was. -/
theorem Gd.now {P : List Pv} (h : Gd P) (hl : ∀ p ∈ P, p.off + p.bs.length ≤ 128) (b : Int) {xs : List Int} (hx : xs.length = 128) : ovrs (ofB (kpP P (plnOf P b xs).1) b) (plnOf P b xs).2 = ovrs (ofB P b) xs := by
  have hs : (ofB P b).Pairwise (fun p q => p.id < q.id) := List.Pairwise.filter _ h.srt
  have h1 := (pst_snd P _ (ofB P b) xs rfl hs).1
  rw [ofB_kp]
  unfold plnOf
  rw [h1]
  refine ovrs_split (fun p => decide ((p.id : Int) ∈ (pst P (ofB P b) ([], xs)).1)) _ (ofB P b) xs rfl (fun p hp => by rw [hx]; exact hl p (mem_ofB.1 hp).1) ?_
  have hC := (h.planned b xs).1
  refine (List.Pairwise.imp_of_mem ?_ hs)
  intro p q hp hq hlt c1 c2 i hi
  have hp' := mem_ofB.1 hp
  have hq' := mem_ofB.1 hq
  have := h.full hC q.id q hq'.1 (Nat.le_refl _) (of_decide_eq_true c1) p hp'.1 hlt (by have := hp'.2; have := hq'.2; omega) i hi.1 hi.2
  exact of_decide_eq_false c2 this
/-- The others stay. -/
theorem Gd.else {P : List Pv} (h : Gd P) (b b' : Int) (hb : b' ≠ b) (xs : List Int) : ofB (kpP P (plnOf P b xs).1) b' = ofB P b' := by
  rw [ofB_kp]
  refine List.filter_eq_self.2 (fun p hp => ?_)
  obtain ⟨hp1, hp2⟩ := mem_ofB.1 hp
  rw [Bool.not_eq_true', decide_eq_false_iff_not]
  intro hx
  obtain ⟨q, hq, e, eb⟩ := (h.planned b xs).2 _ hx
  have e1 := fP_mem h.srt hp1
  have e2 := fP_mem h.srt hq
  rw [e, e1] at e2
  have : p = q := Option.some.inj e2
  subst this
  omega
end Go.Proofs.YtjecicjpplibaaaGreat.Pt

/- What is written between turns nothing that is read; something may be written while something is pending. -/
namespace Go.Proofs.YtjecicjpplibaaaGreat
open Go.RowKit Go.Maps
set_option linter.unusedVariables false
set_option maxRecDepth 100000

/-- The lowest pending patch's block may be written. -/
theorem chs_low {p0 : Pt.Pv} {r : List Pt.Pv} (h : Pt.Gd (p0 :: r)) : (p0.id : Int) ∈ chs (p0 :: r) (p0.blk : Int) := by
  have hlk : Pt.lk (p0 :: r) [] p0 = false := by
    rw [Pt.lk_false]
    intro x hx hs
    obtain ⟨p, hp, e⟩ := Pt.fP_isSome.1 hs
    have h1 := h.low p0 (by simp) x hx
    have h2 : p0.id ≤ p.id := by
      rcases List.mem_cons.1 hp with rfl | hp'
      · exact Nat.le_refl _
      · exact Nat.le_of_lt ((List.pairwise_cons.1 h.srt).1 p hp')
    omega
  unfold chs
  have hof : Pt.ofB (p0 :: r) (p0.blk : Int) = p0 :: Pt.ofB r (p0.blk : Int) := by unfold Pt.ofB; simp
  rw [hof]
  show (p0.id : Int) ∈ (Pt.pst (p0 :: r) (Pt.ofB r (p0.blk : Int)) (Pt.nextC (p0 :: r) [] p0, Pt.nextO (p0 :: r) [] [] p0)).1
  refine (Pt.pst_closed (p0 :: r) (Pt.ofB r (p0.blk : Int)) _).1 _ ?_
  unfold Pt.nextC
  rw [hlk]
  simp

theorem rdy_some {T : Vs} (h : Pt.Gd T.P) (hne : T.P ≠ []) (hq : T.S.q = []) : rdy T (Pt.blks T.P) ≠ [] := by
  cases hP : T.P with
  | nil => exact absurd hP hne
  | cons p0 r =>
    rw [hP] at h
    intro e
    have hm : (p0.blk : Int) ∈ rdy T (Pt.blks (p0 :: r)) := by
      refine List.mem_filter.2 ⟨(Pt.mem_rs _ _).2 (List.mem_map.2 ⟨p0, by simp, rfl⟩), ?_⟩
      unfold may
      have h1 : qbs T.S = [] := by unfold qbs; rw [hq]; rfl
      have h2 : (chs T.P (p0.blk : Int)).isEmpty = false := by
        have := chs_low h
        rw [← hP] at this
        cases hc : chs T.P (p0.blk : Int) with
        | nil => rw [hc] at this; cases this
        | cons _ _ => rfl
      rw [h1, h2]
      rfl
    rw [e] at hm
    cases hm

/-- Behind the end of a write all blocks read as they did. -/
theorem now_same {P : List Pt.Pv} (h : Pt.Gd P) (hl : ∀ p ∈ P, p.off + p.bs.length ≤ 128) (f : Nat → List Int) (hf : ∀ b, (f b).length = 128) (b b' : Nat) :
    Pt.ovrs (Pt.ofB (Pt.kpP P (chs P (b : Int))) (b' : Int)) (upd f b (Pt.pst P (Pt.ofB P (b : Int)) ([], f b)).2 b') = Pt.ovrs (Pt.ofB P (b' : Int)) (f b') := by
  have hc : (Pt.plnOf P (b : Int) (f b)).1 = chs P (b : Int) := chs_any _ _ _
  by_cases e : b' = b
  · subst e
    have := h.now hl (b' : Int) (hf b')
    rw [hc] at this
    unfold upd
    rw [if_pos rfl]
    exact this
  · have := h.else (b : Int) (b' : Int) (by omega) (f b)
    rw [hc] at this
    rw [this]
    unfold upd
    rw [if_neg e]
end Go.Proofs.YtjecicjpplibaaaGreat
