/- PGd POvr VF -/
import Derived.Test.YtinigfidofgaiaaGreatGr18
import Derived.Test.YtinigfidofgaiaaGreatGr25
import Derived.Test.YtinigfidofgaiaaGreatGr15

/- What patches keep as needs is enough: byte by byte, all that lies below is reached. -/
namespace Go.Proofs.YtinigfidofgaiaaGreat.Pt
open Go.RowKit Go.Maps
set_option maxRecDepth 100000
set_option linter.unusedVariables false

/-- What is known of patches: by their numbers; needs sorted, below; of each place, the next one below is needed. -/
structure Gd (P : List Pv) : Prop where
  srt : P.Pairwise (fun p q => p.id < q.id)
  nds : ∀ p ∈ P, p.nd.Pairwise (fun x y => x < y)
  low : ∀ p ∈ P, ∀ x ∈ p.nd, 1 ≤ x ∧ x < (p.id : Int)
  cov : ∀ p ∈ P, ∀ q ∈ P, q.id < p.id → q.blk = p.blk → ∀ i, cvs1 p i → cvs1 q i → ∃ u ∈ P, u.blk = p.blk ∧ (u.id : Int) ∈ p.nd ∧ cvs1 u i ∧ q.id ≤ u.id

theorem gd_nil : Gd [] := ⟨List.Pairwise.nil, (fun p hp => by cases hp), (fun p hp => by cases hp), (fun p hp => by cases hp)⟩

theorem mem_still {P : List Pv} {zs : List Int} {x : Int} : x ∈ still P zs ↔ x ∈ zs ∧ (fP P x).isSome = true := by
  unfold still; rw [List.mem_filter]

theorem fP_isSome {P : List Pv} {k : Int} : (fP P k).isSome = true ↔ ∃ p ∈ P, (p.id : Int) = k := by
  unfold fP
  rw [List.find?_isSome]
  simp

theorem Gd.add {P : List Pv} {pn : Pv} {last : Nat} {zs : List Int} (h : Gd P) (hP : ∀ p ∈ P, 1 ≤ p.id ∧ p.id ≤ last) (hid : pn.id = last + 1) (hof : pn.off + pn.bs.length ≤ 128) (hnd : pn.nd = rs (still P zs ++ uppL P pn)) : Gd (P ++ [pn]) := by
  obtain ⟨hu1, hu2⟩ := uppL_ok h.srt hof
  refine ⟨List.pairwise_append.2 ⟨h.srt, by simp, fun p hp q hq => ?_⟩, fun p hp => ?_, fun p hp x hx => ?_, fun p hp q hq hlt hbl i hi hj => ?_⟩
  · have := hP p hp
    rw [List.mem_singleton] at hq
    subst hq
    omega
  · rcases List.mem_append.1 hp with hp | hp
    · exact h.nds p hp
    · rw [List.mem_singleton] at hp
      subst hp
      rw [hnd]; exact rs_sorted _
  · rcases List.mem_append.1 hp with hp | hp
    · exact h.low p hp x hx
    · rw [List.mem_singleton] at hp
      subst hp
      rw [hnd, mem_rs, List.mem_append] at hx
      rcases hx with hx | hx
      · obtain ⟨q, hq, rfl⟩ := fP_isSome.1 (mem_still.1 hx).2
        have := hP q hq
        omega
      · obtain ⟨u, hu, rfl, _⟩ := hu1 x hx
        have := hP u (mem_ofB.1 hu).1
        omega
  · rcases List.mem_append.1 hp with hp' | hp
    · rcases List.mem_append.1 hq with hq | hq
      · obtain ⟨u, hu, r⟩ := h.cov p hp' q hq hlt hbl i hi hj
        exact ⟨u, List.mem_append_left _ hu, r⟩
      · rw [List.mem_singleton] at hq
        subst hq
        have := hP p hp'
        omega
    · rw [List.mem_singleton] at hp
      subst hp
      rcases List.mem_append.1 hq with hq | hq
      · obtain ⟨u, hu, hu3, hu4, hu5⟩ := hu2 i hi q (mem_ofB.2 ⟨hq, by rw [hbl]⟩) hj
        have hu6 := mem_ofB.1 hu
        exact ⟨u, List.mem_append_left _ hu6.1, by omega, by rw [hnd, mem_rs]; exact List.mem_append_right _ hu3, hu4, hu5⟩
      · rw [List.mem_singleton] at hq
        subst hq
        omega

/-- A set of numbers that has, of each of its patches, all that this keeps as needs. -/
def Cl (P : List Pv) (C : List Int) : Prop := ∀ p ∈ P, (p.id : Int) ∈ C → lk P C p = false
theorem lk_false {P : List Pv} {C : List Int} {p : Pv} : lk P C p = false ↔ ∀ x ∈ p.nd, (fP P x).isSome = true → x ∈ C := by
  unfold lk
  rw [List.any_eq_false]
  constructor
  · intro h x hx hs
    have := h x hx
    unfold wq at this
    simpa [hs] using this
  · intro h x hx
    unfold wq
    by_cases hs : (fP P x).isSome = true
    · have := h x hx hs
      simp [this]
    · simp [hs]

theorem Gd.full {P : List Pv} (h : Gd P) {C : List Int} (hC : Cl P C) : ∀ (n : Nat) (p : Pv), p ∈ P → p.id ≤ n → (p.id : Int) ∈ C → ∀ q ∈ P, q.id < p.id → q.blk = p.blk → ∀ i, cvs1 p i → cvs1 q i → (q.id : Int) ∈ C
  | 0, p, hp, hn, hpC, q, hq, hlt, hbl, i, hi, hj => by omega
  | n + 1, p, hp, hn, hpC, q, hq, hlt, hbl, i, hi, hj => by
    obtain ⟨u, hu, hub, hun, huc, hqu⟩ := h.cov p hp q hq hlt hbl i hi hj
    have huC : (u.id : Int) ∈ C := lk_false.1 (hC p hp hpC) _ hun (fP_isSome.2 ⟨u, hu, rfl⟩)
    have hul := (h.low p hp _ hun).2
    rcases Nat.lt_or_ge q.id u.id with hl | hl
    · exact Gd.full h hC n u hu (by omega) huC q hq hl (by rw [hbl, hub]) i huc hj
    · have : q.id = u.id := by omega
      rw [this]; exact huC

theorem Gd.kp {P : List Pv} (h : Gd P) {zs : List Int} (hz : (still P zs).any (bad P zs) = false) : Gd (kpP P zs) := by
  have hC : Cl P zs := fun p hp hpz => by
    have h1 := List.any_eq_false.1 hz (p.id : Int) (mem_still.2 ⟨hpz, fP_isSome.2 ⟨p, hp, rfl⟩⟩)
    unfold bad at h1
    rw [fP_mem h.srt hp] at h1
    simpa using h1
  refine ⟨List.Pairwise.filter _ h.srt, fun p hp => h.nds p (mem_kpP.1 hp).1, fun p hp => h.low p (mem_kpP.1 hp).1, fun p hp q hq hlt hbl i hi hj => ?_⟩
  obtain ⟨hp1, hp2⟩ := mem_kpP.1 hp
  obtain ⟨hq1, hq2⟩ := mem_kpP.1 hq
  obtain ⟨u, hu, hub, hun, huc, hqu⟩ := h.cov p hp1 q hq1 hlt hbl i hi hj
  refine ⟨u, mem_kpP.2 ⟨hu, fun huz => hq2 ?_⟩, hub, hun, huc, hqu⟩
  rcases Nat.lt_or_ge q.id u.id with hl | hl
  · exact Gd.full h hC u.id u hu (Nat.le_refl _) huz q hq1 hl (by rw [hbl, hub]) i huc hj
  · have : q.id = u.id := by omega
    rw [this]; exact huz

theorem Gd.up {P : List Pv} (h : Gd P) (l : Nat) : Gd (upP P l) := by
  have hm : ∀ p, p ∈ upP P l ↔ p ∈ P ∧ p.id ≤ l := fun p => by unfold upP; rw [List.mem_filter, decide_eq_true_iff]
  refine ⟨List.Pairwise.filter _ h.srt, fun p hp => h.nds p ((hm p).1 hp).1, fun p hp => h.low p ((hm p).1 hp).1, fun p hp q hq hlt hbl i hi hj => ?_⟩
  obtain ⟨hp1, hp2⟩ := (hm p).1 hp
  obtain ⟨hq1, hq2⟩ := (hm q).1 hq
  obtain ⟨u, hu, hub, hun, huc, hqu⟩ := h.cov p hp1 q hq1 hlt hbl i hi hj
  have := (h.low p hp1 _ hun).2
  exact ⟨u, (hm u).2 ⟨hu, by omega⟩, hub, hun, huc, hqu⟩

/-- Without its memory a set is as good. -/
theorem gd_strip {P : List Pv} : Gd (P.map strip) → Gd P := fun h => by
  have hm : ∀ p ∈ P, strip p ∈ P.map strip := fun p hp => List.mem_map_of_mem hp
  refine ⟨?_, fun p hp => (by have := h.nds _ (hm p hp); exact this), fun p hp => (by have := h.low _ (hm p hp); exact this), fun p hp q hq hlt hbl i hi hj => ?_⟩
  · have := h.srt
    rw [List.pairwise_map] at this
    exact this
  · obtain ⟨u, hu, r⟩ := h.cov _ (hm p hp) _ (hm q hq) hlt hbl i hi hj
    obtain ⟨u', hu', rfl⟩ := List.mem_map.1 hu
    exact ⟨u', hu', r⟩

theorem Gd.ndl {P : List Pv} (h : Gd P) {p : Pv} (hp : p ∈ P) (hl : p.id ≤ 1000) : p.nd.length ≤ 1000 :=
  Nat.le_trans (nodup_len p.id p.nd ((h.nds p hp).imp (fun h => Int.ne_of_lt h)) (fun x hx => by have := h.low p hp x hx; omega)) hl

theorem uppF_nd (p : Pv) (z : List Int) : ∀ (l : List Pv) (s : List Bool × Int) (I : List Int), uppF { p with nd := z } l s I = uppF p l s I
  | [], _, _ => rfl
  | u :: l, s, I => by
    unfold uppF
    rw [show upS { p with nd := z } u s = upS p u s from rfl, show upI { p with nd := z } u s I = upI p u s I from rfl, uppF_nd p z l]
theorem uppL_nd (P : List Pv) (p : Pv) (z : List Int) : uppL P { p with nd := z } = uppL P p := uppF_nd p z _ _ _
/-- What made makes. -/
theorem mk_good : ∀ (D : List Dv) (S : List Pv), Gd S → (∀ p ∈ S, 1 ≤ p.id ∧ p.id ≤ S.length) → (∀ k : Int, 1 ≤ k → k ≤ (S.length : Int) → (fP S k).isSome = true) → Gd (D.foldl mk1 S) ∧ (∀ p ∈ D.foldl mk1 S, 1 ≤ p.id ∧ p.id ≤ (D.foldl mk1 S).length) ∧ (∀ k : Int, 1 ≤ k → k ≤ ((D.foldl mk1 S).length : Int) → (fP (D.foldl mk1 S) k).isSome = true)
  | [], S, h1, h2, h3 => ⟨h1, h2, h3⟩
  | d :: D, S, h1, h2, h3 => by
    rw [List.foldl_cons]
    have hb := bsOf_len d
    have hq := mq_lt (K := 129 - (bsOf d).length) (by omega) d.off
    have hlen : (mk1 S d).length = S.length + 1 := mk1_len S d
    refine mk_good D (mk1 S d) ?_ ?_ ?_
    · unfold mk1
      exact h1.add (last := S.length) (zs := zsOf S.length d.ids) h2 rfl (by show mq (129 - (bsOf d).length) d.off + (bsOf d).length ≤ 128; omega) (by dsimp only; exact congrArg (fun z => rs (still S (zsOf S.length d.ids) ++ z)) (uppL_nd S (newP S.length d) _).symm)
    · intro p hp
      rw [hlen]
      unfold mk1 at hp
      rcases List.mem_append.1 hp with hp | hp
      · have := h2 p hp; omega
      · rw [List.mem_singleton] at hp
        subst hp
        exact ⟨by show 1 ≤ S.length + 1; omega, Nat.le_refl _⟩
    · intro k hk1 hk2
      rw [hlen] at hk2
      unfold mk1
      rw [fP_isSome]
      by_cases hk : k ≤ (S.length : Int)
      · obtain ⟨p, hp, e⟩ := fP_isSome.1 (h3 k hk1 hk)
        exact ⟨p, List.mem_append_left _ hp, e⟩
      · exact ⟨_, List.mem_append_right _ (List.mem_singleton.2 rfl), by show ((S.length + 1 : Nat) : Int) = k; omega⟩
theorem mkS_good (D : List Dv) : Gd (mkS D) ∧ (∀ k : Int, 1 ≤ k → k ≤ (D.length : Int) → (fP (mkS D) k).isSome = true) := by
  obtain ⟨h1, h2, h3⟩ := mk_good D [] gd_nil (fun p hp => by cases hp) (fun k h1 h2 => by simp at h2; omega)
  refine ⟨h1, fun k hk1 hk2 => h3 k hk1 ?_⟩
  rw [mkS_len]; simpa using hk2

/-- What is chosen: each of them has what it keeps as needs. -/
theorem pst_closed (P : List Pv) : ∀ (l : List Pv) (s : List Int × List Int), (∀ x ∈ s.1, x ∈ (pst P l s).1) ∧ (∀ x ∈ (pst P l s).1, x ∈ s.1 ∨ ∃ p ∈ l, (p.id : Int) = x ∧ lk P (pst P l s).1 p = false)
  | [], s => ⟨fun x hx => hx, fun x hx => .inl hx⟩
  | p :: l, s => by
    obtain ⟨h1, h2⟩ := pst_closed P l (nextC P s.1 p, nextO P s.1 s.2 p)
    rw [show pst P (p :: l) s = pst P l (nextC P s.1 p, nextO P s.1 s.2 p) from rfl]
    have hsub : ∀ x ∈ s.1, x ∈ nextC P s.1 p := fun x hx => by
      unfold nextC; split
      · exact hx
      · exact List.mem_append_left _ hx
    refine ⟨fun x hx => h1 x (hsub x hx), fun x hx => ?_⟩
    rcases h2 x hx with h | ⟨q, hq, e, r⟩
    · dsimp only at h
      unfold nextC at h
      by_cases hl : lk P s.1 p = true
      · rw [if_pos hl] at h; exact .inl h
      · rw [if_neg hl] at h
        rcases List.mem_append.1 h with h | h
        · exact .inl h
        · rw [List.mem_singleton] at h
          refine .inr ⟨p, List.mem_cons_self, h.symm, lk_false.2 (fun y hy hs => h1 y (hsub y (lk_false.1 (by simpa using hl) y hy hs)))⟩
    · exact .inr ⟨q, List.mem_cons_of_mem _ hq, e, r⟩

theorem pst_nodup (P : List Pv) : ∀ (l : List Pv) (s : List Int × List Int), s.1.Nodup → l.Pairwise (fun p q => p.id < q.id) → (∀ x ∈ s.1, ∀ p ∈ l, x ≠ (p.id : Int)) → (pst P l s).1.Nodup
  | [], s, h, _, _ => h
  | p :: l, s, h, hs, hn => by
    rw [show pst P (p :: l) s = pst P l (nextC P s.1 p, nextO P s.1 s.2 p) from rfl]
    have hs' := List.pairwise_cons.1 hs
    refine pst_nodup P l _ ?_ hs'.2 (fun x hx q hq => ?_)
    · dsimp only; unfold nextC; split
      · exact h
      · rw [List.nodup_append]
        exact ⟨h, by simp, fun x hx y hy => by rw [List.mem_singleton] at hy; rw [hy]; exact hn x hx p List.mem_cons_self⟩
    · dsimp only at hx; unfold nextC at hx
      split at hx
      · exact hn x hx q (List.mem_cons_of_mem _ hq)
      · rcases List.mem_append.1 hx with hx | hx
        · exact hn x hx q (List.mem_cons_of_mem _ hq)
        · rw [List.mem_singleton] at hx
          have := hs'.1 q hq
          omega

theorem Gd.planned {P : List Pv} (h : Gd P) (b : Int) (xs : List Int) : Cl P (pst P (ofB P b) ([], xs)).1 ∧ ∀ x ∈ (pst P (ofB P b) ([], xs)).1, ∃ p ∈ P, (p.id : Int) = x ∧ (p.blk : Int) = b := by
  have h2 := (pst_closed P (ofB P b) ([], xs)).2
  refine ⟨fun p hp hx => ?_, fun x hx => ?_⟩
  · rcases h2 _ hx with h' | ⟨q, hq, e, r⟩
    · cases h'
    · have hqP := (mem_ofB.1 hq).1
      have e1 := fP_mem h.srt hp
      have e2 := fP_mem h.srt hqP
      rw [e, e1] at e2
      have : p = q := Option.some.inj e2
      rw [this]; exact r
  · rcases h2 _ hx with h' | ⟨q, hq, e, r⟩
    · cases h'
    · exact ⟨q, (mem_ofB.1 hq).1, e, (mem_ofB.1 hq).2⟩

theorem bad_none {P : List Pv} (h : Gd P) {C : List Int} (hC : Cl P C) : (still P C).any (bad P C) = false := by
  rw [List.any_eq_false]
  intro x hx
  obtain ⟨h1, h2⟩ := mem_still.1 hx
  obtain ⟨p, hp, rfl⟩ := fP_isSome.1 h2
  unfold bad
  rw [fP_mem h.srt hp]
  simpa using hC p hp h1

theorem und_i {p q : Pv} (h : und p q = true) (h1 : 1 ≤ p.bs.length) (h2 : 1 ≤ q.bs.length) : q.id < p.id ∧ ∃ i, cvs1 p i ∧ cvs1 q i := by
  unfold und at h
  simp only [Bool.and_eq_true, decide_eq_true_iff] at h
  refine ⟨h.1, max p.off q.off, ?_⟩
  unfold cvs1 endP at *
  omega

theorem mem_anIs (p : Pv) : ∀ (l : List Pv) (I : List Int) (x : Int), x ∈ anIs p l I ↔ x ∈ I ∨ ∃ q ∈ l, und p q = true ∧ (q.id : Int) = x
  | [], I, x => by simp [anIs]
  | q :: l, I, x => by
    rw [show anIs p (q :: l) I = anIs p l (anI p q I) from rfl, mem_anIs p l]
    unfold anI
    by_cases hu : und p q = true
    · rw [if_pos hu, List.mem_append, List.mem_singleton]
      constructor
      · rintro ((h | h) | ⟨r, hr, h1, h2⟩)
        · exact .inl h
        · exact .inr ⟨q, List.mem_cons_self, hu, h.symm⟩
        · exact .inr ⟨r, List.mem_cons_of_mem _ hr, h1, h2⟩
      · rintro (h | ⟨r, hr, h1, h2⟩)
        · exact .inl (.inl h)
        · rcases List.mem_cons.1 hr with rfl | hr
          · exact .inl (.inr h2.symm)
          · exact .inr ⟨r, hr, h1, h2⟩
    · rw [if_neg hu]
      constructor
      · rintro (h | ⟨r, hr, h1, h2⟩)
        · exact .inl h
        · exact .inr ⟨r, List.mem_cons_of_mem _ hr, h1, h2⟩
      · rintro (h | ⟨r, hr, h1, h2⟩)
        · exact .inl h
        · rcases List.mem_cons.1 hr with rfl | hr
          · exact absurd h1 hu
          · exact .inr ⟨r, hr, h1, h2⟩

theorem mem_ndOf {P : List Pv} {p : Pv} {x : Int} : x ∈ ndOf P p ↔ (x ∈ p.nd ∧ (fP P x).isSome = true) ∨ ∃ q ∈ P, (q.blk : Int) = (p.blk : Int) ∧ und p q = true ∧ (q.id : Int) = x := by
  unfold ndOf
  rw [mem_rs, mem_anIs, mem_still]
  constructor
  · rintro (h | ⟨q, hq, r⟩)
    · exact .inl h
    · exact .inr ⟨q, (mem_ofB.1 hq).1, (mem_ofB.1 hq).2, r⟩
  · rintro (h | ⟨q, hq, h1, r⟩)
    · exact .inl h
    · exact .inr ⟨q, mem_ofB.2 ⟨hq, h1⟩, r⟩

/-- What has of each patch what it keeps as needs has all that it needs. -/
theorem Gd.whole {P : List Pv} (h : Gd P) (hl : ∀ p ∈ P, 1 ≤ p.bs.length) {C : List Int} (hC : Cl P C) {p : Pv} (hp : p ∈ P) (hpC : (p.id : Int) ∈ C) : ∀ x ∈ ndOf P p, x < (p.id : Int) ∧ x ∈ C := by
  intro x hx
  rcases mem_ndOf.1 hx with ⟨h1, h2⟩ | ⟨q, hq, hbl, hu, rfl⟩
  · exact ⟨(h.low p hp x h1).2, lk_false.1 (hC p hp hpC) x h1 h2⟩
  · obtain ⟨hlt, i, hi, hj⟩ := und_i hu (hl p hp) (hl q hq)
    exact ⟨by omega, h.full hC p.id p hp (Nat.le_refl _) hpC q hq hlt (by omega) i hi hj⟩
end Go.Proofs.YtinigfidofgaiaaGreat.Pt

/- Patches laid in another order: a set that has what it needs may go first. -/
namespace Go.Proofs.YtinigfidofgaiaaGreat.Pt
open Go.RowKit Go.Maps
set_option maxRecDepth 100000
set_option linter.unusedVariables false

/-- A plan: the patches, and the bytes. -/
def plnOf (P : List Pv) (b : Int) (xs : List Int) : List Int × List Int := pst P (ofB P b) ([], xs)

theorem ovr_get {xs : List Int} {p : Pv} (h : p.off + p.bs.length ≤ xs.length) (i : Nat) (hi : i < xs.length) : (ovr xs p)[i]? = if p.off ≤ i ∧ i < p.off + p.bs.length then p.bs[i - p.off]? else xs[i]? := by
  unfold ovr
  by_cases h1 : i < p.off
  · rw [if_neg (by omega), List.append_assoc, List.getElem?_append_left (by simp; omega), List.getElem?_take_of_lt h1]
  · by_cases h2 : i < p.off + p.bs.length
    · rw [if_pos (by omega), List.append_assoc, List.getElem?_append_right (by simp; omega), List.length_take, Nat.min_eq_left (by omega), List.getElem?_append_left (by omega)]
    · rw [if_neg (by omega), List.getElem?_append_right (by simp; omega), List.getElem?_drop]
      congr 1
      simp
      omega

theorem ovr_comm {xs : List Int} {p q : Pv} (hp : p.off + p.bs.length ≤ xs.length) (hq : q.off + q.bs.length ≤ xs.length) (hd : ∀ i, ¬ (cvs1 p i ∧ cvs1 q i)) : ovr (ovr xs p) q = ovr (ovr xs q) p := by
  have l1 := ovr_len hp
  have l2 := ovr_len hq
  refine List.ext_getElem? (fun i => ?_)
  by_cases hi : i < xs.length
  · rw [ovr_get (by rw [l1]; exact hq) i (by rw [l1]; exact hi), ovr_get hp i hi, ovr_get (by rw [l2]; exact hp) i (by rw [l2]; exact hi), ovr_get hq i hi]
    have := hd i
    unfold cvs1 endP at this
    by_cases c1 : p.off ≤ i ∧ i < p.off + p.bs.length
    · rw [if_pos c1, if_neg (fun c2 => this ⟨c1, c2⟩), if_pos c1]
    · rw [if_neg c1, if_neg c1]
  · have e1 : (ovr (ovr xs p) q).length = xs.length := by rw [ovr_len (by rw [l1]; exact hq), l1]
    have e2 : (ovr (ovr xs q) p).length = xs.length := by rw [ovr_len (by rw [l2]; exact hp), l2]
    rw [List.getElem?_eq_none (by omega), List.getElem?_eq_none (by omega)]

theorem ovrs_len : ∀ (l : List Pv) (xs : List Int), (∀ p ∈ l, p.off + p.bs.length ≤ xs.length) → (ovrs l xs).length = xs.length
  | [], _, _ => rfl
  | p :: l, xs, h => by
    have h1 := ovr_len (h p List.mem_cons_self)
    rw [show ovrs (p :: l) xs = ovrs l (ovr xs p) from rfl, ovrs_len l _ (fun q hq => by rw [h1]; exact h q (List.mem_cons_of_mem _ hq)), h1]

theorem ovrs_past : ∀ (M : List Pv) (p : Pv) (ys : List Int), p.off + p.bs.length ≤ ys.length → (∀ q ∈ M, q.off + q.bs.length ≤ ys.length) → (∀ q ∈ M, ∀ i, ¬ (cvs1 p i ∧ cvs1 q i)) → ovrs M (ovr ys p) = ovr (ovrs M ys) p
  | [], _, _, _, _, _ => rfl
  | q :: M, p, ys, hp, hM, hd => by
    have hq := hM q List.mem_cons_self
    rw [show ovrs (q :: M) (ovr ys p) = ovrs M (ovr (ovr ys p) q) from rfl, ovr_comm hp hq (hd q List.mem_cons_self)]
    have l2 := ovr_len hq
    exact ovrs_past M p (ovr ys q) (by rw [l2]; exact hp) (fun r hr => by rw [l2]; exact hM r (List.mem_cons_of_mem _ hr)) (fun r hr => hd r (List.mem_cons_of_mem _ hr))

theorem ovrs_app : ∀ (l m : List Pv) (xs : List Int), ovrs (l ++ m) xs = ovrs m (ovrs l xs)
  | [], _, _ => rfl
  | p :: l, m, xs => ovrs_app l m (ovr xs p)

/-- Those of c first, then the others: as all in their order. -/
theorem ovrs_split (c : Pv → Bool) : ∀ (n : Nat) (l : List Pv) (xs : List Int), l.length = n → (∀ p ∈ l, p.off + p.bs.length ≤ xs.length) → l.Pairwise (fun p q => c q = true → c p = false → ∀ i, ¬ (cvs1 q i ∧ cvs1 p i)) → ovrs (l.filter (fun p => !c p)) (ovrs (l.filter c) xs) = ovrs l xs
  | 0, l, xs, hn, _, _ => by
    have : l = [] := List.length_eq_zero_iff.1 hn
    subst this
    rfl
  | n + 1, l, xs, hn, hl, hp => by
    obtain ⟨l', p, rfl⟩ : ∃ l' p, l = l' ++ [p] := ⟨l.dropLast, l.getLast (by intro e; simp [e] at hn), (List.dropLast_concat_getLast _).symm⟩
    have hn' : l'.length = n := by simp at hn; exact hn
    obtain ⟨hp1, _, hp2⟩ := List.pairwise_append.1 hp
    have hl' : ∀ q ∈ l', q.off + q.bs.length ≤ xs.length := fun q hq => hl q (List.mem_append_left _ hq)
    have hpl := hl p (by simp)
    have ih := ovrs_split c n l' xs hn' hl' hp1
    rw [List.filter_append, List.filter_append, ovrs_snoc]
    cases hc : c p with
    | true =>
      have e1 : [p].filter c = [p] := by simp [hc]
      have e2 : [p].filter (fun p => !c p) = [] := by simp [hc]
      rw [e1, e2, List.append_nil, ovrs_snoc]
      have hlen : (ovrs (l'.filter c) xs).length = xs.length := ovrs_len _ _ (fun q hq => hl' q (List.mem_filter.1 hq).1)
      rw [ovrs_past _ p _ (by rw [hlen]; exact hpl) (fun q hq => by rw [hlen]; exact hl' q (List.mem_filter.1 hq).1) (fun q hq => by
        obtain ⟨h1, h2⟩ := List.mem_filter.1 hq
        exact hp2 q h1 p (by simp) hc (by simpa using h2)), ih]
    | false =>
      have e1 : [p].filter c = [] := by simp [hc]
      have e2 : [p].filter (fun p => !c p) = [p] := by simp [hc]
      rw [e1, e2, List.append_nil, ovrs_snoc, ih]

theorem pst_snd (P : List Pv) : ∀ (n : Nat) (l : List Pv) (xs : List Int), l.length = n → l.Pairwise (fun p q => p.id < q.id) → (pst P l ([], xs)).2 = ovrs (l.filter (fun p => decide ((p.id : Int) ∈ (pst P l ([], xs)).1))) xs ∧ ∀ x ∈ (pst P l ([], xs)).1, ∃ p ∈ l, (p.id : Int) = x
  | 0, l, xs, hn, _ => by
    have : l = [] := List.length_eq_zero_iff.1 hn
    subst this
    exact ⟨rfl, fun x hx => by cases hx⟩
  | n + 1, l, xs, hn, hs => by
    obtain ⟨l', p, rfl⟩ : ∃ l' p, l = l' ++ [p] := ⟨l.dropLast, l.getLast (by intro e; simp [e] at hn), (List.dropLast_concat_getLast _).symm⟩
    have hn' : l'.length = n := by simp at hn; exact hn
    obtain ⟨hp1, _, hp2⟩ := List.pairwise_append.1 hs
    obtain ⟨ih1, ih2⟩ := pst_snd P n l' xs hn' hp1
    rw [pst_snoc]
    dsimp only
    generalize hS : pst P l' ([], xs) = S at ih1 ih2
    have hnp : (p.id : Int) ∉ S.1 := fun h => by
      obtain ⟨q, hq, e⟩ := ih2 _ h
      have := hp2 q hq p (by simp)
      omega
    unfold nextC nextO
    by_cases hk : lk P S.1 p = true
    · rw [if_pos hk, if_pos hk, List.filter_append]
      have e : [p].filter (fun p => decide ((p.id : Int) ∈ S.1)) = [] := by simp [hnp]
      rw [e, List.append_nil]
      exact ⟨ih1, fun x hx => by obtain ⟨q, hq, e⟩ := ih2 x hx; exact ⟨q, List.mem_append_left _ hq, e⟩⟩
    · rw [if_neg hk, if_neg hk, List.filter_append]
      have e : [p].filter (fun q => decide ((q.id : Int) ∈ S.1 ++ [(p.id : Int)])) = [p] := by simp
      have e2 : l'.filter (fun q => decide ((q.id : Int) ∈ S.1 ++ [(p.id : Int)])) = l'.filter (fun q => decide ((q.id : Int) ∈ S.1)) := by
        refine List.filter_congr (fun q hq => ?_)
        have := hp2 q hq p (by simp)
        rw [decide_eq_decide, List.mem_append, List.mem_singleton]
        constructor
        · rintro (h | h)
          · exact h
          · omega
        · exact .inl
      rw [e, e2, ovrs_snoc, ih1]
      refine ⟨rfl, fun x hx => ?_⟩
      rcases List.mem_append.1 hx with hx | hx
      · obtain ⟨q, hq, e⟩ := ih2 x hx
        exact ⟨q, List.mem_append_left _ hq, e⟩
      · rw [List.mem_singleton] at hx
        exact ⟨p, by simp, hx.symm⟩

theorem ofB_kp (P : List Pv) (C : List Int) (b : Int) : ofB (kpP P C) b = (ofB P b).filter (fun p => !decide ((p.id : Int) ∈ C)) := by
  unfold ofB kpP
  rw [List.filter_filter, List.filter_filter]
  refine List.filter_congr (fun p _ => ?_)
  rw [Bool.and_comm]

/-- Behind a plan that was done the block is now as it was. -/
theorem Gd.now {P : List Pv} (h : Gd P) (hl : ∀ p ∈ P, p.off + p.bs.length ≤ 128) (b : Int) {xs : List Int} (hx : xs.length = 128) : ovrs (ofB (kpP P (plnOf P b xs).1) b) (plnOf P b xs).2 = ovrs (ofB P b) xs := by
  have hs : (ofB P b).Pairwise (fun p q => p.id < q.id) := List.Pairwise.filter _ h.srt
  have h1 := (pst_snd P _ (ofB P b) xs rfl hs).1
  rw [ofB_kp]
  unfold plnOf
  rw [h1]
  refine ovrs_split (fun p => decide ((p.id : Int) ∈ (pst P (ofB P b) ([], xs)).1)) _ (ofB P b) xs rfl (fun p hp => by rw [hx]; exact hl p (mem_ofB.1 hp).1) ?_
  have hC := (h.planned b xs).1
  refine (List.Pairwise.imp_of_mem ?_ hs)
  intro p q hp hq hlt c1 c2 i hi
  have hp' := mem_ofB.1 hp
  have hq' := mem_ofB.1 hq
  have := h.full hC q.id q hq'.1 (Nat.le_refl _) (of_decide_eq_true c1) p hp'.1 hlt (by have := hp'.2; have := hq'.2; omega) i hi.1 hi.2
  exact of_decide_eq_false c2 this
/-- The others stay. -/
theorem Gd.else {P : List Pv} (h : Gd P) (b b' : Int) (hb : b' ≠ b) (xs : List Int) : ofB (kpP P (plnOf P b xs).1) b' = ofB P b' := by
  rw [ofB_kp]
  refine List.filter_eq_self.2 (fun p hp => ?_)
  obtain ⟨hp1, hp2⟩ := mem_ofB.1 hp
  rw [Bool.not_eq_true', decide_eq_false_iff_not]
  intro hx
  obtain ⟨q, hq, e, eb⟩ := (h.planned b xs).2 _ hx
  have e1 := fP_mem h.srt hp1
  have e2 := fP_mem h.srt hq
  rw [e, e1] at e2
  have : p = q := Option.some.inj e2
  subst this
  omega
end Go.Proofs.YtinigfidofgaiaaGreat.Pt

/- What is written between turns nothing that is read; something may be written while something is pending. -/
namespace Go.Proofs.YtinigfidofgaiaaGreat
open Go.RowKit Go.Maps
set_option linter.unusedVariables false
set_option maxRecDepth 100000

/-- The lowest pending patch's block may be written. -/
theorem chs_low {p0 : Pt.Pv} {r : List Pt.Pv} (h : Pt.Gd (p0 :: r)) : (p0.id : Int) ∈ chs (p0 :: r) (p0.blk : Int) := by
  have hlk : Pt.lk (p0 :: r) [] p0 = false := by
    rw [Pt.lk_false]
    intro x hx hs
    obtain ⟨p, hp, e⟩ := Pt.fP_isSome.1 hs
    have h1 := h.low p0 (by simp) x hx
    have h2 : p0.id ≤ p.id := by
      rcases List.mem_cons.1 hp with rfl | hp'
      · exact Nat.le_refl _
      · exact Nat.le_of_lt ((List.pairwise_cons.1 h.srt).1 p hp')
    omega
  unfold chs
  have hof : Pt.ofB (p0 :: r) (p0.blk : Int) = p0 :: Pt.ofB r (p0.blk : Int) := by unfold Pt.ofB; simp
  rw [hof]
  show (p0.id : Int) ∈ (Pt.pst (p0 :: r) (Pt.ofB r (p0.blk : Int)) (Pt.nextC (p0 :: r) [] p0, Pt.nextO (p0 :: r) [] [] p0)).1
  refine (Pt.pst_closed (p0 :: r) (Pt.ofB r (p0.blk : Int)) _).1 _ ?_
  unfold Pt.nextC
  rw [hlk]
  simp

theorem rdy_some {T : Vs} (h : Pt.Gd T.P) (hne : T.P ≠ []) (hq : T.S.q = []) : rdy T (Pt.blks T.P) ≠ [] := by
  cases hP : T.P with
  | nil => exact absurd hP hne
  | cons p0 r =>
    rw [hP] at h
    intro e
    have hm : (p0.blk : Int) ∈ rdy T (Pt.blks (p0 :: r)) := by
      refine List.mem_filter.2 ⟨(Pt.mem_rs _ _).2 (List.mem_map.2 ⟨p0, by simp, rfl⟩), ?_⟩
      unfold may
      have h1 : qbs T.S = [] := by unfold qbs; rw [hq]; rfl
      have h2 : (chs T.P (p0.blk : Int)).isEmpty = false := by
        have := chs_low h
        rw [← hP] at this
        cases hc : chs T.P (p0.blk : Int) with
        | nil => rw [hc] at this; cases this
        | cons _ _ => rfl
      rw [h1, h2]
      rfl
    rw [e] at hm
    cases hm

/-- Behind the end of a write all blocks read as they did. -/
theorem now_same {P : List Pt.Pv} (h : Pt.Gd P) (hl : ∀ p ∈ P, p.off + p.bs.length ≤ 128) (f : Nat → List Int) (hf : ∀ b, (f b).length = 128) (b b' : Nat) :
    Pt.ovrs (Pt.ofB (Pt.kpP P (chs P (b : Int))) (b' : Int)) (upd f b (Pt.pst P (Pt.ofB P (b : Int)) ([], f b)).2 b') = Pt.ovrs (Pt.ofB P (b' : Int)) (f b') := by
  have hc : (Pt.plnOf P (b : Int) (f b)).1 = chs P (b : Int) := chs_any _ _ _
  by_cases e : b' = b
  · subst e
    have := h.now hl (b' : Int) (hf b')
    rw [hc] at this
    unfold upd
    rw [if_pos rfl]
    exact this
  · have := h.else (b : Int) (b' : Int) (by omega) (f b)
    rw [hc] at this
    rw [this]
    unfold upd
    rw [if_neg e]
end Go.Proofs.YtinigfidofgaiaaGreat
