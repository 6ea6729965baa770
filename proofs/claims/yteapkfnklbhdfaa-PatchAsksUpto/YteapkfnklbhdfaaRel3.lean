/- A new patch in both sets; all that must be on the disk. -/
import Derived.Test.YteapkfnklbhdfaaRel2
import Derived.Test.YteapkfnklbhdfaaClo2
import Derived.Test.YteapkfnklbhdfaaRef10
namespace Go.Proofs.Yteapkfnklbhdfaa
open Go.RowKit Go.Maps
set_option linter.unusedVariables false

theorem rel_back {P : List Pv} : ∀ {l m : List Pv}, F2 (Same P) l m → ∀ r ∈ m, ∃ p ∈ l, Same P p r
  | [], [], _, r, h => by cases h
  | p :: l, s :: m, .cons h t, r, hr => by
    rcases List.mem_cons.1 hr with rfl | hr
    · exact ⟨p, List.mem_cons_self, h⟩
    · obtain ⟨q, hq, hs⟩ := rel_back t r hr
      exact ⟨q, List.mem_cons_of_mem _ hq, hs⟩
theorem rel_fwd {P : List Pv} : ∀ {l m : List Pv}, F2 (Same P) l m → ∀ p ∈ l, ∃ r ∈ m, Same P p r
  | [], [], _, r, h => by cases h
  | q :: l, s :: m, .cons h t, p, hp => by
    rcases List.mem_cons.1 hp with rfl | hp
    · exact ⟨s, List.mem_cons_self, h⟩
    · obtain ⟨r, hr, hs⟩ := rel_fwd t p hp
      exact ⟨r, List.mem_cons_of_mem _ hr, hs⟩
theorem rel_srt {P L : List Pv} (h : Rel P L) (hs : P.Pairwise (fun p q => p.id < q.id)) : L.Pairwise (fun p q => p.id < q.id) := by
  have e := rel_ids h
  have : (P.map (fun p => (p.id : Int))).Pairwise (fun x y => x < y) := by rw [List.pairwise_map]; exact hs.imp (fun h => by omega)
  rw [← e, List.pairwise_map] at this
  exact this.imp (fun h => by omega)

theorem rel_add {P L : List Pv} (h : Rel P L) (hg : Gd P) {last : Nat} (hP : ∀ p ∈ P, 1 ≤ p.id ∧ p.id ≤ last) (hbs : ∀ p ∈ P, 1 ≤ p.bs.length) (hlow : ∀ r ∈ L, ∀ y ∈ r.nd, y < (r.id : Int)) {zs : List Int} {pn rn : Pv} (e1 : pn.id = last + 1) (e2 : rn.id = last + 1) (eb : rn.blk = pn.blk) (eo : rn.off = pn.off) (ebs : rn.bs = pn.bs) (hof : pn.off + pn.bs.length ≤ 128) (hb1 : 1 ≤ pn.bs.length) (hnd : pn.nd = rs (still P zs ++ uppL P pn)) (hnd2 : rn.nd = rnd L rn zs) : Rel (P ++ [pn]) (L ++ [rn]) := by
  have hpend : ∀ y, (fP (P ++ [pn]) y).isSome = true ↔ (fP P y).isSome = true ∨ y = (pn.id : Int) := fun y => by
    rw [fP_isSome, fP_isSome]
    constructor
    · rintro ⟨q, hq, e⟩
      rcases List.mem_append.1 hq with hq | hq
      · exact .inl ⟨q, hq, e⟩
      · rw [List.mem_singleton] at hq; subst hq; exact .inr e.symm
    · rintro (⟨q, hq, e⟩ | e)
      · exact ⟨q, List.mem_append_left _ hq, e⟩
      · exact ⟨pn, List.mem_append_right _ (by simp), e.symm⟩
  have hund : ∀ q, und pn q = true ↔ q.id < pn.id ∧ pn.off < endP q ∧ q.off < endP pn := fun q => by
    unfold und; simp only [Bool.and_eq_true, decide_eq_true_iff]
  have hrov : ∀ p r, Same P p r → (rovl rn r = true ↔ (p.blk : Int) = (pn.blk : Int) ∧ pn.off < endP p ∧ p.off < endP pn) := fun p r hs => by
    unfold rovl endP
    rw [hs.blk, hs.off, hs.bs, eb, eo, ebs]
    simp only [Bool.and_eq_true, decide_eq_true_iff]
    constructor
    · rintro ⟨a, b, c⟩; exact ⟨by omega, by omega, by omega⟩
    · rintro ⟨a, b, c⟩; exact ⟨by omega, by omega, by omega⟩
  refine f2_app (f2_imp h (fun p hp r hr hs => ?_)) ?_
  · refine ⟨hs.id, hs.blk, hs.off, hs.bs, fun y hy => ?_, hs.nds⟩
    have hpl := hP p hp
    have hnew : ∀ (q : Pv), q ∈ P ++ [pn] → und p q = true → q ∈ P := fun q hq hu => by
      rcases List.mem_append.1 hq with hq | hq
      · exact hq
      · rw [List.mem_singleton] at hq
        subst hq
        unfold und at hu
        simp only [Bool.and_eq_true, decide_eq_true_iff] at hu
        omega
    rcases (hpend y).1 hy with hy' | hy'
    · rw [hs.nd y hy', mem_ndOf, mem_ndOf]
      constructor
      · rintro (⟨a, b⟩ | ⟨q, hq, a⟩)
        · exact .inl ⟨a, hy⟩
        · exact .inr ⟨q, List.mem_append_left _ hq, a⟩
      · rintro (⟨a, b⟩ | ⟨q, hq, a⟩)
        · exact .inl ⟨a, hy'⟩
        · exact .inr ⟨q, hnew q hq a.2.1, a⟩
    · constructor
      · intro hyr
        have := hlow r hr y hyr
        rw [hs.id] at this
        omega
      · intro hyn
        exfalso
        rcases mem_ndOf.1 hyn with ⟨a, b⟩ | ⟨q, hq, a⟩
        · have := (hg.low p hp y a).2; omega
        · have := hP q (hnew q hq a.2.1); have := a.2.2; omega
  · refine ⟨by omega, eb, eo, ebs, fun y hy => ?_, ?_⟩
    · obtain ⟨hu1, hu2⟩ := uppL_ok hg.srt hof
      rw [hnd2, mem_ndOf, hnd, mem_rs, List.mem_append]
      constructor
      · intro hyr
        unfold rnd at hyr
        obtain ⟨r, hr, rfl⟩ := List.mem_map.1 hyr
        obtain ⟨hrL, hor⟩ := List.mem_filter.1 hr
        obtain ⟨p, hp, hs⟩ := rel_back h r hrL
        rw [Bool.or_eq_true] at hor
        rcases hor with hz | ho
        · refine .inl ⟨.inl (mem_still.2 ⟨of_decide_eq_true hz, ?_⟩), hy⟩
          rw [hs.id]; exact fP_isSome.2 ⟨p, hp, rfl⟩
        · obtain ⟨a, b, c⟩ := (hrov p r hs).1 ho
          exact .inr ⟨p, List.mem_append_left _ hp, a, (hund p).2 ⟨by have := (hP p hp).2; omega, b, c⟩, by rw [hs.id]⟩
      · intro hyn
        have hmk : ∀ p ∈ P, (p.id : Int) = y → ((p.id : Int) ∈ zs ∨ ((p.blk : Int) = (pn.blk : Int) ∧ pn.off < endP p ∧ p.off < endP pn)) → y ∈ rnd L rn zs := fun p hp ey hor => by
          obtain ⟨r, hr, hs⟩ := rel_fwd h p hp
          unfold rnd
          refine List.mem_map.2 ⟨r, List.mem_filter.2 ⟨hr, ?_⟩, by rw [hs.id]; exact ey⟩
          rw [Bool.or_eq_true]
          rcases hor with hz | ho
          · exact .inl (decide_eq_true (by rw [hs.id]; exact hz))
          · exact .inr ((hrov p r hs).2 ho)
        rcases hyn with ⟨hst | hup, _⟩ | ⟨q, hq, a, hu, ey⟩
        · obtain ⟨hz, hsy⟩ := mem_still.1 hst
          obtain ⟨p, hp, ey⟩ := fP_isSome.1 hsy
          exact hmk p hp ey (.inl (by rw [ey]; exact hz))
        · obtain ⟨u, hu, ey, i, hi1, hi2⟩ := hu1 y hup
          obtain ⟨huP, hub⟩ := mem_ofB.1 hu
          refine hmk u huP ey (.inr ⟨hub, ?_, ?_⟩)
          · unfold cvs1 at hi1 hi2; omega
          · unfold cvs1 at hi1 hi2; omega
        · obtain ⟨b1, b2, b3⟩ := (hund q).1 hu
          rcases List.mem_append.1 hq with hq | hq
          · exact hmk q hq ey (.inr ⟨a, b2, b3⟩)
          · rw [List.mem_singleton] at hq; subst hq; omega
    · rw [hnd2]
      unfold rnd
      rw [List.pairwise_map]
      exact (List.Pairwise.filter _ (rel_srt h hg.srt)).imp (fun h => by omega)

/-- What is wanted has what it needs. -/
theorem wf_cl : ∀ (l : List Pv) (zs : List Int), l.Pairwise (fun p q => p.id < q.id) → (∀ r ∈ l, ∀ y ∈ r.nd, y < (r.id : Int)) → (∀ x ∈ zs, x ∈ wf l zs) ∧ ∀ r ∈ l, (r.id : Int) ∈ wf l zs → ∀ y ∈ r.nd, y ∈ wf l zs
  | [], zs, _, _ => ⟨fun x hx => hx, fun r hr => by cases hr⟩
  | p :: l, zs, hs, hl => by
    obtain ⟨hs1, hs2⟩ := List.pairwise_cons.1 hs
    obtain ⟨h1, h2⟩ := wf_cl l zs hs2 (fun r hr => hl r (List.mem_cons_of_mem _ hr))
    have hsub : ∀ x ∈ wf l zs, x ∈ wf (p :: l) zs := fun x hx => by
      unfold wf
      split
      · exact List.mem_append_left _ hx
      · exact hx
    refine ⟨fun x hx => hsub x (h1 x hx), fun r hr hrW y hy => ?_⟩
    have hin : (r.id : Int) ∈ wf l zs := by
      unfold wf at hrW
      split at hrW
      · rcases List.mem_append.1 hrW with h | h
        · exact h
        · exfalso
          have h3 := hl p List.mem_cons_self _ h
          rcases List.mem_cons.1 hr with rfl | hr
          · omega
          · have := hs1 r hr; omega
      · exact hrW
    rcases List.mem_cons.1 hr with rfl | hr
    · unfold wf
      rw [if_pos hin]
      exact List.mem_append_right _ hy
    · exact hsub y (h2 r hr hin y hy)
theorem wf_min (D : Int → Prop) : ∀ (l : List Pv) (zs : List Int), (∀ x ∈ zs, D x) → (∀ r ∈ l, D (r.id : Int) → ∀ y ∈ r.nd, D y) → ∀ x ∈ wf l zs, D x
  | [], zs, h, _, x, hx => h x hx
  | p :: l, zs, h, hc, x, hx => by
    have ih := wf_min D l zs h (fun r hr => hc r (List.mem_cons_of_mem _ hr))
    unfold wf at hx
    split at hx
    · rename_i hp
      rcases List.mem_append.1 hx with hx | hx
      · exact ih x hx
      · exact hc p List.mem_cons_self (ih _ hp) x hx
    · exact ih x hx

theorem rel_clo {P L : List Pv} (h : Rel P L) (hg : Gd P) (hbs : ∀ p ∈ P, 1 ≤ p.bs.length) (hlow : ∀ r ∈ L, ∀ y ∈ r.nd, y < (r.id : Int)) (zs O : List Int) (hO : ∀ x, x ∈ O ↔ Rch P zs x) : clL L (wf L zs) = rs O := by
  have hsL := rel_srt h hg.srt
  obtain ⟨w1, w2⟩ := wf_cl L zs hsL hlow
  have hCl : Cl P O := fun p hp hpO => lk_false.2 (fun y hy hsy => (hO y).2 (.step ((hO _).1 hpO) (fP_mem hg.srt hp) hy hsy))
  have hmin : ∀ y ∈ wf L zs, (fP P y).isSome = true → y ∈ O := fun y hy => wf_min (fun y => (fP P y).isSome = true → y ∈ O) L zs (fun y hy hsy => (hO y).2 (.base hy hsy)) (fun r hr hD y hy hsy => by
    obtain ⟨p, hp, hs⟩ := rel_back h r hr
    have hpO : (p.id : Int) ∈ O := by have := hD (by rw [hs.id]; exact fP_isSome.2 ⟨p, hp, rfl⟩); rw [hs.id] at this; exact this
    exact (hg.whole hbs hCl hp hpO y ((hs.nd y hsy).1 hy)).2) y hy
  have hmax : ∀ y, Rch P zs y → y ∈ wf L zs := fun y hy => by
    induction hy with
    | base a b => exact w1 _ a
    | @step x y p a b c d ih =>
      obtain ⟨hpP, hpy⟩ := fP_some b
      obtain ⟨r, hr, hs⟩ := rel_fwd h p hpP
      refine w2 r hr (by rw [hs.id, hpy]; exact ih) x ((hs.nd x d).2 (mem_ndOf.2 (.inl ⟨c, d⟩)))
  refine sorted_ext ?_ (rs_sorted _) (fun y => ?_)
  · unfold clL
    rw [List.pairwise_map]
    exact (List.Pairwise.filter _ hsL).imp (fun h => by omega)
  · rw [mem_rs]
    unfold clL
    constructor
    · intro hy
      obtain ⟨r, hr, rfl⟩ := List.mem_map.1 hy
      obtain ⟨hrL, hrW⟩ := List.mem_filter.1 hr
      exact hmin _ (of_decide_eq_true hrW) (by rw [← rel_some h]; exact fP_isSome.2 ⟨r, hrL, rfl⟩)
    · intro hy
      have hR := (hO y).1 hy
      have hp := hR.pend
      rw [← rel_some h] at hp
      obtain ⟨r, hr, e⟩ := fP_isSome.1 hp
      exact List.mem_map.2 ⟨r, List.mem_filter.2 ⟨hr, decide_eq_true (by rw [e]; exact hmax y hR)⟩, e⟩
end Go.Proofs.Yteapkfnklbhdfaa
