/- What is done to both sets leaves them the same. -/
import Derived.Test.YteapkfnklbhdfaaMay
namespace Go.Proofs.Yteapkfnklbhdfaa
open Go.RowKit Go.Maps
set_option linter.unusedVariables false

theorem f2_imp {R S : Pv → Pv → Prop} : ∀ {l m : List Pv}, F2 R l m → (∀ p ∈ l, ∀ r ∈ m, R p r → S p r) → F2 S l m
  | [], [], _, _ => .nil
  | p :: l, r :: m, .cons h t, hi => .cons (hi p List.mem_cons_self r List.mem_cons_self h) (f2_imp t (fun p' hp' r' hr' => hi p' (List.mem_cons_of_mem _ hp') r' (List.mem_cons_of_mem _ hr')))
theorem f2_app {R : Pv → Pv → Prop} : ∀ {l m : List Pv}, F2 R l m → ∀ {p r : Pv}, R p r → F2 R (l ++ [p]) (m ++ [r])
  | [], [], _, _, _, h => .cons h .nil
  | q :: l, s :: m, .cons h t, _, _, h2 => .cons h (f2_app t h2)
theorem f2_len {R : Pv → Pv → Prop} : ∀ {l m : List Pv}, F2 R l m → m.length = l.length
  | [], [], _ => rfl
  | p :: l, r :: m, .cons h t => by rw [List.length_cons, List.length_cons, f2_len t]

/-- Where some go, what the others need of the rest stays. -/
theorem same_sub {P Q : List Pv} (hQ : ∀ p ∈ Q, p ∈ P) (hs : P.Pairwise (fun p q => p.id < q.id)) {p r : Pv} (hp : p ∈ Q) (h : Same P p r) : Same Q p r := by
  have hfs : ∀ y, (fP Q y).isSome = true → (fP P y).isSome = true := fun y hy => by
    obtain ⟨q, hq, e⟩ := fP_isSome.1 hy
    exact fP_isSome.2 ⟨q, hQ q hq, e⟩
  refine ⟨h.id, h.blk, h.off, h.bs, fun y hy => ?_, h.nds⟩
  rw [h.nd y (hfs y hy), mem_ndOf, mem_ndOf]
  constructor
  · rintro (⟨h1, h2⟩ | ⟨q, hq, hb, hu, e⟩)
    · exact .inl ⟨h1, hy⟩
    · obtain ⟨q', hq', e'⟩ := fP_isSome.1 hy
      have e1 := fP_mem hs hq
      have e2 := fP_mem hs (hQ q' hq')
      rw [e'] at e2
      rw [e, e2] at e1
      have : q' = q := Option.some.inj e1
      subst this
      exact .inr ⟨q', hq', hb, hu, e⟩
  · rintro (⟨h1, h2⟩ | ⟨q, hq, hb, hu, e⟩)
    · exact .inl ⟨h1, hfs y hy⟩
    · exact .inr ⟨q, hQ q hq, hb, hu, e⟩

theorem rel_kp {P L : List Pv} (h : Rel P L) (hg : Gd P) (zs : List Int) : Rel (kpP P zs) (kpP L zs) := by
  have h1 : F2 (Same P) (kpP P zs) (kpP L zs) := rel_filter (fun p r hs => by rw [hs.id]) h
  exact f2_imp h1 (fun p hp r _ hs => same_sub (fun q hq => (mem_kpP.1 hq).1) hg.srt hp hs)
theorem rel_up {P L : List Pv} (h : Rel P L) (hg : Gd P) (l : Nat) : Rel (upP P l) (upP L l) := by
  have h1 : F2 (Same P) (upP P l) (upP L l) := rel_filter (fun p r hs => by rw [hs.id]) h
  exact f2_imp h1 (fun p hp r _ hs => same_sub (fun q hq => (List.mem_filter.1 hq).1) hg.srt hp hs)

/-- Done is refused by both, or by none. -/
theorem rel_bad {P L : List Pv} (h : Rel P L) (hg : Gd P) (hl : ∀ p ∈ P, 1 ≤ p.bs.length) (zs : List Int) : anyB L zs = (still P zs).any (bad P zs) := by
  have hlk : ∀ (Q : List Pv) (r : Pv), lk Q zs r = false ↔ lk Q (still Q zs) r = false := fun Q r => by
    rw [lk_false, lk_false]
    constructor
    · intro h y hy hs; exact mem_still.2 ⟨h y hy hs, hs⟩
    · intro h y hy hs; exact (mem_still.1 (h y hy hs)).1
  have hst : still L zs = still P zs := by
    unfold still
    refine List.filter_congr (fun y _ => ?_)
    rw [rel_some h]
  have hcl := rel_cl h hg hl (still P zs) (fun y hy => (mem_still.1 hy).2)
  have h1 : anyB L zs = false ↔ ∀ k ∈ still P zs, ∀ r, fP L k = some r → lk L (still P zs) r = false := by
    unfold anyB
    rw [List.any_eq_false]
    constructor
    · intro hh k hk r hr
      obtain ⟨hrm, hrk⟩ := fP_some hr
      have := hh r hrm
      unfold rbad at this
      rw [hrk, decide_eq_true (mem_still.1 hk).1, Bool.true_and] at this
      have h2 := (hlk L r).1 (by simpa using this)
      rw [hst] at h2
      exact h2
    · intro hh r hr
      unfold rbad
      by_cases hz : (r.id : Int) ∈ zs
      · have hsL : L.Pairwise (fun p q => p.id < q.id) := by
          have e := rel_ids h
          have : (P.map (fun p => (p.id : Int))).Pairwise (fun x y => x < y) := by rw [List.pairwise_map]; exact hg.srt.imp (fun h => by omega)
          rw [← e, List.pairwise_map] at this
          exact this.imp (fun h => by omega)
        have hf := fP_mem hsL hr
        have hk : (r.id : Int) ∈ still P zs := mem_still.2 ⟨hz, by rw [← rel_some h, hf]; rfl⟩
        have h2 := hh _ hk r hf
        rw [← hst] at h2
        have h3 := (hlk L r).2 h2
        rw [h3]; simp
      · simp [hz]
  have h2 : (still P zs).any (bad P zs) = false ↔ Cl P (still P zs) := by
    rw [List.any_eq_false]
    constructor
    · intro hh p hp hpC
      have := hh _ hpC
      unfold bad at this
      rw [fP_mem hg.srt hp] at this
      exact (hlk P p).1 (by simpa using this)
    · intro hh k hk
      obtain ⟨p, hp, rfl⟩ := fP_isSome.1 (mem_still.1 hk).2
      unfold bad
      rw [fP_mem hg.srt hp]
      have := (hlk P p).2 (hh p hp hk)
      simpa using this
  cases e1 : anyB L zs with
  | true =>
    cases e2 : (still P zs).any (bad P zs) with
    | true => rfl
    | false => rw [h1.2 (hcl.1 (h2.1 e2))] at e1; cases e1
  | false =>
    rw [h2.2 (hcl.2 (h1.1 e1))]

/-- What Get tells of needs. -/
theorem rel_get {P L : List Pv} (h : Rel P L) {p r : Pv} (hs : Same P p r) : still L r.nd = ndOf P p := by
  refine sorted_ext (List.Pairwise.filter _ hs.nds) (rs_sorted _) (fun y => ?_)
  rw [mem_still, rel_some h]
  constructor
  · rintro ⟨h1, h2⟩; exact (hs.nd y h2).1 h1
  · intro hy
    have hp : (fP P y).isSome = true := by
      rcases mem_ndOf.1 hy with ⟨_, h2⟩ | ⟨q, hq, _, _, e⟩
      · exact h2
      · exact fP_isSome.2 ⟨q, hq, e⟩
    exact ⟨(hs.nd y hp).2 hy, hp⟩
end Go.Proofs.Yteapkfnklbhdfaa
