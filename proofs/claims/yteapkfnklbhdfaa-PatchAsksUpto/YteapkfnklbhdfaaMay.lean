/- What may be written: the program's plan is the document's. -/
import Derived.Test.YteapkfnklbhdfaaRel
import Derived.Test.YteapkfnklbhdfaaOvr
namespace Go.Proofs.Yteapkfnklbhdfaa
open Go.RowKit Go.Maps
set_option linter.unusedVariables false

theorem pst_sorted (P : List Pv) : ∀ (l : List Pv) (s : List Int × List Int), s.1.Pairwise (fun x y => x < y) → l.Pairwise (fun p q => p.id < q.id) → (∀ x ∈ s.1, ∀ p ∈ l, x < (p.id : Int)) → (pst P l s).1.Pairwise (fun x y => x < y)
  | [], s, h, _, _ => h
  | p :: l, s, h, hs, hn => by
    rw [show pst P (p :: l) s = pst P l (nextC P s.1 p, nextO P s.1 s.2 p) from rfl]
    have hs' := List.pairwise_cons.1 hs
    refine pst_sorted P l _ ?_ hs'.2 (fun x hx q hq => ?_)
    · dsimp only; unfold nextC; split
      · exact h
      · exact List.pairwise_append.2 ⟨h, by simp, fun x hx y hy => by rw [List.mem_singleton] at hy; rw [hy]; exact hn x hx p List.mem_cons_self⟩
    · dsimp only at hx; unfold nextC at hx
      split at hx
      · exact hn x hx q (List.mem_cons_of_mem _ hq)
      · rcases List.mem_append.1 hx with hx | hx
        · exact hn x hx q (List.mem_cons_of_mem _ hq)
        · rw [List.mem_singleton] at hx
          have := hs'.1 q hq
          omega

/-- A set that has what it keeps as needs is within what is chosen. -/
theorem pst_greatest (P : List Pv) (hg : Gd P) (C : List Int) (hC : Cl P C) : ∀ (l : List Pv) (s : List Int × List Int), l.Pairwise (fun p q => p.id < q.id) → (∀ p ∈ l, p ∈ P) → (∀ q ∈ P, (q.id : Int) ∈ C → (q.id : Int) ∈ s.1 ∨ q ∈ l) → ∀ p ∈ l, (p.id : Int) ∈ C → (p.id : Int) ∈ (pst P l s).1
  | [], s, _, _, _, p, hp, _ => by cases hp
  | p :: l, s, hs, hP, hr, p', hp', hpC => by
    rw [show pst P (p :: l) s = pst P l (nextC P s.1 p, nextO P s.1 s.2 p) from rfl]
    have hs' := List.pairwise_cons.1 hs
    have hch : (p.id : Int) ∈ C → (p.id : Int) ∈ nextC P s.1 p := fun h => by
      have hlk : lk P s.1 p = false := lk_false.2 (fun y hy hsy => by
        have hyC := lk_false.1 (hC p (hP p List.mem_cons_self) h) y hy hsy
        obtain ⟨q, hq, rfl⟩ := fP_isSome.1 hsy
        have hlt := (hg.low p (hP p List.mem_cons_self) _ hy).2
        rcases hr q hq hyC with h1 | h1
        · exact h1
        · rcases List.mem_cons.1 h1 with rfl | h1
          · omega
          · have := hs'.1 q h1; omega)
      unfold nextC
      rw [if_neg (by rw [hlk]; simp)]
      simp
    have hsub : ∀ x ∈ s.1, x ∈ nextC P s.1 p := fun x hx => by
      unfold nextC; split
      · exact hx
      · exact List.mem_append_left _ hx
    rcases List.mem_cons.1 hp' with rfl | hp'
    · exact (pst_closed P l (nextC P s.1 p', nextO P s.1 s.2 p')).1 _ (hch hpC)
    · refine pst_greatest P hg C hC l _ hs'.2 (fun q hq => hP q (List.mem_cons_of_mem _ hq)) (fun q hq hqC => ?_) p' hp' hpC
      rcases hr q hq hqC with h1 | h1
      · exact .inl (hsub _ h1)
      · rcases List.mem_cons.1 h1 with rfl | h1
        · exact .inl (hch hqC)
        · exact .inr h1

theorem lk_mono {L : List Pv} {C D : List Int} {r : Pv} (h : lk L C r = false) (hs : ∀ y ∈ C, y ∈ D) : lk L D r = false := lk_false.2 (fun y hy hsy => hs y (lk_false.1 h y hy hsy))
theorem itr_greatest {L : List Pv} {ids C : List Int} (hsub : ∀ y ∈ C, y ∈ ids) (hC : ∀ k ∈ C, ∀ r, fP L k = some r → lk L C r = false) : ∀ (k : Nat) (y : Int), y ∈ C → y ∈ itr L k ids
  | 0, y, h => hsub y h
  | k + 1, y, h => by
    have ih := itr_greatest hsub hC k
    refine List.mem_filter.2 ⟨ih y h, ?_⟩
    unfold okI
    cases e : fP L y with
    | none => rfl
    | some r => rw [Option.map_some, Option.getD_some, lk_mono (hC y h r e) ih]; rfl
theorem itr_sorted {L : List Pv} {ids : List Int} (h : ids.Pairwise (fun x y => x < y)) : ∀ k, (itr L k ids).Pairwise (fun x y => x < y)
  | 0 => h
  | k + 1 => List.Pairwise.filter _ (itr_sorted h k)

theorem idsOf_sorted {P : List Pv} (h : P.Pairwise (fun p q => p.id < q.id)) (b : Int) : (idsOf P b).Pairwise (fun x y => x < y) := by
  rw [idsOf_eq, List.pairwise_map]
  exact (List.Pairwise.filter _ h).imp (fun h => by omega)

theorem rel_may {P L : List Pv} (h : Rel P L) (hg : Gd P) (hl : ∀ p ∈ P, 1 ≤ p.bs.length) (b : Int) (xs : List Int) {M : List Int} {k : Nat} (hM : M = itr L k (idsOf L b)) (hfix : stp L M = M) : M = (plnOf P b xs).1 := by
  have hid := rel_idsOf h b
  have hpl := hg.planned b xs
  have hMsub : ∀ y ∈ M, y ∈ idsOf P b := fun y hy => by rw [hM] at hy; have := itr_sub _ _ k y hy; rw [hid] at this; exact this
  have hpend : ∀ y ∈ idsOf P b, (fP P y).isSome = true := fun y hy => by
    rw [idsOf_eq] at hy
    obtain ⟨p, hp, rfl⟩ := List.mem_map.1 hy
    exact fP_isSome.2 ⟨p, (mem_ofB.1 hp).1, rfl⟩
  have hsP : (ofB P b).Pairwise (fun p q => p.id < q.id) := List.Pairwise.filter _ hg.srt
  refine sorted_ext (by rw [hM]; exact itr_sorted (by rw [hid]; exact idsOf_sorted hg.srt b) k) (pst_sorted P _ _ List.Pairwise.nil hsP (fun x hx => by cases hx)) (fun y => ⟨fun hy => ?_, fun hy => ?_⟩)
  · have hCl : Cl P M := (rel_cl h hg hl M (fun y hy => hpend y (hMsub y hy))).2 (fun k' hk' r hr => by
      have h1 : k' ∈ stp L M := by rw [hfix]; exact hk'
      have h2 := (List.mem_filter.1 h1).2
      unfold okI at h2
      rw [hr] at h2
      simpa using h2)
    have hy' := hMsub y hy
    rw [idsOf_eq] at hy'
    obtain ⟨p, hp, rfl⟩ := List.mem_map.1 hy'
    refine pst_greatest P hg M hCl (ofB P b) _ hsP (fun q hq => (mem_ofB.1 hq).1) (fun q hq hqM => .inr ?_) p hp hy
    have := hMsub _ hqM
    rw [idsOf_eq] at this
    obtain ⟨q', hq', e⟩ := List.mem_map.1 this
    have e1 := fP_mem hg.srt hq
    have e2 := fP_mem hg.srt (mem_ofB.1 hq').1
    rw [e, e1] at e2
    rw [Option.some.inj e2]; exact hq'
  · have hC := (rel_cl h hg hl (plnOf P b xs).1 (fun y hy => by obtain ⟨p, hp, e, _⟩ := hpl.2 y hy; exact fP_isSome.2 ⟨p, hp, e⟩)).1 hpl.1
    rw [hM]
    refine itr_greatest (C := (plnOf P b xs).1) (fun y hy => ?_) hC k y hy
    rw [hid, idsOf_eq]
    obtain ⟨p, hp, e, eb⟩ := hpl.2 y hy
    exact List.mem_map.2 ⟨p, mem_ofB.2 ⟨hp, eb⟩, e⟩

theorem rel_plan {P L : List Pv} (h : Rel P L) (hg : Gd P) (b : Int) (xs : List Int) : ovrs (sel L b (plnOf P b xs).1) xs = (plnOf P b xs).2 := by
  have h1 := (pst_snd P _ (ofB P b) xs rfl (List.Pairwise.filter _ hg.srt)).1
  unfold plnOf at *
  rw [h1]
  exact rel_ovrs (rel_filter (fun p r hs => by rw [hs.id]) (rel_ofB h b)) xs
end Go.Proofs.Yteapkfnklbhdfaa
