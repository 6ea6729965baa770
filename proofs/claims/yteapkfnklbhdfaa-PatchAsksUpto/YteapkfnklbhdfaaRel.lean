/- The program's patches and the document's: what each needs. -/
import Derived.Test.YteapkfnklbhdfaaRef9
namespace Go.Proofs.Yteapkfnklbhdfaa
open Go.RowKit Go.Maps
set_option linter.unusedVariables false

/-- Two lists, one by one. -/
inductive F2 (R : Pv → Pv → Prop) : List Pv → List Pv → Prop
  | nil : F2 R [] []
  | cons {p r : Pv} {l m : List Pv} : R p r → F2 R l m → F2 R (p :: l) (r :: m)
/-- A patch of the program's, and the document's. -/
structure Same (P : List Pv) (p r : Pv) : Prop where
  id : r.id = p.id
  blk : r.blk = p.blk
  off : r.off = p.off
  bs : r.bs = p.bs
  nd : ∀ y, (fP P y).isSome = true → (y ∈ r.nd ↔ y ∈ ndOf P p)
  nds : r.nd.Pairwise (fun x y => x < y)
/-- Both sets have the same patches. -/
def Rel (P L : List Pv) : Prop := F2 (Same P) P L

theorem rel_map {P : List Pv} {f : Pv → Int} (hf : ∀ p r, Same P p r → f r = f p) : ∀ {l m : List Pv}, F2 (Same P) l m → m.map f = l.map f
  | [], [], _ => rfl
  | p :: l, r :: m, .cons h t => by rw [List.map_cons, List.map_cons, hf p r h, rel_map hf t]
theorem rel_ids {P L : List Pv} (h : Rel P L) : L.map (fun p => (p.id : Int)) = P.map (fun p => (p.id : Int)) := rel_map (fun p r hs => by rw [hs.id]) h
theorem fP_of_ids : ∀ {P L : List Pv}, L.map (fun p => (p.id : Int)) = P.map (fun p => (p.id : Int)) → ∀ k, (fP L k).isSome = (fP P k).isSome := fun {P L} h k => by
  rw [Bool.eq_iff_iff, fP_isSome, fP_isSome]
  have h1 : ∀ Q : List Pv, (∃ p ∈ Q, (p.id : Int) = k) ↔ k ∈ Q.map (fun p => (p.id : Int)) := fun Q => by rw [List.mem_map]
  rw [h1, h1, h]
theorem rel_some {P L : List Pv} (h : Rel P L) (k : Int) : (fP L k).isSome = (fP P k).isSome := fP_of_ids (rel_ids h) k
theorem rel_blks {P L : List Pv} (h : Rel P L) : blks L = blks P := by
  unfold blks
  rw [rel_map (P := P) (f := fun p => (p.blk : Int)) (fun p r hs => by rw [hs.blk]) h]
theorem rel_filter {P : List Pv} {f g : Pv → Bool} (hf : ∀ p r, Same P p r → g r = f p) : ∀ {l m : List Pv}, F2 (Same P) l m → F2 (Same P) (l.filter f) (m.filter g)
  | [], [], _ => .nil
  | p :: l, r :: m, .cons h t => by
    rw [List.filter_cons, List.filter_cons, hf p r h]
    split
    · exact .cons h (rel_filter hf t)
    · exact rel_filter hf t
theorem rel_ofB {P L : List Pv} (h : Rel P L) (b : Int) : F2 (Same P) (ofB P b) (ofB L b) := rel_filter (fun p r hs => by rw [hs.blk]) h
theorem rel_idsOf {P L : List Pv} (h : Rel P L) (b : Int) : idsOf L b = idsOf P b := by
  rw [idsOf_eq, idsOf_eq]
  exact rel_map (fun p r hs => by rw [hs.id]) (rel_ofB h b)
theorem rel_ovrs {P : List Pv} : ∀ {l m : List Pv}, F2 (Same P) l m → ∀ xs, ovrs m xs = ovrs l xs
  | [], [], _, _ => rfl
  | p :: l, r :: m, .cons h t, xs => by
    have e : ovr xs r = ovr xs p := by unfold ovr; rw [h.off, h.bs]
    show ovrs m (ovr xs r) = ovrs l (ovr xs p)
    rw [e, rel_ovrs t]
theorem rel_find {P : List Pv} : ∀ {l m : List Pv}, F2 (Same P) l m → ∀ k p, fP l k = some p → ∃ r, fP m k = some r ∧ Same P p r
  | [], [], _, k, p, h => by cases h
  | q :: l, r :: m, .cons h t, k, p, hp => by
    unfold fP at hp ⊢
    rw [List.find?_cons] at hp ⊢
    rw [h.id]
    split at hp
    · cases hp
      exact ⟨r, rfl, h⟩
    · exact rel_find t k p hp

/-- Full needs and kept needs: the same sets are closed. -/
theorem rel_cl {P L : List Pv} (h : Rel P L) (hg : Gd P) (hl : ∀ p ∈ P, 1 ≤ p.bs.length) (C : List Int) (hC : ∀ y ∈ C, (fP P y).isSome = true) : Cl P C ↔ ∀ k ∈ C, ∀ r, fP L k = some r → lk L C r = false := by
  constructor
  · intro hc k hk r hr
    obtain ⟨p, hp⟩ := Option.isSome_iff_exists.1 (hC k hk)
    obtain ⟨r', hr', hs⟩ := rel_find h k p hp
    rw [hr] at hr'
    cases hr'
    obtain ⟨hpm, hpk⟩ := fP_some hp
    refine lk_false.2 (fun y hy hsy => ?_)
    rw [rel_some h] at hsy
    have := (hs.nd y hsy).1 hy
    exact (hg.whole hl hc hpm (by rw [hpk]; exact hk) y this).2
  · intro hc p hp hpC
    obtain ⟨r, hr, hs⟩ := rel_find h (p.id : Int) p (fP_mem hg.srt hp)
    have h1 := lk_false.1 (hc _ hpC r hr)
    refine lk_false.2 (fun y hy hsy => h1 y ((hs.nd y hsy).2 (mem_ndOf.2 (.inl ⟨hy, hsy⟩))) (by rw [rel_some h]; exact hsy))
end Go.Proofs.Yteapkfnklbhdfaa
