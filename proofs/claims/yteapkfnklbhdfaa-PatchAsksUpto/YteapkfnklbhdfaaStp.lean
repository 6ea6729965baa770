/- What is told of a set hangs on what its patches have, not on where they lie. -/
import Derived.Test.YteapkfnklbhdfaaGd
import Derived.Test.YteapkfnklbhdfaaBlk
namespace Go.Proofs.Yteapkfnklbhdfaa
open Go.RowKit Go.Maps
set_option linter.unusedVariables false

theorem wq_strip (P : List Pv) (C : List Int) (k : Int) : wq (P.map strip) C k = wq P C k := by
  unfold wq; rw [fP_strip, Option.isSome_map]
theorem lk_strip (P : List Pv) (C : List Int) (p : Pv) : lk (P.map strip) C (strip p) = lk P C p := by
  unfold lk
  rw [show wq (P.map strip) C = wq P C from funext (wq_strip P C)]
  rfl
theorem pst_strip (P : List Pv) : ∀ (l : List Pv) (s : List Int × List Int), pst (P.map strip) (l.map strip) s = pst P l s
  | [], s => rfl
  | p :: l, s => by
    rw [List.map_cons]
    unfold pst
    rw [pst_strip P l]
    unfold nextC nextO
    rw [lk_strip]
    rfl
theorem plan_strip (P : List Pv) (b : Int) (xs : List Int) : pst (P.map strip) (ofB (P.map strip) b) ([], xs) = pst P (ofB P b) ([], xs) := by
  rw [ofB_strip, pst_strip]
theorem blks_strip (P : List Pv) : blks (P.map strip) = blks P := by
  unfold blks
  rw [List.map_map]
  rfl
theorem idsOf_strip (P : List Pv) (b : Int) : idsOf (P.map strip) b = idsOf P b := by
  rw [idsOf_eq, idsOf_eq, ofB_strip, List.map_map]
  rfl
theorem plan_same {P P' : List Pv} (h : P.map strip = P'.map strip) (b : Int) (xs : List Int) : pst P (ofB P b) ([], xs) = pst P' (ofB P' b) ([], xs) := by
  rw [← plan_strip P, ← plan_strip P', h]
theorem blks_same {P P' : List Pv} (h : P.map strip = P'.map strip) : blks P = blks P' := by
  rw [← blks_strip P, ← blks_strip P', h]
theorem idsOf_same {P P' : List Pv} (h : P.map strip = P'.map strip) (b : Int) : idsOf P b = idsOf P' b := by
  rw [← idsOf_strip P, ← idsOf_strip P', h]

/-- What is behind is taken back. -/
theorem upP_app {P R : List Pv} {l : Nat} (hP : ∀ p ∈ P, p.id ≤ l) (hR : ∀ p ∈ R, l < p.id) : upP (P ++ R) l = P := by
  unfold upP
  rw [List.filter_append]
  have h1 : P.filter (fun p => decide (p.id ≤ l)) = P := List.filter_eq_self.2 (fun p hp => decide_eq_true (hP p hp))
  have h2 : R.filter (fun p => decide (p.id ≤ l)) = [] := List.filter_eq_nil_iff.2 (fun p hp => by simpa using hR p hp)
  rw [h1, h2, List.append_nil]

/-- The lowest pending patch needs nothing, and may be written. -/
theorem Gd.lowest {P : List Pv} (h : Gd P) (hl : ∀ p ∈ P, 1 ≤ p.bs.length) {p : Pv} (hp : p ∈ P) (hlow : ∀ q ∈ P, p.id ≤ q.id) (xs : List Int) : ndOf P p = [] ∧ (p.id : Int) ∈ (pst P (ofB P (p.blk : Int)) ([], xs)).1 := by
  have hnd : ∀ x ∈ p.nd, (fP P x).isSome = true → False := fun x hx hs => by
    obtain ⟨q, hq, rfl⟩ := fP_isSome.1 hs
    have := (h.low p hp _ hx).2
    have := hlow q hq
    omega
  refine ⟨?_, ?_⟩
  · refine List.eq_nil_iff_forall_not_mem.2 (fun x hx => ?_)
    rcases mem_ndOf.1 hx with ⟨h1, h2⟩ | ⟨q, hq, hbl, hu, rfl⟩
    · exact hnd x h1 h2
    · have := (und_i hu (hl p hp) (hl q hq)).1
      have := hlow q hq
      omega
  · obtain ⟨L, R, e⟩ := List.append_of_mem (mem_ofB.2 ⟨hp, rfl⟩)
    have hs : (ofB P (p.blk : Int)).Pairwise (fun a b => a.id < b.id) := List.Pairwise.filter _ h.srt
    have hL : L = [] := by
      cases L with
      | nil => rfl
      | cons q L =>
        exfalso
        rw [e, List.cons_append] at hs
        have h1 := (List.pairwise_cons.1 hs).1 p (by simp)
        have h2 : q ∈ ofB P (p.blk : Int) := by rw [e]; simp
        have := hlow q (mem_ofB.1 h2).1
        omega
    rw [e, hL, List.nil_append]
    refine (pst_closed P R (nextC P [] p, nextO P [] xs p)).1 _ ?_
    dsimp only
    unfold nextC
    rw [if_neg (by rw [lk_false.2 (fun x hx hs => (hnd x hx hs).elim)]; simp)]
    simp
theorem kpP_lt {P : List Pv} {C : List Int} {p : Pv} (hp : p ∈ P) (hC : (p.id : Int) ∈ C) : (kpP P C).length < P.length := by
  unfold kpP
  refine Nat.lt_of_le_of_ne (List.length_filter_le _ _) (fun e => ?_)
  have := List.length_filter_eq_length_iff.1 e p hp
  simp [hC] at this
end Go.Proofs.Yteapkfnklbhdfaa
