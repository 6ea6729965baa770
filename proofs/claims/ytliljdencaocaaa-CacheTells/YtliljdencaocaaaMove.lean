/- A buffer that is used goes behind all others. -/
import Derived.Test.YtliljdencaocaaaUse
namespace Go.Proofs.Ytliljdencaocaaa
open Go.RowKit Go.Maps
set_option linter.unusedVariables false

def outb (L : List Bf) (b : Nat) : List Bf := L.filter (fun k => !(k.b == b))
theorem mem_outb {L : List Bf} {b : Nat} {k : Bf} : k ∈ outb L b ↔ k ∈ L ∧ ¬ k.b = b := by
  unfold outb
  rw [List.mem_filter]
  simp
theorem outb_perm {L : List Bf} (hd : (L.map (·.b)).Nodup) {f : Bf} (hf : f ∈ L) : (outb L f.b ++ [f]).Perm L := by
  induction L with
  | nil => cases hf
  | cons m L ih =>
    rw [List.map_cons, List.nodup_cons] at hd
    by_cases e : m.b = f.b
    · have hm : m = f := by
        rcases List.mem_cons.1 hf with h | h
        · exact h.symm
        · exact absurd (List.mem_map.2 ⟨f, h, e.symm⟩) hd.1
      subst hm
      have e2 : outb (m :: L) m.b = L := by
        unfold outb
        rw [List.filter_cons]
        simp only [beq_self_eq_true, Bool.not_true, Bool.false_eq_true, if_false]
        rw [List.filter_eq_self]
        intro k hk
        have : ¬ k.b = m.b := fun e' => hd.1 (List.mem_map.2 ⟨k, hk, e'⟩)
        simpa using this
      rw [e2]
      exact List.perm_append_comm
    · have hf' : f ∈ L := by
        rcases List.mem_cons.1 hf with h | h
        · subst h; exact absurd rfl e
        · exact h
      have e2 : outb (m :: L) f.b = m :: outb L f.b := by
        unfold outb
        rw [List.filter_cons]
        have : (!(m.b == f.b)) = true := by simpa using e
        rw [if_pos this]
      rw [e2]
      exact (ih hd.2 hf').cons m
theorem Bm.perm {w : World} {mb : Nat} {M M' : List (Nat × Nat)} (h : Bm w mb M) (hp : M.Perm M') : Bm w mb M' := by
  obtain ⟨D, ho, hs, hk, hat⟩ := h.ex
  refine ⟨⟨D, ho, hs.trans hp.length_eq, fun x hx => ?_, fun p hm => hat p (hp.mem_iff.2 hm)⟩, (hp.map _).nodup_iff.1 h.nd, by rw [← hp.length_eq]; exact h.sm⟩
  obtain ⟨p, hm, e⟩ := hk x hx
  exact ⟨p, hp.mem_iff.1 hm, e⟩

section
variable {B : Nat} {w w' : World} {c mb d N : Nat} {C : Ch}
theorem CW.perm (h : CW B w c mb d N C) {L' : List Bf} (hp : C.L.Perm L') : CW B w c mb d N { C with L := L' } :=
  { row := h.row, map := h.map.perm (hp.map _), buf := fun f hf => h.buf f (hp.mem_iff.2 hf), sec := fun f hf => h.sec f (hp.mem_iff.2 hf), gs := (hp.map _).nodup_iff.1 h.gs, ps := fun f hf => h.ps f (hp.mem_iff.2 hf),
    bs := fun f hf => h.bs f (hp.mem_iff.2 hf), N12 := h.N12, bd := h.bd, len := by show L'.length ≤ _; rw [← hp.length_eq]; exact h.len, lo := ⟨h.lo.1, h.lo.2.1, fun f hf => h.lo.2.2 f (hp.mem_iff.2 hf)⟩, cnt := h.cnt }

theorem CW.map_ne (h : CW B w c mb d N C) {k : Nat} {cs : Array Value} {t : TypeId} {fr : Nat × Nat} (hk : w.heap[k]? = some (.cells cs t fr)) : k ≠ mb := by
  rintro rfl
  obtain ⟨D, ⟨es, cl, ho, _⟩, _⟩ := h.map.ex
  rw [ho] at hk
  cases hk
theorem CW.row_ne (h : CW B w c mb d N C) {f : Bf} (hf : f ∈ C.L) : c ≠ f.g := by
  intro e
  have h1 := h.row
  rw [e, h.buf f hf] at h1
  simp at h1

/-- A cache whose buffer's cell is turned. -/
theorem CW.turned (h : CW B w c mb d N C) {f f' : Bf} (hf : f ∈ C.L) (hb : f'.b = f.b) (hg : f'.g = f.g) (hs : Sect f'.xs) (hp : f'.p ≤ 100) (j : Nat) (v : Value) (hA : (bufA f).setIfInBounds j v = bufA f') :
    CW B (w.setCell ⟨f.g, j, none⟩ v) c mb d N { C with L := Ytliljdencaocaaa.rep C.L f' } := by
  refine h.rep hf hb hg hs hp (heap_setCell_other _ _ _ _ (h.row_ne hf)) (heap_setCell_other _ _ _ _ (h.map_ne (h.buf f hf)).symm) (fun k hk hne => heap_setCell_other _ _ _ _ hne) ?_
  rw [← hA]
  exact heap_setCell_same w f.g j _ 90 v (h.buf f hf)
theorem buf_froz (h : CW B w c mb d N C) {f : Bf} (hf : f ∈ C.L) (j : Nat) : w.frozen? ⟨f.g, j, none⟩ = false := by
  simp [World.frozen?, h.buf f hf]
theorem row_frozC (h : CW B w c mb d N C) (j : Nat) : w.frozen? ⟨c, j, none⟩ = false := by
  simp [World.frozen?, h.row]
theorem rep_perm {L : List Bf} (hd : (L.map (·.b)).Nodup) {f f' : Bf} (hf : f ∈ L) (hb : f'.b = f.b) : (Ytliljdencaocaaa.rep L f').Perm (outb L f.b ++ [f']) := by
  have hd' : ((Ytliljdencaocaaa.rep L f').map (·.b)).Nodup := by rw [rep_map hd hf hb (·.b) hb]; exact hd
  have hf' : f' ∈ Ytliljdencaocaaa.rep L f' := List.mem_map.2 ⟨f, hf, by rw [if_pos hb.symm]⟩
  have h1 := (outb_perm hd' hf').symm
  have e : outb (Ytliljdencaocaaa.rep L f') f'.b = outb L f.b := by
    unfold outb Ytliljdencaocaaa.rep
    rw [List.filter_map, hb]
    have e2 : L.filter ((fun k => !(k.b == f.b)) ∘ fun k => if k.b = f.b then f' else k) = L.filter (fun k => !(k.b == f.b)) := by
      apply List.filter_congr
      intro k hk
      simp only [Function.comp]
      by_cases e : k.b = f.b
      · rw [if_pos e, hb, e]
      · rw [if_neg e]
    rw [e2]
    conv => rhs; rw [← List.map_id (L.filter (fun k => !(k.b == f.b)))]
    apply List.map_congr_left
    intro k hk
    have := (List.mem_filter.1 hk).2
    rw [if_neg (by simpa using this)]
    rfl
  rw [e] at h1
  exact h1

set_option maxRecDepth 100000 in
set_option maxHeartbeats 1000000 in
/-- use: a block that is held, and that was just hit or fetched. -/
theorem use_ok (h : CW B w c mb d N C) {f : Bf} (hf : f ∈ C.L) (hu : ∀ k ∈ C.L, ¬ k.b = f.b → k.u < C.hi + C.mi) (ho : (outb C.L f.b).Pairwise (fun a b => a.u < b.u)) :
    Calls Try.prog 52 #[.pointer (some ⟨c, 0, none⟩), .int .i64 (f.b : Int)] w fun e w' => ∃ g cap, e = .returned (.slice (some ⟨g, 0, none⟩) 128 cap) ∧ Own w.heap.size w' g 128 cap f.xs ∧
      CI B w' c mb d N { C with L := outb C.L f.b ++ [{ f with u := C.hi + C.mi }] } ∧ Frame (fun k => k = f.g) w w' := by
  have hcnt := h.cnt
  have hcw := h.turned hf (f' := { f with u := C.hi + C.mi }) rfl rfl (h.sec f hf) (h.ps f hf) 128 (.int .i64 ((C.hi + C.mi : Nat) : Int)) (bufA_used (h.sec f hf) _)
  have hci : CI B (w.setCell ⟨f.g, 128, none⟩ (.int .i64 ((C.hi + C.mi : Nat) : Int))) c mb d N { C with L := outb C.L f.b ++ [{ f with u := C.hi + C.mi }] } := by
    refine { CW.perm hcw (rep_perm h.bnd hf rfl) with ord := ?_, us := ?_ }
    · show (outb C.L f.b ++ [_]).Pairwise _
      rw [List.pairwise_append]
      refine ⟨ho, by simp, ?_⟩
      intro a ha b hb
      simp at hb
      subst hb
      obtain ⟨h1, h2⟩ := mem_outb.1 ha
      exact hu a h1 h2
    · intro k hk
      rcases List.mem_append.1 hk with hk | hk
      · obtain ⟨h1, h2⟩ := mem_outb.1 hk
        have := hu k h1 h2
        show k.u ≤ C.hi + C.mi
        omega
      · simp at hk
        subst hk
        exact Nat.le_refl _
  have hfr : Frame (fun k => k = f.g) w (w.setCell ⟨f.g, 128, none⟩ (.int .i64 ((C.hi + C.mi : Nat) : Int))) := Frame.setCell w (p := ⟨f.g, 128, none⟩) _ rfl
  have hbi : BI (w.setCell ⟨f.g, 128, none⟩ (.int .i64 ((C.hi + C.mi : Nat) : Int))) (some ⟨f.g, 0, none⟩) 128 f.xs := buf_bi (f := { f with u := C.hi + C.mi }) (hci.buf _ (by simp)) (h.sec f hf)
  rw [show ((C.hi + C.mi : Nat) : Int) = (C.hi : Int) + (C.mi : Int) by omega] at hci hfr hbi
  have c2 := h.c2
  have c3 := h.c3
  have c4 := h.c4
  have hl := h.hit hf
  have hus := h.used hf
  have hfz := buf_froz h hf 128
  have HC := (show Hid _ from hci)
  have hh0 : (0 : Int) ≤ (C.hi : Int) := by omega
  have hm0 : (0 : Int) ≤ (C.mi : Int) := by omega
  have hsum : (C.hi : Int) + (C.mi : Int) ≤ 4611686018427387904 := by omega
  have hcl := fun q => sclone_some ⟨f.g, 0, none⟩ 128 128 f.xs _ (hbi.kept (below_drewN (Below.refl _ _) q))
  have HQ := (show Hid _ from hcl)
  clear hci hcw h hbi hcl hu ho
  go_enter Try.func52, Try.ntmps52
  go_wp2_with fail
  go_region
  go_wp2_with (first | (go_at_call 78; refine Calls.mono (HQ.out 1) ?_; rintro e w2 ⟨g, cap, rfl, hown, hb2⟩))
  go_ret
  exact ⟨g, cap, rfl, hown.base (by simp), HC.out.later (below_drewN (Below.refl _ _) 1) |>.later hb2, (frame_drewN hfr 1).trans (frame_of_below hb2)⟩
end
end Go.Proofs.Ytliljdencaocaaa
