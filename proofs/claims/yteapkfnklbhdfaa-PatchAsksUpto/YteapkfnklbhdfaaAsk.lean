/- The set's small calls: New, Last, IsDone, Of. -/
import Derived.Test.YteapkfnklbhdfaaPlan2
import Derived.Test.YteapkfnklbhdfaaShelf
namespace Go.Proofs.Yteapkfnklbhdfaa
open Go.RowKit Go.Maps
set_option linter.unusedVariables false

theorem ps_none (w : World) (a mp mb : Nat) (hr : w.heap[a]? = some (.cells #[.int .i64 0, .map (some mp), .map (some mb)] 70 (0, 0))) (hp : Mf w mp 0 (fun _ => none)) (hb : Mf w mb 0 (fun _ => none)) (B : Nat) (hB : (B ≤ a ∧ B ≤ mp ∧ B ≤ mb) ∧ mp ≠ mb) :
    PS B w a mp mb 0 [] (fun _ => none) :=
  ⟨hr, hp.congr (fun k _ => rfl), hb, (fun p hp => by cases hp), (fun p hp => by cases hp), (fun b v h => by cases h), fun b _ _ => rfl, (fun b b' v v' h => by cases h), (fun p hp => by cases hp), (fun p hp => by cases hp), List.Pairwise.nil, (fun p hp => by cases hp), by omega, hB⟩

set_option maxHeartbeats 1000000 in
theorem new_ok (w : World) : Calls Try.prog 9 #[] w fun e w' => ∃ a mp mb, e = .returned (.pointer (some ⟨a, 0, none⟩)) ∧ PS w.heap.size w' a mp mb 0 [] (fun _ => none) ∧ Below w.heap.size w w' := by
  have hmm := @run_makeMap Try.prog
  go_enter Try.func9, Try.ntmps9
  go_wp2_with fail
  go_ret
  refine ⟨w.heap.size + 1 + 1, w.heap.size, w.heap.size + 1, rfl, ps_none _ _ _ _ (at_new (by simp)) ?_ ?_ _ ⟨⟨by omega, by omega, by omega⟩, by omega⟩, ?_⟩
  · refine Mf.kept (mf_made w 0) ?_
    exact (at_old (at_old (at_new rfl))).trans (at_new (w := w) rfl).symm
  · have h2 : Mf ((w.alloc (Obj.map #[] 0)).alloc (Obj.map #[] 0)) (w.heap.size + 1) 0 (fun _ => none) := by
      have := mf_made (w.alloc (Obj.map #[] 0)) 0
      simpa using this
    refine Mf.kept h2 ?_
    exact (at_old (at_new (by simp))).trans (at_new (w := w.alloc (Obj.map #[] 0)) (by simp)).symm
  · exact (((Below.refl _ w).alloc (Nat.le_refl _) _).alloc (by simp) _).alloc (by simp; omega) _

theorem last_ok {B : Nat} {w : World} {a mp mb last : Nat} {P : List Pv} {K : Int → Option Value} (h : PS B w a mp mb last P K) : Calls Try.prog 15 #[.pointer (some ⟨a, 0, none⟩)] w fun e w' => e = .returned (.int .i64 (last : Int)) ∧ w' = w := by
  have c0 := h.c0
  have hm := made_ok h
  clear h
  go_enter Try.func15, Try.ntmps15
  go_wp2_with (first | (go_at_call 45; refine same_at hm ?_))
  go_ret
  exact ⟨rfl, rfl⟩

/-- Is it on the disk. -/
def dn (last : Nat) (P : List Pv) (k : Int) : Bool := kn last k && !(fP P k).isSome
theorem isDone_ok {B : Nat} {w : World} {a mp mb last : Nat} {P : List Pv} {K : Int → Option Value} (h : PS B w a mp mb last P K) (k : Int) (hk : I64 k) : Calls Try.prog 13 #[.pointer (some ⟨a, 0, none⟩), .int .i64 k] w fun e w' => e = .returned (.bool (dn last P k)) ∧ Below w.heap.size w w' := by
  have hm := made_ok h
  have hh := has_ok h k
  have hp := isPending_ok h k hk
  have HD : Hid (dn last P k = (kn last k && !(fP P k).isSome)) := rfl
  clear h
  generalize dn last P k = d at *
  cases hkn : kn last k with
  | false =>
    rw [hkn] at hh
    have hd : d = false := by rw [HD.out, hkn]; rfl
    subst hd
    clear HD
    go_enter Try.func13, Try.ntmps13
    go_wp2_with (first | (go_at_call 45; refine same_at hm ?_) | (go_at_call 46; refine same_at hh ?_))
    go_ret
    exact ⟨rfl, Below.refl _ _⟩
  | true =>
    rw [hkn] at hh
    cases hf : (fP P k).isSome with
    | false =>
      rw [hf] at hp
      have hd : d = true := by rw [HD.out, hkn, hf]; rfl
      subst hd
      clear HD
      go_enter Try.func13, Try.ntmps13
      go_wp2_with (first | (go_at_call 45; refine same_at hm ?_) | (go_at_call 46; refine same_at hh ?_) | (go_at_call 47; refine below_at hp ?_; intro wn hbn))
      go_ret
      exact ⟨rfl, hbn⟩
    | true =>
      rw [hf] at hp
      have hd : d = false := by rw [HD.out, hkn, hf]; rfl
      subst hd
      clear HD
      go_enter Try.func13, Try.ntmps13
      go_wp2_with (first | (go_at_call 45; refine same_at hm ?_) | (go_at_call 46; refine same_at hh ?_) | (go_at_call 47; refine below_at hp ?_; intro wn hbn))
      go_ret
      exact ⟨rfl, hbn⟩

set_option maxHeartbeats 1000000 in
theorem of_ok {B : Nat} {w : World} {a mp mb last : Nat} {P : List Pv} {K : Int → Option Value} (h : PS B w a mp mb last P K) (b : Int) (hb : I64 b) : Calls Try.prog 27 #[.pointer (some ⟨a, 0, none⟩), .int .i64 b] w fun e w' => ∃ v, e = .returned v ∧ Nums w.heap.size w' v (idsOf P b) ∧ Below w.heap.size w w' := by
  have hm := made_ok h
  have c2 := h.c2
  have hl := h.list b hb
  obtain ⟨q, c, e, hii, hpl⟩ := h.row_ii b hb
  rw [e] at hl
  have hlen : (idsOf P b).length ≤ last := by
    have := h.len
    unfold idsOf
    rw [List.length_map]
    exact Nat.le_trans (List.length_filter_le _ _) this
  have hsm := h.sml
  have hcl : Calls Try.prog 39 #[.slice q (idsOf P b).length c] w fun e w' => ∃ v, e = .returned v ∧ Nums w.heap.size w' v (idsOf P b) ∧ Below w.heap.size w w' := by
    by_cases h0 : (idsOf P b).length = 0
    · rw [h0]
      have hz : idsOf P b = [] := List.length_eq_zero_iff.1 h0
      rw [hz]
      cases q with
      | none =>
        refine (sh_slices_Clone_int_nil 0 c w).mono ?_
        rintro e w' ⟨rfl, rfl⟩
        exact ⟨_, rfl, Nums.nil _ _, Below.refl _ _⟩
      | some ad =>
        refine (sh_slices_Clone_int_zero ad c w).mono ?_
        rintro e w' ⟨v, rfl, ho, _, hbl⟩
        exact ⟨v, rfl, ho, hbl⟩
    · obtain ⟨b1, o1, rfl, hc⟩ := hii.cells (by omega)
      refine (sh_slices_Clone_int b1 o1 _ c (idsOf P b) w (Nat.le_refl _) (by omega) hc).mono ?_
      rintro e w' ⟨v, rfl, ho, _, hbl⟩
      rw [List.take_length] at ho
      exact ⟨v, rfl, ho, hbl⟩
  clear h hii e
  go_enter Try.func27, Try.ntmps27
  go_wp2_with (first | (go_at_call 45; refine same_at hm ?_) | (go_at_call 39; refine hcl.mono ?_; rintro _ wn ⟨v, rfl, hN, hbn⟩))
  go_ret
  exact ⟨_, rfl, hN, hbn⟩
end Go.Proofs.Yteapkfnklbhdfaa
