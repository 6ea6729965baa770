/- Done, Undo. -/
import Derived.Test.YteapkfnklbhdfaaRem
namespace Go.Proofs.Yteapkfnklbhdfaa
open Go.RowKit Go.Maps
set_option linter.unusedVariables false

/-- One of some lacks what it needs. -/
def bad (P : List Pv) (zs : List Int) (k : Int) : Bool := ((fP P k).map (lk P zs)).getD false

theorem add_zero (nb : Nat) (p : Option Addr) (c : Nat) (w : World) : Calls Try.prog 57 #[.map (some nb), .slice p 0 c] w fun e w' => e = .returned (.tuple #[]) ∧ w' = w := by
  go_enter Try.func57, Try.ntmps57
  go_wp2_with fail
  go_loopw [8] (fun i wr => i = .int .i64 0 ∧ wr = w) (fun i _ => 0)
  case atStart => exact ⟨rfl, rfl⟩
  case round =>
    obtain ⟨rfl, rfl⟩ := hrel
    go_wp2
    go_end0
    exact ⟨rfl, rfl⟩
theorem add_any {w : World} {nb : Nat} {U C : List Int} (h : Ns w nb U C) (hU : U.length < 100000) (p : Option Addr) (n c : Nat) (zs : List Int) (hz : II w p n zs) (hzU : ∀ x ∈ zs, x ∈ U) (hne : 0 < n → blkOf p ≠ some nb) :
    Calls Try.prog 57 #[.map (some nb), .slice p n c] w fun e w' => e = .returned (.tuple #[]) ∧ Ns w' nb U (C ++ zs) ∧ Frame (fun k => k = nb) w w' := by
  rcases Nat.eq_zero_or_pos n with h0 | h0
  · subst h0
    have : zs = [] := List.length_eq_zero_iff.1 hz.len
    subst this
    refine (add_zero nb p c w).mono ?_
    rintro e w' ⟨rfl, rfl⟩
    exact ⟨rfl, by simpa using h, Frame.refl _ _⟩
  · exact add_ok h hU p n c zs hz hzU (hne h0)

theorem done_unknown {B : Nat} {w : World} {a mp mb last : Nat} {P : List Pv} {K : Int → Option Value} (h : PS B w a mp mb last P K) (p : Option Addr) (n c : Nat) (zs : List Int) (hz : II w p n zs) (hk : zs.all (kn last) = false) :
    Calls Try.prog 33 #[.pointer (some ⟨a, 0, none⟩), .slice p n c] w fun e w' => e = .returned (.int .i64 70) ∧ w' = w := by
  have hm := made_ok h
  have hkn := known_ok h p n c zs hz
  rw [hk] at hkn
  clear h hk hz
  go_enter Try.func33, Try.ntmps33
  go_wp2_with (first | (go_at_call 45; refine same_at hm ?_) | (go_at_call 67; refine same_at hkn ?_))
  go_ret
  exact ⟨rfl, rfl⟩

set_option maxRecDepth 100000 in
set_option maxHeartbeats 2000000 in
theorem done_ok {B : Nat} {w : World} {a mp mb last : Nat} {P : List Pv} {K : Int → Option Value} (h : PS B w a mp mb last P K) (p : Option Addr) (n c : Nat) (zs : List Int) (hz : II w p n zs) (hn8 : n * 8 ≤ 140737488355328) (hk : zs.all (kn last) = true) :
    Calls Try.prog 33 #[.pointer (some ⟨a, 0, none⟩), .slice p n c] w fun e w' => (((still P zs).any (bad P zs) = true ∧ e = .returned (.int .i64 3)) ∧ Below w.heap.size w w') ∨
      (((still P zs).any (bad P zs) = false ∧ e = .returned (.int .i64 0)) ∧ ∃ K', PS B w' a mp mb last (kpP P zs) K' ∧ Stp (dm a mp mb P K) (dm a mp mb (kpP P zs) K') w w') := by
  have hm := made_ok h
  have hkn := known_ok h p n c zs hz
  rw [hk] at hkn
  have hmm := @run_makeMap Try.prog
  have hsm := h.sml
  obtain ⟨W1, hW1⟩ : ∃ W1, w.alloc (.map #[] 0) = W1 := ⟨_, rfl⟩
  have hbW : Below w.heap.size w W1 := by rw [← hW1]; exact (Below.refl _ w).alloc (Nat.le_refl _) _
  have hNs : Ns W1 w.heap.size (upto last) [] := by rw [← hW1]; exact ns_made w _
  have hsW : W1.heap.size = w.heap.size + 1 := by rw [← hW1]; simp
  have hadd := add_any hNs (by rw [upto_len]; omega) p n c zs (hz.kept hbW) (fun x hx => mem_upto (kn_true.1 (List.all_eq_true.1 hk x hx))) (fun h0 e => by
    obtain ⟨b, o, rfl, hc⟩ := hz.cells h0
    have h1 := lt_of_cell (hc 0 h0)
    have h2 : b = w.heap.size := Option.some.inj e
    omega)
  have hzl := hz.len
  have hsl := still_len P zs
  go_enter Try.func33, Try.ntmps33
  go_wp2_with (first | (go_at_call 45; refine same_at hm ?_) | (go_at_call 67; refine same_at hkn ?_) | (go_at_call 57; refine hadd.mono ?_; rintro _ w2 ⟨rfl, hN2, hF2⟩; have hb2 : Below w.heap.size w w2 := frame_below hbW (by omega) hF2 (Nat.le_refl _); have hst := stillPending_ok (h.kept hb2) p n c zs (hz.kept hb2) (by omega)) | (go_at_call 68; refine hst.mono ?_; rintro _ w3 ⟨v1, rfl, hN1, hb3⟩; obtain ⟨q1, c1, hv1, hI1, hpl1⟩ := hN1.ii (by omega) (fun x hx => by obtain ⟨p, hp⟩ := still_mem hx; have := h.ids p (fP_some hp).1; have := (fP_some hp).2; exact ⟨by omega, by omega⟩); subst hv1))
  have hb3' : Below w.heap.size w w3 := hb2.trans (hb3.mono hb2.size)
  have hN3 := hN2.kept hb3
  have hmL : ∀ k ∈ still P zs, ∃ p, fP P k = some p := fun k hk => still_mem hk
  rw [List.nil_append] at hN3
  clear hN1 hb3 hst hN2 hadd hF2 hNs
  obtain ⟨L, hL⟩ : ∃ L, L = still P zs := ⟨_, rfl⟩
  rw [← hL] at hI1 hmL hsl ⊢
  have HL : Hid _ := hL
  clear hL
  go_loopw [25] (fun i wr => ∃ j : Nat, j ≤ L.length ∧ i = .int .i64 (j : Int) ∧ Ns wr w.heap.size (upto last) zs ∧ II wr q1 L.length L ∧ Below w.heap.size w wr ∧ Hid ((L.take j).any (bad P zs) = false)) (fun i _ => L.length - (intOf i).toNat)
  case atStart => exact ⟨0, by omega, rfl, hN3, hI1, hb3', rfl⟩
  case round =>
    clear hN3 hI1 hb3'
    obtain ⟨j, hj, rfl, hN, hI, hb, HA⟩ := hrel
    by_cases hlt : j < L.length
    · obtain ⟨b1, o1, hq, hc1⟩ := hI.cells (by omega)
      have e1 := hc1 j hlt
      have hps := h.kept hb
      obtain ⟨p', hp'⟩ := hmL (L.getD j 0) (getD_mem' hlt)
      have hgt := hps.get (L.getD j 0) (hI.fitAt j)
      rw [hp'] at hgt
      have hgt' : (Instr.lookup 67 (.map (some mp)) (.int .i64 (L.getD j 0)) false).run Try.prog wr = .ok p'.v wr := hgt
      have c1' := hps.c1
      have hlk := lacks_ok hps hN p' (hps.nee p' (fP_some hp').1).1
      have HT : Hid (L.take (j + 1) = L.take j ++ [L.getD j 0]) := take_one hlt
      have HM : Hid (L.getD j 0 ∈ L) := getD_mem' hlt
      have HB : Hid (bad P zs (L.getD j 0) = lk P zs p') := by show ((fP P (L.getD j 0)).map (lk P zs)).getD false = _; rw [hp']; rfl
      have hjI : (j : Int) < (L.length : Int) := by omega
      have hj0 : (0 : Int) ≤ (j : Int) := by omega
      subst hq
      clear hc1 hgt hp' hps hmL
      generalize p'.v = pv at *
      generalize hyy : L.getD j 0 = y at *
      clear hyy
      cases hl : lk P zs p' with
      | true =>
        rw [hl] at hlk HB
        clear hl
        go_wp2_with (first | (go_at_call 56; refine below_at hlk ?_; intro w5 hb5))
        go_ret
        exact .inl ⟨⟨by rw [← HL.out]; exact List.any_eq_true.2 ⟨y, HM.out, HB.out⟩, rfl⟩, hb.trans (hb5.mono hb.size)⟩
      | false =>
        rw [hl] at hlk HB
        clear hl
        go_wp2_with (first | (go_at_call 56; refine below_at hlk ?_; intro w5 hb5))
        go_roundw
        case rel =>
          refine ⟨j + 1, by omega, by go_num, hN.kept hb5, hI.kept hb5, hb.trans (hb5.mono hb.size), ?_⟩
          show (L.take (j + 1)).any (bad P zs) = false
          rw [HT.out, List.any_append, HA.out]
          simp [HB.out]
        case measure => simp [intOf]; omega
    · obtain rfl : j = L.length := by omega
      rw [List.take_of_length_le (Nat.le_refl _)] at HA
      have hrm := remove_ok (h.kept hb) p n c zs (hz.kept hb) hn8
      clear hN hI hmL
      go_wp2_with (first | (go_at_call 69; refine hrm.mono ?_; rintro _ w5 ⟨rfl, K', hPS, hSt⟩))
      go_ret
      exact .inr ⟨⟨by rw [← HL.out]; exact HA.out, rfl⟩, K', hPS, (stp_below hb).trans hSt⟩
end Go.Proofs.Yteapkfnklbhdfaa
