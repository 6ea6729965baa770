/- PDone PUndo PBlk -/
import Derived.Test.YtinigfidofgaiaaGreatGr17
import Derived.Shelf.SlIterI.Stops
import Derived.RangeFuncNested
import Derived.RangeFuncBound
import Derived.RangeFuncCalls
import Derived.RangeFuncLeaves
import Derived.RangeFuncBox
import Derived.Shelf.Abstract
import Derived.Shelf.RegionOpen
import Derived.OwnWalkIn
import Derived.TacticsInMore
import Derived.LoopNIn
import Derived.LoopIn

/- Done, Undo. -/
namespace Go.Proofs.YtinigfidofgaiaaGreat.Pt
open Go.RowKit Go.Maps
set_option maxRecDepth 100000
set_option linter.unusedVariables false

/-- One of some lacks what it needs. -/
def bad (P : List Pv) (zs : List Int) (k : Int) : Bool := ((fP P k).map (lk P zs)).getD false

theorem add_zero (nb : Nat) (p : Option Addr) (c : Nat) (w : World) : Calls Tryz.prog 91 #[.map (some nb), .slice p 0 c] w fun e w' => e = .returned (.tuple #[]) ∧ w' = w := by
  go_enter Tryz.func91, Tryz.ntmps91
  go_wp2_with fail
  go_loopw [8] (fun i wr => i = .int .i64 0 ∧ wr = w) (fun i _ => 0)
  case atStart => exact ⟨rfl, rfl⟩
  case round =>
    obtain ⟨rfl, rfl⟩ := hrel
    go_wp2
    go_end0
    exact ⟨rfl, rfl⟩
theorem add_any {w : World} {nb : Nat} {U C : List Int} (h : Ns w nb U C) (hU : U.length < 100000) (p : Option Addr) (n c : Nat) (zs : List Int) (hz : II w p n zs) (hzU : ∀ x ∈ zs, x ∈ U) (hne : 0 < n → blkOf p ≠ some nb) :
    Calls Tryz.prog 91 #[.map (some nb), .slice p n c] w fun e w' => e = .returned (.tuple #[]) ∧ Ns w' nb U (C ++ zs) ∧ Frame (fun k => k = nb) w w' := by
  rcases Nat.eq_zero_or_pos n with h0 | h0
  · subst h0
    have : zs = [] := List.length_eq_zero_iff.1 hz.len
    subst this
    refine (add_zero nb p c w).mono ?_
    rintro e w' ⟨rfl, rfl⟩
    exact ⟨rfl, by simpa using h, Frame.refl _ _⟩
  · exact add_ok h hU p n c zs hz hzU (hne h0)

theorem done_unknown {B : Nat} {w : World} {a mp mb last : Nat} {P : List Pv} {K : Int → Option Value} (h : PS B w a mp mb last P K) (p : Option Addr) (n c : Nat) (zs : List Int) (hz : II w p n zs) (hk : zs.all (kn last) = false) :
    Calls Tryz.prog 85 #[.pointer (some ⟨a, 0, none⟩), .slice p n c] w fun e w' => e = .returned (.int .i64 70) ∧ w' = w := by
  have hm := made_ok h
  have hkn := known_ok h p n c zs hz
  rw [hk] at hkn
  clear h hk hz
  go_enter Tryz.func85, Tryz.ntmps85
  go_wp2_with (first | (go_at_call 75; refine same_at hm ?_) | (go_at_call 101; refine same_at hkn ?_))
  go_ret
  exact ⟨rfl, rfl⟩

set_option maxRecDepth 100000 in
set_option maxHeartbeats 2000000 in
theorem done_ok {B : Nat} {w : World} {a mp mb last : Nat} {P : List Pv} {K : Int → Option Value} (h : PS B w a mp mb last P K) (p : Option Addr) (n c : Nat) (zs : List Int) (hz : II w p n zs) (hn8 : n * 8 ≤ 140737488355328) (hk : zs.all (kn last) = true) :
    Calls Tryz.prog 85 #[.pointer (some ⟨a, 0, none⟩), .slice p n c] w fun e w' => (((still P zs).any (bad P zs) = true ∧ e = .returned (.int .i64 3)) ∧ Below w.heap.size w w') ∨
      (((still P zs).any (bad P zs) = false ∧ e = .returned (.int .i64 0)) ∧ ∃ K', PS B w' a mp mb last (kpP P zs) K' ∧ Stp (dm a mp mb P K) (dm a mp mb (kpP P zs) K') w w') := by
  have hm := made_ok h
  have hkn := known_ok h p n c zs hz
  rw [hk] at hkn
  have hmm := @run_makeMap Tryz.prog
  have hsm := h.sml
  obtain ⟨W1, hW1⟩ : ∃ W1, w.alloc (.map #[] 0) = W1 := ⟨_, rfl⟩
  have hbW : Below w.heap.size w W1 := by rw [← hW1]; exact (Below.refl _ w).alloc (Nat.le_refl _) _
  have hNs : Ns W1 w.heap.size (upto last) [] := by rw [← hW1]; exact ns_made w _
  have hsW : W1.heap.size = w.heap.size + 1 := by rw [← hW1]; simp
  have hadd := add_any hNs (by rw [upto_len]; omega) p n c zs (hz.kept hbW) (fun x hx => mem_upto (kn_true.1 (List.all_eq_true.1 hk x hx))) (fun h0 e => by
    obtain ⟨b, o, rfl, hc⟩ := hz.cells h0
    have h1 := lt_of_cell (hc 0 h0)
    have h2 : b = w.heap.size := Option.some.inj e
    omega)
  have hzl := hz.len
  have hsl := still_len P zs
  go_enter Tryz.func85, Tryz.ntmps85
  go_wp2_with (first | (go_at_call 75; refine same_at hm ?_) | (go_at_call 101; refine same_at hkn ?_) | (go_at_call 91; refine hadd.mono ?_; rintro _ w2 ⟨rfl, hN2, hF2⟩; have hb2 : Below w.heap.size w w2 := frame_below hbW (by omega) hF2 (Nat.le_refl _); have hst := stillPending_ok (h.kept hb2) p n c zs (hz.kept hb2) (by omega)) | (go_at_call 102; refine hst.mono ?_; rintro _ w3 ⟨v1, rfl, hN1, hb3⟩; obtain ⟨q1, c1, hv1, hI1, hpl1⟩ := hN1.ii (by omega) (fun x hx => by obtain ⟨p, hp⟩ := still_mem hx; have := h.ids p (fP_some hp).1; have := (fP_some hp).2; exact ⟨by omega, by omega⟩); subst hv1))
  have hb3' : Below w.heap.size w w3 := hb2.trans (hb3.mono hb2.size)
  have hN3 := hN2.kept hb3
  have hmL : ∀ k ∈ still P zs, ∃ p, fP P k = some p := fun k hk => still_mem hk
  rw [List.nil_append] at hN3
  clear hN1 hb3 hst hN2 hadd hF2 hNs
  obtain ⟨L, hL⟩ : ∃ L, L = still P zs := ⟨_, rfl⟩
  rw [← hL] at hI1 hmL hsl ⊢
  have HL : Hid _ := hL
  clear hL
  go_loopw [25] (fun i wr => ∃ j : Nat, j ≤ L.length ∧ i = .int .i64 (j : Int) ∧ Ns wr w.heap.size (upto last) zs ∧ II wr q1 L.length L ∧ Below w.heap.size w wr ∧ Hid ((L.take j).any (bad P zs) = false)) (fun i _ => L.length - (intOf i).toNat)
  case atStart => exact ⟨0, by omega, rfl, hN3, hI1, hb3', rfl⟩
  case round =>
    clear hN3 hI1 hb3'
    obtain ⟨j, hj, rfl, hN, hI, hb, HA⟩ := hrel
    by_cases hlt : j < L.length
    · obtain ⟨b1, o1, hq, hc1⟩ := hI.cells (by omega)
      have e1 := hc1 j hlt
      have hps := h.kept hb
      obtain ⟨p', hp'⟩ := hmL (L.getD j 0) (getD_mem' hlt)
      have hgt := hps.get (L.getD j 0) (hI.fitAt j)
      rw [hp'] at hgt
      have hgt' : (Instr.lookup 119 (.map (some mp)) (.int .i64 (L.getD j 0)) false).run Tryz.prog wr = .ok p'.v wr := hgt
      have c1' := hps.c1
      have hlk := lacks_ok hps hN p' (hps.nee p' (fP_some hp').1).1
      have HT : Hid (L.take (j + 1) = L.take j ++ [L.getD j 0]) := take_one hlt
      have HM : Hid (L.getD j 0 ∈ L) := getD_mem' hlt
      have HB : Hid (bad P zs (L.getD j 0) = lk P zs p') := by show ((fP P (L.getD j 0)).map (lk P zs)).getD false = _; rw [hp']; rfl
      have hjI : (j : Int) < (L.length : Int) := by omega
      have hj0 : (0 : Int) ≤ (j : Int) := by omega
      subst hq
      clear hc1 hgt hp' hps hmL
      generalize p'.v = pv at *
      generalize hyy : L.getD j 0 = y at *
      clear hyy
      cases hl : lk P zs p' with
      | true =>
        rw [hl] at hlk HB
        clear hl
        go_wp2_with (first | (go_at_call 125; refine below_at hlk ?_; intro w5 hb5))
        go_ret
        exact .inl ⟨⟨by rw [← HL.out]; exact List.any_eq_true.2 ⟨y, HM.out, HB.out⟩, rfl⟩, hb.trans (hb5.mono hb.size)⟩
      | false =>
        rw [hl] at hlk HB
        clear hl
        go_wp2_with (first | (go_at_call 125; refine below_at hlk ?_; intro w5 hb5))
        go_roundw
        case rel =>
          refine ⟨j + 1, by omega, by go_num, hN.kept hb5, hI.kept hb5, hb.trans (hb5.mono hb.size), ?_⟩
          show (L.take (j + 1)).any (bad P zs) = false
          rw [HT.out, List.any_append, HA.out]
          simp [HB.out]
        case measure => simp [intOf]; omega
    · obtain rfl : j = L.length := by omega
      rw [List.take_of_length_le (Nat.le_refl _)] at HA
      have hrm := remove_ok (h.kept hb) p n c zs (hz.kept hb) hn8
      clear hN hI hmL
      go_wp2_with (first | (go_at_call 96; refine hrm.mono ?_; rintro _ w5 ⟨rfl, K', hPS, hSt⟩))
      go_ret
      exact .inr ⟨⟨by rw [← HL.out]; exact HA.out, rfl⟩, K', hPS, (stp_below hb).trans hSt⟩
end Go.Proofs.YtinigfidofgaiaaGreat.Pt

/- Undo: what was added last goes. -/
namespace Go.Proofs.YtinigfidofgaiaaGreat.Pt
open Go.RowKit Go.Maps
set_option maxRecDepth 100000
set_option linter.unusedVariables false

/-- The patches up to a number. -/
def upP (P : List Pv) (l : Nat) : List Pv := P.filter (fun p => decide (p.id ≤ l))
/-- The numbers behind l, k of them. -/
def behd (l : Nat) : Nat → List Int
  | 0 => []
  | k + 1 => behd l k ++ [((l + k + 1 : Nat) : Int)]
theorem mem_behd (l : Nat) : ∀ (k : Nat) (x : Int), x ∈ behd l k ↔ (l : Int) < x ∧ x ≤ ((l + k : Nat) : Int)
  | 0, x => by simp [behd]
  | k + 1, x => by
    rw [behd, List.mem_append, mem_behd l k x, List.mem_singleton]
    omega
theorem behd_len (l : Nat) : ∀ k, (behd l k).length = k
  | 0 => rfl
  | k + 1 => by simp [behd, behd_len l k]

theorem PS.setLast {B : Nat} {w : World} {a mp mb last : Nat} {P : List Pv} {K : Int → Option Value} (h : PS B w a mp mb last P K) (l : Nat) (hl : l ≤ last) (hP : ∀ p ∈ P, p.id ≤ l) :
    PS B (w.setCell ⟨a, 0, none⟩ (.int .i64 (l : Int))) a mp mb l P K ∧ Stp (dm a mp mb P K) (dm a mp mb P K) w (w.setCell ⟨a, 0, none⟩ (.int .i64 (l : Int))) := by
  have hk : ∀ k, k ≠ a → (w.setCell ⟨a, 0, none⟩ (.int .i64 (l : Int))).heap[k]? = w.heap[k]? := fun k hk => Below.heap_setCell _ _ _ _ hk
  obtain ⟨ep, cp, hmp⟩ := h.pm.isMap
  obtain ⟨eb, cb, hmb⟩ := h.bm.isMap
  have hlen : P.length ≤ l := len_ids (m := 0) h.srt (fun p hp => ⟨(h.ids p hp).1, hP p hp⟩)
  refine ⟨⟨?_, ?_, h.bm.kept (hk mb (map_ne h.row hmb).symm), fun p hp => ⟨(h.byt p hp).1.keptIf (fun g hg _ => hk g (h.apart p hp g (.inr hg)).2.1), (h.byt p hp).2⟩, fun p hp => ⟨(h.nee p hp).1.keptIf (fun g hg _ => hk g (h.apart p hp g (.inl hg)).2.1), (h.nee p hp).2⟩, fun b v hv => ?_, h.away, h.two, fun p hp k hk' => ⟨by rw [World.size_setCell]; exact (h.apart p hp k hk').1, (h.apart p hp k hk').2⟩, fun p hp => ⟨(h.ids p hp).1, hP p hp, (h.ids p hp).2.2⟩, h.srt, h.low, Nat.le_trans hl h.sml, h.base⟩, Frame.setCell w _ (.inl rfl), fun k hk => .inl hk⟩
  · rw [heap_setCell_same _ _ _ _ _ _ h.row]; rfl
  · refine Mf.mono (N := (P.map (fun p => (p.id : Int))).length) ?_ (by rw [List.length_map]; exact hlen)
    refine (h.pm.kept (hk mp (map_ne h.row hmp).symm)).count _ (fun k _ hn => ?_)
    cases e : fP P k with
    | none => rw [e] at hn; exact absurd rfl hn
    | some p => exact List.mem_map.2 ⟨p, (fP_some e).1, (fP_some e).2⟩
  · obtain ⟨h1, h2, h3⟩ := h.rows b v hv
    refine ⟨h1, row_keptIf h2 (fun g hg => ?_), h3⟩
    obtain ⟨cs, hc⟩ := row_ty h2 hg
    exact hk g (own_ne hc h.row (by decide))

theorem undo_arg {B : Nat} {w : World} {a mp mb last : Nat} {P : List Pv} {K : Int → Option Value} (h : PS B w a mp mb last P K) (x : Int) (hx : x < 0 ∨ (last : Int) < x) :
    Calls Tryz.prog 57 #[.pointer (some ⟨a, 0, none⟩), .int .i64 x] w fun e w' => e = .returned (.int .i64 1) ∧ w' = w := by
  have hm := made_ok h
  have c0 := h.c0
  clear h
  by_cases h1 : x < 0
  · go_enter Tryz.func57, Tryz.ntmps57
    go_wp2_with (first | (go_at_call 75; refine same_at hm ?_))
    go_ret
    exact ⟨rfl, rfl⟩
  · have h2 : (last : Int) < x := by omega
    go_enter Tryz.func57, Tryz.ntmps57
    go_wp2_with (first | (go_at_call 75; refine same_at hm ?_))
    go_ret
    exact ⟨rfl, rfl⟩

set_option maxRecDepth 100000 in
set_option maxHeartbeats 2000000 in
theorem undo_ok {B : Nat} {w : World} {a mp mb last : Nat} {P : List Pv} {K : Int → Option Value} (h : PS B w a mp mb last P K) (l : Nat) (hl : l ≤ last) :
    Calls Tryz.prog 57 #[.pointer (some ⟨a, 0, none⟩), .int .i64 (l : Int)] w fun e w' =>
      ((¬ (∀ k : Int, (l : Int) < k → k ≤ (last : Int) → (fP P k).isSome = true) ∧ e = .returned (.int .i64 3)) ∧ Below w.heap.size w w') ∨
      (((∀ k : Int, (l : Int) < k → k ≤ (last : Int) → (fP P k).isSome = true) ∧ e = .returned (.int .i64 0)) ∧ ∃ K', PS B w' a mp mb l (upP P l) K' ∧ Stp (dm a mp mb P K) (dm a mp mb (upP P l) K') w w') := by
  have hm := made_ok h
  have c0 := h.c0
  have hsm := h.sml
  obtain ⟨i0, hi, hz0, hz1, hz2⟩ := info_parts info3
  have d1 : decide ((l : Int) < 0) = false := decide_eq_false (by omega)
  have d2 : decide (last < l) = false := decide_eq_false (by omega)
  go_enter Tryz.func57, Tryz.ntmps57
  go_wp2_with (first | (go_at_call 75; refine same_at hm ?_))
  go_loopw [5, 6] (fun s i wr => ∃ k : Nat, k ≤ last - l ∧ i = .int .i64 ((l : Int) + 1 + (k : Int)) ∧ Nums w.heap.size wr s (behd l k) ∧ Below w.heap.size w wr ∧ Hid (∀ x : Int, (l : Int) < x → x ≤ ((l + k : Nat) : Int) → (fP P x).isSome = true)) (fun s i _ => last + 1 - (intOf i).toNat)
  case atStart => exact ⟨0, by omega, by simp, Nums.nil _ _, Below.refl _ _, fun x h1 h2 => by omega⟩
  case round =>
    obtain ⟨k, hk, rfl, hN, hb, HA⟩ := hrel
    have hps := h.kept hb
    have c0r := hps.c0
    by_cases hlt : k < last - l
    · have hp := isPending_ok hps ((l : Int) + 1 + (k : Int)) ⟨by omega, by omega⟩
      have hle : (l : Int) + 1 + (k : Int) ≤ (last : Int) := by omega
      have hbl : (behd l k).length ≤ 1000 := by rw [behd_len]; omega
      have HE : Hid (behd l (k + 1) = behd l k ++ [(l : Int) + 1 + (k : Int)]) := by show behd l k ++ _ = _; congr 2; omega
      clear hps c0
      obtain ⟨y, hy⟩ : ∃ y, y = (l : Int) + 1 + (k : Int) := ⟨_, rfl⟩
      rw [← hy] at hp hle HE ⊢
      have HY : Hid _ := hy
      clear hy
      cases hf : (fP P y).isSome with
      | true =>
        rw [hf] at hp
        have HF : Hid _ := hf
        clear hf
        have hwy : IntKind.i64.wrap (y + 1) = y + 1 := IntWalk.i64_in _ (by have := HY.out; omega)
        go_wp2_with (first
          | (go_at_call 89; refine below_at hp ?_; intro w1 hb1; have hN2 := hN.kept hb1; have hb2 := below_on hb hb1)
          | (at_builtin; refine wpList_append_own _ rfl _ _ 23 rfl w.heap.size 3 i0 (.int .i64 0) 1 8 Tryz.underlying23 hi hz0 hz1 hz2 rfl (by decide) _ _ _ rfl (World.ownsRow.alloc hN2 _) ⟨w1.heap.size, 0, none⟩ 1 1 [.int .i64 y] rfl rfl (cell_one_new _ _ _) (by simp [Value.oneCell']) (by unfold maxLen; omega) (by omega) (by have := hb2.size; simp; omega) ?_; intro v' w3 hown hgrow _; have hown := Nums.snoc hown; obtain ⟨g', cap', rfl⟩ := Nums.succ hown))
        have hb3 := (hb2.alloc (by have := hb2.size; omega) _).grown hgrow (by have := hb2.size; simp; omega) (by intro k hk; exact (World.ownsRow.lt hN2 k hk).1)
        go_roundw
        case rel =>
          refine ⟨k + 1, by omega, by rw [HY.out]; go_num, by rw [HE.out]; exact hown, hb3, fun x h1 h2 => ?_⟩
          by_cases e : x ≤ ((l + k : Nat) : Int)
          · exact HA.out x h1 e
          · have : x = y := by have := HY.out; omega
            rw [this]; exact HF.out
        case measure => have := HY.out; simp [intOf]; omega
      | false =>
        rw [hf] at hp
        have HF : Hid _ := hf
        clear hf
        go_wp2_with (first | (go_at_call 89; refine below_at hp ?_; intro w1 hb1))
        go_ret
        refine .inl ⟨⟨fun hall => ?_, rfl⟩, below_on hb hb1⟩
        have := hall y (by have := HY.out; omega) hle
        rw [HF.out] at this
        cases this
    · obtain rfl : k = last - l := by omega
      have hbl : (behd l (last - l)).length ≤ 1000 := by rw [behd_len]; omega
      have hgt : ¬ (l : Int) + 1 + ((last - l : Nat) : Int) ≤ (last : Int) := by omega
      have hdd : decide ((l : Int) + 1 + ((last - l : Nat) : Int) ≤ (last : Int)) = false := decide_eq_false hgt
      obtain ⟨q1, c1, hv1, hI1, hpl1⟩ := hN.ii (by omega) (fun x hx => by have := (mem_behd _ _ _).1 hx; exact ⟨by omega, by omega⟩)
      subst hv1
      have hrm := remove_ok hps q1 _ c1 _ hI1 (by omega)
      have HP : Hid (kpP P (behd l (last - l)) = upP P l) := by
        show _ = _
        unfold kpP upP
        apply List.filter_congr
        intro p hp
        have h1 := (h.ids p hp).2.1
        rw [Bool.eq_iff_iff, decide_eq_true_iff, Bool.not_eq_true', decide_eq_false_iff_not, mem_behd]
        omega
      rw [HP.out] at hrm
      clear hI1 hN
      have hwl : (l : Int) + 1 + ((last - l : Nat) : Int) = (last : Int) + 1 := by omega
      rw [hwl]
      go_wp2_with (first | (go_at_call 96; refine hrm.mono ?_; rintro _ w5 ⟨rfl, K', hPS, hSt⟩; have c5 := hPS.c0; have f5 : w5.frozen? ⟨a, 0, none⟩ = false := (by simp [World.frozen?, hPS.row]); obtain ⟨hP6, hS6⟩ := hPS.setLast l hl (fun p hp => of_decide_eq_true (List.mem_filter.1 hp).2)))
      go_ret
      exact .inr ⟨⟨fun x h1 h2 => HA.out x h1 (by omega), rfl⟩, K', hP6, ((stp_below hb).trans hSt).trans hS6⟩
end Go.Proofs.YtinigfidofgaiaaGreat.Pt

/- A map's keys, collected, sorted: Blocks. -/
namespace Go.Proofs.YtinigfidofgaiaaGreat.Pt
open Go.RowKit Go.Shelf Go.Maps Go.Sort
set_option maxRecDepth 100000
set_option linter.unusedVariables false
attribute [local go_sem] Oper.semAt_some

set_option maxRecDepth 100000 in
set_option maxHeartbeats 1000000 in
theorem keys1_in {H : Type} (n : Nat) (hn : 1 ≤ n) (l Bm b nn : Nat) (D0 : DataW H) {R : Value → Option (DataW H × List MemPlace)} (J Jx : List Int → World → Prop)
    (hY : ∀ pre x W, J pre W → pre.length < Maps.size D0 → YieldAt Fence.wide (n - 1) Tryz.prog l #[encZ x] W fun e W' =>
      (e = .returned (.bool true) ∧ J (pre ++ [x]) W' ∧ KeepsWalks W W') ∨ (e = .returned (.bool false) ∧ Jx (pre ++ [x]) W'))
    (W : World) (hJ : AbidesFrom W.heap.size J) (hm : W.cell? ⟨Bm, 0, none⟩ = some (.map (some b))) (hown : W.ownsMap Tryz.prog 3 R b nn D0) (h0 : J [] W) :
    CallsIn Fence.wide n Tryz.prog 118 #[.func (.yield l) #[] #[], .pointer (some ⟨Bm, 0, none⟩)] W fun e W' => (∃ v, e = .returned v) ∧
      ((∃ ss : List Int, (ss.Nodup ∧ ss.length ≤ Maps.size D0 ∧ ∀ x, x ∈ ss ↔ has D0 (.int .i64 x) = true) ∧ J ss W') ∨ (∃ pre : List Int, True ∧ Jx pre W')) := by
  refine callsIn_of_wp Tryz.func118 rfl trivial ?_ rfl
  simp only [Tryz.ntmps118, List.size_toArray, List.length_cons, List.length_nil, Nat.reduceAdd, Nat.reduceSub, Array.replicate_succ, Array.replicate_zero, List.push_toArray, List.append_toArray, List.nil_append, List.cons_append]
  gi_wp2_with (first
    | (gi_at_range; refine wpListIn_range_own _ rfl _ 118 rfl 3 23 keyed3 Tryz.underlying118 _ b nn _ rfl hown ?_; intro w0 hrg0 hg0 hs0))
  go_frame
  gi_loopw [3] (fun _ wr => ∃ (left : Lit → Bool) (cnt : Nat) (ss : List Int), wr.ranges Tryz.prog 3 R b W.heap.size nn D0 left cnt ∧ ss.length + cnt ≤ Maps.size D0 ∧ CollectedI D0 left ss ∧ J ss wr)
    (fun _ wr => wr.rangeLeft b W.heap.size)
  case atStart =>
    exact ⟨_, _, [], hrg0, by simp, CollectedI.start D0, hJ [] W w0 none h0 hg0 (fun r e => by cases e)⟩
  case round =>
    obtain ⟨left, cnt, ss, hrg, hcs, hC, hJs⟩ := hrel
    gi_wp2_with (first
      | (gi_at_next; refine wpListIn_next_ranges _ rfl _ rfl 3 keyed3 R encZ id (fun key kl hk => by obtain ⟨x, hx, _⟩ := Maps.keyOf_i64 Tryz.underlying3 hk; exact ⟨x, hx⟩) (fun v _ _ => ⟨v, rfl⟩) b W.heap.size nn _ _ _ rfl hrg ?_ ?_))
    · intro hc0 hl0
      gi_wp2
      go_end0
      exact ⟨⟨_, rfl⟩, .inl ⟨ss, ⟨hC.1, by omega, fun x => by rw [hC.2 x, hl0]; simp⟩, hJs⟩⟩
    · intro x c kl yd yp w2 cnt2 hkey hlk hv hat hrg2 hlt hg2 hs2 hen
      obtain ⟨x', ex, rfl, _⟩ := Maps.keyOf_i64 Tryz.underlying3 hkey
      obtain rfl : x = x' := encZ_inj ex
      have hJ2 : J ss w2 := hJ ss wr w2 (some W.heap.size) hJs hg2 (fun r e => by cases e; exact ⟨Nat.le_refl _, hrg.iter_walk⟩)
      obtain ⟨fn, tmps, assign, body, hy, hR⟩ := hY ss x w2 hJ2 (by omega)
      clear hs2
      gi_wp2
      refine hR.mono ?_
      have hC2 := hC.step hlk hat
      rintro e W3 (⟨rfl, hJ3, hk3⟩ | ⟨rfl, hJx3⟩)
      · gi_wp2
        have hrg3 := hrg2.of_walks hk3
        go_roundw
        case rel => exact ⟨_, cnt2, ss ++ [x], hrg3, by simp; omega, hC2, hJ3⟩
        case measure => rw [hrg3.left_eq, hrg.left_eq]; exact hlt
      · gi_wp2
        refine bodyPost_ret (results_none rfl _ _ _) rfl ?_
        exact ⟨⟨_, rfl⟩, .inr ⟨_, trivial, hJx3⟩⟩
theorem keys_stops {H : Type} (n : Nat) (hn : 1 ≤ n) (Bm b nn : Nat) (D0 : DataW H) {R : Value → Option (DataW H × List MemPlace)} (w : World) (hBm : Bm < w.heap.size)
    (hm : w.cell? ⟨Bm, 0, none⟩ = some (.map (some b))) (hown : w.ownsMap Tryz.prog 3 R b nn D0) :
    SeqStopsK Fence.wide n Tryz.prog 118 #[.pointer (some ⟨Bm, 0, none⟩)] (fun x : Int => #[encZ x]) KeepsWalks (fun ss => ss.Nodup ∧ ss.length ≤ Maps.size D0 ∧ ∀ x, x ∈ ss ↔ has D0 (.int .i64 x) = true) (fun _ => True) (Maps.size D0) w := fun l J Jx W hW hJ _ hY h0 => by
  have hown' : W.ownsMap Tryz.prog 3 R b nn D0 := by
    have hbl := hown.lt
    obtain ⟨es, clock, hb, Ft, hs, hD⟩ := hown
    exact ⟨es, clock, (hW.block b hbl).trans hb, Ft, hs, hD⟩
  exact keys1_in n hn l Bm b nn D0 J Jx hY W hJ ((hW.cell (p := ⟨Bm, 0, none⟩) hBm).trans hm) hown' h0

set_option maxHeartbeats 400000 in
theorem keys_in (n : Nat) (mb : Option Nat) (w : World) : CallsIn Fence.wide n Tryz.prog 77 #[.map mb] w fun e w' => e = .returned (.func (.func 118) #[] #[.pointer (some ⟨w.heap.size, 0, none⟩)]) ∧ w' = w.alloc (.cells #[.map mb] 118) := by
  refine callsIn_of_wp Tryz.func77 rfl trivial ?_ rfl
  simp only [Tryz.ntmps77, List.size_toArray, List.length_cons, List.length_nil, Nat.reduceAdd, Nat.reduceSub, Array.replicate_succ, Array.replicate_zero, List.push_toArray, List.append_toArray, List.nil_append, List.cons_append]
  gi_wp2
  go_ret
  exact ⟨rfl, rfl⟩

set_option maxRecDepth 100000 in
set_option maxHeartbeats 2000000 in
theorem appendSeq_in {H : Type} (Bm b nn : Nat) (D0 : DataW H) {R : Value → Option (DataW H × List MemPlace)} (w : World) (hBm : Bm < w.heap.size) (hsz0 : Maps.size D0 ≤ 4096)
    (hm : w.cell? ⟨Bm, 0, none⟩ = some (.map (some b))) (hown : w.ownsMap Tryz.prog 3 R b nn D0) :
    CallsIn Fence.wide 6 Tryz.prog 147 #[.slice none 0 0, .func (.func 118) #[] #[.pointer (some ⟨Bm, 0, none⟩)]] w fun e w' => ∃ v ss, e = .returned v ∧ (ss.Nodup ∧ ss.length ≤ Maps.size D0 ∧ ∀ x, x ∈ ss ↔ has D0 (.int .i64 x) = true) ∧ Nums w.heap.size w' v ss ∧ Below w.heap.size w w' := by
  obtain ⟨i0, hi, hz0, hz1, hz2⟩ := info_parts info3
  refine callsIn_of_wp_marks Tryz.func147 rfl trivial ?_ rfl
  simp only [Tryz.ntmps147, List.size_toArray, List.length_cons, List.length_nil, Nat.reduceAdd, Nat.reduceSub, Array.replicate_succ, Array.replicate_zero, List.push_toArray, List.append_toArray, List.nil_append, List.cons_append]
  gi_wp2
  have bO := Boxed.new w 23 (.slice none 0 0)
  have hB0 : Below w.heap.size w (w.alloc (.cells #[.slice none 0 0] 23)) := (Below.refl _ w).alloc (Nat.le_refl _) _
  have hsz : (w.alloc (.cells #[.slice none 0 0] 23)).heap.size = w.heap.size + 1 := by simp
  have hown1 : (w.alloc (.cells #[.slice none 0 0] 23)).ownsMap Tryz.prog 3 R b nn D0 := by
    have hbl := hown.lt
    obtain ⟨es, clock, hb, Ft, hs, hD⟩ := hown
    exact ⟨es, clock, (hB0.block b hbl).trans hb, Ft, hs, hD⟩
  have hm1 := (hB0.cell (p := ⟨Bm, 0, none⟩) hBm).trans hm
  generalize w.alloc (.cells #[.slice none 0 0] 23) = W0 at *
  refine wpIn_rangeFunc_ownG rfl (by omega) (gf := 118) (lb := #[.pointer (some ⟨Bm, 0, none⟩)]) rfl trivial (enters_of Tryz.func118 (by kernel_rfl) rfl)
    (keys_stops 5 (by omega) Bm b nn D0 W0 (by omega) hm1 hown1) walksK_t walksK_b (Below.refl _ _) (fun _ => rfl)
    (fun pre W => (∃ v, Boxed W w.heap.size 23 v ∧ W.ownsRow w.heap.size 3 1 v pre.length (pre.map (Value.int .i64)) ∧ True) ∧ Below w.heap.size w W)
    (fun _ _ _ => False)
    (OwnFrom.and (Own.from (holdsRow_own w.heap.size w.heap.size 23 3 1 (fun pre : List Int => pre.length) (fun pre : List Int => pre.map (Value.int .i64)) (fun pre v => True)) _) (ownFrom_below (Nat.le_refl _) (by omega)))
    (fun _ _ _ _ _ hs _ _ => hs)
    ⟨⟨_, bO, World.ownsRow_nil _ _ _ _, trivial⟩, hB0⟩
    (fun x => { tmps := #[.slice none 0 0, .func (.func 118) #[] #[.pointer (some ⟨Bm, 0, none⟩)], .pointer (some ⟨w.heap.size, 0, none⟩), undef, .slice none 0 0, .int .i64 x, .func (.func 118) #[] #[.pointer (some ⟨Bm, 0, none⟩)], .int .i64 x, undef, undef, undef, undef, undef], defers := [] }) ?assign ?body ?done ?stop
  case assign =>
    intro l x W K hK
    gi_wp2
    exact hK
  case body =>
    rintro l pre x W ⟨⟨v, hv, hrow, _⟩, hB⟩ hlt
    have hc := hv.cell
    have hpl : pre.length < 4096 := by omega
    gi_wp2_with (gi_at_builtin; refine wpListIn_append_own _ rfl _ _ 23 rfl w.heap.size 3 i0 (.int .i64 0) 1 8 Tryz.underlying23 hi hz0 hz1 hz2 rfl (by decide) _ _ _ rfl (hrow.alloc _) ⟨W.heap.size, 0, none⟩ 1 1 [.int .i64 x] rfl rfl (cell_one_new _ _ _) (by simp [Value.oneCell']) (by unfold maxLen; omega) (by omega) (by have := hB.size; simp; omega) ?_; intro v' w1 hown' hgrow _; obtain ⟨g', cap', rfl⟩ := ownsRow_succ hown'; obtain ⟨hv1, hv2, hr2, hk2, hb2⟩ := hv.appended (by decide) hrow hB.size (Nat.le_refl _) hown' hgrow; have hc1 := hv1.cell; have hf1 := hv1.frozen)
    exact ⟨hk2.from _, hk2.walks, ⟨_, hv2, by simpa using hr2, trivial⟩, hB.trans hb2⟩
  case done =>
    rintro D ys W hD hys ⟨⟨v, hv, hrow, _⟩, hB⟩ hK
    have hc := hv.cell
    gi_wp2
    refine ⟨by simp, .inl ⟨_, _, rfl, run_takeDeferred hK, ?_⟩⟩
    exact ⟨_, results_tmp rfl _ _ _, v, ys, rfl, hys, ownsRow_putObj hrow _ hK rfl, hB.trans (belowK_b (w := w) (Nat.le_refl _) W D _ _ (by omega) hK rfl rfl)⟩
  case stop =>
    rintro D c pre W _ _ h _
    exact h.elim

set_option maxHeartbeats 400000 in
theorem collect_in {H : Type} (Bm b nn : Nat) (D0 : DataW H) {R : Value → Option (DataW H × List MemPlace)} (w : World) (hBm : Bm < w.heap.size) (hsz0 : Maps.size D0 ≤ 4096)
    (hm : w.cell? ⟨Bm, 0, none⟩ = some (.map (some b))) (hown : w.ownsMap Tryz.prog 3 R b nn D0) :
    CallsIn Fence.wide 7 Tryz.prog 116 #[.func (.func 118) #[] #[.pointer (some ⟨Bm, 0, none⟩)]] w fun e w' => ∃ v ss, e = .returned v ∧ (ss.Nodup ∧ ss.length ≤ Maps.size D0 ∧ ∀ x, x ∈ ss ↔ has D0 (.int .i64 x) = true) ∧ Nums w.heap.size w' v ss ∧ Below w.heap.size w w' := by
  have hf : Fence.wide.fn 147 := trivial
  have hA := appendSeq_in Bm b nn D0 w hBm hsz0 hm hown
  refine callsIn_of_wp Tryz.func116 rfl trivial ?_ rfl
  simp only [Tryz.ntmps116, List.size_toArray, List.length_cons, List.length_nil, Nat.reduceAdd, Nat.reduceSub, Array.replicate_succ, Array.replicate_zero, List.push_toArray, List.append_toArray, List.nil_append, List.cons_append]
  gi_wp2_with (first | (gi_at_call 147; refine hA.mono ?_; rintro _ w3 ⟨v, ss, rfl, hS, hN, hb⟩))
  go_ret
  exact ⟨v, ss, rfl, hS, hN, hb⟩

theorem sort_nums {B : Nat} {w : World} {v : Value} {zs : List Int} (h : Nums B w v zs) (hB : B ≤ w.heap.size) (hn : zs.length ≤ 140737488355328) (hf : ∀ x ∈ zs, I64 x) :
    Calls Tryz.prog 117 #[v] w fun e w' => e = .returned (.tuple #[]) ∧ ∃ p c, v = .slice p zs.length c ∧ II w' p zs.length (zs.mergeSort fun x y => decide (x ≤ y)) ∧ Plain p ∧ (∀ g, blkOf p = some g → v.ownBlock = some g) ∧ Below B w w' := by
  cases zs with
  | nil =>
    obtain ⟨p, c, rfl, hii, hpl⟩ := h.ii hn hf
    have hown : ∀ g, blkOf p = some g → (Value.slice p 0 c).ownBlock = some g := by
      intro g hg
      cases p with
      | none => cases hg
      | some a => simpa [blkOf, Value.ownBlock] using hg
    refine (sh_slices_Sort_int_none p c w).mono ?_
    rintro e w' ⟨rfl, rfl⟩
    exact ⟨rfl, p, c, rfl, by simpa using hii, hpl, hown, Below.refl _ _⟩
  | cons y ys =>
    rcases h.2 with ⟨_, e⟩ | ⟨g, cap, cur, rfl, hbg, hgc, hcap, rest⟩
    · simp at e
    · have hH := holds_of_row h
      have hlt : g < w.heap.size := (Array.getElem?_eq_some_iff.1 hgc).1
      refine (sh_slices_Sort_int g 0 cap (y :: ys) w hH hlt (by omega)).mono ?_
      rintro e w' ⟨rfl, k, os, rfl⟩
      obtain ⟨S, hS⟩ : ∃ S : List Int, S = (y :: ys).mergeSort (fun x y => decide (x ≤ y)) := ⟨_, rfl⟩
      have hSl : S.length = (y :: ys).length := by rw [hS, List.length_mergeSort]
      have hSm : ∀ x ∈ S, I64 x := fun x hx => hf x (by rw [hS] at hx; exact (List.mergeSort_perm _ _).mem_iff.1 hx)
      rw [← hS]
      have hsz : S.toArray.size = (y :: ys).toArray.size := by rw [List.size_toArray, List.size_toArray, hSl]
      have hH1 : Sort.Holds (Value.int .i64) (Sort.putRow (Value.int .i64) (Sort.ahead w k) g 0 S.toArray) g 0 S.toArray :=
        Sort.holds_putRow _ (Sort.ahead w k) g 0 _ _ (Sort.holds_ahead _ w k g 0 _ hH) hsz
      have hH2 := Sort.holds_grow (Value.int .i64) _ os g 0 _ (by simpa using hlt) hH1
      refine ⟨rfl, some ⟨g, 0, none⟩, cap, rfl, ⟨hSl, hn, hSm, fun h0 => ⟨g, 0, rfl, fun i hi => ?_⟩⟩, .inr ⟨g, 0, rfl⟩, fun g' hg' => hg', below_grow' (below_putRow (below_ahead (Below.refl _ _) k) g 0 hbg _) (by simpa using hB) os⟩
      have := (hH2 i (by simpa [hSl] using hi)).1
      rw [this, getElem!_pos _ i (by simpa [hSl] using hi)]
      rw [List.getD_eq_getElem?_getD, List.getElem?_eq_getElem (by omega)]
      simp

theorem sorted_ext : ∀ {l m : List Int}, l.Pairwise (fun x y => x < y) → m.Pairwise (fun x y => x < y) → (∀ x, x ∈ l ↔ x ∈ m) → l = m
  | [], [], _, _, _ => rfl
  | [], y :: m, _, _, h => by have := (h y).2 (by simp); cases this
  | x :: l, [], _, _, h => by have := (h x).1 (by simp); cases this
  | x :: l, y :: m, hl, hm, h => by
    have hl' := List.pairwise_cons.1 hl
    have hm' := List.pairwise_cons.1 hm
    have e : x = y := by
      have h1 := (h x).1 (by simp)
      have h2 := (h y).2 (by simp)
      rcases List.mem_cons.1 h1 with e | h1
      · exact e
      · rcases List.mem_cons.1 h2 with e | h2
        · exact e.symm
        · have a1 := hm'.1 x h1
          have a2 := hl'.1 y h2
          omega
    subst e
    congr 1
    refine sorted_ext hl'.2 hm'.2 (fun z => ?_)
    constructor
    · intro hz
      have a1 := hl'.1 z hz
      rcases List.mem_cons.1 ((h z).1 (by simp [hz])) with e | h2
      · omega
      · exact h2
    · intro hz
      have a1 := hm'.1 z hz
      rcases List.mem_cons.1 ((h z).2 (by simp [hz])) with e | h2
      · omega
      · exact h2

/-- The blocks that have patches, rising. -/
def blks (P : List Pv) : List Int := rs (P.map (fun p => (p.blk : Int)))

theorem sort_is {ss L : List Int} (hn : ss.Nodup) (hm : ∀ x, x ∈ ss ↔ x ∈ L) : (ss.mergeSort fun x y => decide (x ≤ y)) = rs L := by
  refine sorted_ext ?_ (rs_sorted L) (fun x => by rw [mem_rs, ← hm x]; exact (List.mergeSort_perm _ _).mem_iff)
  have h1 := sorted_merge ss
  have h2 : (ss.mergeSort fun x y => decide (x ≤ y)).Nodup := (List.mergeSort_perm _ _).nodup_iff.2 hn
  exact (List.pairwise_and_iff.2 ⟨h1, h2⟩).imp (fun {a b} h => by have := h.1; have := h.2; omega)

set_option maxRecDepth 100000 in
set_option maxHeartbeats 1000000 in
theorem blocks_ok {B : Nat} {w : World} {a mp mb last : Nat} {P : List Pv} {K : Int → Option Value} (h : PS B w a mp mb last P K) :
    Calls Tryz.prog 41 #[.pointer (some ⟨a, 0, none⟩)] w fun e w' => ∃ p c, e = .returned (.slice p (blks P).length c) ∧ II w' p (blks P).length (blks P) ∧ Plain p ∧ (∀ g, blkOf p = some g → w.heap.size ≤ g) ∧ Below w.heap.size w w' := by
  have hm := made_ok h
  have c2 := h.c2
  obtain ⟨W1, hW1⟩ : ∃ W1, w.alloc (.cells #[.map (some mb)] 118) = W1 := ⟨_, rfl⟩
  have hbW : Below w.heap.size w W1 := by rw [← hW1]; exact (Below.refl _ w).alloc (Nat.le_refl _) _
  have hsW : W1.heap.size = w.heap.size + 1 := by rw [← hW1]; simp
  have hbox : W1.cell? ⟨w.heap.size, 0, none⟩ = some (.map (some mb)) := by rw [← hW1, cell_of_row _ _ 0 _ 118 _ (at_new rfl)]; rfl
  have hbm := (h.kept hbW).bm
  obtain ⟨D0, hown, hsz, hpD⟩ := hbm
  have hPl := h.len
  have hsm := h.sml
  have hcol := callsIn_wide.1 (collect_in w.heap.size mb (size D0) D0 W1 (by omega) (by omega) hbox hown)
  have hkeys := callsIn_wide.1 (keys_in 5 (some mb) w)
  have hmemb : ∀ b, idsOf P b ≠ [] → b ∈ P.map (fun p => (p.blk : Int)) := fun b hb => by
    obtain ⟨x, hx⟩ := List.exists_mem_of_ne_nil _ hb
    unfold idsOf at hx
    obtain ⟨p, hp, _⟩ := List.mem_map.1 hx
    obtain ⟨hp1, hp2⟩ := List.mem_filter.1 hp
    exact List.mem_map.2 ⟨p, hp1, of_decide_eq_true hp2⟩
  have HM : Hid (∀ x, has D0 (.int .i64 x) = true ↔ x ∈ P.map (fun p => (p.blk : Int))) := fun x => by
    constructor
    · intro hx
      obtain ⟨es, rfl, hpw, hk⟩ := keys_int hown
      obtain ⟨p, hp, he⟩ := List.any_eq_true.1 (show es.any (fun p => p.1.sameKey (.int .i64 x)) = true from hx)
      obtain ⟨z, hz, e⟩ := hk p hp
      have : ikey z = .int .i64 x := by rw [← e]; exact WideAt.sameKey_eq he
      have hzx : z = x := by simpa [ikey] using this
      subst hzx
      cases hK : K z with
      | none =>
        have h1 := (hpD z hz).1 hK
        have h2 : has (DataW.map es) (ikey z) = true := hx
        rw [h2] at h1
        cases h1
      | some v => exact hmemb z (h.rows z v hK).2.2
    · intro hx
      obtain ⟨p, hp, rfl⟩ := List.mem_map.1 hx
      have hi := h.ids p hp
      have hI : I64 (p.blk : Int) := ⟨by omega, by omega⟩
      cases hK : K (p.blk : Int) with
      | none =>
        have := h.away _ hI hK
        have h2 : (p.id : Int) ∈ idsOf P (p.blk : Int) := List.mem_map.2 ⟨p, List.mem_filter.2 ⟨hp, decide_eq_true rfl⟩, rfl⟩
        rw [this] at h2
        cases h2
      | some v => exact ((hpD _ hI).2 v hK).1
  have HI : Hid (∀ x ∈ P.map (fun p => (p.blk : Int)), I64 x) := fun x hx => by
    obtain ⟨p, hp, rfl⟩ := List.mem_map.1 hx
    have := h.ids p hp
    exact ⟨by omega, by omega⟩
  have hsorted : Calls Tryz.prog 76 #[.func (.func 118) #[] #[.pointer (some ⟨w.heap.size, 0, none⟩)]] W1 fun e w' => ∃ p c, e = .returned (.slice p (blks P).length c) ∧ II w' p (blks P).length (blks P) ∧ Plain p ∧ (∀ g, blkOf p = some g → w.heap.size ≤ g) ∧ Below w.heap.size w w' := by
    clear hm c2 hkeys hown hpD hmemb
    go_enter Tryz.func76, Tryz.ntmps76
    go_wp2_with (first
      | (go_at_call 116; refine hcol.mono ?_; rintro _ w3 ⟨v, ss, rfl, ⟨hnd, hl, hmem⟩, hN, hb3⟩; have hsort := sort_nums hN hb3.size (by omega) (fun x hx => HI.out x ((HM.out x).1 ((hmem x).1 hx))); rw [sort_is hnd (fun x => (hmem x).trans (HM.out x))] at hsort)
      | (go_at_call 117; refine hsort.mono ?_; rintro _ w4 ⟨rfl, p, c, rfl, hII, hpl, hg, hb4⟩))
    go_ret
    have hll : ss.length = (blks P).length := hII.len.symm
    refine ⟨p, c, by rw [hll]; rfl, by rw [← hll]; exact hII, hpl, fun g hg' => ?_, hbW.trans ((hb3.trans hb4).mono (by omega))⟩
    have := (World.ownsRow.lt hN g (hg g hg')).1
    omega
  clear h hown hpD hmemb hcol
  go_enter Tryz.func41, Tryz.ntmps41
  go_wp2_with (first | (go_at_call 75; refine same_at hm ?_) | (go_at_call 77; refine hkeys.mono ?_; rintro _ w3 ⟨rfl, rfl⟩; rw [hW1]) | (go_at_call 76; refine hsorted.mono ?_; rintro _ w4 ⟨p, c, rfl, hr⟩))
  go_ret
  exact ⟨p, c, rfl, hr⟩
end Go.Proofs.YtinigfidofgaiaaGreat.Pt
