/- PDone PUndo -/
import Derived.Test.YtjecicjpplibaaaGreatNw29

/- Done, Undo. -/
namespace Go.Proofs.YtjecicjpplibaaaGreat.Pt
open Go.RowKit Go.Maps
set_option maxRecDepth 100000
set_option linter.unusedVariables false

/-- One of some lacks what it needs. -/
def bad (P : List Pv) (zs : List Int) (k : Int) : Bool := ((fP P k).map (lk P zs)).getD false

theorem add_zero (nb : Nat) (p : Option Addr) (c : Nat) (w : World) : Calls Tryz.prog 91 #[.map (some nb), .slice p 0 c] w fun e w' => e = .returned (.tuple #[]) ∧ w' = w := by
  go_enter Tryz.func91, Tryz.ntmps91
  go_wp2_with fail
  go_loopw [8] (fun i wr => i = .int .i64 0 ∧ wr = w) (fun i _ => 0)
  case atStart => exact ⟨rfl, rfl⟩
  case round =>
    obtain ⟨rfl, rfl⟩ := hrel
    go_wp2
    go_end0
    exact ⟨rfl, rfl⟩
theorem add_any {w : World} {nb : Nat} {U C : List Int} (h : Ns w nb U C) (hU : U.length < 100000) (p : Option Addr) (n c : Nat) (zs : List Int) (hz : II w p n zs) (hzU : ∀ x ∈ zs, x ∈ U) (hne : 0 < n → blkOf p ≠ some nb) :
    Calls Tryz.prog 91 #[.map (some nb), .slice p n c] w fun e w' => e = .returned (.tuple #[]) ∧ Ns w' nb U (C ++ zs) ∧ Frame (fun k => k = nb) w w' := by
  rcases Nat.eq_zero_or_pos n with h0 | h0
  · subst h0
    have : zs = [] := List.length_eq_zero_iff.1 hz.len
    subst this
    refine (add_zero nb p c w).mono ?_
    rintro e w' ⟨rfl, rfl⟩
    exact ⟨rfl, by simpa using h, Frame.refl _ _⟩
  · exact add_ok h hU p n c zs hz hzU (hne h0)

theorem done_unknown {B : Nat} {w : World} {a mp mb last : Nat} {P : List Pv} {K : Int → Option Value} (h : PS B w a mp mb last P K) (p : Option Addr) (n c : Nat) (zs : List Int) (hz : II w p n zs) (hk : zs.all (kn last) = false) :
    Calls Tryz.prog 85 #[.pointer (some ⟨a, 0, none⟩), .slice p n c] w fun e w' => e = .returned (.int .i64 70) ∧ w' = w := by
  have hm := made_ok h
  have hkn := known_ok h p n c zs hz
  rw [hk] at hkn
  clear h hk hz
  go_enter Tryz.func85, Tryz.ntmps85
  go_wp2_with (first | (go_at_call 75; refine same_at hm ?_) | (go_at_call 101; refine same_at hkn ?_))
  go_ret
  exact ⟨rfl, rfl⟩

set_option maxRecDepth 100000 in
set_option maxHeartbeats 2000000 in
theorem done_ok {B : Nat} {w : World} {a mp mb last : Nat} {P : List Pv} {K : Int → Option Value} (h : PS B w a mp mb last P K) (p : Option Addr) (n c : Nat) (zs : List Int) (hz : II w p n zs) (hn8 : n * 8 ≤ 140737488355328) (hk : zs.all (kn last) = true) :
    Calls Tryz.prog 85 #[.pointer (some ⟨a, 0, none⟩), .slice p n c] w fun e w' => (((still P zs).any (bad P zs) = true ∧ e = .returned (.int .i64 3)) ∧ Below w.heap.size w w') ∨
      (((still P zs).any (bad P zs) = false ∧ e = .returned (.int .i64 0)) ∧ ∃ K', PS B w' a mp mb last (kpP P zs) K' ∧ Stp (dm a mp mb P K) (dm a mp mb (kpP P zs) K') w w') := by
  have hm := made_ok h
  have hkn := known_ok h p n c zs hz
  rw [hk] at hkn
  have hmm := @run_makeMap Tryz.prog
  have hsm := h.sml
  obtain ⟨W1, hW1⟩ : ∃ W1, w.alloc (.map #[] 0) = W1 := ⟨_, rfl⟩
  have hbW : Below w.heap.size w W1 := by rw [← hW1]; exact (Below.refl _ w).alloc (Nat.le_refl _) _
  have hNs : Ns W1 w.heap.size (upto last) [] := by rw [← hW1]; exact ns_made w _
  have hsW : W1.heap.size = w.heap.size + 1 := by rw [← hW1]; simp
  have hadd := add_any hNs (by rw [upto_len]; omega) p n c zs (hz.kept hbW) (fun x hx => mem_upto (kn_true.1 (List.all_eq_true.1 hk x hx))) (fun h0 e => by
    obtain ⟨b, o, rfl, hc⟩ := hz.cells h0
    have h1 := lt_of_cell (hc 0 h0)
    have h2 : b = w.heap.size := Option.some.inj e
    omega)
  have hzl := hz.len
  have hsl := still_len P zs
  go_enter Tryz.func85, Tryz.ntmps85
  go_wp2_with (first | (go_at_call 75; refine same_at hm ?_) | (go_at_call 101; refine same_at hkn ?_) | (go_at_call 91; refine hadd.mono ?_; rintro _ w2 ⟨rfl, hN2, hF2⟩; have hb2 : Below w.heap.size w w2 := frame_below hbW (by omega) hF2 (Nat.le_refl _); have hst := stillPending_ok (h.kept hb2) p n c zs (hz.kept hb2) (by omega)) | (go_at_call 102; refine hst.mono ?_; rintro _ w3 ⟨v1, rfl, hN1, hb3⟩; obtain ⟨q1, c1, hv1, hI1, hpl1⟩ := hN1.ii (by omega) (fun x hx => by obtain ⟨p, hp⟩ := still_mem hx; have := h.ids p (fP_some hp).1; have := (fP_some hp).2; exact ⟨by omega, by omega⟩); subst hv1))
  have hb3' : Below w.heap.size w w3 := hb2.trans (hb3.mono hb2.size)
  have hN3 := hN2.kept hb3
  have hmL : ∀ k ∈ still P zs, ∃ p, fP P k = some p := fun k hk => still_mem hk
  rw [List.nil_append] at hN3
  clear hN1 hb3 hst hN2 hadd hF2 hNs
  obtain ⟨L, hL⟩ : ∃ L, L = still P zs := ⟨_, rfl⟩
  rw [← hL] at hI1 hmL hsl ⊢
  have HL : Hid _ := hL
  clear hL
  go_loopw [25] (fun i wr => ∃ j : Nat, j ≤ L.length ∧ i = .int .i64 (j : Int) ∧ Ns wr w.heap.size (upto last) zs ∧ II wr q1 L.length L ∧ Below w.heap.size w wr ∧ Hid ((L.take j).any (bad P zs) = false)) (fun i _ => L.length - (intOf i).toNat)
  case atStart => exact ⟨0, by omega, rfl, hN3, hI1, hb3', rfl⟩
  case round =>
    clear hN3 hI1 hb3'
    obtain ⟨j, hj, rfl, hN, hI, hb, HA⟩ := hrel
    by_cases hlt : j < L.length
    · obtain ⟨b1, o1, hq, hc1⟩ := hI.cells (by omega)
      have e1 := hc1 j hlt
      have hps := h.kept hb
      obtain ⟨p', hp'⟩ := hmL (L.getD j 0) (getD_mem' hlt)
      have hgt := hps.get (L.getD j 0) (hI.fitAt j)
      rw [hp'] at hgt
      have hgt' : (Instr.lookup 119 (.map (some mp)) (.int .i64 (L.getD j 0)) false).run Tryz.prog wr = .ok p'.v wr := hgt
      have c1' := hps.c1
      have hlk := lacks_ok hps hN p' (hps.nee p' (fP_some hp').1).1
      have HT : Hid (L.take (j + 1) = L.take j ++ [L.getD j 0]) := take_one hlt
      have HM : Hid (L.getD j 0 ∈ L) := getD_mem' hlt
      have HB : Hid (bad P zs (L.getD j 0) = lk P zs p') := by show ((fP P (L.getD j 0)).map (lk P zs)).getD false = _; rw [hp']; rfl
      have hjI : (j : Int) < (L.length : Int) := by omega
      have hj0 : (0 : Int) ≤ (j : Int) := by omega
      subst hq
      clear hc1 hgt hp' hps hmL
      generalize p'.v = pv at *
      generalize hyy : L.getD j 0 = y at *
      clear hyy
      cases hl : lk P zs p' with
      | true =>
        rw [hl] at hlk HB
        clear hl
        go_wp2_with (first | (go_at_call 125; refine below_at hlk ?_; intro w5 hb5))
        go_ret
        exact .inl ⟨⟨by rw [← HL.out]; exact List.any_eq_true.2 ⟨y, HM.out, HB.out⟩, rfl⟩, hb.trans (hb5.mono hb.size)⟩
      | false =>
        rw [hl] at hlk HB
        clear hl
        go_wp2_with (first | (go_at_call 125; refine below_at hlk ?_; intro w5 hb5))
        go_roundw
        case rel =>
          refine ⟨j + 1, by omega, by go_num, hN.kept hb5, hI.kept hb5, hb.trans (hb5.mono hb.size), ?_⟩
          show (L.take (j + 1)).any (bad P zs) = false
          rw [HT.out, List.any_append, HA.out]
          simp [HB.out]
        case measure => simp [intOf]; omega
    · obtain rfl : j = L.length := by omega
      rw [List.take_of_length_le (Nat.le_refl _)] at HA
      have hrm := remove_ok (h.kept hb) p n c zs (hz.kept hb) hn8
      clear hN hI hmL
      go_wp2_with (first | (go_at_call 96; refine hrm.mono ?_; rintro _ w5 ⟨rfl, K', hPS, hSt⟩))
      go_ret
      exact .inr ⟨⟨by rw [← HL.out]; exact HA.out, rfl⟩, K', hPS, (stp_below hb).trans hSt⟩
end Go.Proofs.YtjecicjpplibaaaGreat.Pt

/- Undo: what was added last goes. -/
namespace Go.Proofs.YtjecicjpplibaaaGreat.Pt
open Go.RowKit Go.Maps
set_option maxRecDepth 100000
set_option linter.unusedVariables false

/-- The patches up to a number. -/
def upP (P : List Pv) (l : Nat) : List Pv := P.filter (fun p => decide (p.id ≤ l))
/-- The numbers behind l, k of them. -/
def behd (l : Nat) : Nat → List Int
  | 0 => []
  | k + 1 => behd l k ++ [((l + k + 1 : Nat) : Int)]
theorem mem_behd (l : Nat) : ∀ (k : Nat) (x : Int), x ∈ behd l k ↔ (l : Int) < x ∧ x ≤ ((l + k : Nat) : Int)
  | 0, x => by simp [behd]
  | k + 1, x => by
    rw [behd, List.mem_append, mem_behd l k x, List.mem_singleton]
    omega
theorem behd_len (l : Nat) : ∀ k, (behd l k).length = k
  | 0 => rfl
  | k + 1 => by simp [behd, behd_len l k]

theorem PS.setLast {B : Nat} {w : World} {a mp mb last : Nat} {P : List Pv} {K : Int → Option Value} (h : PS B w a mp mb last P K) (l : Nat) (hl : l ≤ last) (hP : ∀ p ∈ P, p.id ≤ l) :
    PS B (w.setCell ⟨a, 0, none⟩ (.int .i64 (l : Int))) a mp mb l P K ∧ Stp (dm a mp mb P K) (dm a mp mb P K) w (w.setCell ⟨a, 0, none⟩ (.int .i64 (l : Int))) := by
  have hk : ∀ k, k ≠ a → (w.setCell ⟨a, 0, none⟩ (.int .i64 (l : Int))).heap[k]? = w.heap[k]? := fun k hk => Below.heap_setCell _ _ _ _ hk
  obtain ⟨ep, cp, hmp⟩ := h.pm.isMap
  obtain ⟨eb, cb, hmb⟩ := h.bm.isMap
  have hlen : P.length ≤ l := len_ids (m := 0) h.srt (fun p hp => ⟨(h.ids p hp).1, hP p hp⟩)
  refine ⟨⟨?_, ?_, h.bm.kept (hk mb (map_ne h.row hmb).symm), fun p hp => ⟨(h.byt p hp).1.keptIf (fun g hg _ => hk g (h.apart p hp g (.inr hg)).2.1), (h.byt p hp).2⟩, fun p hp => ⟨(h.nee p hp).1.keptIf (fun g hg _ => hk g (h.apart p hp g (.inl hg)).2.1), (h.nee p hp).2⟩, fun b v hv => ?_, h.away, h.two, fun p hp k hk' => ⟨by rw [World.size_setCell]; exact (h.apart p hp k hk').1, (h.apart p hp k hk').2⟩, fun p hp => ⟨(h.ids p hp).1, hP p hp, (h.ids p hp).2.2⟩, h.srt, h.low, Nat.le_trans hl h.sml, h.base⟩, Frame.setCell w _ (.inl rfl), fun k hk => .inl hk⟩
  · rw [heap_setCell_same _ _ _ _ _ _ h.row]; rfl
  · refine Mf.mono (N := (P.map (fun p => (p.id : Int))).length) ?_ (by rw [List.length_map]; exact hlen)
    refine (h.pm.kept (hk mp (map_ne h.row hmp).symm)).count _ (fun k _ hn => ?_)
    cases e : fP P k with
    | none => rw [e] at hn; exact absurd rfl hn
    | some p => exact List.mem_map.2 ⟨p, (fP_some e).1, (fP_some e).2⟩
  · obtain ⟨h1, h2, h3⟩ := h.rows b v hv
    refine ⟨h1, row_keptIf h2 (fun g hg => ?_), h3⟩
    obtain ⟨cs, hc⟩ := row_ty h2 hg
    exact hk g (own_ne hc h.row (by decide))

theorem undo_arg {B : Nat} {w : World} {a mp mb last : Nat} {P : List Pv} {K : Int → Option Value} (h : PS B w a mp mb last P K) (x : Int) (hx : x < 0 ∨ (last : Int) < x) :
    Calls Tryz.prog 57 #[.pointer (some ⟨a, 0, none⟩), .int .i64 x] w fun e w' => e = .returned (.int .i64 1) ∧ w' = w := by
  have hm := made_ok h
  have c0 := h.c0
  clear h
  by_cases h1 : x < 0
  · go_enter Tryz.func57, Tryz.ntmps57
    go_wp2_with (first | (go_at_call 75; refine same_at hm ?_))
    go_ret
    exact ⟨rfl, rfl⟩
  · have h2 : (last : Int) < x := by omega
    go_enter Tryz.func57, Tryz.ntmps57
    go_wp2_with (first | (go_at_call 75; refine same_at hm ?_))
    go_ret
    exact ⟨rfl, rfl⟩

set_option maxRecDepth 100000 in
set_option maxHeartbeats 2000000 in
theorem undo_ok {B : Nat} {w : World} {a mp mb last : Nat} {P : List Pv} {K : Int → Option Value} (h : PS B w a mp mb last P K) (l : Nat) (hl : l ≤ last) :
    Calls Tryz.prog 57 #[.pointer (some ⟨a, 0, none⟩), .int .i64 (l : Int)] w fun e w' =>
      ((¬ (∀ k : Int, (l : Int) < k → k ≤ (last : Int) → (fP P k).isSome = true) ∧ e = .returned (.int .i64 3)) ∧ Below w.heap.size w w') ∨
      (((∀ k : Int, (l : Int) < k → k ≤ (last : Int) → (fP P k).isSome = true) ∧ e = .returned (.int .i64 0)) ∧ ∃ K', PS B w' a mp mb l (upP P l) K' ∧ Stp (dm a mp mb P K) (dm a mp mb (upP P l) K') w w') := by
  have hm := made_ok h
  have c0 := h.c0
  have hsm := h.sml
  obtain ⟨i0, hi, hz0, hz1, hz2⟩ := info_parts info3
  have d1 : decide ((l : Int) < 0) = false := decide_eq_false (by omega)
  have d2 : decide (last < l) = false := decide_eq_false (by omega)
  go_enter Tryz.func57, Tryz.ntmps57
  go_wp2_with (first | (go_at_call 75; refine same_at hm ?_))
  go_loopw [5, 6] (fun s i wr => ∃ k : Nat, k ≤ last - l ∧ i = .int .i64 ((l : Int) + 1 + (k : Int)) ∧ Nums w.heap.size wr s (behd l k) ∧ Below w.heap.size w wr ∧ Hid (∀ x : Int, (l : Int) < x → x ≤ ((l + k : Nat) : Int) → (fP P x).isSome = true)) (fun s i _ => last + 1 - (intOf i).toNat)
  case atStart => exact ⟨0, by omega, by simp, Nums.nil _ _, Below.refl _ _, fun x h1 h2 => by omega⟩
  case round =>
    obtain ⟨k, hk, rfl, hN, hb, HA⟩ := hrel
    have hps := h.kept hb
    have c0r := hps.c0
    by_cases hlt : k < last - l
    · have hp := isPending_ok hps ((l : Int) + 1 + (k : Int)) ⟨by omega, by omega⟩
      have hle : (l : Int) + 1 + (k : Int) ≤ (last : Int) := by omega
      have hbl : (behd l k).length ≤ 1000 := by rw [behd_len]; omega
      have HE : Hid (behd l (k + 1) = behd l k ++ [(l : Int) + 1 + (k : Int)]) := by show behd l k ++ _ = _; congr 2; omega
      clear hps c0
      obtain ⟨y, hy⟩ : ∃ y, y = (l : Int) + 1 + (k : Int) := ⟨_, rfl⟩
      rw [← hy] at hp hle HE ⊢
      have HY : Hid _ := hy
      clear hy
      cases hf : (fP P y).isSome with
      | true =>
        rw [hf] at hp
        have HF : Hid _ := hf
        clear hf
        have hwy : IntKind.i64.wrap (y + 1) = y + 1 := IntWalk.i64_in _ (by have := HY.out; omega)
        go_wp2_with (first
          | (go_at_call 89; refine below_at hp ?_; intro w1 hb1; have hN2 := hN.kept hb1; have hb2 := below_on hb hb1)
          | (at_builtin; refine wpList_append_own _ rfl _ _ 23 rfl w.heap.size 3 i0 (.int .i64 0) 1 8 Tryz.underlying23 hi hz0 hz1 hz2 rfl (by decide) _ _ _ rfl (World.ownsRow.alloc hN2 _) ⟨w1.heap.size, 0, none⟩ 1 1 [.int .i64 y] rfl rfl (cell_one_new _ _ _) (by simp [Value.oneCell']) (by unfold maxLen; omega) (by omega) (by have := hb2.size; simp; omega) ?_; intro v' w3 hown hgrow _; have hown := Nums.snoc hown; obtain ⟨g', cap', rfl⟩ := Nums.succ hown))
        have hb3 := (hb2.alloc (by have := hb2.size; omega) _).grown hgrow (by have := hb2.size; simp; omega) (by intro k hk; exact (World.ownsRow.lt hN2 k hk).1)
        go_roundw
        case rel =>
          refine ⟨k + 1, by omega, by rw [HY.out]; go_num, by rw [HE.out]; exact hown, hb3, fun x h1 h2 => ?_⟩
          by_cases e : x ≤ ((l + k : Nat) : Int)
          · exact HA.out x h1 e
          · have : x = y := by have := HY.out; omega
            rw [this]; exact HF.out
        case measure => have := HY.out; simp [intOf]; omega
      | false =>
        rw [hf] at hp
        have HF : Hid _ := hf
        clear hf
        go_wp2_with (first | (go_at_call 89; refine below_at hp ?_; intro w1 hb1))
        go_ret
        refine .inl ⟨⟨fun hall => ?_, rfl⟩, below_on hb hb1⟩
        have := hall y (by have := HY.out; omega) hle
        rw [HF.out] at this
        cases this
    · obtain rfl : k = last - l := by omega
      have hbl : (behd l (last - l)).length ≤ 1000 := by rw [behd_len]; omega
      have hgt : ¬ (l : Int) + 1 + ((last - l : Nat) : Int) ≤ (last : Int) := by omega
      have hdd : decide ((l : Int) + 1 + ((last - l : Nat) : Int) ≤ (last : Int)) = false := decide_eq_false hgt
      obtain ⟨q1, c1, hv1, hI1, hpl1⟩ := hN.ii (by omega) (fun x hx => by have := (mem_behd _ _ _).1 hx; exact ⟨by omega, by omega⟩)
      subst hv1
      have hrm := remove_ok hps q1 _ c1 _ hI1 (by omega)
      have HP : Hid (kpP P (behd l (last - l)) = upP P l) := by
        show _ = _
        unfold kpP upP
        apply List.filter_congr
        intro p hp
        have h1 := (h.ids p hp).2.1
        rw [Bool.eq_iff_iff, decide_eq_true_iff, Bool.not_eq_true', decide_eq_false_iff_not, mem_behd]
        omega
      rw [HP.out] at hrm
      clear hI1 hN
      have hwl : (l : Int) + 1 + ((last - l : Nat) : Int) = (last : Int) + 1 := by omega
      rw [hwl]
      go_wp2_with (first | (go_at_call 96; refine hrm.mono ?_; rintro _ w5 ⟨rfl, K', hPS, hSt⟩; have c5 := hPS.c0; have f5 : w5.frozen? ⟨a, 0, none⟩ = false := (by simp [World.frozen?, hPS.row]); obtain ⟨hP6, hS6⟩ := hPS.setLast l hl (fun p hp => of_decide_eq_true (List.mem_filter.1 hp).2)))
      go_ret
      exact .inr ⟨⟨fun x h1 h2 => HA.out x h1 (by omega), rfl⟩, K', hP6, ((stp_below hb).trans hSt).trans hS6⟩
end Go.Proofs.YtjecicjpplibaaaGreat.Pt
