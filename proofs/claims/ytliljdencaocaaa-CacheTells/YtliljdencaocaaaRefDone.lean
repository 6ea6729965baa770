/- The document's disk: Complete. -/
import Derived.Test.YtliljdencaocaaaRefSet
namespace Go.Proofs.Ytliljdencaocaaa
open Go.RowKit Go.Maps

section
variable {B : Nat} {w w' : World} {x : Nat} {bv qv fv : Value} {gB gQ : List (Nat × Nat)} {S : St}

set_option maxHeartbeats 400000 in
theorem rcomplete_none (h : RI B w x bv qv fv gB gQ S) (hS : Ok S) (id : Int) (ok : Bool) (hi : S.q.findIdx? (fun y => y.id == id) = none) : Calls Try.prog 35 #[.pointer (some ⟨x, 0, none⟩), .int .i64 id, .bool ok] w fun e w' => e = .returned (.int .i64 20) ∧ Below w.heap.size w w' := by
  have c := find_ok h hS id
  rw [idx_none hi] at c
  have HC := (show Hid _ from c)
  clear c
  go_enter Try.func35, Try.ntmps35
  go_wp2_with fail
  refine Calls.mono HC.out ?_
  rintro e w1 ⟨rfl, hb1⟩
  go_wp2
  go_ret
  exact ⟨rfl, hb1⟩

set_option maxRecDepth 10000 in
set_option maxHeartbeats 2000000 in
theorem rcomplete_some (h : RI B w x bv qv fv gB gQ S) (hS : Ok S) (hB : B ≤ w.heap.size) (id : Int) (ok : Bool) (i : Nat) (y : Wr) (hi : S.q.findIdx? (fun y => y.id == id) = some i) (hy : S.q[i]? = some y) :
    Calls Try.prog 35 #[.pointer (some ⟨x, 0, none⟩), .int .i64 id, .bool ok] w fun e w' => ∃ qv' gB' gQ', e = .returned (.int .i64 (if ok then 0 else 4)) ∧ RI B w' x bv qv' fv gB' gQ' (S.done i y ok) ∧ Frame (rfoot x bv qv fv) w w' ∧ (∀ k, rrows gB' gQ' k → rrows gB gQ k ∨ w.heap.size ≤ k) ∧ ∀ k, rfoot x bv qv' fv k → rfoot x bv qv fv k ∨ w.heap.size ≤ k := by
  obtain ⟨i52, hi52, hz0, hz1, hz2⟩ := info_parts info52
  have c := find_ok h hS id
  rw [idx_some hi] at c
  have HC := (show Hid _ from c)
  clear c
  have hil := (List.getElem?_eq_some_iff.1 hy).1
  obtain ⟨qp, qc, hqv, hpg⟩ := row_case h.qs
  obtain ⟨g, rfl⟩ := hpg (by omega)
  have hyb := (hS.qok y (List.mem_of_getElem? hy)).1
  have hysec := (hS.qok y (List.mem_of_getElem? hy)).2.1
  have h64 := hS.q64
  obtain ⟨gb, cb, hbv⟩ := h.bcase hS.N1
  obtain ⟨n, hn⟩ : ∃ n, n = S.q.length := ⟨_, rfl⟩
  have HN := (show Hid (n = S.q.length) from hn)
  rw [← hn] at hqv hil h64
  clear hn
  have hcap : n ≤ qc := by
    have := h.qs
    rw [hqv] at this
    rcases this.2 with ⟨e, _⟩ | ⟨g', cap', cur, e, _, _, hc, _⟩
    · cases e
    · cases e; have := HN.out; omega
  have HQ := (show Hid (qv = .slice (some ⟨g, 0, none⟩) n qc) from hqv)
  have HBV := (show Hid (bv = .slice (some ⟨gb, 0, none⟩) S.N cb) from hbv)
  clear hqv hbv
  have hiI : (i : Int) < (n : Int) := by omega
  have hi0 : (0 : Int) ≤ (i : Int) := by omega
  have hiw : IntKind.i64.wrap ((i : Int) + 1) = (i : Int) + 1 := by rw [IntKind.wrap_i64]; omega
  have hiq : (i : Int) ≤ (qc : Int) := by omega
  have hi1 : (i : Int) + 1 ≤ (n : Int) := by omega
  go_enter Try.func35, Try.ntmps35
  go_wp2_with fail
  refine Calls.mono HC.out ?_
  rintro e w1 ⟨rfl, hb1⟩
  clear HC
  have h1 := h.later hb1
  obtain ⟨p, hp, s0, s1, s2, hpo⟩ := h1.sentAt (g := g) (cap := qc) (by rw [HQ.out, HN.out]) hy
  have hc1 := h1.c1
  rw [HQ.out] at hc1
  unfold slc at s2
  have hbT := (Below.refl w1.heap.size w1).alloc (Nat.le_refl _) (.cells #[.int .i64 y.id, .int .i64 (y.block : Int), .slice (some ⟨p.1, 0, none⟩) 128 p.2] 111)
  have hT : (w1.alloc (.cells #[.int .i64 y.id, .int .i64 (y.block : Int), .slice (some ⟨p.1, 0, none⟩) 128 p.2] 111)).heap[w1.heap.size]? = some (.cells #[.int .i64 y.id, .int .i64 (y.block : Int), .slice (some ⟨p.1, 0, none⟩) 128 p.2] 111 (0, 0)) := at_new rfl
  go_wp2_with fail
  generalize w1.alloc (.cells #[.int .i64 y.id, .int .i64 (y.block : Int), .slice (some ⟨p.1, 0, none⟩) 128 p.2] 111) = w2 at hbT hT ⊢
  have h2 := h1.later hbT
  have h2d := h2.later (Below.refl _ _).drew
  have b3 := ((Below.refl w2.heap.size w2).alloc (Nat.le_refl _) (.cells #[] 111)).drew
  have h3 := h2.later b3
  have hcap2 : n - (i + 1) ≤ qc - (i + 1) := by omega
  have hi2 : (0 : Int) ≤ (i : Int) + 1 := by omega
  obtain ⟨ad, hif, had⟩ : ∃ ad : Addr, (if qc = i + 1 then some ⟨g, 0, none⟩ else some ⟨g, (i + 1) * 3, none⟩) = some ad ∧ (ad = ⟨g, (i + 1) * 3, none⟩ ∨ n = i + 1) := by
    by_cases e : qc = i + 1
    · exact ⟨_, if_pos e, .inr (by omega)⟩
    · exact ⟨_, if_neg e, .inl rfl⟩
  obtain ⟨v4, w4, v5, w5, hr4, hr5, b4, b5, ho5⟩ := two_appends h2 HQ.out HN.out hil h64 ad had (qc - (i + 1))
  have hn2 := h2.newQ (w' := w5) (q' := S.q.eraseIdx i) (gQ' := gQ.eraseIdx i) (v := v5) b5 (ownsRow_base ho5 (Nat.le_trans hB (Nat.le_trans hb1.size hbT.size))) (by have := h.qlen; rw [List.length_eraseIdx, List.length_eraseIdx, this]) (fun j z q hz hq => h2.qel _ z q (erase_at hz) (erase_at hq))
  obtain ⟨m5, hm5⟩ : ∃ m, (S.q.eraseIdx i).length = m := ⟨_, rfl⟩
  rw [hm5] at ho5
  obtain ⟨p5, c5, rfl⟩ := slice_shape ho5
  have h4 := h2.later b4
  have h5 := h2.later b5
  have hT5 : w5.heap[w1.heap.size]? = _ := (b5.block w1.heap.size (by have := (Array.getElem?_eq_some_iff.1 hT).1; omega)).trans hT
  have hpx : p.1 ≠ x := by rintro e; exact not_row h1.row hpo (by decide) (by rw [e]; rfl)
  have hp6 : Own B (w5.setCell ⟨x, 1, none⟩ (.slice p5 m5 c5)) p.1 128 p.2 y.bytes := ((hpo.kept hbT).kept b5).setOther hpx _
  have hTx : w1.heap.size ≠ x := by have := (Array.getElem?_eq_some_iff.1 h1.row).1; omega
  have hT6 : (w5.setCell ⟨x, 1, none⟩ (.slice p5 m5 c5)).heap[w1.heap.size]? = _ := (Below.heap_setCell w5 ⟨x, 1, none⟩ _ _ hTx).trans hT5
  have hf6 : Frame (rfoot x bv qv fv) w (w5.setCell ⟨x, 1, none⟩ (.slice p5 m5 c5)) := (((frame_of_below hb1).trans (frame_of_below hbT)).trans (frame_of_below b5)).trans (Frame.setCell w5 _ (.inl rfl))
  have hnq : ∀ k, (Value.slice p5 m5 c5).ownBlock = some k → qv.ownBlock = some k ∨ w.heap.size ≤ k := fun k hk => .inr (by have := (ho5.lt k hk).1; have := hb1.size; have := hbT.size; omega)
  have HNQ := (show Hid _ from rfoot_new (x := x) (bv := bv) (fv := fv) hnq)
  clear hm5 ho5 hT5 hT hnq
  have k1 := h2d.c1
  have k2 := h3.c1
  have k3 := h4.c1
  have k4 := h5.c1
  have f5 := h5.froz 1
  rw [HQ.out] at k1 k2 k3 k4
  have HR4 := (show Hid _ from hr4)
  have HR5 := (show Hid _ from hr5)
  clear hr4 hr5
  go_region_law
    (first
      | (refine step_append_run (by rfl) _ _ 103 103 (by rfl) _ _ (by rfl) (by rfl) _ _ HR4.out ?_)
      | (refine step_append_run (by rfl) _ _ 103 103 (by rfl) _ _ (by rfl) (by rfl) _ _ HR5.out ?_))
  all_goals (
    clear HR4 HR5 k1 k2 k3 k4 f5 h5 h4 h3 h2d h2 b5 b4 b3 s0 s1 s2 hc1 h1 hif had
    generalize w5.setCell ⟨x, 1, none⟩ (.slice p5 m5 c5) = w6 at hn2 hp6 hT6 hf6 ⊢
    have hnd := hn2.later (Below.refl _ _).drew
    have q0 := hnd.c0
    rw [HBV.out] at q0
    obtain ⟨T, hTe⟩ : ∃ T, w1.heap.size = T := ⟨_, rfl⟩
    rw [hTe] at hT6 hTx ⊢
    have q1 : w6.drew.cell? ⟨T, 1, none⟩ = some (.int .i64 (y.block : Int)) := by rw [cell_of_row w6.drew T 1 _ _ _ hT6]; rfl
    have q2 : w6.drew.cell? ⟨T, 2, none⟩ = some (.slice (some ⟨p.1, 0, none⟩) 128 p.2) := by rw [cell_of_row w6.drew T 2 _ _ _ hT6]; rfl
    have hbi := (hp6.kept (Below.refl _ _).drew).bi (by omega) hysec.2
    have hgT : gb ≠ T := by
      rintro rfl
      exact not_row hT6 hn2.bs (by decide) (by rw [HBV.out]; rfl)
    have hgx : gb ≠ x := by
      rintro rfl
      exact not_row hn2.row hn2.bs (by decide) (by rw [HBV.out]; rfl)
    have hybI : (y.block : Int) < (S.N : Int) := by omega
    have hyb0 : (0 : Int) ≤ (y.block : Int) := by omega
    have hB6 : B ≤ w6.drew.heap.size := Nat.le_trans hB hf6.size
    cases ok with
    | false =>
      go_wp2
      go_ret
      exact ⟨rfl, _, _, _, hn2, hf6, fun k hk => .inl (rrows_erase k hk), HNQ.out⟩
    | true =>
      go_wp2_with fail
      go_region_held3 (fun w' => w'.cell? ⟨x, 0, none⟩ = some (.slice (some ⟨gb, 0, none⟩) S.N cb) ∧ w'.cell? ⟨T, 1, none⟩ = some (.int .i64 (y.block : Int)) ∧ w'.cell? ⟨T, 2, none⟩ = some (.slice (some ⟨p.1, 0, none⟩) 128 p.2)) (first | exact ⟨q0, q1, q2⟩ | exact ⟨q0', q1', q2'⟩ | exact ⟨q0'', q1'', q2''⟩)
        ((go_at_call 66; refine Calls.mono (copied_ok _ 128 _ y.bytes _ hbi) ?_; rintro e w7 ⟨g7, c7, rfl, ho7, hb7⟩; have hn7 := hnd.later hb7; have q0' := (hb7.cell (p := ⟨x, 0, none⟩) (lt_of_cell q0)).trans q0; have q1' := (hb7.cell (p := ⟨T, 1, none⟩) (lt_of_cell q1)).trans q1; have q2' := (hb7.cell (p := ⟨T, 2, none⟩) (lt_of_cell q1)).trans q2; have hfin := hn7.setB (p := (g7, c7)) HBV.out hyb (ho7.base hB6); obtain ⟨pb, _, hpb, _⟩ := hn7.bcell HBV.out hyb; have hfzb : w7.frozen? ⟨gb, y.block, none⟩ = false := (by have := hn7.bs; rw [HBV.out] at this; exact this.frozenAt y.block); have q0'' := (cell_other w7 hgx (slc (g7, c7)) (i := y.block) (j := 0)).trans q0'; have q1'' := (cell_other w7 hgT (slc (g7, c7)) (i := y.block) (j := 1)).trans q1'; have q2'' := (cell_other w7 hgT (slc (g7, c7)) (i := y.block) (j := 2)).trans q2'; unfold slc at hpb q0'' q1'' q2''))
      have hspot := ho7.spot
      have hfr := ((frame_drew hf6).trans (frame_of_below hb7)).trans (Frame.setCell (X := rfoot x bv qv fv) (p := ⟨gb, y.block, none⟩) w7 (slc (g7, c7)) (.inr (.inl (by rw [HBV.out]; rfl))))
      clear hpb hfzb q0 q1 q2 q0' q1' q2' q0'' q1'' q2'' hn7 hb7 ho7 hnd
      go_wp2
      go_ret
      refine ⟨rfl, _, _, _, hfin.1, hfr, fun k hk => ?_, HNQ.out⟩
      rcases rrows_set (p := (g7, c7)) (H := w.heap.size) (Nat.le_trans hf6.size hspot.1) k hk with h' | h'
      · exact .inl (rrows_erase k h')
      · exact .inr h')
end
end Go.Proofs.Ytliljdencaocaaa
