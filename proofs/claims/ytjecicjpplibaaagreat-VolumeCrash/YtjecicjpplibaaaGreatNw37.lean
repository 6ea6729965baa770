/- Que V5 -/
import Derived.Test.YtjecicjpplibaaaGreatNw07
import Derived.Test.YtjecicjpplibaaaGreatNw36

/- Queue: what it gives. -/
namespace Go.Proofs.YtjecicjpplibaaaGreat
open Go.RowKit Go.Maps
set_option linter.unusedVariables false
set_option maxRecDepth 100000


set_option maxRecDepth 10000 in
set_option maxHeartbeats 1000000 in
theorem queue_ok {B : Nat} {w : World} {a mb fb : Nat} {qv : Value} {S : St} (h : DI B w a mb fb qv S) : Calls Tryz.prog 31 #[.pointer (some ⟨a, 0, none⟩)] w fun e w' => ∃ g gs, e = .returned (.slice (some ⟨g, 0, none⟩) S.q.length S.q.length) ∧ Sents w.heap.size w' g gs S.q ∧ Below w.heap.size w w' := by
  obtain ⟨i0, hi, hz0, hz1, hz2⟩ := info_parts info52
  have hq64 := h.q64
  obtain ⟨qp, qc, hqv, hqg⟩ : ∃ qp qc, qv = .slice qp S.q.length qc ∧ (0 < S.q.length → ∃ g, qp = some ⟨g, 0, none⟩) := by
    rcases h.qcase with ⟨e1, e2⟩ | ⟨g, cap, e⟩
    · exact ⟨none, 0, by rw [e1, e2]; rfl, by rw [e2]; simp⟩
    · exact ⟨_, _, e, fun _ => ⟨g, rfl⟩⟩
  subst hqv
  have hc := h.c2
  obtain ⟨n, hn⟩ : ∃ n, n = S.q.length := ⟨_, rfl⟩
  rw [← hn] at hq64 hqg
  go_enter Tryz.func31, Tryz.ntmps31
  go_wp2_with fail
  refine same_at (made_ok h) ?_
  go_wp2_with (first
    | (at_make; refine wpList_make_full _ rfl _ _ 59 rfl w.heap.size 62 i0 (.agg #[.int .i64 0, .int .i64 0, .slice none 0 0]) 3 Tryz.underlying59 hi hz0 hz1 .i64 .i64 _ _ n rfl rfl (by rw [hn]) (by rw [hn]) (by rw [hz2]; omega) (by unfold maxLen; omega) (Nat.le_refl _) ?_; intro w1 hown1 hgrow1; have hb1 := (Below.refl w.heap.size w).grown hgrow1 (Nat.le_refl _) (by intro k hk; cases hk); clear hgrow1; have hc1 := (h.later hb1).c2))
  have hzr : ∀ w, (zeroValue 108).run Tryz.prog w = .ok (.agg zwr.toArray) w := zero_wr'
  have hZ : zwr.toArray.size = 130 := by simp [zwr_len]
  generalize zwr.toArray = Z at hzr hZ
  go_loopw [20] (fun i wr => ∃ j gs L, j ≤ n ∧ i = .int .i64 (j : Int) ∧ List.length gs = j ∧ wr.ownsRow w.heap.size 62 3 (.slice (some ⟨w.heap.size, 0, none⟩) n n) n L ∧ L.take (j * 3) = sflat gs (S.q.take j) ∧ (∀ i x, i < j → S.q[i]? = some x → Own w.heap.size wr (gs.getD i 0) 128 128 x.bytes) ∧ Below w.heap.size w wr) (fun i _ => n - (intOf i).toNat)
  case atStart => exact ⟨0, [], _, by omega, rfl, rfl, hown1, by simp [sflat], by intro i x hi; omega, hb1⟩
  case round =>
    clear hown1 hb1 hc1 hc
    obtain ⟨j, gs, L, hj, rfl, hgs, hown, hL, hel, hb⟩ := hrel
    have hd := h.later hb
    by_cases hlt : j < n
    · obtain ⟨g, rfl⟩ := hqg (by omega)
      obtain ⟨x, hx⟩ : ∃ x, S.q[j]? = some x := ⟨S.q[j], List.getElem?_eq_getElem (by omega)⟩
      have hxs := hd.sects x (List.mem_of_getElem? hx)
      have hr := range_at hd.que rfl hd.sects hx
      have hsz : (Tryz.prog.info? 108).map (·.size) = some x.cells.length := by rw [cells_len x hxs]; exact info86
      have hAs := wrA_size x hxs
      have hjn : (j : Int) < (S.q.length : Int) := by omega
      go_wp2_with (first
        | (refine wpList_load_mid rfl 108 _ rfl g (j * 130) rfl x.cells _ hr Tryz.underlying108 rfl hsz ?_)
        | (refine wpList_store_row rfl 108 _ _ rfl wr.heap.size (wrA x) rfl rfl 108 Z (at_new rfl) (by rw [hAs]; exact info86) (by rw [hZ, hAs]) (all_oneCell_toArray (wr_one' x)) ?_))
      have hb6 : Below wr.heap.size wr ((wr.alloc (.cells Z 108)).setRow wr.heap.size (wrA x)) := below_setRow ((Below.refl _ _).alloc (Nat.le_refl _) _) (Nat.le_refl _) _
      have hr6 : ((wr.alloc (.cells Z 108)).setRow wr.heap.size (wrA x)).heap[wr.heap.size]? = some (.cells (wrA x) 108 (0, 0)) := setRow_heap _ _ Z _ 108 _ (at_new rfl)
      have hs6 : ((wr.alloc (.cells Z 108)).setRow wr.heap.size (wrA x)).heap.size = wr.heap.size + 1 := by simp
      generalize (wr.alloc (.cells Z 108)).setRow wr.heap.size (wrA x) = w6 at hb6 hr6 hs6 ⊢
      obtain ⟨T, hT⟩ : ∃ T, wr.heap.size = T := ⟨_, rfl⟩
      have hRT : w.heap.size ≠ T := by have := (hown.lt w.heap.size rfl).2; omega
      rw [hT] at hb6 hr6 hs6 ⊢
      have hu79 := Tryz.underlying106
      have hi79 : (Tryz.prog.info? 106).map (·.size) = some (x.bytes.map (Value.int .u8)).length := by rw [List.length_map, hxs.1]; exact info79
      have k0 : w6.drew.cell? ⟨T, 0, none⟩ = some (.int .i64 x.id) := by rw [cell_of_row w6.drew T 0 _ _ _ hr6]; exact wrA_0 x
      have k1 : w6.drew.cell? ⟨T, 1, none⟩ = some (.int .i64 (x.block : Int)) := by rw [cell_of_row w6.drew T 1 _ _ _ hr6]; exact wrA_1 x
      have k2 : w6.drew.rangeAt T 2 (x.bytes.map (Value.int .u8)) := by
        intro i v hv
        rw [cell_of_row w6.drew T (2 + i) _ _ _ hr6]
        simp only [wrA, Wr.cells, List.getElem?_toArray]
        rw [Nat.add_comm]
        exact hv
      have hb6d : Below T wr w6.drew := hb6.drew
      have hown6 : w6.drew.ownsRow w.heap.size 62 3 (.slice (some ⟨w.heap.size, 0, none⟩) n n) n L := ownsRow_kept hown (fun k hk => hb6d.block k (by have := (hown.lt k hk).2; omega))
      have hLl := hown.1
      clear hr6 hr hsz hAs hzr hZ hi hz0 hz1 hz2
      go_region_held3 (fun w' => w'.cell? ⟨T, 0, none⟩ = some (.int .i64 x.id) ∧ w'.cell? ⟨T, 1, none⟩ = some (.int .i64 (x.block : Int)) ∧ w'.rangeAt T 2 (x.bytes.map (Value.int .u8))) (first | (refine ⟨?_, ?_, ?_⟩ <;> assumption) | (refine ⟨?_, ?_, range_set hRT (range_set hRT (range_set hRT k2'))⟩ <;> go_keep))
        ((go_at_call 68; refine Calls.mono (list_ok x.bytes hxs.1 _) ?_; rintro e w7 ⟨g7, rfl, ho7, hb7⟩; have k0' := (hb7.cell (p := ⟨T, 0, none⟩) (lt_of_cell k0)).trans k0; have k1' := (hb7.cell (p := ⟨T, 1, none⟩) (lt_of_cell k1)).trans k1; have k2' := range_later hb7 (by show T < w6.heap.size; omega) k2; have hown7 := ownsRow_kept hown6 (fun k hk => hb7.block k (hown6.lt k hk).2); obtain ⟨v0, v1, v2, e0, e1, e2⟩ := three_cells hown7 hlt; have f0 := hown7.frozenAt (j * 3); have f1 := hown7.frozenAt (j * 3 + 1); have f2 := hown7.frozenAt (j * 3 + 2)))
      have hbw : Below w.heap.size w w7 := hb.trans ((hb6d.mono (by have := hb.size; omega)).trans (hb7.mono (by show w.heap.size ≤ w6.heap.size; have := hb.size; omega)))
      have hn7 : g7 ≠ w.heap.size := by have := ho7.spot; have h1 : w6.drew.heap.size = w6.heap.size := rfl; have := hb.size; omega
      have hbT : Below T wr w7 := hb6d.trans (hb7.mono (by show T ≤ w6.heap.size; omega))
      have r1 := (((hown7.stored (j * 3) (.int .i64 x.id)).1.stored (j * 3 + 1) (.int .i64 (x.block : Int))).1.stored (j * 3 + 2) (sl g7)).1
      have ho7' := ho7.base (B' := w.heap.size) (by show w.heap.size ≤ w6.heap.size; have := hb.size; omega)
      clear k0 k1 k2 k0' k1' k2' e0 e1 e2 f0 f1 f2
      go_wp2
      go_roundw
      case rel =>
        subst hgs
        refine ⟨gs.length + 1, gs ++ [g7], _, by omega, by go_num, by simp, r1, ?_, ?_, ?_⟩
        · rw [Nat.add_mul, Nat.one_mul, take_set3 _ _ _ _ _ (by omega), hL, take_snoc hx, sflat_snoc _ _ _ _ (by simp; omega)]
          rfl
        · intro i y hi hy
          by_cases e : i = gs.length
          · subst e
            rw [hx] at hy
            cases hy
            have e1 : (gs ++ [g7]).getD gs.length 0 = g7 := by simp
            rw [e1]
            exact ((ho7'.setOther hn7 _).setOther hn7 _).setOther hn7 _
          · have e1 : (gs ++ [g7]).getD i 0 = gs.getD i 0 := by
              simp [List.getD_eq_getElem?_getD, List.getElem?_append_left (show i < gs.length by omega)]
            rw [e1]
            have ho := hel i y (by omega) hy
            have hne := rows_ne ho hown (by decide)
            have ho' : Own w.heap.size w7 (gs.getD i 0) 128 128 y.bytes := ho.kept (by rw [hT]; exact hbT)
            exact ((ho'.setOther hne _).setOther hne _).setOther hne _
        · exact ((hbw.setCell (Nat.le_refl _) _).setCell (Nat.le_refl _) _).setCell (Nat.le_refl _) _
      case measure => simp [intOf]; omega
    · obtain rfl : j = n := by omega
      go_wp2
      go_ret
      refine ⟨_, gs, rfl, ⟨?_, by omega, fun i x hx => hel i x (by have := (List.getElem?_eq_some_iff.1 hx).1; omega) hx⟩, hb⟩
      have hl := hown.1
      rw [List.take_of_length_le (by omega), List.take_of_length_le (by omega)] at hL
      subst hL
      subst hn
      exact hown

end Go.Proofs.YtjecicjpplibaaaGreat

/- The blocks on the way. -/
namespace Go.Proofs.YtjecicjpplibaaaGreat
open Go.RowKit Go.Maps
set_option linter.unusedVariables false
set_option maxRecDepth 100000

/-- The blocks of a queue. -/
def qbs (S : St) : List Int := S.q.map fun x => (x.block : Int)
theorem info3z : (Tryz.prog.info? 3).map (fun i => (i.zero, i.size, i.bytes)) = some (some (.int .i64 0), 1, 8) := by kernel_rfl

section
variable {g : Int} {B : Nat} {w w' : World} {A : At} {T : Vs}
theorem Sents.cells {b : Nat} {q : Nat} {gs : List Nat} {L : List Wr} (h : Sents b w q gs L) (j : Nat) (x : Wr) (hx : L[j]? = some x) : w.cell? ⟨q, j * 3, none⟩ = some (.int .i64 x.id) ∧ w.cell? ⟨q, j * 3 + 1, none⟩ = some (.int .i64 (x.block : Int)) ∧ w.cell? ⟨q, j * 3 + 2, none⟩ = some (sl (gs.getD j 0)) := by
  have hj : j < L.length := (List.getElem?_eq_some_iff.1 hx).1
  have hl := h.len
  have key : ∀ (gs : List Nat) (L : List Wr) (j : Nat) (x : Wr), gs.length = L.length → L[j]? = some x → (sflat gs L)[j * 3]? = some (.int .i64 x.id) ∧ (sflat gs L)[j * 3 + 1]? = some (.int .i64 (x.block : Int)) ∧ (sflat gs L)[j * 3 + 2]? = some (sl (gs.getD j 0)) := by
    intro gs
    induction gs with
    | nil => intro L j x hl hx; cases L with
      | nil => simp at hx
      | cons y r => simp at hl
    | cons a r ih =>
      intro L j x hl hx
      cases L with
      | nil => simp at hl
      | cons y r2 =>
        cases j with
        | zero => simp at hx; subst hx; simp [sflat, sent]
        | succ j =>
          have hi := ih r2 j x (by simpa using hl) (by simpa using hx)
          have e : sflat (a :: r) (y :: r2) = sent a y ++ sflat r r2 := by simp [sflat]
          rw [e]
          have e1 : (j + 1) * 3 = j * 3 + 3 := by omega
          rw [e1]
          refine ⟨?_, ?_, ?_⟩
          · rw [List.getElem?_append_right (by simp [sent])]; simpa [sent] using hi.1
          · rw [List.getElem?_append_right (by simp [sent])]
            rw [show j * 3 + 3 + 1 - (sent a y).length = j * 3 + 1 by simp [sent]]; exact hi.2.1
          · rw [List.getElem?_append_right (by simp [sent])]
            rw [show j * 3 + 3 + 2 - (sent a y).length = j * 3 + 2 by simp [sent]]; simpa using hi.2.2
  obtain ⟨k0, k1, k2⟩ := key gs L j x hl hx
  have hr := h.row
  have h1 := hr.1
  refine ⟨?_, ?_, ?_⟩
  · rw [hr.cellAt _ (by omega), k0]
  · rw [hr.cellAt _ (by omega), k1]
  · rw [hr.cellAt _ (by omega), k2]

set_option maxHeartbeats 2000000 in
theorem onWay_ok (h : VI g B w A T) : Calls Tryz.prog 45 #[.pointer (some ⟨A.v, 0, none⟩)] w fun e w' => ∃ q c, e = .returned (.slice (some ⟨q, 0, none⟩) T.S.q.length c) ∧ Pt.II w' (some ⟨q, 0, none⟩) T.S.q.length (qbs T.S) ∧ w.heap.size ≤ q ∧ Below w.heap.size w w' := by
  obtain ⟨i0, hi, hz0, hz1, hz2⟩ := info_parts info3z
  have c2 := h.c2
  have hq := queue_ok h.cd.di
  have hq64 := h.cd.di.q64
  have hqok := h.cd.di.qok
  have HN12 := h.cd.ci.N12
  obtain ⟨n, hn⟩ : ∃ n, n = T.S.q.length := ⟨_, rfl⟩
  rw [← hn] at hq hq64
  have HN := (show Hid _ from hn)
  clear hn
  go_enter Tryz.func45, Tryz.ntmps45
  go_wp2_with (first
    | (go_at_call 31; refine Calls.mono hq ?_; rintro e w1 ⟨q1, gs, rfl, hS, hb1⟩)
    | (at_make; refine wpList_make_full _ rfl _ _ 23 rfl w.heap.size 3 i0 (.int .i64 0) 1 Tryz.underlying23 hi hz0 hz1 .i64 .i64 _ _ n rfl rfl rfl rfl (by rw [hz2]; omega) (by unfold maxLen; omega) hb1.size ?_; intro w2 hown2 hgrow2))
  rw [made_list _ _ rfl] at hown2
  have hb2 : Below w.heap.size w w2 := hb1.grown hgrow2 hb1.size (by intro k hk; cases hk)
  have hb12 : Below w1.heap.size w1 w2 := (Below.refl _ w1).grown hgrow2 (Nat.le_refl _) (by intro k hk; cases hk)
  have hS2 : Sents w.heap.size w2 q1 gs T.S.q := ⟨ownsRow_kept hS.row (fun k hk => hb12.block k (hS.row.lt k hk).2), hS.len, fun i x hx => (hS.el i x hx).kept hb12⟩
  have hq1 : q1 < w1.heap.size := (hS.row.lt q1 rfl).2
  have HS := (show Hid _ from hS2)
  have HQ := (show Hid _ from hqok)
  clear hS2 hS hgrow2 hq hqok h c2
  go_loopw [17] (fun i wr => ∃ j, j ≤ n ∧ i = .int .i64 (j : Int) ∧ wr.ownsRow w.heap.size 3 1 (.slice (some ⟨w1.heap.size, 0, none⟩) n n) n (((qbs T.S).take j).map (Value.int .i64) ++ List.replicate (n - j) (.int .i64 0)) ∧ Below w.heap.size w wr ∧ Sents w.heap.size wr q1 gs T.S.q) (fun i _ => n - (intOf i).toNat)
  case atStart => exact ⟨0, by omega, rfl, by simpa using hown2, hb2, HS.out⟩
  case round =>
    clear hown2 hb2 HS
    obtain ⟨j, hj, rfl, hrow, hbr, hSr⟩ := hrel
    by_cases hlt : j < n
    · have hI : (j : Int) < (n : Int) := by omega
      have hj0 : (0 : Int) ≤ (j : Int) := by omega
      obtain ⟨x, hx⟩ : ∃ x, T.S.q[j]? = some x := ⟨_, List.getElem?_eq_getElem (by have := HN.out; omega)⟩
      obtain ⟨k0, k1, k2⟩ := hSr.cells j x hx
      have hcw : wr.cell? ⟨w1.heap.size, j, none⟩ = some (.int .i64 0) := by
        have hl : (((qbs T.S).take j).map (Value.int .i64)).length = j := by have := HN.out; simp [qbs]; omega
        rw [hrow.cellAt j (by omega), List.getElem?_append_right (by omega), hl, List.getElem?_replicate]
        simp; omega
      have hfw := hrow.frozenAt j
      have HX := (show Hid _ from hx)
      generalize gs.getD j 0 = gj at k2
      unfold sl at k2
      obtain ⟨WA, hWA⟩ : ∃ WA, wr.alloc (Obj.cells #[.int .i64 x.id, .int .i64 (x.block : Int), .slice (some ⟨gj, 0, none⟩) 128 128] 62) = WA := ⟨_, rfl⟩
      have hbA : Below wr.heap.size wr WA := by rw [← hWA]; exact (Below.refl _ _).alloc (Nat.le_refl _) _
      have hrA := ownsRow_kept hrow (fun k hk => hbA.block k (hrow.lt k hk).2)
      have hSA : Sents w.heap.size WA q1 gs T.S.q := ⟨ownsRow_kept hSr.row (fun k hk => hbA.block k (hSr.row.lt k hk).2), hSr.len, fun i x hx => (hSr.el i x hx).kept hbA⟩
      have hst := (hrA.stored j (.int .i64 (x.block : Int))).1
      have hcA : WA.cell? ⟨w1.heap.size, j, none⟩ = some (.int .i64 0) := (hbA.cell (p := ⟨w1.heap.size, j, none⟩) (hrow.lt _ rfl).2).trans hcw
      have hfA := hrA.frozenAt j
      have hxA : WA.cell? ⟨wr.heap.size, 1, none⟩ = some (.int .i64 (x.block : Int)) := by rw [← hWA]; exact (cell_of_row _ _ 1 _ 62 _ (at_new rfl)).trans rfl
      have HE : Hid (((((qbs T.S).take j).map (Value.int .i64) ++ List.replicate (n - j) (Value.int .i64 0)).set j (Value.int .i64 (x.block : Int))) = (((qbs T.S).take (j + 1)).map (Value.int .i64) ++ List.replicate (n - (j + 1)) (Value.int .i64 0))) := by
        show _ = _
        have hl : (((qbs T.S).take j).map (Value.int .i64)).length = j := by have := HN.out; simp [qbs]; omega
        obtain ⟨m, hm⟩ : ∃ m, n - j = m + 1 := ⟨n - j - 1, by omega⟩
        have hm' : n - (j + 1) = m := by omega
        rw [hm, hm', List.set_append_right _ _ (by omega), hl, Nat.sub_self, List.take_add_one]
        have : (qbs T.S)[j]? = some (x.block : Int) := by unfold qbs; rw [List.getElem?_map, hx]; rfl
        rw [this]
        simp [List.replicate_succ]
      have hne : ∀ i y, T.S.q[i]? = some y → gs.getD i 0 ≠ w1.heap.size := fun i y hy => rows_ne (hSA.el i y hy) hrA (by decide)
      have hne1 : q1 ≠ w1.heap.size := rows_ne hSA.row hrA (by decide)
      have HT : Hid (Sents w.heap.size (WA.setCell ⟨w1.heap.size, j, none⟩ (.int .i64 (x.block : Int))) q1 gs T.S.q) := ⟨ownsRow_kept hSA.row (fun k hk => by simp only [Value.ownBlock, Option.some.injEq] at hk; subst hk; exact Below.heap_setCell WA ⟨w1.heap.size, j, none⟩ _ q1 hne1), hSA.len, fun i y hy => (hSA.el i y hy).setOther (hne i y hy) _⟩
      have HR := (show Hid _ from hst)
      have HB : Hid (Below w.heap.size w (WA.setCell ⟨w1.heap.size, j, none⟩ (.int .i64 (x.block : Int)))) := (hbr.trans (hbA.mono hbr.size)).setCell (p := ⟨w1.heap.size, j, none⟩) hb1.size _
      clear hx hne hst hSA hrA hSr hrow
      go_wp2
      go_roundw
      case rel => exact ⟨j + 1, by omega, by go_num, by rw [← HE.out]; exact HR.out, HB.out, HT.out⟩
      case measure => simp [intOf]; omega
    · have hI : ¬ (j : Int) < (n : Int) := by omega
      obtain rfl : j = n := by omega
      go_wp2
      go_ret
      have hnn := HN.out
      have hlq : (qbs T.S).length = j := by unfold qbs; rw [List.length_map]; exact hnn.symm
      refine ⟨w1.heap.size, ⟨j, by rw [← hnn]; rfl⟩, ?_, hb1.size, hbr⟩
      rw [← hnn]
      refine ⟨hlq, by omega, fun y hy => ?_, fun _ => ⟨w1.heap.size, 0, rfl, fun i hi => ?_⟩⟩
      · obtain ⟨z, hz, rfl⟩ := List.mem_map.1 hy
        have := (HQ.out z hz).1
        have := HN12
        exact ⟨by omega, by omega⟩
      · rw [Nat.zero_add, hrow.cellAt i (by omega), List.take_of_length_le (by omega), List.getElem?_append_left (by simp; omega), List.getElem?_map, List.getElem?_eq_getElem (by omega), List.getD_eq_getElem?_getD, List.getElem?_eq_getElem (by omega)]
        rfl

theorem vWay_ok (h : VI 0 B w A T) : Calls Tryz.prog 14 #[.pointer (some ⟨A.v, 0, none⟩)] w fun e w' => ∃ p c, e = .returned (.slice p T.S.q.length c) ∧ VI 0 B w' A T ∧ Pt.Stp (fp A T) (fp A T) w w' := by
  have hg := h.guard 1
  refine (vway_of h.vrow (R := fun r w1 => ∃ p c, r = .slice p T.S.q.length c ∧ VI 1 B w1 A T ∧ Pt.Stp (fp A T) (fp A T) (w.setCell ⟨A.v, 0, none⟩ (.int .i32 1)) w1) ((onWay_ok hg).mono ?_)).mono ?_
  · rintro e w1 ⟨q, c, rfl, _, _, hb⟩
    exact ⟨_, _, rfl, (hg.later hb).vheld, _, c, rfl, hg.later hb, below_stp hb⟩
  · rintro e w2 ⟨r, y, w1, rfl, _, ⟨p, c, rfl, hv, hst⟩, rfl⟩
    obtain ⟨hv0, hs0⟩ := unguard hst hv
    exact ⟨p, c, rfl, hv0, hs0⟩
end
end Go.Proofs.YtjecicjpplibaaaGreat
