/- The document's set: Done. -/
import Derived.Test.YteapkfnklbhdfaaRef3
namespace Go.Proofs.Yteapkfnklbhdfaa
open Go.RowKit Go.Maps
set_option linter.unusedVariables false
section
variable {B : Nat} {w : World} {x : Nat} {lv : Value} {last : Nat} {L : List Pv}

theorem kpP_snoc (L : List Pv) (p : Pv) (zs : List Int) : kpP (L ++ [p]) zs = if (p.id : Int) ∈ zs then kpP L zs else kpP L zs ++ [p] := by
  unfold kpP
  rw [List.filter_append]
  by_cases h : (p.id : Int) ∈ zs
  · rw [if_pos h]; simp [h]
  · rw [if_neg h]; simp [h]
/-- One of some lacks what it needs. -/
def rbad (L : List Pv) (zs : List Int) (p : Pv) : Bool := decide ((p.id : Int) ∈ zs) && lk L zs p

def allK (last : Nat) (zs : List Int) : Bool := zs.all (kn last)
def anyB (L : List Pv) (zs : List Int) : Bool := L.any (rbad L zs)

set_option maxRecDepth 100000 in
set_option maxHeartbeats 4000000 in
theorem rdone_ok (h : RZ B w x lv last L) (p : Option Addr) (n c : Nat) (zs : List Int) (hz : II w p n zs) : Calls Try.prog 41 #[.pointer (some ⟨x, 0, none⟩), .slice p n c] w fun e w' =>
    ((allK last zs = false ∧ e = .returned (.int .i64 70)) ∧ w' = w) ∨ ((allK last zs = true ∧ anyB L zs = true ∧ e = .returned (.int .i64 3)) ∧ Below w.heap.size w w') ∨
    ((allK last zs = true ∧ anyB L zs = false ∧ e = .returned (.int .i64 0)) ∧ ∃ lv', RZ B w' x lv' last (kpP L zs) ∧ Stp (rdm x lv L) (rdm x lv' (kpP L zs)) w w') := by
  obtain ⟨i0, hi, hz0, hz1, hz2⟩ := info_parts info44z
  have c0 := h.c0
  have c1 := h.c1
  obtain ⟨q, cq, hlv, hr⟩ := rows5_of h.lst
  subst hlv
  have hlen := h.len
  have hsml := h.sml
  have hzl := hz.len
  have hzb := hz.big
  have HH : Hid _ := h
  clear h
  go_enter Try.func41, Try.ntmps41
  go_wp2_with fail
  go_loopw [16] (fun i wr => wr = w ∧ ∃ j : Nat, j ≤ n ∧ i = .int .i64 (j : Int) ∧ Hid ((zs.take j).all (kn last) = true)) (fun i _ => n - (intOf i).toNat)
  case atStart => exact ⟨rfl, 0, by omega, rfl, rfl⟩
  case round =>
    obtain ⟨hwr, j, hj, rfl, HA⟩ := hrel
    have hwr' := hwr.symm
    subst hwr'
    clear hwr
    by_cases hlt : j < n
    · obtain ⟨b1, o1, rfl, hc1⟩ := hz.cells (by omega)
      have e1 := hc1 j hlt
      have HT : Hid (zs.take (j + 1) = zs.take j ++ [zs.getD j 0]) := take_one (by omega)
      have HM : Hid (zs.getD j 0 ∈ zs) := getD_mem' (by omega)
      have hjI : (j : Int) < (n : Int) := by omega
      have hj0 : (0 : Int) ≤ (j : Int) := by omega
      clear hc1 hz hr
      generalize zs.getD j 0 = y at *
      have HNo : Hid (kn last y = false → zs.all (kn last) = false) := fun hk => List.all_eq_false.2 ⟨y, HM.out, by simp [hk]⟩
      by_cases hy1 : y < 1
      · have HE : Hid (zs.all (kn last) = false) := HNo.out (kn_false.2 (fun h => by omega))
        go_wp2_with fail
        go_ret
        exact .inl ⟨⟨HE.out, rfl⟩, by first | rfl | trivial⟩
      · by_cases hy2 : (last : Int) < y
        · have HE : Hid (zs.all (kn last) = false) := HNo.out (kn_false.2 (fun h => by omega))
          go_wp2_with fail
          go_ret
          exact .inl ⟨⟨HE.out, rfl⟩, by first | rfl | trivial⟩
        · have HE : Hid ((zs.take (j + 1)).all (kn last) = true) := by
            show _ = _
            rw [HT.out, List.all_append, HA.out]
            simp [kn_true.2 (show 1 ≤ y ∧ y ≤ (last : Int) by omega)]
          go_wp2_with fail
          go_roundw
          case rel => exact ⟨by first | rfl | trivial, j + 1, by omega, by go_num, HE⟩
          case measure => simp [intOf]; omega
    · obtain rfl : j = n := by omega
      have HKn : Hid (zs.all (kn last) = true) := by
        show _ = _
        have := HA.out
        rw [List.take_of_length_le (by omega)] at this
        exact this
      clear HA
      have hnt : ¬ (j : Int) < (j : Int) := by omega
      go_wp2_with fail
      go_loopw [36] (fun i wr => ∃ j : Nat, j ≤ L.length ∧ i = .int .i64 (j : Int) ∧ Below w.heap.size w wr ∧ Hid ((L.take j).any (rbad L zs) = false)) (fun i _ => L.length - (intOf i).toNat)
      case atStart => exact ⟨0, by omega, rfl, Below.refl _ _, rfl⟩
      case round =>
        obtain ⟨t, ht, rfl, hb, HB⟩ := hrel
        by_cases hlt2 : t < L.length
        · obtain ⟨p1, hp1⟩ : ∃ p, L[t]? = some p := ⟨_, List.getElem?_eq_getElem hlt2⟩
          obtain ⟨g, rfl, d0, d1, d2, d3, d4⟩ := hr.at hb hp1
          have htI : (t : Int) < (L.length : Int) := by omega
          have ht0 : (0 : Int) ≤ (t : Int) := by omega
          have hpm : p1 ∈ L := List.mem_of_getElem? hp1
          have HT : Hid (L.take (t + 1) = L.take t ++ [p1]) := take_snoc hp1
          obtain ⟨W1, hW1⟩ : ∃ W1, wr.alloc (.cells #[.int .i64 (p1.id : Int), .int .i64 (p1.blk : Int), .int .i64 (p1.off : Int), .slice p1.bp p1.bs.length p1.bc, .slice p1.np p1.nd.length p1.nc] 44) = W1 := ⟨_, rfl⟩
          have hbr : Below wr.heap.size wr W1 := by rw [← hW1]; exact (Below.refl _ _).alloc (Nat.le_refl _) _
          have hb1 : Below w.heap.size w W1 := hb.trans (hbr.mono hb.size)
          have hc1 : W1.cell? ⟨wr.heap.size, 0, none⟩ = some (.int .i64 (p1.id : Int)) ∧ W1.cell? ⟨wr.heap.size, 4, none⟩ = some (.slice p1.np p1.nd.length p1.nc) := by
            rw [← hW1]
            refine ⟨?_, ?_⟩ <;> rw [cell_of_row _ _ _ _ 44 _ (at_new rfl)] <;> rfl
          obtain ⟨k0, k4⟩ := hc1
          have hha := rhas_ok (c := c) (hz.kept hb1) (p1.id : Int)
          clear hp1 hb
          by_cases hin : (p1.id : Int) ∈ zs
          · rw [decide_eq_true hin] at hha
            have HI : Hid ((p1.id : Int) ∈ zs) := hin
            clear hin
            go_wp2_with fail
            refine same_at hha ?_
            clear hha
            have hnd := (HH.out.nee p1 hpm).1
            have hndb := hnd.big
            go_wp2_with fail
            clear d0 d1 d2 d3 d4 k0 k4
            go_loopw [48] (fun i wz => ∃ u : Nat, u ≤ p1.nd.length ∧ i = .int .i64 (u : Int) ∧ Below w.heap.size w wz ∧ Hid ((p1.nd.take u).any (wq L zs) = false)) (fun i _ => p1.nd.length - (intOf i).toNat)
            case atStart => exact ⟨0, by omega, rfl, hb1, rfl⟩
            case round =>
              obtain ⟨u, hu, rfl, hbz, HW⟩ := hrel
              by_cases hlt3 : u < p1.nd.length
              · have hndw := hnd.kept hbz
                obtain ⟨b5, o5, hnp, hc5⟩ := hndw.cells (by omega)
                rw [hnp]
                have e5 := hc5 u hlt3
                have HT5 : Hid (p1.nd.take (u + 1) = p1.nd.take u ++ [p1.nd.getD u 0]) := take_one hlt3
                have HM5 : Hid (p1.nd.getD u 0 ∈ p1.nd) := getD_mem' hlt3
                have huI : (u : Int) < (p1.nd.length : Int) := by omega
                have hu0 : (0 : Int) ≤ (u : Int) := by omega
                generalize p1.nd.getD u 0 = y at *
                have hfi := rfind_ok (HH.out.kept hbz) y
                clear hc5 hndw
                cases hsy : (fP L y).isSome with
                | true =>
                  have hge : decide (0 ≤ fi L y) = true := decide_eq_true (by have := fi_nonneg hsy; omega)
                  have hge2 : (0 : Int) ≤ fi L y := by have := fi_nonneg hsy; omega
                  have HS : Hid _ := hsy
                  clear hsy
                  generalize fi L y = f at *
                  go_wp2_with fail
                  refine below_at hfi ?_
                  intro w5 hb5
                  clear hfi
                  have hbz5 := hbz.trans (hb5.mono hbz.size)
                  have hh2 := rhas_ok (c := c) (hz.kept hbz5) y
                  by_cases hyz : y ∈ zs
                  · rw [decide_eq_true hyz] at hh2
                    have HE : Hid ((p1.nd.take (u + 1)).any (wq L zs) = false) := by
                      show _ = _
                      rw [HT5.out, List.any_append, HW.out]
                      simp [wq, hyz]
                    clear hyz
                    go_wp2_with fail
                    refine same_at hh2 ?_
                    clear hh2
                    go_wp2_with fail
                    go_roundw
                    case rel => exact ⟨u + 1, by omega, by go_num, hbz5, HE⟩
                    case measure => simp [intOf]; omega
                  · rw [decide_eq_false hyz] at hh2
                    have HE : Hid (L.any (rbad L zs) = true) := by
                      show _ = _
                      rw [List.any_eq_true]
                      refine ⟨p1, hpm, ?_⟩
                      unfold rbad
                      rw [decide_eq_true HI.out, Bool.true_and]
                      unfold lk
                      rw [List.any_eq_true]
                      exact ⟨y, HM5.out, by unfold wq; rw [HS.out]; simp [hyz]⟩
                    clear hyz
                    go_wp2_with fail
                    refine same_at hh2 ?_
                    clear hh2
                    go_wp2_with fail
                    go_ret
                    exact .inr (.inl ⟨⟨HKn.out, HE.out, rfl⟩, hbz5⟩)
                | false =>
                  rw [fi_neg hsy] at hfi
                  have HE : Hid ((p1.nd.take (u + 1)).any (wq L zs) = false) := by
                    show _ = _
                    rw [HT5.out, List.any_append, HW.out]
                    simp [wq, hsy]
                  clear hsy
                  go_wp2_with fail
                  refine below_at hfi ?_
                  intro w5 hb5
                  clear hfi
                  go_wp2_with fail
                  go_roundw
                  case rel => exact ⟨u + 1, by omega, by go_num, hbz.trans (hb5.mono hbz.size), HE⟩
                  case measure => simp [intOf]; omega
              · have hul : u = p1.nd.length := by omega
                have hn3 : ¬ (u : Int) < (p1.nd.length : Int) := by omega
                have HE : Hid ((L.take (t + 1)).any (rbad L zs) = false) := by
                  show _ = _
                  have h1 := HW.out
                  rw [List.take_of_length_le (by omega)] at h1
                  rw [HT.out, List.any_append, HB.out]
                  simp [rbad, lk, h1]
                go_wp2_with fail
                go_roundw
                case rel => exact ⟨t + 1, by omega, by go_num, hbz, HE⟩
                case measure => simp [intOf]; omega
          · rw [decide_eq_false hin] at hha
            have HE : Hid ((L.take (t + 1)).any (rbad L zs) = false) := by
              show _ = _
              rw [HT.out, List.any_append, HB.out]
              simp [rbad, hin]
            clear hin
            go_wp2_with fail
            refine same_at hha ?_
            clear hha
            go_wp2_with fail
            go_roundw
            case rel => exact ⟨t + 1, by omega, by go_num, hb1, HE⟩
            case measure => simp [intOf]; omega
        · obtain rfl : t = L.length := by omega
          have HBad : Hid (L.any (rbad L zs) = false) := by
            show _ = _
            have := HB.out
            rw [List.take_length] at this
            exact this
          clear HB
          have hn2 : ¬ (L.length : Int) < (L.length : Int) := by omega
          have hc0 : wr.cell? ⟨x, 0, none⟩ = some (.slice q L.length cq) := by rw [hb.cell (p := ⟨x, 0, none⟩) (lt_of_cell c0)]; exact c0
          go_wp2_with fail
          go_loopw [11, 69] (fun v i wz => ∃ t : Nat, t ≤ L.length ∧ i = .int .i64 (t : Int) ∧ Pts w.heap.size wz v (kpP (L.take t) zs) ∧ Below w.heap.size w wz) (fun v i _ => L.length - (intOf i).toNat)
          case atStart => exact ⟨0, by omega, rfl, Pts.nil _ _, hb⟩
          case round =>
            clear hb hc0
            obtain ⟨t, ht, rfl, hN, hb⟩ := hrel
            generalize hvv : u11 = v at *
            by_cases hlt2 : t < L.length
            · obtain ⟨p1, hp1⟩ : ∃ p, L[t]? = some p := ⟨_, List.getElem?_eq_getElem hlt2⟩
              obtain ⟨g, rfl, d0, d1, d2, d3, d4⟩ := hr.at hb hp1
              have htI : (t : Int) < (L.length : Int) := by omega
              have ht0 : (0 : Int) ≤ (t : Int) := by omega
              have HT : Hid (kpP (L.take (t + 1)) zs = if (p1.id : Int) ∈ zs then kpP (L.take t) zs else kpP (L.take t) zs ++ [p1]) := by show _ = _; rw [take_snoc hp1, kpP_snoc]
              have hil : (kpP (L.take t) zs).length ≤ 1000 := by
                refine Nat.le_trans (List.length_filter_le _ _) ?_
                rw [List.length_take]; omega
              obtain ⟨W1, hW1⟩ : ∃ W1, wr.alloc (.cells #[.int .i64 (p1.id : Int), .int .i64 (p1.blk : Int), .int .i64 (p1.off : Int), .slice p1.bp p1.bs.length p1.bc, .slice p1.np p1.nd.length p1.nc] 44) = W1 := ⟨_, rfl⟩
              have hbr : Below wr.heap.size wr W1 := by rw [← hW1]; exact (Below.refl _ _).alloc (Nat.le_refl _) _
              have hb1 : Below w.heap.size w W1 := hb.trans (hbr.mono hb.size)
              have hN1 := hN.kept hbr
              have hc1 : W1.cell? ⟨wr.heap.size, 0, none⟩ = some (.int .i64 (p1.id : Int)) ∧ W1.cell? ⟨wr.heap.size, 1, none⟩ = some (.int .i64 (p1.blk : Int)) ∧ W1.cell? ⟨wr.heap.size, 2, none⟩ = some (.int .i64 (p1.off : Int)) ∧ W1.cell? ⟨wr.heap.size, 3, none⟩ = some (.slice p1.bp p1.bs.length p1.bc) ∧ W1.cell? ⟨wr.heap.size, 4, none⟩ = some (.slice p1.np p1.nd.length p1.nc) := by
                rw [← hW1]
                refine ⟨?_, ?_, ?_, ?_, ?_⟩ <;> rw [cell_of_row _ _ _ _ 44 _ (at_new rfl)] <;> rfl
              obtain ⟨k0, k1, k2, k3, k4⟩ := hc1
              have hha := rhas_ok (c := c) (hz.kept hb1) (p1.id : Int)
              clear hp1 hN hb
              by_cases hin : (p1.id : Int) ∈ zs
              · rw [decide_eq_true hin] at hha
                have HI := HT.out
                rw [if_pos hin] at HI
                have HI' : Hid _ := HI
                clear HI HT hin
                go_wp2_with fail
                refine same_at hha ?_
                clear hha
                go_wp2_with fail
                go_roundw
                case rel => exact ⟨t + 1, by omega, by go_num, by rw [HI'.out]; exact hN1, hb1⟩
                case measure => simp [intOf]; omega
              · rw [decide_eq_false hin] at hha
                have HI := HT.out
                rw [if_neg hin] at HI
                have HI' : Hid _ := HI
                clear HI HT hin
                go_wp2_with fail
                refine same_at hha ?_
                clear hha
                go_wp2_with (first
                  | (at_builtin; refine wpList_append_own _ rfl _ _ 26 rfl w.heap.size 44 i0 _ 5 72 Try.underlying26 hi hz0 hz1 hz2 rfl (by decide) _ _ _ rfl (World.ownsRow.alloc hN1 _) ⟨W1.heap.size, 0, none⟩ 1 1 [.int .i64 (p1.id : Int), .int .i64 (p1.blk : Int), .int .i64 (p1.off : Int), .slice p1.bp p1.bs.length p1.bc, .slice p1.np p1.nd.length p1.nc] rfl rfl (five_new _ _ _ _ _ _ _) (by simp [Value.oneCell']) (by unfold maxLen; omega) (by omega) (by have := hb1.size; simp; omega) ?_; intro v' w3 hown hgrow _; have hown := Pts.snoc hown; obtain ⟨g', cap', rfl⟩ := Pts.succ hown))
                have hb3 := (hb1.alloc hb1.size _).grown hgrow (by have := hb1.size; simp; omega) (by intro k hk; exact (World.ownsRow.lt hN1 k hk).1)
                go_roundw
                case rel => exact ⟨t + 1, by omega, by go_num, by rw [HI'.out]; exact hown, hb3⟩
                case measure => simp [intOf]; omega
            · obtain rfl : t = L.length := by omega
              rw [List.take_length] at hN
              obtain ⟨q2, c2, rfl⟩ := hN.slice
              have hR2 : wr.heap[x]? = some (.cells #[.slice q L.length cq, .int .i64 (last : Int)] 28 (0, 0)) := by rw [hb.block x HH.out.lt]; exact HH.out.row
              obtain ⟨wA, hA, eA⟩ := st0 hR2 (.slice q2 (kpP L zs).length c2)
              have ca : wr.cell? ⟨x, 0, none⟩ = some (.slice q L.length cq) := by rw [cell_of_row _ _ 0 _ 28 _ hR2]; rfl
              have fa : wr.frozen? ⟨x, 0, none⟩ = false := by simp [World.frozen?, hR2]
              have hF : Frame (fun k => k = x) w wA := by
                have h1 : Frame (fun k => k = x) w wr := ⟨hb.os, hb.tape, hb.output, hb.size, fun k hk _ => hb.block k hk⟩
                have h2 : Frame (fun k => k = x) wr wA := by rw [← eA]; exact Frame.setCell wr (p := ⟨x, 0, none⟩) _ rfl
                exact h1.trans h2
              have hPB : Pts w.heap.size wA (.slice q2 (kpP L zs).length c2) (kpP L zs) := row_keptIf hN (fun g hg => by
                have hge := (World.ownsRow.lt hN g hg).1
                have hxl := HH.out.lt
                rw [← eA]; exact Below.heap_setCell _ _ _ _ (by show g ≠ x; omega))
              have HF : Hid _ := HH.out.renew hA hF hPB (fun p hp => (List.mem_filter.1 hp).1) (List.Pairwise.filter _ HH.out.srt) (Nat.le_refl _) (fun p hp => (HH.out.ids p (List.mem_filter.1 hp).1).2.1)
              clear hF hPB hN hb hR2 hA hr
              generalize (kpP L zs).length = m at *
              have hnt2 : ¬ (L.length : Int) < (L.length : Int) := by omega
              go_wp2_with fail
              go_ret
              exact .inr (.inr ⟨⟨HKn.out, HBad.out, rfl⟩, _, HF.out⟩)
end
end Go.Proofs.Yteapkfnklbhdfaa
