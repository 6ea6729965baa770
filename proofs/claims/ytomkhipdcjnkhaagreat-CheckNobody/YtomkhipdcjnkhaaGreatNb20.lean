/- C7 -/
import Derived.Test.YtomkhipdcjnkhaaGreatNb19

/- CheckNobody: the statement's own call returns true. -/
namespace Go.Proofs.YtomkhipdcjnkhaaGreat
open Go.RowKit Go.Maps Go.MuLone
set_option linter.unusedVariables false
set_option maxRecDepth 100000

theorem two_chk (w : World) {w0 : World} (hb : Below w0.heap.size w0 w) (t : TypeId) : Two w0 ((w.alloc (.cells (ckA none) 106)).alloc (.cells #[.pointer none, .pointer (some ⟨w.heap.size, 0, none⟩)] t)) w.heap.size 0 (.pointer none) := by
  have b0 : Below w.heap.size w (w.alloc (.cells (ckA none) 106)) := (Below.refl _ w).alloc (Nat.le_refl _) _
  have b1 := b0.alloc (show w.heap.size ≤ _ by simp) (.cells #[.pointer none, .pointer (some ⟨w.heap.size, 0, none⟩)] t)
  have hrow := heap_alloc_new (w.alloc (.cells (ckA none) 106)) (.cells #[.pointer none, .pointer (some ⟨w.heap.size, 0, none⟩)] t)
  rw [World.size_alloc] at hrow
  have hz := (Below.heap_alloc (w.alloc (.cells (ckA none) 106)) (.cells #[.pointer none, .pointer (some ⟨w.heap.size, 0, none⟩)] t) w.heap.size (by simp)).trans (heap_alloc_new w _)
  exact ⟨cell_of_row _ _ 0 _ t _ hrow, cell_of_row _ _ 1 _ t _ hrow, by rw [cell_of_row _ _ 0 _ 106 _ hz, ckA_0], hb.trans (b1.mono hb.size), by simp⟩
theorem Two.voidC {w w' : World} {H j : Nat} (h : Two w w' H 0 (.pointer none)) (hj : j < 2) : ∃ v, (∀ w', Two w w' H 0 (.pointer none) → CVoid w' (.pointer v)) ∧ w'.cell? ⟨H + 1, j, none⟩ = some (.pointer v) := by
  rcases (by omega : j = 0 ∨ j = 1) with rfl | rfl
  · exact ⟨none, fun _ _ => .inl rfl, h.c0⟩
  · exact ⟨_, fun w' h => .inr ⟨_, rfl, h.cz⟩, h.c1⟩

set_option maxHeartbeats 4000000 in
theorem checkNobody_walk (n : Int) (w : World) : Calls Tryz.prog 7 #[.int .i64 n] w fun e w' => e = .returned (.bool true) ∧ Below w.heap.size w w' := by
  have z106 := zero106
  have hT0 := two_chk w (Below.refl _ w) 101
  go_enter Tryz.func7, Tryz.ntmps7
  go_wp2_with fail
  go_loopw [23] (fun i wr => ∃ j : Nat, j ≤ 2 ∧ i = .int .i64 (j : Int) ∧ Two w wr w.heap.size 0 (.pointer none)) (fun i _ => 2 - (intOf i).toNat)
  case atStart => exact ⟨0, by omega, rfl, hT0⟩
  case round =>
    clear hT0
    obtain ⟨j, hj, rfl, hp⟩ := hrel
    by_cases hlt : j < 2
    · obtain ⟨v, hv, hcell⟩ := hp.voidC hlt
      have hjI : (j : Int) < 2 := by omega
      have hj0 : (0 : Int) ≤ (j : Int) := by omega
      have v1 := hv _ hp
      have r1 := cstep_void v1
      have r2 := cpass_void v1
      have HD := (show Hid _ from hv)
      have HT : Hid (Two w wr w.heap.size 0 (.pointer none)) := hp
      clear hv v1 hp
      go_wp2_with (first
        | (go_at_call 37; refine same_at r1 ?_)
        | (go_at_call 38; refine Mk.grew_at r2 ?_; intro w2 hb2; have HT2 : Hid (Two w w2 w.heap.size 0 (.pointer none)) := HT.out.kept hb2; have r3 := cdone_void (HD.out _ HT2.out))
        | (go_at_call 39; refine Mk.grew_at r3 ?_; intro w3 hb3; have HT3 : Hid (Two w w3 w.heap.size 0 (.pointer none)) := HT2.out.kept hb3; have r4 := csteps_void (HD.out _ HT3.out))
        | (go_at_call 40; refine same_at r4 ?_))
      first
        | exact ⟨⟨j + 1, by omega, by go_num, HT3.out⟩, by simp [intOf]; omega⟩
        | (go_roundw
           case rel => exact ⟨j + 1, by omega, by go_num, HT3.out⟩
           case measure => simp [intOf]; omega)
    · have hI2 : ¬ (j : Int) < 2 := by omega
      go_wp2_with fail
      have hT3 := two_snap wr hp.b 22
      generalize wr.heap.size = H2 at *
      clear hp
      go_loopw [59] (fun i w2 => ∃ j : Nat, j ≤ 2 ∧ i = .int .i64 (j : Int) ∧ Two w w2 H2 6 (.int .i64 0)) (fun i _ => 2 - (intOf i).toNat)
      case atStart => exact ⟨0, by omega, rfl, hT3⟩
      case round =>
        clear hT3
        obtain ⟨j, hj, rfl, hp2⟩ := hrel
        by_cases hlt : j < 2
        · obtain ⟨v, hv, hcell⟩ := hp2.voidS hlt
          have hjI : (j : Int) < 2 := by omega
          have hj0 : (0 : Int) ≤ (j : Int) := by omega
          have hq := cnew_none (.inl rfl) (sread_void (hv _ hp2) (-1))
          have HT : Hid (Two w wr H2 6 (.int .i64 0)) := hp2
          clear hv hp2
          go_wp2_with (first | (go_at_call 41; refine same_at hq ?_))
          first
            | exact ⟨⟨j + 1, by omega, by go_num, HT.out⟩, by simp [intOf]; omega⟩
            | (go_roundw
               case rel => exact ⟨j + 1, by omega, by go_num, HT.out⟩
               case measure => simp [intOf]; omega)
        · have hI3 : ¬ (j : Int) < 2 := by omega
          have hbw := hp2.b
          clear hp2
          go_wp2_with fail
          refine Calls.mono (freshNo_ok 0 0 0 may0 wr) ?_
          rintro e w5 ⟨p, d, v, xd, y, c, s, m, mc, p1, p2, dm, df, B', rfl, hpr, hF, hLo, hBB, hD, hb5⟩
          obtain ⟨W6, hW6⟩ : ∃ W6, (w5.alloc (Mk.geomO 0 0 0)).setRow w5.heap.size #[.int .i64 1, .int .i64 8, .int .i64 4] = W6 := ⟨_, rfl⟩
          have hb6 : Below w5.heap.size w5 W6 := by rw [← hW6]; exact belowRow (Mk.grew_alloc _ _) (Nat.le_refl _) _
          have hg6 : W6.heap[w5.heap.size]? = some (Mk.geomO 1 8 4) := by rw [← hW6]; exact setRow_heap _ _ _ _ 34 _ (at_new rfl)
          have hb7 : Below w5.heap.size w5 W6.drew := hb6.drew
          have hg7 := g3_of (w := W6.drew) hg6
          have q0 := hg7.c0
          have q1 := hg7.c1
          have q2 := hg7.c2
          have hp7 := kept_row hpr hb7
          have c1 : W6.drew.cell? ⟨p, 1, none⟩ = some (.pointer (some ⟨v, 0, none⟩)) := cell_of_row _ _ 1 _ 65 _ hp7
          have htk := take_ok (hF.kept hb7) ((hF.has hD).kept hb7) 1 5 (by decide) (by decide) (by decide) (by decide)
          have HB : Hid (Below w.heap.size w W6.drew ∧ w.heap.size ≤ v) := ⟨hbw.trans ((hb5.trans (hb7.mono hb5.size)).mono hbw.size), by have := hLo.1; have := hbw.size; omega⟩
          have H6 : Hid ((w5.alloc (Mk.geomO 0 0 0)).setRow w5.heap.size #[.int .i64 1, .int .i64 8, .int .i64 4] = W6) := hW6
          clear hW6 hb6 hb7 hg6 hg7 hp7 hpr hF hD hBB hb5 hLo hbw
          dsimp only
          go_wp2_with (first
            | (refine wpList_store_row rfl 34 (.tmp 12) _ rfl w5.heap.size #[.int .i64 1, .int .i64 8, .int .i64 4] rfl rfl 34 _ (at_new rfl) Mk.info23 rfl geom_one ?_; rw [H6.out]))
          go_region_with (first
            | (go_at_call 16; refine Calls.mono htk ?_; rintro e w8 ⟨t, x, mv, rfl, hS, hF8, hV8, ht8, hx8, hfr⟩))
          all_goals (
            have g1 : ¬ (1 : Int) = 0 := by decide
            have hnw := cnew_ok (sread_neg hS g1 hF8 hV8)
            obtain ⟨W9, hW9⟩ : ∃ W9, w8.alloc (.cells (ckA (some ⟨t, 0, none⟩)) 106) = W9 := ⟨_, rfl⟩
            have hb9 : Below w8.heap.size w8 W9 := by rw [← hW9]; exact Mk.grew_alloc _ _
            have hC9 : Ck W9 w8.heap.size t := by rw [← hW9]; exact at_new rfl
            rw [hW9] at hnw
            have hpa := cpass_ok hC9 (hS.kept hb9) g1
            have HE : Hid (Below w.heap.size w w8) := HB.out.1.trans (hfr.below HB.out.1.size (fun k hk => by rw [hk]; exact HB.out.2))
            have H9 : Hid (Below w8.heap.size w8 W9 ∧ Ck W9 w8.heap.size t ∧ SRow w8 t (some ⟨v, 0, none⟩) 1 8 4 1 ∧ FV w8 v d c s m mc p1 p2 (some ⟨x, 0, none⟩) ∧ w.heap.size ≤ t) := ⟨hb9, hC9, hS, hF8, Nat.le_trans HB.out.1.size ht8⟩
            clear hS hF8 hV8 hfr htk q0 q1 q2 c1 hb9 hC9 hW9 ht8 hx8
            go_wp2_with (first
              | (go_at_call 41; refine Calls.mono hnw ?_; rintro e w9' ⟨rfl, hw'⟩; have hw2 := hw'.symm; subst hw2; clear hw')
              | (go_at_call 38; refine Mk.grew_at hpa ?_; intro wA hbA
                 have hbA8 := Mk.grew_trans H9.out.1 hbA
                 have hdp := sdrop_ok (H9.out.2.2.1.kept hbA8) g1 (H9.out.2.2.2.1.kept hbA8)
                 have HA : Hid (Below w8.heap.size w8 wA ∧ Ck wA w8.heap.size t) := ⟨hbA8, H9.out.2.1.kept hbA⟩
                 clear hbA hbA8)
              | (go_at_call 11; refine Calls.mono hdp ?_; rintro e wB ⟨rfl, hSB, hfrB⟩
                 have hvc : w8.heap.size ≠ v ∧ w8.heap.size ≠ t := ⟨fun e => by have := (Array.getElem?_eq_some_iff.1 H9.out.2.2.2.1.row).1; omega, fun e => by have := (Array.getElem?_eq_some_iff.1 H9.out.2.2.1).1; omega⟩
                 have hCB : Ck wB w8.heap.size t := (hfrB.block _ (Array.getElem?_eq_some_iff.1 HA.out.2).1 (fun hh => by rcases hh with hh | hh; exact hvc.1 hh; exact hvc.2 hh)).trans HA.out.2
                 have hst := cstep_gone hCB hSB g1
                 have hEA : Below w.heap.size w wA := HE.out.trans (HA.out.1.mono HE.out.size)
                 have HEB : Hid (Below w.heap.size w wB ∧ SRow wB t none 1 8 4 1) := ⟨hEA.trans (hfrB.below hEA.size (fun k hk => by rcases hk with hk | hk; rw [hk]; exact HB.out.2; rw [hk]; exact H9.out.2.2.2.2)), hSB⟩
                 clear hCB hSB hfrB hvc hEA)
              | (go_at_call 37; refine Mk.grew_at hst ?_; intro wC hbC
                 have hnw2 := cnew_none (.inr rfl) (sread_gone (HEB.out.2.kept hbC) g1 (-1))
                 have HEC : Hid (Below w.heap.size w wC) := Mk.grew_trans HEB.out.1 hbC)
              | (go_at_call 41; refine same_at hnw2 ?_))
            go_ret
            exact ⟨rfl, HEC.out⟩)
end Go.Proofs.YtomkhipdcjnkhaaGreat
