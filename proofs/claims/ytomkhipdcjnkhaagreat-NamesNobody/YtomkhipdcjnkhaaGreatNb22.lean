/- N4 -/
import Derived.Test.YtomkhipdcjnkhaaGreatNb21

/- NamesNobody: the statement's own call returns true. -/
namespace Go.Proofs.YtomkhipdcjnkhaaGreat
open Go.RowKit Go.Maps Go.MuLone
set_option linter.unusedVariables false
set_option maxRecDepth 100000

theorem row_ne2 {w : World} {b b' : Nat} {o o' : Obj} (h : w.heap[b]? = some o) (h' : w.heap[b']? = some o') (hn : o ≠ o') : b ≠ b' := by
  rintro rfl
  rw [h] at h'
  cases h'
  exact hn rfl
theorem may000 : ¬ Mk.Gm.May 0 0 0 := by decide
set_option maxHeartbeats 4000000 in
theorem namesNobody_walk (G B I dir : Int) (nm : ByteArray) (w : World) : Calls Tryz.prog 6 #[Mk.geomV G B I, .int .i64 dir, .string nm] w fun e w' => e = .returned (.bool true) ∧ Below w.heap.size w w' := by
  obtain ⟨W1, hW1⟩ : ∃ W1, w.alloc (Mk.geomO G B I) = W1 := ⟨_, rfl⟩
  have hb1 : Below w.heap.size w W1 := by rw [← hW1]; exact Mk.grew_alloc _ _
  have hg1 : W1.heap[w.heap.size]? = some (Mk.geomO G B I) := by rw [← hW1]; exact at_new rfl
  have hs1 : W1.heap.size = w.heap.size + 1 := by rw [← hW1]; simp
  go_enter Tryz.func6, Tryz.ntmps6
  go_wp2_with fail
  have hT0 := two_vol W1 hb1 30
  have hG0 : ((W1.alloc vZ).alloc (.cells #[.pointer none, .pointer (some ⟨W1.heap.size, 0, none⟩)] 30)).heap[w.heap.size]? = some (Mk.geomO G B I) := at_old (at_old hg1)
  rw [hs1] at hT0 hG0
  clear hb1 hg1 hW1 hs1
  go_loopw [35] (fun i wr => ∃ j : Nat, j ≤ 2 ∧ i = .int .i64 (j : Int) ∧ Two w wr (w.heap.size + 1) 2 (.pointer none) ∧ wr.heap[w.heap.size]? = some (Mk.geomO G B I)) (fun i _ => 2 - (intOf i).toNat)
  case atStart => exact ⟨0, by omega, rfl, hT0, hG0⟩
  case round =>
    clear hT0 hG0
    obtain ⟨j, hj, rfl, hp, hg⟩ := hrel
    by_cases hlt : j < 2
    · obtain ⟨v, hv, hcell⟩ := hp.void hlt
      have HD := (show Hid _ from hv)
      have HT0 : Hid (Two w wr (w.heap.size + 1) 2 (.pointer none)) := hp
      have hjI : (j : Int) < 2 := by omega
      have hj0 : (0 : Int) ≤ (j : Int) := by omega
      clear hv hp
      go_wp2_with (first
        | (refine wpList_load_row rfl 34 (.tmp 3) rfl w.heap.size rfl 34 _ (0, 0) _ hg Tryz.underlying34 rfl Mk.info23 ?_))
      refine Mk.grew_at (nwalk_void (G := G) (B := B) (I := I) (HD.out _ HT0.out) (.string nm)) ?_
      intro x0 hb0
      have hg0 := kept_row hg hb0
      have HU0 : Hid (Two w x0 (w.heap.size + 1) 2 (.pointer none)) := HT0.out.kept hb0
      clear hg HT0 hb0
      dsimp only
      go_wp2_with (first
        | (refine wpList_load_row rfl 34 (.tmp 3) rfl w.heap.size rfl 34 _ (0, 0) _ hg0 Tryz.underlying34 rfl Mk.info23 ?_))
      refine Mk.grew_at (nlookup_void (G := G) (B := B) (I := I) (HD.out _ HU0.out) dir (.string nm)) ?_
      intro x1 hb1
      have hg1 := kept_row hg0 hb1
      have HU1 : Hid (Two w x1 (w.heap.size + 1) 2 (.pointer none)) := HU0.out.kept hb1
      clear hg0 HU0 hb1
      dsimp only
      go_wp2_with (first
        | (refine wpList_load_row rfl 34 (.tmp 3) rfl w.heap.size rfl 34 _ (0, 0) _ hg1 Tryz.underlying34 rfl Mk.info23 ?_))
      refine Mk.grew_at (nadd_void (G := G) (B := B) (I := I) (HD.out _ HU1.out) dir 3 ⟨#[97]⟩ _) ?_
      intro x2 hb2
      have hg2 := kept_row hg1 hb2
      have HU2 : Hid (Two w x2 (w.heap.size + 1) 2 (.pointer none)) := HU1.out.kept hb2
      clear hg1 HU1 hb2
      dsimp only
      go_wp2_with (first
        | (refine wpList_load_row rfl 34 (.tmp 3) rfl w.heap.size rfl 34 _ (0, 0) _ hg2 Tryz.underlying34 rfl Mk.info23 ?_))
      refine Mk.grew_at (nremove_void (G := G) (B := B) (I := I) (HD.out _ HU2.out) dir (.string nm) _) ?_
      intro x3 hb3
      have hg3 := kept_row hg2 hb3
      have HU3 : Hid (Two w x3 (w.heap.size + 1) 2 (.pointer none)) := HU2.out.kept hb3
      clear hg2 HU2 hb3
      dsimp only
      go_wp2_with (first
        | (refine wpList_load_row rfl 34 (.tmp 3) rfl w.heap.size rfl 34 _ (0, 0) _ hg3 Tryz.underlying34 rfl Mk.info23 ?_))
      refine Mk.grew_at (nset_void (G := G) (B := B) (I := I) (HD.out _ HU3.out) dir 3 (.string nm) _) ?_
      intro x4 hb4
      have hg4 := kept_row hg3 hb4
      have HU4 : Hid (Two w x4 (w.heap.size + 1) 2 (.pointer none)) := HU3.out.kept hb4
      clear hg3 HU3 hb4
      dsimp only
      go_wp2_with (first
        | (refine wpList_load_row rfl 34 (.tmp 3) rfl w.heap.size rfl 34 _ (0, 0) _ hg4 Tryz.underlying34 rfl Mk.info23 ?_))
      refine Mk.grew_at (nlist_void (G := G) (B := B) (I := I) (HD.out _ HU4.out) dir) ?_
      intro x5 hb5
      have hg5 := kept_row hg4 hb5
      have HU5 : Hid (Two w x5 (w.heap.size + 1) 2 (.pointer none)) := HU4.out.kept hb5
      clear hg4 HU4 hb5
      dsimp only
      go_wp2_with (first
        | (refine wpList_load_row rfl 34 (.tmp 3) rfl w.heap.size rfl 34 _ (0, 0) _ hg5 Tryz.underlying34 rfl Mk.info23 ?_))
      refine Mk.grew_at (nempty_void (G := G) (B := B) (I := I) (HD.out _ HU5.out) dir) ?_
      intro x6 hb6
      have hg6 := kept_row hg5 hb6
      have HU6 : Hid (Two w x6 (w.heap.size + 1) 2 (.pointer none)) := HU5.out.kept hb6
      clear hg5 HU5 hb6
      dsimp only
      go_wp2_with (first
        | (refine wpList_load_row rfl 34 (.tmp 3) rfl w.heap.size rfl 34 _ (0, 0) _ hg6 Tryz.underlying34 rfl Mk.info23 ?_))
      refine Mk.grew_at (nbelow_void (G := G) (B := B) (I := I) (HD.out _ HU6.out) dir 2) ?_
      intro x7 hb7
      have hg7 := kept_row hg6 hb7
      have HU7 : Hid (Two w x7 (w.heap.size + 1) 2 (.pointer none)) := HU6.out.kept hb7
      clear hg6 HU6 hb7
      dsimp only
      go_wp2_with fail
      obtain ⟨W8, hW8⟩ : ∃ W8, x7.alloc (.cells #[.int .i64 2, .int .i64 2, .int .i64 2, .int .i64 2, .int .i64 2, .int .i64 2, .int .i64 2, .int .i64 2] 39) = W8 := ⟨_, rfl⟩
      have hr8 : W8.heap[x7.heap.size]? = some (.cells #[.int .i64 2, .int .i64 2, .int .i64 2, .int .i64 2, .int .i64 2, .int .i64 2, .int .i64 2, .int .i64 2] 39 (0, 0)) := by rw [← hW8]; exact at_new rfl
      have hb8 : Below x7.heap.size x7 W8 := by rw [← hW8]; exact Mk.grew_alloc _ _
      have HT8 : Hid (Two w W8 (w.heap.size + 1) 2 (.pointer none) ∧ W8.heap[w.heap.size]? = some (Mk.geomO G B I)) := ⟨HU7.out.kept hb8, kept_row hg7 hb8⟩
      have hc8 : ∀ l : Nat, l < 8 → W8.cell? ⟨x7.heap.size, l, none⟩ = some (.int .i64 2) := fun l hl => by
        rw [cell_of_row _ _ l _ 39 _ hr8]
        rcases (by omega : l = 0 ∨ l = 1 ∨ l = 2 ∨ l = 3 ∨ l = 4 ∨ l = 5 ∨ l = 6 ∨ l = 7) with rfl | rfl | rfl | rfl | rfl | rfl | rfl | rfl <;> rfl
      rw [hW8]
      clear hr8 hb8 hg7 HU7 hW8
      go_loopw [109] (fun i w2 => ∃ l : Nat, l ≤ 8 ∧ i = .int .i64 (l : Int) ∧ w2 = W8) (fun i _ => 8 - (intOf i).toNat)
      case atStart => exact ⟨0, by omega, rfl, rfl⟩
      case round =>
        obtain ⟨l, hl, rfl, rfl⟩ := hrel
        by_cases hll : l < 8
        · have hlI : (l : Int) < 8 := by omega
          have hl0 : (0 : Int) ≤ (l : Int) := by omega
          have hcl := hc8 l hll
          clear hc8
          go_wp2_with fail
          go_roundw
          case rel => exact ⟨l + 1, by omega, by go_num, by first | rfl | trivial⟩
          case measure => simp [intOf]; omega
        · have hlI : ¬ (l : Int) < 8 := by omega
          go_wp2_with fail
          go_roundw
          case rel => exact ⟨j + 1, by omega, by go_num, HT8.out.1, HT8.out.2⟩
          case measure => simp [intOf]; omega
    · have hI2 : ¬ (j : Int) < 2 := by omega
      have hbw := hp.b
      clear hp
      go_wp2_with fail
      refine Calls.mono (freshNo_ok 0 0 0 may000 wr) ?_
      rintro e w5 ⟨p, d, v, xd, y, c, s, m, mc, p1, p2, dm, df, B', rfl, hpr, hF, hLo, hBB, hD, hb5⟩
      have hg5 := kept_row hg hb5
      obtain ⟨W6, hW6⟩ : ∃ W6, w5.setRow w.heap.size #[.int .i64 1, .int .i64 8, .int .i64 4] = W6 := ⟨_, rfl⟩
      have hg6 : W6.heap[w.heap.size]? = some (Mk.geomO 1 8 4) := by rw [← hW6]; exact setRow_heap _ _ _ _ 34 _ hg5
      have so : ∀ b, b ≠ w.heap.size → W6.heap[b]? = w5.heap[b]? := fun b hb => by rw [← hW6]; exact setRow_other _ _ _ _ hb
      have hp6 : W6.heap[p]? = _ := (so p (row_ne2 hpr hg5 (by simp))).trans hpr
      have hr6 : W6.heap[v]? = _ := (so v (row_ne2 hF.row hg5 (by simp))).trans hF.row
      have hd6 : W6.heap[d]? = _ := (so d (row_ne2 hD.row hg5 (by simp))).trans hD.row
      have hv6 : VHas W6.drew v 8 := ⟨d, cell_of_row _ _ 2 _ 55 _ hr6, cell_of_row _ _ 0 _ 291 _ hd6⟩
      have hg7 := g3_of (w := W6.drew) hg6
      have q0 := hg7.c0
      have q1 := hg7.c1
      have q2 := hg7.c2
      have c1 : W6.drew.cell? ⟨p, 1, none⟩ = some (.pointer (some ⟨v, 0, none⟩)) := cell_of_row _ _ 1 _ 65 _ hp6
      have hwk := nwalk_root hv6
      have HB : Hid (Below w.heap.size w W6.drew) := by
        show Below _ _ _
        rw [← hW6]
        exact (belowRow (hbw.trans (hb5.mono hbw.size)) (Nat.le_refl _) _).drew
      have H6 : Hid (w5.setRow w.heap.size #[.int .i64 1, .int .i64 8, .int .i64 4] = W6) := hW6
      clear hW6 hg6 hg7 hp6 hr6 hd6 so hv6 hpr hF hD hBB hb5 hLo hbw hg
      dsimp only
      go_wp2_with (first
        | (refine wpList_store_row rfl 34 (.tmp 3) _ rfl w.heap.size #[.int .i64 1, .int .i64 8, .int .i64 4] rfl rfl 34 _ hg5 Mk.info23 rfl geom_one ?_; rw [H6.out]))
      go_region_with (first
        | (go_at_call 29; refine Mk.grew_at hwk ?_; intro w8 hb8))
      all_goals (
        clear q0 q1 q2 c1 hwk hg5
        go_wp2_with fail
        go_ret
        exact ⟨rfl, Mk.grew_trans HB.out hb8⟩)
end Go.Proofs.YtomkhipdcjnkhaaGreat
