/- N2 L7 L8 -/
import Derived.Test.YtomkhipdcjnkhaaGreatFb19

/- inode.Span of an inode without blocks; names.Walk of the root: of a new volume. -/
namespace Go.Proofs.YtomkhipdcjnkhaaGreat
open Go.RowKit Go.Maps Go.MuLone
set_option linter.unusedVariables false
set_option maxRecDepth 100000

set_option maxHeartbeats 2000000 in
theorem irefusal_fit {w : World} {v : Nat} {k G B I N : Int} (h : VHas w v k) (hk : ¬ k = 0) (hm : Mk.Gm.May G B I) (hN : G * B = N) (hlt : ¬ k < N) : Calls Tryz.prog 246 #[.pointer (some ⟨v, 0, none⟩), Mk.geomV G B I] w fun e w' => e = .returned (.int .i64 0) ∧ Below w.heap.size w w' := by
  have hb1 : Below w.heap.size w (w.alloc (Mk.geomO G B I)) := Mk.grew_alloc _ _
  have hg1 : (w.alloc (Mk.geomO G B I)).heap[w.heap.size]? = some (Mk.geomO G B I) := at_new rfl
  obtain ⟨W1, hW1⟩ : ∃ W1, w.alloc (Mk.geomO G B I) = W1 := ⟨_, rfl⟩
  rw [hW1] at hb1 hg1
  have hv1 := h.kept hb1
  have c1 := hv1.blocks
  have hkb : (k == 0) = false := by rw [beq_eq_false_iff_ne]; exact hk
  have hd : Below W1.heap.size W1 W1.drew := (Below.refl _ _).drew
  have hv2 := hv1.kept hd
  have g2 := (g3_of hg1).kept hd
  have q0 := g2.c0
  have q1 := g2.c1
  have q2 := g2.c2
  have hca := Mk.can_ok G B I W1.drew
  rw [Mk.Gm.can, if_pos hm] at hca
  have HB : Hid (Below w.heap.size w W1.drew) := hb1.drew
  have HN : Hid (G * B = N) := hN
  have HM : Hid (Mk.Gm.May G B I) := hm
  clear hm hN hb1 hd
  go_enter Tryz.func246, Tryz.ntmps246
  go_wp2_with (first | (go_at_call 53; refine same_at c1 ?_))
  go_region_with (first
    | (go_at_call 54; refine Mk.grew_at hca ?_; intro w2 hb2; have hv3 := hv2.kept hb2; have g3 := g2.kept hb2; have q0' := g3.c0; have q1' := g3.c1; have q2' := g3.c2; have hb3 := Mk.blocks_ok G B I w2; rw [Mk.Gm.num, if_pos HM.out, HN.out] at hb3; have cb := hv3.blocks)
    | (go_at_call 53; first | refine same_at cb ?_ | refine same_at cb' ?_)
    | (go_at_call 49; refine Mk.grew_at hb3 ?_; intro w4 hb4; have cb' := (hv3.kept hb4).blocks))
  all_goals go_wp2_with fail
  all_goals go_ret
  all_goals exact ⟨rfl, Mk.grew_trans (Mk.grew_trans HB.out hb2) hb4⟩

set_option maxHeartbeats 400000 in
theorem reach_zero (v : Value) (n : Int) (w : World) : Calls Tryz.prog 258 #[v, .int .i64 0, .int .i64 n] w fun e w' => e = .returned (.tuple #[.slice none 0 0, .int .i64 0]) ∧ w' = w := by
  go_enter Tryz.func258, Tryz.ntmps258
  go_wp2
  go_ret2
  exact ⟨rfl, rfl⟩

/-- Three rows of noughts. -/
def SpI (w : World) (A : Nat) : Prop := ∀ j, j < 3 → ∃ g o n c, w.cell? ⟨A, j, none⟩ = some (.slice (some ⟨g, o, none⟩) n c) ∧ n ≤ 4 ∧ ∀ i, i < n → w.cell? ⟨g, o + i, none⟩ = some (.int .i64 0)
theorem spi_mk {w : World} {b a1 a2 A : Nat} (hb : w.heap[b]? = some (.cells dnZ 146 (0, 0))) (h1 : w.heap[a1]? = some (.cells #[.int .i64 0] 3 (0, 0))) (h2 : w.heap[a2]? = some (.cells #[.int .i64 0] 3 (0, 0)))
    (hA : w.heap[A]? = some (.cells #[.slice (some ⟨b, 3, none⟩) 4 4, .slice (some ⟨a1, 0, none⟩) 1 1, .slice (some ⟨a2, 0, none⟩) 1 1] 84 (0, 0))) : SpI w A := by
  intro j hj
  rcases (by omega : j = 0 ∨ j = 1 ∨ j = 2) with rfl | rfl | rfl
  · refine ⟨b, 3, 4, 4, cell_of_row _ _ 0 _ 84 _ hA, by omega, fun i hi => ?_⟩
    rw [cell_of_row _ _ (3 + i) _ 146 _ hb]
    rcases (by omega : i = 0 ∨ i = 1 ∨ i = 2 ∨ i = 3) with rfl | rfl | rfl | rfl <;> rfl
  · refine ⟨a1, 0, 1, 1, cell_of_row _ _ 1 _ 84 _ hA, by omega, fun i hi => ?_⟩
    obtain rfl : i = 0 := by omega
    exact cell_of_row _ _ 0 _ 3 _ h1
  · refine ⟨a2, 0, 1, 1, cell_of_row _ _ 2 _ 84 _ hA, by omega, fun i hi => ?_⟩
    obtain rfl : i = 0 := by omega
    exact cell_of_row _ _ 0 _ 3 _ h2

set_option maxHeartbeats 4000000 in
theorem ispan_ok {w : World} {v : Nat} (h : VHas w v 8) : Calls Tryz.prog 149 #[.pointer (some ⟨v, 0, none⟩), Mk.geomV 1 8 4, .agg dnZ] w fun e w' => e = .returned (.tuple #[.slice none 0 0, .int .i64 0]) ∧ Below w.heap.size w w' := by
  obtain ⟨W1, hW1⟩ : ∃ W1, (w.alloc (Mk.geomO 1 8 4)).alloc (.cells dnZ 146) = W1 := ⟨_, rfl⟩
  have hb1 : Below w.heap.size w W1 := by rw [← hW1]; exact ((Below.refl _ w).alloc (Nat.le_refl _) _).alloc (by simp) _
  have hg1 : W1.heap[w.heap.size]? = some (Mk.geomO 1 8 4) := by rw [← hW1]; exact at_old (at_new rfl)
  have hr1 : W1.heap[w.heap.size + 1]? = some (.cells dnZ 146 (0, 0)) := by rw [← hW1]; exact at_new (by simp)
  have hv := irefusal_fit (G := 1) (B := 8) (I := 4) (N := 8) (h.kept hb1) (by decide) (by decide) (by decide) (by decide)
  go_enter Tryz.func149, Tryz.ntmps149
  go_wp2_with (first
    | (refine wpList_load_row rfl 34 (.tmp 4) rfl w.heap.size rfl 34 _ (0, 0) _ hg1 Tryz.underlying34 rfl Mk.info23 ?_))
  refine Mk.grew_at hv ?_
  intro w2 hb2
  have hr2 := kept_row hr1 hb2
  have HB : Hid (Below w.heap.size w w2) := Mk.grew_trans hb1 hb2
  have q7 : w2.drew.cell? ⟨w.heap.size + 1, 7, none⟩ = some (.int .i64 0) := cell_of_row _ _ 7 _ 146 _ hr2
  have q8 : w2.drew.cell? ⟨w.heap.size + 1, 8, none⟩ = some (.int .i64 0) := cell_of_row _ _ 8 _ 146 _ hr2
  have q7' : w2.cell? ⟨w.heap.size + 1, 7, none⟩ = some (.int .i64 0) := cell_of_row _ _ 7 _ 146 _ hr2
  have q8' : w2.cell? ⟨w.heap.size + 1, 8, none⟩ = some (.int .i64 0) := cell_of_row _ _ 8 _ 146 _ hr2
  have hrA : (w2.alloc (.cells #[.int .i64 0] 3)).heap[w.heap.size + 1]? = some (.cells dnZ 146 (0, 0)) := at_old hr2
  have qa7 : (w2.alloc (.cells #[.int .i64 0] 3)).drew.cell? ⟨w.heap.size + 1, 7, none⟩ = some (.int .i64 0) := cell_of_row (w2.alloc (.cells #[.int .i64 0] 3)) _ 7 _ 146 _ hrA
  have qa8 : (w2.alloc (.cells #[.int .i64 0] 3)).drew.cell? ⟨w.heap.size + 1, 8, none⟩ = some (.int .i64 0) := cell_of_row (w2.alloc (.cells #[.int .i64 0] 3)) _ 8 _ 146 _ hrA
  have qa7' : (w2.alloc (.cells #[.int .i64 0] 3)).cell? ⟨w.heap.size + 1, 7, none⟩ = some (.int .i64 0) := cell_of_row _ _ 7 _ 146 _ hrA
  have qa8' : (w2.alloc (.cells #[.int .i64 0] 3)).cell? ⟨w.heap.size + 1, 8, none⟩ = some (.int .i64 0) := cell_of_row _ _ 8 _ 146 _ hrA
  have HR : Hid (w2.heap[w.heap.size + 1]? = some (.cells dnZ 146 (0, 0))) := hr2
  clear hv hg1 hb1 hb2 hr1 hr2 hrA h
  dsimp only
  go_upto_region 5 with fail
  go_cut [30, 31, 32] (fun v30 v31 v32 wx => ∃ A, v30 = .slice (some ⟨A, 0, none⟩) 3 3 ∧ v31 = .int .i64 3 ∧ v32 = .int .i64 0 ∧ SpI wx A ∧ Below w.heap.size w wx)
  case first =>
    go_region
    all_goals go_wp2_with fail
    all_goals go_meet
    all_goals (
      have hB := (((HB.out.alloc HB.out.size (.cells #[.int .i64 0] 3)).alloc (by simp; have := HB.out.size; omega) (.cells #[.int .i64 0] 3)))
      first
        | exact ⟨w2.heap.size + 1 + 1, rfl, rfl, rfl, spi_mk (a1 := w2.heap.size) (a2 := w2.heap.size + 1) (at_old (at_old (at_old HR.out))) (at_old (at_old (at_new rfl))) (at_old (at_new (by simp))) (at_new (by simp)), (hB.alloc hB.size _).drew⟩
        | exact ⟨w2.heap.size + 1 + 1, rfl, rfl, rfl, spi_mk (a1 := w2.heap.size + 1) (a2 := w2.heap.size) (at_old (at_old (at_old HR.out))) (at_old (at_new (by simp))) (at_old (at_old (at_new rfl))) (at_new (by simp)), (hB.alloc hB.size _).drew⟩)
  case rest =>
    obtain ⟨A, rfl, rfl, rfl, hSp, hBx⟩ := hcut
    rename World => wx
    have HX : Hid (Below w.heap.size w wx) := hBx
    have HS : Hid (SpI wx A) := hSp
    clear hSp hBx q7 q8 q7' q8' qa7 qa8 qa7' qa8' HR HB hW1
    go_wp2_with fail
    go_loopw [9, 32] (fun bv iv wr => ∃ j : Nat, j ≤ 3 ∧ iv = .int .i64 (j : Int) ∧ bv = .slice none 0 0 ∧ wr = wx) (fun _ iv _ => 3 - (intOf iv).toNat)
    case atStart => exact ⟨0, by omega, rfl, rfl, rfl⟩
    case round =>
      obtain ⟨j, hj, rfl, rfl, rfl⟩ := hrel
      by_cases hlt : j < 3
      · obtain ⟨g, o, n, c, hc, hn, hz⟩ := HS.out j hlt
        have hjI : (j : Int) < 3 := by omega
        have hj0 : (0 : Int) ≤ (j : Int) := by omega
        have HZ : Hid (∀ i, i < n → wr.cell? ⟨g, o + i, none⟩ = some (.int .i64 0)) := hz
        clear hz
        go_wp2_with fail
        go_loopw [9, 39] (fun bv iv w3 => ∃ i : Nat, i ≤ n ∧ iv = .int .i64 (i : Int) ∧ bv = .slice none 0 0 ∧ w3 = wr) (fun _ iv _ => n - (intOf iv).toNat)
        case atStart => exact ⟨0, by omega, rfl, rfl, rfl⟩
        case round =>
          obtain ⟨i, hi, rfl, rfl, rfl⟩ := hrel
          by_cases hlt2 : i < n
          · have hiI : (i : Int) < (n : Int) := by omega
            have hi0 : (0 : Int) ≤ (i : Int) := by omega
            have hc2 := HZ.out i hlt2
            have hrz := reach_zero (.pointer (some ⟨v, 0, none⟩)) (j : Int)
            go_wp2_with (first | (go_at_call 258; refine same_at (hrz _) ?_))
            exact ⟨⟨i + 1, by omega, by go_num, rfl, trivial⟩, by simp [intOf]; omega⟩
          · have hiI : ¬ (i : Int) < (n : Int) := by omega
            go_wp2_with fail
            exact ⟨⟨j + 1, by omega, by go_num, rfl, trivial⟩, by simp [intOf]; omega⟩
      · have hjI : ¬ (j : Int) < 3 := by omega
        go_wp2_with fail
        go_ret2
        exact ⟨rfl, HX.out⟩
end Go.Proofs.YtomkhipdcjnkhaaGreat

/- inode.Get and file.used of a free inode of a new volume; file.Read of it. -/
namespace Go.Proofs.YtomkhipdcjnkhaaGreat
open Go.RowKit Go.Maps Go.MuLone
set_option linter.unusedVariables false
set_option maxRecDepth 100000

/-- What the disk of a new volume of the smallest geometry has. -/
abbrev st0 : St := ⟨8, part (imgL (Mk.img 1 8 4) 8) 8, [], 0, fun _ => 0⟩
theorem st0_two : st0.f 2 = Mk.rtB 4 := by
  show part (imgL (Mk.img 1 8 4) 8) 8 2 = _
  unfold part imgL Mk.img Mk.rtL
  simp
theorem st0_sect : Sect (st0.f 2) := by
  rw [st0_two]
  exact ⟨Mk.rtB_len 4, Mk.rtB_byt 4⟩
theorem st0_tail : (st0.f 2).drop 96 = Mk.zers 32 := by
  rw [st0_two]
  unfold Mk.rtB
  rw [List.drop_append_of_le_length (by simp [Mk.rtD_len, Mk.zers_len])]
  rw [List.drop_eq_nil_of_le (by simp [Mk.rtD_len, Mk.zers_len])]
  simp [Mk.zers]

/-- A new volume of the smallest geometry, whole. -/
structure Nv (w : World) (v d c s m mc p1 p2 dm df B B0 : Nat) : Prop where
  fv : FV w v d c s m mc p1 p2 none
  lo : FLo B0 v c s m mc p1 p2
  di : DI B w d dm df (.slice none 0 0) st0
theorem Nv.kept {w w' : World} {v d c s m mc p1 p2 dm df B B0 : Nat} (h : Nv w v d c s m mc p1 p2 dm df B B0) (hb : Below w.heap.size w w') : Nv w' v d c s m mc p1 p2 dm df B B0 := ⟨h.fv.kept hb, h.lo, h.di.later hb⟩
theorem Nv.has {w : World} {v d c s m mc p1 p2 dm df B B0 : Nat} (h : Nv w v d c s m mc p1 p2 dm df B B0) : VHas w v 8 := h.fv.has h.di

section
variable {w : World} {v d c s m mc p1 p2 dm df B B0 : Nat}
set_option maxHeartbeats 1000000 in
theorem irefusalInode_ok (h : VHas w v 8) : Calls Tryz.prog 244 #[.pointer (some ⟨v, 0, none⟩), Mk.geomV 1 8 4, .int .i64 3, .int .i64 0] w fun e w' => e = .returned (.int .i64 0) ∧ Below w.heap.size w w' := by
  obtain ⟨W1, hW1⟩ : ∃ W1, w.alloc (Mk.geomO 1 8 4) = W1 := ⟨_, rfl⟩
  have hb1 : Below w.heap.size w W1 := by rw [← hW1]; exact Mk.grew_alloc _ _
  have hg1 : W1.heap[w.heap.size]? = some (Mk.geomO 1 8 4) := by rw [← hW1]; exact at_new rfl
  have hv := irefusal_fit (G := 1) (B := 8) (I := 4) (N := 8) (h.kept hb1) (by decide) (by decide) (by decide) (by decide)
  go_enter Tryz.func244, Tryz.ntmps244
  go_wp2_with (first
    | (refine wpList_load_row rfl 34 (.tmp 5) rfl w.heap.size rfl 34 _ (0, 0) _ hg1 Tryz.underlying34 rfl Mk.info23 ?_))
  refine Mk.grew_at hv ?_
  intro w2 hb2
  have HB : Hid (Below w.heap.size w w2) := Mk.grew_trans hb1 hb2
  have hg2 := g3_of (kept_row hg1 hb2)
  have q0 := hg2.c0
  have q1 := hg2.c1
  have q2 := hg2.c2
  have hin := Mk.inodes_ok 1 8 4 w2
  rw [Mk.Gm.num, if_pos (by decide)] at hin
  clear hv hg1 hb1 hb2 hg2
  dsimp only
  go_wp2_with (first | (go_at_call 100; refine Mk.grew_at hin ?_; intro w3 hb3))
  go_ret
  exact ⟨rfl, Mk.grew_trans HB.out hb3⟩
set_option maxHeartbeats 4000000 in
theorem iget_free (h : Nv w v d c s m mc p1 p2 dm df B B0) : Calls Tryz.prog 139 #[.pointer (some ⟨v, 0, none⟩), Mk.geomV 1 8 4, .int .i64 3] w fun e w' => e = .returned (.tuple #[.agg dnZ, .int .i64 0]) ∧ Frame (fun k => k = v ∨ k = c ∨ k = mc) w w' := by
  obtain ⟨W1, hW1⟩ : ∃ W1, (w.alloc (Mk.geomO 1 8 4)).alloc (.cells dnZ 146) = W1 := ⟨_, rfl⟩
  have hb1 : Below w.heap.size w W1 := by rw [← hW1]; exact ((Below.refl _ w).alloc (Nat.le_refl _) _).alloc (by simp) _
  have hg1 : W1.heap[w.heap.size]? = some (Mk.geomO 1 8 4) := by rw [← hW1]; exact at_old (at_new rfl)
  have hr1 : W1.heap[w.heap.size + 1]? = some (.cells dnZ 146 (0, 0)) := by rw [← hW1]; exact at_new (by simp)
  have hv := irefusalInode_ok (h.kept hb1).has
  have lt : ∀ {k : Nat} {o : Obj}, w.heap[k]? = some o → k < w.heap.size := fun {k o} hh => (Array.getElem?_eq_some_iff.1 hh).1
  have HN : Hid (Nv w v d c s m mc p1 p2 dm df B B0 ∧ v < w.heap.size ∧ c < w.heap.size ∧ mc < w.heap.size) := ⟨h, lt h.fv.row, lt h.fv.cac, lt h.fv.cm⟩
  clear h lt
  go_enter Tryz.func139, Tryz.ntmps139
  go_wp2_with (first
    | (refine wpList_load_row rfl 34 (.tmp 4) rfl w.heap.size rfl 34 _ (0, 0) _ hg1 Tryz.underlying34 rfl Mk.info23 ?_))
  refine Mk.grew_at hv ?_
  intro w2 hb2
  have hB2 := Mk.grew_trans hb1 hb2
  have hg2 := kept_row hg1 hb2
  have hr2 := kept_row hr1 hb2
  have hin := Mk.inode_in (G := 1) (B := 8) (I := 4) (n := 3) (by decide) w2
  have H2 : Hid (Below w.heap.size w w2) := hB2
  clear hv hg1 hr1 hb1 hb2 hB2
  dsimp only
  go_wp2_with (first
    | (refine wpList_load_row rfl 34 (.tmp 4) rfl w.heap.size rfl 34 _ (0, 0) _ hg2 Tryz.underlying34 rfl Mk.info23 ?_))
  refine Mk.grew_at hin ?_
  intro w3 hb3
  have hB3 := Mk.grew_trans H2.out hb3
  have hr3 := kept_row hr2 hb3
  have hrd := vread_new (HN.out.1.kept hB3).fv HN.out.1.lo (HN.out.1.kept hB3).di 2 (by decide) rfl st0_sect
  have H3 : Hid (Below w.heap.size w w3 ∧ w3.heap[w.heap.size + 1]? = some (.cells dnZ 146 (0, 0))) := ⟨hB3, hr3⟩
  clear hin hb3 hB3 hr3 hr2 hg2 H2
  dsimp only
  go_wp2_with fail
  refine Calls.mono hrd ?_
  rintro e w4 ⟨x, cap, rfl, ho, hfr⟩
  have hroom := ho.room
  have hr4 : w4.heap[w.heap.size + 1]? = some (.cells dnZ 146 (0, 0)) := (hfr.block _ (Array.getElem?_eq_some_iff.1 H3.out.2).1 (by have := HN.out.2; omega)).trans H3.out.2
  have hbi := (ho.bi (by omega) st0_sect.2).drop 96 (by omega)
  rw [Nat.zero_add] at hbi
  have hbm : Mk.BI w4 (some ⟨x, 96, none⟩) 32 ((st0.f 2).drop 96) := ⟨hbi.len, hbi.big, hbi.byt, hbi.cells⟩
  have hdz := fun cc => Mk.decodeDinode_zero (some ⟨x, 96, none⟩) cc _ w4 hbm st0_tail
  have H4 : Hid (Frame (fun k => k = v ∨ k = c ∨ k = mc) w w4) := (frame_of_below H3.out.1).trans hfr
  have hc1 : (128 : Int) ≤ (cap : Int) := by omega
  have hc2 : ¬ cap = 96 := by omega
  have hc3 : (cap : Int) ≤ 9223372036854775807 := by omega
  clear hrd ho hfr hbi hbm hroom
  dsimp only
  go_wp2_with fail
  refine Mk.grew_at (hdz _) ?_
  intro w5 hb5
  have hr5 := kept_row hr4 hb5
  have H5 : Hid (Frame (fun k => k = v ∨ k = c ∨ k = mc) w (w5.setRow (w.heap.size + 1) dnZ)) := by
    have hf := H4.out.trans (frame_of_below hb5)
    refine ⟨hf.os, hf.tape, hf.output, Nat.le_trans hf.size (by simp), fun k hk hn => ?_⟩
    rw [setRow_other _ _ _ _ (by omega)]
    exact hf.block k hk hn
  clear hdz hr4 hb5 H4 H3 HN hc1 hc2 hc3
  dsimp only
  go_wp2_with (first
    | (refine wpList_store_row rfl 146 (.tmp 6) _ rfl (w.heap.size + 1) dnZ rfl rfl 146 _ hr5 Mk.info45 rfl dnZ_one ?_))
  refine bodyPost_ret (v := .tuple #[.agg dnZ, .int .i64 0]) (Mk.results_cell_tmp_row (p := 6) (u := 7) (ty := 146) Tryz.results139 _ _ (w.heap.size + 1) 146 _ (0, 0) _ rfl (setRow_heap _ _ _ _ 146 _ hr5) Tryz.underlying146 rfl Mk.info45) rfl ?_
  exact ⟨rfl, H5.out⟩

theorem frame_row {X : Nat → Prop} {w w' : World} (h : Frame X w w') {b : Nat} (hb : w.heap.size ≤ b) (cs : Array Value) : Frame X w (w'.setRow b cs) := by
  refine ⟨h.os, h.tape, h.output, Nat.le_trans h.size (by simp), fun k hk hn => ?_⟩
  rw [setRow_other _ _ _ _ (by omega)]
  exact h.block k hk hn
set_option maxHeartbeats 4000000 in
theorem used_free (h : Nv w v d c s m mc p1 p2 dm df B B0) : Calls Tryz.prog 72 #[.pointer (some ⟨v, 0, none⟩), Mk.geomV 1 8 4, .int .i64 3] w fun e w' => e = .returned (.tuple #[.agg dnZ, .int .i64 1]) ∧ Frame (fun k => k = v ∨ k = c ∨ k = mc) w w' := by
  obtain ⟨W1, hW1⟩ : ∃ W1, (w.alloc (Mk.geomO 1 8 4)).alloc (.cells dnZ 146) = W1 := ⟨_, rfl⟩
  have hb1 : Below w.heap.size w W1 := by rw [← hW1]; exact ((Below.refl _ w).alloc (Nat.le_refl _) _).alloc (by simp) _
  have hg1 : W1.heap[w.heap.size]? = some (Mk.geomO 1 8 4) := by rw [← hW1]; exact at_old (at_new rfl)
  have hr1 : W1.heap[w.heap.size + 1]? = some (.cells dnZ 146 (0, 0)) := by rw [← hW1]; exact at_new (by simp)
  have hv := iget_free (h.kept hb1)
  have lt : ∀ {k : Nat} {o : Obj}, w.heap[k]? = some o → k < w.heap.size := fun {k o} hh => (Array.getElem?_eq_some_iff.1 hh).1
  have HN : Hid (v < w.heap.size ∧ c < w.heap.size ∧ mc < w.heap.size ∧ Below w.heap.size w W1) := ⟨lt h.fv.row, lt h.fv.cac, lt h.fv.cm, hb1⟩
  clear h lt hb1
  go_enter Tryz.func72, Tryz.ntmps72
  go_wp2_with (first
    | (refine wpList_load_row rfl 34 (.tmp 4) rfl w.heap.size rfl 34 _ (0, 0) _ hg1 Tryz.underlying34 rfl Mk.info23 ?_))
  refine Calls.mono hv ?_
  rintro e w2 ⟨rfl, hfr⟩
  have hr2 : w2.heap[w.heap.size + 1]? = some (.cells dnZ 146 (0, 0)) := (hfr.block _ (Array.getElem?_eq_some_iff.1 hr1).1 (by have := HN.out; omega)).trans hr1
  obtain ⟨W3, hW3⟩ : ∃ W3, (w2.alloc (.cells dnZ 146)).setRow w2.heap.size dnZ = W3 := ⟨_, rfl⟩
  have hb3 : Below w2.heap.size w2 W3 := by rw [← hW3]; exact belowRow (Mk.grew_alloc _ _) (Nat.le_refl _) _
  have hr3 := kept_row hr2 hb3
  have hn3 : W3.heap[w2.heap.size]? = some (.cells dnZ 146 (0, 0)) := by rw [← hW3]; exact setRow_heap _ _ _ _ 146 _ (at_new rfl)
  have k0 : W3.cell? ⟨w2.heap.size, 0, none⟩ = some (.int .i64 0) := cell_of_row _ _ 0 _ 146 _ hn3
  have HW : Hid ((w2.alloc (.cells dnZ 146)).setRow w2.heap.size dnZ = W3) := hW3
  have HF : Hid (Frame (fun k => k = v ∨ k = c ∨ k = mc) w (W3.setRow (w.heap.size + 1) dnZ)) := frame_row (((frame_of_below HN.out.2.2.2).trans hfr).trans (frame_of_below hb3)) (Nat.le_succ _) _
  clear hv hfr hr2 hb3 hn3 hW3 hg1 hr1
  dsimp only
  go_wp2_with (first
    | (refine wpList_store_row rfl 146 (.tmp 8) _ rfl w2.heap.size dnZ rfl rfl 146 _ (at_new rfl) Mk.info45 rfl dnZ_one ?_; rw [HW.out])
    | (refine wpList_store_row rfl 146 (.tmp 6) _ rfl (w.heap.size + 1) dnZ rfl rfl 146 _ hr3 Mk.info45 rfl dnZ_one ?_))
  refine bodyPost_ret (v := .tuple #[.agg dnZ, .int .i64 1]) (Mk.results_cell_tmp_row (p := 6) (u := 7) (ty := 146) Tryz.results72 _ _ (w.heap.size + 1) 146 _ (0, 0) _ rfl (setRow_heap _ _ _ _ 146 _ hr3) Tryz.underlying146 rfl Mk.info45) rfl ?_
  exact ⟨rfl, HF.out⟩
set_option maxHeartbeats 4000000 in
theorem fread_free (h : Nv w v d c s m mc p1 p2 dm df B B0) : Calls Tryz.prog 26 #[.pointer (some ⟨v, 0, none⟩), Mk.geomV 1 8 4, .int .i64 3, .int .i64 0, .int .i64 5] w fun e w' => e = .returned (.tuple #[.slice none 0 0, .int .i64 1]) ∧ Frame (fun k => k = v ∨ k = c ∨ k = mc) w w' := by
  obtain ⟨W1, hW1⟩ : ∃ W1, w.alloc (Mk.geomO 1 8 4) = W1 := ⟨_, rfl⟩
  have hb1 : Below w.heap.size w W1 := by rw [← hW1]; exact Mk.grew_alloc _ _
  have hg1 : W1.heap[w.heap.size]? = some (Mk.geomO 1 8 4) := by rw [← hW1]; exact at_new rfl
  have hv := used_free (h.kept hb1)
  have HN : Hid (Below w.heap.size w W1) := hb1
  clear h hb1
  go_enter Tryz.func26, Tryz.ntmps26
  go_wp2_with (first
    | (refine wpList_load_row rfl 34 (.tmp 6) rfl w.heap.size rfl 34 _ (0, 0) _ hg1 Tryz.underlying34 rfl Mk.info23 ?_))
  refine Calls.mono hv ?_
  rintro e w2 ⟨rfl, hfr⟩
  have HF : Hid (Frame (fun k => k = v ∨ k = c ∨ k = mc) w ((w2.alloc (.cells dnZ 146)).setRow w2.heap.size dnZ)) := by
    have hf := (frame_of_below (X := fun k => k = v ∨ k = c ∨ k = mc) HN.out).trans hfr
    exact frame_row (hf.trans (frame_of_below (Mk.grew_alloc _ _))) hf.size _
  clear hv hfr hg1
  dsimp only
  go_wp2_with (first
    | (refine wpList_store_row rfl 146 (.tmp 12) _ rfl w2.heap.size dnZ rfl rfl 146 _ (at_new rfl) Mk.info45 rfl dnZ_one ?_))
  go_ret2
  exact ⟨rfl, HF.out⟩
end
end Go.Proofs.YtomkhipdcjnkhaaGreat

/- FileNobody: the statement's own call returns true. -/
namespace Go.Proofs.YtomkhipdcjnkhaaGreat
open Go.RowKit Go.Maps Go.MuLone
set_option linter.unusedVariables false
set_option maxRecDepth 100000

section
variable {w : World} {v : Value} {G B I : Int}
set_option maxHeartbeats 1000000 in
theorem used_void (h : VVoid w v) (n : Int) : Calls Tryz.prog 72 #[v, Mk.geomV G B I, .int .i64 n] w fun e w' => e = .returned (.tuple #[.agg dnZ, .int .i64 2]) ∧ Below w.heap.size w w' := by
  obtain ⟨W1, hW1⟩ : ∃ W1, (w.alloc (Mk.geomO G B I)).alloc (.cells dnZ 146) = W1 := ⟨_, rfl⟩
  have hb1 : Below w.heap.size w W1 := by rw [← hW1]; exact ((Below.refl _ w).alloc (Nat.le_refl _) _).alloc (by simp) _
  have hg1 : W1.heap[w.heap.size]? = some (Mk.geomO G B I) := by rw [← hW1]; exact at_old (at_new rfl)
  have hr1 : W1.heap[w.heap.size + 1]? = some (.cells dnZ 146 (0, 0)) := by rw [← hW1]; exact at_new (by simp)
  have hv := iget_void (G := G) (B := B) (I := I) (h.kept hb1) n
  go_enter Tryz.func72, Tryz.ntmps72
  go_wp2_with (first
    | (refine wpList_load_row rfl 34 (.tmp 4) rfl w.heap.size rfl 34 _ (0, 0) _ hg1 Tryz.underlying34 rfl Mk.info23 ?_))
  refine Mk.grew_at hv ?_
  intro w2 hb2
  obtain ⟨W3, hW3⟩ : ∃ W3, (w2.alloc (.cells dnZ 146)).setRow w2.heap.size dnZ = W3 := ⟨_, rfl⟩
  have hb3 : Below w2.heap.size w2 W3 := by rw [← hW3]; exact belowRow (Mk.grew_alloc _ _) (Nat.le_refl _) _
  have hr3 := kept_row (kept_row hr1 hb2) hb3
  have HW : Hid ((w2.alloc (.cells dnZ 146)).setRow w2.heap.size dnZ = W3) := hW3
  have HB : Hid (Below w.heap.size w W3) := Mk.grew_trans (Mk.grew_trans hb1 hb2) hb3
  clear hv hg1 hb1 hb2 hr1 hb3 hW3
  dsimp only
  go_wp2_with (first
    | (refine wpList_store_row rfl 146 (.tmp 8) _ rfl w2.heap.size dnZ rfl rfl 146 _ (at_new rfl) Mk.info45 rfl dnZ_one ?_; rw [HW.out])
    | (refine wpList_store_row rfl 146 (.tmp 6) _ rfl (w.heap.size + 1) dnZ rfl rfl 146 _ hr3 Mk.info45 rfl dnZ_one ?_))
  refine bodyPost_ret (v := .tuple #[.agg dnZ, .int .i64 2]) (Mk.results_cell_tmp_row (p := 6) (u := 7) (ty := 146) Tryz.results72 _ _ (w.heap.size + 1) 146 _ (0, 0) _ rfl (setRow_heap _ _ _ _ 146 _ hr3) Tryz.underlying146 rfl Mk.info45) rfl ?_
  exact ⟨rfl, belowRow HB.out (Nat.le_succ _) _⟩
set_option maxHeartbeats 1000000 in
theorem fread_void (h : VVoid w v) (n o k : Int) : Calls Tryz.prog 26 #[v, Mk.geomV G B I, .int .i64 n, .int .i64 o, .int .i64 k] w fun e w' => e = .returned (.tuple #[.slice none 0 0, .int .i64 2]) ∧ Below w.heap.size w w' := by
  obtain ⟨W1, hW1⟩ : ∃ W1, w.alloc (Mk.geomO G B I) = W1 := ⟨_, rfl⟩
  have hb1 : Below w.heap.size w W1 := by rw [← hW1]; exact Mk.grew_alloc _ _
  have hg1 : W1.heap[w.heap.size]? = some (Mk.geomO G B I) := by rw [← hW1]; exact at_new rfl
  have hv := used_void (G := G) (B := B) (I := I) (h.kept hb1) n
  go_enter Tryz.func26, Tryz.ntmps26
  go_wp2_with (first
    | (refine wpList_load_row rfl 34 (.tmp 6) rfl w.heap.size rfl 34 _ (0, 0) _ hg1 Tryz.underlying34 rfl Mk.info23 ?_))
  refine Mk.grew_at hv ?_
  intro w2 hb2
  have HB : Hid (Below w.heap.size w ((w2.alloc (.cells dnZ 146)).setRow w2.heap.size dnZ)) := by
    have hb := Mk.grew_trans hb1 hb2
    exact belowRow (hb.alloc hb.size _) hb.size _
  clear hv hg1 hb1 hb2
  dsimp only
  go_wp2_with (first
    | (refine wpList_store_row rfl 146 (.tmp 12) _ rfl w2.heap.size dnZ rfl rfl 146 _ (at_new rfl) Mk.info45 rfl dnZ_one ?_))
  go_ret2
  exact ⟨rfl, HB.out⟩
set_option maxHeartbeats 1000000 in
theorem fwrite_void (h : VVoid w v) (n o : Int) (q : Value) : Calls Tryz.prog 27 #[v, Mk.geomV G B I, .int .i64 n, .int .i64 o, q] w fun e w' => e = .returned (.tuple #[.slice none 0 0, .int .i64 2]) ∧ Below w.heap.size w w' := by
  obtain ⟨W1, hW1⟩ : ∃ W1, w.alloc (Mk.geomO G B I) = W1 := ⟨_, rfl⟩
  have hb1 : Below w.heap.size w W1 := by rw [← hW1]; exact Mk.grew_alloc _ _
  have hg1 : W1.heap[w.heap.size]? = some (Mk.geomO G B I) := by rw [← hW1]; exact at_new rfl
  have hv := used_void (G := G) (B := B) (I := I) (h.kept hb1) n
  go_enter Tryz.func27, Tryz.ntmps27
  go_wp2_with (first
    | (refine wpList_load_row rfl 34 (.tmp 6) rfl w.heap.size rfl 34 _ (0, 0) _ hg1 Tryz.underlying34 rfl Mk.info23 ?_))
  refine Mk.grew_at hv ?_
  intro w2 hb2
  have HB : Hid (Below w.heap.size w ((w2.alloc (.cells dnZ 146)).setRow w2.heap.size dnZ)) := by
    have hb := Mk.grew_trans hb1 hb2
    exact belowRow (hb.alloc hb.size _) hb.size _
  clear hv hg1 hb1 hb2
  dsimp only
  go_wp2_with (first
    | (refine wpList_store_row rfl 146 (.tmp 12) _ rfl w2.heap.size dnZ rfl rfl 146 _ (at_new rfl) Mk.info45 rfl dnZ_one ?_))
  go_ret2
  exact ⟨rfl, HB.out⟩
set_option maxHeartbeats 1000000 in
theorem ftrunc_void (h : VVoid w v) (n k : Int) : Calls Tryz.prog 28 #[v, Mk.geomV G B I, .int .i64 n, .int .i64 k] w fun e w' => e = .returned (.tuple #[.slice none 0 0, .int .i64 2]) ∧ Below w.heap.size w w' := by
  obtain ⟨W1, hW1⟩ : ∃ W1, w.alloc (Mk.geomO G B I) = W1 := ⟨_, rfl⟩
  have hb1 : Below w.heap.size w W1 := by rw [← hW1]; exact Mk.grew_alloc _ _
  have hg1 : W1.heap[w.heap.size]? = some (Mk.geomO G B I) := by rw [← hW1]; exact at_new rfl
  have hv := used_void (G := G) (B := B) (I := I) (h.kept hb1) n
  go_enter Tryz.func28, Tryz.ntmps28
  go_wp2_with (first
    | (refine wpList_load_row rfl 34 (.tmp 5) rfl w.heap.size rfl 34 _ (0, 0) _ hg1 Tryz.underlying34 rfl Mk.info23 ?_))
  refine Mk.grew_at hv ?_
  intro w2 hb2
  have HB : Hid (Below w.heap.size w ((w2.alloc (.cells dnZ 146)).setRow w2.heap.size dnZ)) := by
    have hb := Mk.grew_trans hb1 hb2
    exact belowRow (hb.alloc hb.size _) hb.size _
  clear hv hg1 hb1 hb2
  dsimp only
  go_wp2_with (first
    | (refine wpList_store_row rfl 146 (.tmp 10) _ rfl w2.heap.size dnZ rfl rfl 146 _ (at_new rfl) Mk.info45 rfl dnZ_one ?_))
  go_ret2
  exact ⟨rfl, HB.out⟩
end

theorem mayNo : ¬ Mk.Gm.May 0 0 0 := by decide
set_option maxHeartbeats 4000000 in
theorem fileNobody_walk (G B I ino n : Int) (w : World) : Calls Tryz.prog 5 #[Mk.geomV G B I, .int .i64 ino, .int .i64 n] w fun e w' => e = .returned (.bool true) ∧ Below w.heap.size w w' := by
  obtain ⟨W1, hW1⟩ : ∃ W1, w.alloc (Mk.geomO G B I) = W1 := ⟨_, rfl⟩
  have hb1 : Below w.heap.size w W1 := by rw [← hW1]; exact Mk.grew_alloc _ _
  have hg1 : W1.heap[w.heap.size]? = some (Mk.geomO G B I) := by rw [← hW1]; exact at_new rfl
  have hs1 : W1.heap.size = w.heap.size + 1 := by rw [← hW1]; simp
  go_enter Tryz.func5, Tryz.ntmps5
  go_wp2_with fail
  have hT0 := two_vol W1 hb1 30
  have hG0 : ((W1.alloc vZ).alloc (.cells #[.pointer none, .pointer (some ⟨W1.heap.size, 0, none⟩)] 30)).heap[w.heap.size]? = some (Mk.geomO G B I) := at_old (at_old hg1)
  rw [hs1] at hT0 hG0
  clear hb1 hg1 hW1 hs1
  go_loopw [23] (fun i wr => ∃ j : Nat, j ≤ 2 ∧ i = .int .i64 (j : Int) ∧ Two w wr (w.heap.size + 1) 2 (.pointer none) ∧ wr.heap[w.heap.size]? = some (Mk.geomO G B I)) (fun i _ => 2 - (intOf i).toNat)
  case atStart => exact ⟨0, by omega, rfl, hT0, hG0⟩
  case round =>
    clear hT0 hG0
    obtain ⟨j, hj, rfl, hp, hg⟩ := hrel
    by_cases hlt : j < 2
    · obtain ⟨v, hv, hcell⟩ := hp.void hlt
      have HD := (show Hid _ from hv)
      have HT0 : Hid (Two w wr (w.heap.size + 1) 2 (.pointer none)) := hp
      have hjI : (j : Int) < 2 := by omega
      have hj0 : (0 : Int) ≤ (j : Int) := by omega
      clear hv hp
      go_wp2_with (first
        | (refine wpList_load_row rfl 34 (.tmp 3) rfl w.heap.size rfl 34 _ (0, 0) _ hg Tryz.underlying34 rfl Mk.info23 ?_))
      refine Mk.grew_at (fread_void (G := G) (B := B) (I := I) (HD.out _ HT0.out) ino 0 n) ?_
      intro x0 hb0
      have hg0 := kept_row hg hb0
      have HU0 : Hid (Two w x0 (w.heap.size + 1) 2 (.pointer none)) := HT0.out.kept hb0
      obtain ⟨X1, hX1⟩ : ∃ X1, x0.alloc (.cells #[.int .u8 1] 5) = X1 := ⟨_, rfl⟩
      have hbX : Below x0.heap.size x0 X1 := by rw [← hX1]; exact Mk.grew_alloc _ _
      have HU1 : Hid (Two w X1 (w.heap.size + 1) 2 (.pointer none)) := HU0.out.kept hbX
      have hgX := kept_row hg0 hbX
      clear hg HT0 hb0 hbX
      dsimp only
      go_wp2_with (first
        | (refine wpList_load_row rfl 34 (.tmp 3) rfl w.heap.size rfl 34 _ (0, 0) _ hg0 Tryz.underlying34 rfl Mk.info23 ?_))
      refine Mk.grew_at (fwrite_void (G := G) (B := B) (I := I) (HD.out _ HU1.out) ino 0 _) ?_
      intro x2 hb2
      have hg2 := kept_row hgX hb2
      have HU2 : Hid (Two w x2 (w.heap.size + 1) 2 (.pointer none)) := HU1.out.kept hb2
      clear hg0 HU0 HU1 hgX hb2 hX1
      dsimp only
      go_wp2_with (first
        | (refine wpList_load_row rfl 34 (.tmp 3) rfl w.heap.size rfl 34 _ (0, 0) _ hg2 Tryz.underlying34 rfl Mk.info23 ?_))
      refine Mk.grew_at (ftrunc_void (G := G) (B := B) (I := I) (HD.out _ HU2.out) ino n) ?_
      intro x3 hb3
      have HU3 : Hid (Two w x3 (w.heap.size + 1) 2 (.pointer none) ∧ x3.heap[w.heap.size]? = some (Mk.geomO G B I)) := ⟨HU2.out.kept hb3, kept_row hg2 hb3⟩
      clear hg2 HU2 hb3
      dsimp only
      go_wp2_with fail
      first
        | exact ⟨⟨j + 1, by omega, by go_num, HU3.out.1, HU3.out.2⟩, by simp [intOf]; omega⟩
        | (go_roundw
           case rel => exact ⟨j + 1, by omega, by go_num, HU3.out.1, HU3.out.2⟩
           case measure => simp [intOf]; omega)
    · have hI2 : ¬ (j : Int) < 2 := by omega
      have hbw := hp.b
      clear hp
      go_wp2_with fail
      refine Calls.mono (freshNo_ok 0 0 0 mayNo wr) ?_
      rintro e w5 ⟨p, d, v, xd, y, c, s, m, mc, p1, p2, dm, df, B', rfl, hpr, hF, hLo, hBB, hD, hb5⟩
      have hg5 := kept_row hg hb5
      have hgl : w.heap.size < wr.heap.size := (Array.getElem?_eq_some_iff.1 hg).1
      obtain ⟨W6, hW6⟩ : ∃ W6, w5.setRow w.heap.size #[.int .i64 1, .int .i64 8, .int .i64 4] = W6 := ⟨_, rfl⟩
      have hg6 : W6.heap[w.heap.size]? = some (Mk.geomO 1 8 4) := by rw [← hW6]; exact setRow_heap _ _ _ _ 34 _ hg5
      have so : ∀ b, b ≠ w.heap.size → W6.drew.heap[b]? = w5.heap[b]? := fun b hb => by
        have e0 : W6.drew.heap[b]? = W6.heap[b]? := rfl
        rw [e0, ← hW6]
        exact setRow_other _ _ _ _ hb
      have kk : ∀ {b : Nat} {o : Obj}, w5.heap[b]? = some o → o ≠ Mk.geomO G B I → W6.drew.heap[b]? = some o := fun {b o} hh ho => (so b (row_ne2 hh hg5 ho)).trans hh
      have hNv : Nv W6.drew v d c s m mc p1 p2 dm df B' wr.heap.size := ⟨⟨kk hF.row (by simp), kk hF.cac (by simp), kk hF.cm (by simp), kk hF.set (by simp), kk hF.pm1 (by simp), kk hF.pm2 (by simp)⟩, hLo, hD.kept (fun k hk => so k (by have := (hD.in k hk).1; omega))⟩
      have hp6 := kk hpr (by simp)
      have hg7 := g3_of (w := W6.drew) hg6
      have q0 := hg7.c0
      have q1 := hg7.c1
      have q2 := hg7.c2
      have c1 : W6.drew.cell? ⟨p, 1, none⟩ = some (.pointer (some ⟨v, 0, none⟩)) := cell_of_row _ _ 1 _ 65 _ hp6
      have hwk := fread_free hNv
      have HB : Hid (Below w.heap.size w W6.drew ∧ w.heap.size ≤ v ∧ w.heap.size ≤ c ∧ w.heap.size ≤ mc) := by
        have a1 := hLo.1
        have a2 := hLo.2.1
        have a3 := hLo.2.2.2.2.1
        refine ⟨?_, by omega, by omega, by omega⟩
        rw [← hW6]
        exact (belowRow (hbw.trans (hb5.mono hbw.size)) (Nat.le_refl _) _).drew
      have H6 : Hid (w5.setRow w.heap.size #[.int .i64 1, .int .i64 8, .int .i64 4] = W6) := hW6
      clear hW6 hg6 hg7 hp6 so kk hNv hpr hF hD hBB hb5 hLo hbw hg hgl
      dsimp only
      go_wp2_with (first
        | (refine wpList_store_row rfl 34 (.tmp 3) _ rfl w.heap.size #[.int .i64 1, .int .i64 8, .int .i64 4] rfl rfl 34 _ hg5 Mk.info23 rfl geom_one ?_; rw [H6.out]))
      go_region_with (first
        | (go_at_call 26; refine Calls.mono hwk ?_; rintro e w8 ⟨rfl, hfr8⟩))
      all_goals (
        have HE : Hid (Below w.heap.size w w8) := HB.out.1.trans (hfr8.below HB.out.1.size (fun k hk => by rcases hk with hk | hk | hk <;> rw [hk]; exact HB.out.2.1; exact HB.out.2.2.1; exact HB.out.2.2.2))
        clear q0 q1 q2 c1 hwk hg5 hfr8
        go_wp2_with fail
        go_ret
        exact ⟨rfl, HE.out⟩)
end Go.Proofs.YtomkhipdcjnkhaaGreat
