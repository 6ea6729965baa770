/- AdjustStale: the walk. -/
import Derived.Test.YtijbbkkapimljaaGreatAH
import Derived.Test.YtijbbkkapimljaaGreatAS
namespace Go.Proofs.YtijbbkkapimljaaGreat
open Go.RowKit Go.Maps Go.MuLone
set_option linter.unusedVariables false
set_option maxRecDepth 100000

theorem bm_of {w : World} {mc : Nat} (h : w.heap[mc]? = some (.map #[] 0)) : Bm w mc [] := by
  have hlt := (Array.getElem?_eq_some_iff.1 h).1
  have hs : (w.heap.extract 0 mc).size = mc := by simp; omega
  have hb := bm_made { w with heap := w.heap.extract 0 mc }
  have e : ({ w with heap := w.heap.extract 0 mc } : World).heap.size = mc := hs
  rw [e] at hb
  exact hb.kept (h.trans (at_new (w := { w with heap := w.heap.extract 0 mc }) e.symm).symm)

theorem DI.base {B B' : Nat} {w : World} {a mb fb : Nat} {S : St} (h : DI B w a mb fb (.slice none 0 0) S) (hq : S.q = []) (hB : B' ≤ B) : DI B' w a mb fb (.slice none 0 0) S :=
  { row := h.row, secs := h.secs, que := by rw [hq]; exact World.ownsRow_nil _ _ _ _, fls := h.fls, lo := ⟨Nat.le_trans hB h.lo.1, Nat.le_trans hB h.lo.2.1, Nat.le_trans hB h.lo.2.2⟩, ne := h.ne, N1 := h.N1, N2 := h.N2, q64 := h.q64, qok := h.qok, lok := h.lok }

/-- A new volume is one without patches. -/
theorem ve_new {B B0 : Nat} {w : World} {v d c s m mc p1 p2 dm df n : Nat} {f : Nat → List Int} (h : FV w v d c s m mc p1 p2 none) (hlo : FLo B0 v c s m mc p1 p2) (hB : B0 ≤ B) (hD : DI B w d dm df (.slice none 0 0) ⟨n, f, [], 0, fun _ => 0⟩) (hs : ∀ b, Sect (f b)) (hne : mc ≠ dm ∧ mc ≠ df) :
    VE B0 w v d c s m mc p1 p2 dm df ⟨64, 0, 0, []⟩ ⟨n, f, [], 0, fun _ => 0⟩ 0 := by
  have hD0 := hD.base rfl hB
  refine ⟨⟨⟨⟨h.cac, bm_of h.cm, ?_, ?_, List.nodup_nil, ?_, ?_, hD.N2, ⟨by decide, by decide⟩, by simp, ⟨hlo.2.1, hlo.2.2.2.2.1, ?_⟩, by decide⟩, List.Pairwise.nil, ?_⟩, hD0, hne⟩, ⟨?_, ?_, rfl⟩, h.set, h.pm2, hlo.2.2.2.2.2.2.2, ⟨hD.N1, hD.N2, by simp, by simp, ⟨Int.le_refl 0, show (0 : Int) ≤ 9223372036854775807 by decide⟩, hs, fun b => ⟨Int.le_refl 0, show (0 : Int) ≤ 1000 by decide⟩⟩, fun _ => rfl, hlo.1⟩
  all_goals (intro f hf; cases hf)

theorem part_sect {L : List (List Int)} {n : Nat} (hl : ∀ xs ∈ L, xs.length = 128) (hb : ∀ xs ∈ L, Num.Byt xs) (b : Nat) : Sect (part L n b) := by
  unfold part
  split
  · rw [List.getD_eq_getElem?_getD]
    cases hx : L[b]? with
    | none => exact sect_zer
    | some xs => exact ⟨hl xs (List.mem_of_getElem? hx), hb xs (List.mem_of_getElem? hx)⟩
  · exact sect_zer

theorem img_part {L : List (List Int)} {n : Nat} (hl : L.length = n) : imgL (part L n) n = L := by
  apply List.ext_getElem
  · simp [imgL, hl]
  · intro i h1 h2
    have : i < n := by simpa [imgL] using h1
    simp [imgL, part, this, List.getD_eq_getElem?_getD, List.getElem?_eq_getElem h2]

theorem ID.byt {w : World} {p : Option Addr} {n : Nat} {L : List (List Int)} (h : ID w p n L) : ∀ xs ∈ L, Num.Byt xs := by
  intro xs hx
  obtain ⟨i, hi, rfl⟩ := List.getElem_of_mem hx
  have hl := h.len
  obtain ⟨b, o, _, hc⟩ := h.cells (by omega)
  obtain ⟨_, _, _, _, hb, _⟩ := hc i _ (List.getElem?_eq_getElem hi)
  exact hb.byt

set_option maxHeartbeats 4000000 in
theorem adjustStale_walk (p : Option Addr) (n cp : Nat) (L : List (List Int)) (a b c d gen : Int) (w : World) (h : ID w p n L) :
    Calls Tryz.prog 4 #[.slice p n cp, rqV a b c d, .int .i64 gen] w fun e w' => e = .returned (.bool true) ∧ Below w.heap.size w w' := by
  obtain ⟨W1, hW1⟩ : ∃ W1, w.alloc (rqO a b c d) = W1 := ⟨_, rfl⟩
  have hb1 : Below w.heap.size w W1 := by rw [← hW1]; exact (Below.refl _ w).alloc (Nat.le_refl _) _
  have hr1 : W1.heap[w.heap.size]? = some (rqO a b c d) := by rw [← hW1]; exact at_new rfl
  have h1 := h.kept hb1
  have hg := geom18_ok p n cp L W1 h1
  have H1 := (show Hid (_ ∧ _ ∧ _) from ⟨hb1, hr1, h1⟩)
  have hlen := h.len
  clear h h1 hb1 hr1
  go_enter Tryz.func4, Tryz.ntmps4
  go_wp2_with fail
  refine Calls.mono hg ?_
  rintro e w2 ⟨⟨G, B, I, k, rfl, hk⟩, hb2⟩
  obtain ⟨hb1, hr1, h1⟩ := H1.out
  have hr2 := kept_row hr1 hb2
  have h2 := h1.kept hb2
  have HB2 := grew_trans' hb1 hb2
  obtain ⟨W3, hW3⟩ : ∃ W3, (w2.alloc (Mk.geomO 0 0 0)).setRow w2.heap.size #[.int .i64 G, .int .i64 B, .int .i64 I] = W3 := ⟨_, rfl⟩
  have hz : (w2.alloc (Mk.geomO 0 0 0)).heap[w2.heap.size]? = some (Mk.geomO 0 0 0) := at_new rfl
  have hb3 : Below w2.heap.size w2 W3 := by rw [← hW3]; exact below_setRow ((Below.refl _ _).alloc (Nat.le_refl _) _) (Nat.le_refl _) _
  have hg3 : W3.heap[w2.heap.size]? = some (Mk.geomO G B I) := by rw [← hW3]; exact setRow_heap _ _ _ _ _ _ hz
  have hr3 := kept_row hr2 hb3
  have h3 := h2.kept hb3
  have HB3 := grew_trans' HB2 hb3
  have q3 : W3.cell? ⟨w.heap.size, 3, none⟩ = some (.int .i64 d) := cell_of_row _ _ 3 _ 25 _ hr3
  have H3 := (show Hid (_ ∧ _ ∧ _ ∧ _) from ⟨hr3, h3, HB3, hg3⟩)
  have HK := (show Hid _ from hk)
  clear hg H1 hb1 hr1 h1 hr2 h2 HB2 hb2 hb3 hg3 hr3 h3 HB3 hk
  dsimp only
  by_cases hbad : k = 0 ∧ ¬ d = gen
  case neg =>
    by_cases hk0 : k = 0
    · have hdg : d = gen := Decidable.byContradiction (fun e => hbad ⟨hk0, e⟩)
      subst hk0
      subst hdg
      go_wp2_with (refine wpList_store_row rfl 23 _ _ rfl w2.heap.size _ rfl rfl 23 _ hz info23g rfl (geom_one G B I) ?_; rw [hW3])
      go_ret
      exact ⟨rfl, H3.out.2.2.1⟩
    · go_wp2_with (refine wpList_store_row rfl 23 _ _ rfl w2.heap.size _ rfl rfl 23 _ hz info23g rfl (geom_one G B I) ?_; rw [hW3])
      go_ret
      exact ⟨rfl, H3.out.2.2.1⟩
  case pos =>
    obtain ⟨rfl, hne⟩ := hbad
    obtain ⟨hL, hmay, hnm⟩ := HK.out rfl
    obtain ⟨hr3, h3, HB3, hg3⟩ := H3.out
    have hma := hmay.all
    have hbd := Mk.mul_le' (a := G) (b := B) (m := 8) (n := 256) (by omega) (by omega) (by omega) (by omega)
    have hpos := Int.mul_pos (a := G) (b := B) (by omega) (by omega)
    have hn1 : 1 ≤ n := by omega
    have hn2 : n ≤ 2048 := by omega
    have hof := of64x_ok p n cp L W3 h3.ib hn1 hn2 hL
    have hbq : (d == gen) = false := by rw [beq_eq_false_iff_ne]; exact hne
    have HX := (show Hid (_ ∧ _ ∧ _) from ⟨hL, hmay, hnm⟩)
    clear hr3 h3 HB3 hg3 hma hbd hpos hL hmay hnm
    go_wp2_with (refine wpList_store_row rfl 23 _ _ rfl w2.heap.size _ rfl rfl 23 _ hz info23g rfl (geom_one G B I) ?_; rw [hW3])
    refine Calls.mono hof ?_
    rintro e w4 ⟨pp, dd, v, xd, y, cc, s, m, mc, p1, p2, dm, df, B4, rfl, hpr, hF, hlo, hB4, hD, hb4, hnn⟩
    obtain ⟨hr3, h3, HB3, hg3⟩ := H3.out
    obtain ⟨hL, hmay, hnm⟩ := HX.out
    have hr4 := kept_row hr3 hb4
    have hg4 := kept_row hg3 hb4
    have h4 := h3.kept hb4
    have HB4 := grew_trans' HB3 hb4
    have hve := ve_new hF hlo hB4 hD (part_sect hL h3.byt) hnn
    -- the drawn region: what is loaded, as it is there
    have hd4 : Below w4.heap.size w4 w4.drew := (Below.refl _ _).drew
    have k1 : w4.drew.cell? ⟨pp, 1, none⟩ = some (.pointer (some ⟨v, 0, none⟩)) := cell_of_row w4 _ 1 _ 56 _ hpr
    have g0 : w4.drew.cell? ⟨w2.heap.size, 0, none⟩ = some (.int .i64 G) := cell_of_row w4 _ 0 _ 23 _ hg4
    have g1 : w4.drew.cell? ⟨w2.heap.size, 1, none⟩ = some (.int .i64 B) := cell_of_row w4 _ 1 _ 23 _ hg4
    have g2 : w4.drew.cell? ⟨w2.heap.size, 2, none⟩ = some (.int .i64 I) := cell_of_row w4 _ 2 _ 23 _ hg4
    have r0 : w4.drew.cell? ⟨w.heap.size, 0, none⟩ = some (.int .i64 a) := cell_of_row w4 _ 0 _ 25 _ hr4
    have r1 : w4.drew.cell? ⟨w.heap.size, 1, none⟩ = some (.int .i64 b) := cell_of_row w4 _ 1 _ 25 _ hr4
    have r2 : w4.drew.cell? ⟨w.heap.size, 2, none⟩ = some (.int .i64 c) := cell_of_row w4 _ 2 _ 25 _ hr4
    have r3 : w4.drew.cell? ⟨w.heap.size, 3, none⟩ = some (.int .i64 d) := cell_of_row w4 _ 3 _ 25 _ hr4
    have hvh : VHas w4.drew v (n : Int) := ⟨dd, hF.row.made, hD.c0⟩
    have hdo := do_stale (w := w4.drew) (a := a) (b := b) (c := c) (d := d) (gen := gen) hvh (by omega) hmay hnm.symm (by omega) hne
    have H4 := (show Hid (_ ∧ _ ∧ _ ∧ _ ∧ _ ∧ _) from ⟨hve, hF.row, hpr, h4, HB4, hb4⟩)
    clear hof hpr hF hlo hB4 hD hb4 hnn hr3 h3 HB3 hg3 hL hmay hnm hr4 hg4 h4 HB4 hve hd4 hvh
    dsimp only
    go_wp2_with fail
    go_region_held3 (fun w' => w'.cell? ⟨pp, 1, none⟩ = some (.pointer (some ⟨v, 0, none⟩)) ∧ w'.cell? ⟨w2.heap.size, 0, none⟩ = some (.int .i64 G) ∧ w'.cell? ⟨w2.heap.size, 1, none⟩ = some (.int .i64 B) ∧ w'.cell? ⟨w2.heap.size, 2, none⟩ = some (.int .i64 I) ∧ w'.cell? ⟨w.heap.size, 0, none⟩ = some (.int .i64 a) ∧ w'.cell? ⟨w.heap.size, 1, none⟩ = some (.int .i64 b) ∧ w'.cell? ⟨w.heap.size, 2, none⟩ = some (.int .i64 c) ∧ w'.cell? ⟨w.heap.size, 3, none⟩ = some (.int .i64 d)) (first | exact ⟨k1, g0, g1, g2, r0, r1, r2, r3⟩ | exact ⟨k1', g0', g1', g2', r0', r1', r2', r3'⟩) (first | (go_at_call 5; refine Calls.mono hdo ?_; rintro e w5 ⟨rfl, hb5⟩; have k1' := (hb5.cell (p := ⟨pp, 1, none⟩) (lt_of_cell k1)).trans k1; have g0' := (hb5.cell (p := ⟨w2.heap.size, 0, none⟩) (lt_of_cell g0)).trans g0; have g1' := (hb5.cell (p := ⟨w2.heap.size, 1, none⟩) (lt_of_cell g1)).trans g1; have g2' := (hb5.cell (p := ⟨w2.heap.size, 2, none⟩) (lt_of_cell g2)).trans g2; have r0' := (hb5.cell (p := ⟨w.heap.size, 0, none⟩) (lt_of_cell r0)).trans r0; have r1' := (hb5.cell (p := ⟨w.heap.size, 1, none⟩) (lt_of_cell r1)).trans r1; have r2' := (hb5.cell (p := ⟨w.heap.size, 2, none⟩) (lt_of_cell r2)).trans r2; have r3' := (hb5.cell (p := ⟨w.heap.size, 3, none⟩) (lt_of_cell r3)).trans r3))
    obtain ⟨hve, hrow, hpr, h4, HB4, hb4⟩ := H4.out
    have hb5' : Below w4.heap.size w4 w5 := ⟨hb5.os, hb5.tape, hb5.output, hb5.size, hb5.block⟩
    have hv5 := hve.later hb5'
    have hr5 : VRow w5 v dd cc s m none := kept_row hrow hb5'
    have hp5 := kept_row hpr hb5'
    have hdi := vdirty_none hv5 hr5
    have H5 := (show Hid (_ ∧ _ ∧ _ ∧ _) from ⟨hp5, hb5', hr5, hve.lo⟩)
    clear hdo hve hrow hpr h4 HB4 hb4 hb5 hb5' hv5 hr5 hp5 g0 g1 g2 r0 r1 r2 r3 g0' g1' g2' r0' r1' r2' r3' k1 q3 hz
    go_wp2_with fail
    refine Calls.mono hdi ?_
    rintro e w6 ⟨pd, cd, rfl, hv6, hr6, hf6⟩
    obtain ⟨hp5, hb5', hr5, hlo⟩ := H5.out
    have hpv : pp ≠ v := row_ne2 hp5 (show w5.heap[v]? = some _ from hr5) (by simp)
    have hp6 : PRow w6 pp dd v xd y := (hf6.block pp (Array.getElem?_eq_some_iff.1 hp5).1 hpv).trans hp5
    have hp6' := hp6
    unfold PRow at hp6'
    have k6 : w6.cell? ⟨pp, 1, none⟩ = some (.pointer (some ⟨v, 0, none⟩)) := cell_of_row _ _ 1 _ 56 _ hp6'
    have hb4 := H4.out.2.2.2.2.2
    have hb35 : Below W3.heap.size W3 w5 := grew_trans' hb4 hb5'
    have hb36 : Below W3.heap.size W3 w6 := hb35.trans (hf6.below hb35.size (fun q hq => by subst hq; exact hlo))
    have hnow := pnow_ok hv6 hr6 hp6 (by omega) hb36.size
    have H6 := (show Hid _ from hb36)
    clear hdi hv6 hr6 hf6 hp5 hb5' hr5 hlo hpv hp6 hp6' hb4 hb35 hb36
    dsimp only
    go_wp2_with fail
    refine Calls.mono hnow ?_
    rintro e w7 ⟨u, vs, rfl, hPI, hb7⟩
    have hb37 : Below W3.heap.size W3 w7 := H6.out.trans hb7
    obtain ⟨pu, cu, rfl, hib⟩ := hPI.ib (by show n ≤ _; omega)
    rw [img_part hlen] at hib
    have hi7 := (H3.out.2.1.kept hb37).ib
    have hsi := sameImage_ok pu p n cu n cp L L w7 hib hi7
    rw [beq_self_eq_true] at hsi
    have HB7 := (show Hid _ from grew_trans' H3.out.2.2.1 hb37)
    clear hnow hPI hb7 hb37 hib hi7
    dsimp only
    go_wp2_with (first | (go_at_call 12; refine same_at hsi ?_))
    go_ret
    exact ⟨rfl, HB7.out⟩
end Go.Proofs.YtijbbkkapimljaaGreat
