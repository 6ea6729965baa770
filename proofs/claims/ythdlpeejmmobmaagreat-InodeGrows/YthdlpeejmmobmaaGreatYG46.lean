/- J23 -/
import Derived.Test.YthdlpeejmmobmaaGreatYG35
import Derived.Test.YthdlpeejmmobmaaGreatYG45
import Derived.Test.YthdlpeejmmobmaaGreatYG01

namespace Go.Proofs.YthdlpeejmmobmaaGreat
open Go.RowKit Go.Maps
open Mk.Al (putY rowOf)
set_option linter.unusedVariables false
set_option maxRecDepth 100000
def GwS (W6 wr : World) (v : Nat) (F : Nat → Prop) (g b i ino : Nat) (Hp : Nat → List Int) (mb t : Nat) : Prop :=
 ∃ (F1 : Nat → Prop) (I1 H1 : Nat → List Int) (val1 : Nat → Nat) (l1 c1 : Nat) (f : Nat → Nat), Vol wr v F1 (g * b) I1 l1 c1 ∧ Inw I1 g b i (g * b) H1 Hp val1 ∧ iB I1 b i ino = Mk.dinB 1 1 0 (val1 0 : Int) (val1 1 : Int) (val1 2 : Int) (val1 3 : Int) (val1 4 : Int) (val1 5 : Int) ∧ l1 ≤ 2 + 10 * t ∧ c1 ≤ 100 + 10000 * t ∧ Pt.Stp (FX F mb) (FX F1 mb) W6 wr ∧ Wnt wr mb t f ∧ ¬ F1 mb ∧ ∀ m, m < 4164 → f m ≠ 0 → val1 (slotOf m) = f m
def GwL (W6 : World) (v : Nat) (F : Nat → Prop) (g b i ino : Nat) (Hp : Nat → List Int) (mb n : Nat) (iv : Value) (wr : World) : Prop :=
 ∃ t : Nat, t ≤ n ∧ t ≤ 21 ∧ iv = .int .i64 (t : Int) ∧ GwS W6 wr v F g b i ino Hp mb t
set_option maxHeartbeats 16000000 in
theorem inodeGrows_walk (A B C : Int) (q : Option Addr) (n d : Nat) (xs : List Int) (w : World) (hii : Pt.II w q n xs) : Calls Tryz.prog 7 #[Mk.geomV A B C, .slice q n d] w fun e w' => e = .returned (.bool true) ∧ Below w.heap.size w w' := by
 obtain ⟨W, hW⟩ : ∃ W, w.alloc (Mk.geomO A B C) = W := ⟨_, rfl⟩
 have hb : Below w.heap.size w W := by rw [← hW]; exact Mk.grew_alloc _ _
 have hx : W.heap[w.heap.size]? = some (Mk.geomO A B C) := by rw [← hW]; exact at_new rfl
 have hsz : W.heap.size = w.heap.size + 1 := by rw [← hW]; simp
 have c0 := (g3_of hx).c0
 have c1 := (g3_of hx).c1
 have c2 := (g3_of hx).c2
 have hfr := fun w => fresh_ok A B C w
 go_enter Tryz.func7, Tryz.ntmps7
 go_wp2_with fail
 refine Calls.mono (hfr _) ?_
 rintro e w1 ⟨g, b, i, hm, hfp⟩
 obtain ⟨p, v, F, pd, px, py, rfl, hpr, hv, hF, hplo, hb1⟩ := fr_vol hfp
 have hg := geo_of hm
 have hH := hds_new hm
 have hfit := hg.fit
 have hx1 := (hb1.block _ (Array.getElem?_eq_some_iff.1 hx).1).trans hx
 obtain ⟨W2, hW2⟩ : ∃ W2, w1.setRow w.heap.size #[.int .i64 (g : Int), .int .i64 (b : Int), .int .i64 (i : Int)] = W2 := ⟨_, rfl⟩
 have hx2 : W2.heap[w.heap.size]? = some (Mk.geomO g b i) := by rw [← hW2]; exact setRow_heap _ _ _ _ _ _ hx1
 have hs1 := hb1.size
 have hb2 : Below w.heap.size w W2 := by rw [← hW2]; exact below_setRow (hb.trans (hb1.mono (by omega))) (Nat.le_refl _) _
 have ho2 : ∀ k, W.heap.size ≤ k → W2.heap[k]? = w1.heap[k]? := fun k hk => by rw [← hW2]; exact setRow_other _ _ _ _ (by omega)
 have hsz2 : W2.heap.size = w1.heap.size := by rw [← hW2]; simp [World.setRow]
 have hv2 : Vol W2 v F (g * b) (nimg g b i) 0 0 := hv.else (by omega) fun k hk => ho2 k (hF k hk).1
 have hp2 := (ho2 p hplo).trans hpr
 have hnF : ¬ F w.heap.size ∧ ¬ F p := ⟨fun hf => by have := (hF _ hf).1; omega, fun hf => (hF _ hf).2 rfl⟩
 have hR2 : R4 W2 w.heap.size p v g b i pd px py := ⟨hx2, hp2⟩
 have hFlo : ∀ k, F k → w.heap.size < k := fun k hk => by have := (hF k hk).1; omega
 have hn0 := hH.len
 have HC : Hid (Below w.heap.size w W2 ∧ R4 W2 w.heap.size p v g b i pd px py ∧ (¬ F w.heap.size ∧ ¬ F p) ∧ (∀ k, F k → w.heap.size < k) ∧ Hds (nimg g b i) g b (Mk.hdY i) ∧ Pt.II w q n xs) := ⟨hb2, hR2, hnF, hFlo, hH, hii⟩
 have HV : Hid (Vol W2 v F (g * b) (nimg g b i) 0 0) := hv2
 have h1c : (#[.int .i64 (g : Int), .int .i64 (b : Int), .int .i64 (i : Int)] : Array Value).all (·.oneCell') = true := by simp [Value.oneCell']
 have hpl := place_ok hv2 hg hH hR2.p hnF.2 (by omega) (by omega)
 obtain ⟨r0, r1, r2, r3⟩ := hR2.cells
 clear hfp hv hF hb1 hpr hb hfr hW hs1 hb2 ho2 hv2 hp2 hii hn0
 dsimp only
 go_wp2_with (first | (refine wpList_store_row rfl 23 _ _ rfl w.heap.size #[.int .i64 (g : Int), .int .i64 (b : Int), .int .i64 (i : Int)] rfl rfl 23 _ hx1 Mk.info23 rfl h1c ?_; rw [hW2]))
 refine Calls.mono hpl ?_
 intro e w5 hP
 obtain ⟨F3, c3, hc3, hst, ⟨ho, rfl, hv3⟩ | ⟨n0, i0, ho, rfl, hv3⟩⟩ := hP
 ·dsimp only
  go_wp2_with fail
  go_ret
  exact ⟨rfl, HC.out.1.trans (hst.fr.below (HC.out.1.size) (fun k hk => by have := HC.out.2.2.2.1 k hk; omega))⟩
 ·obtain ⟨hn0, hf0⟩ := ido_some (by omega) ho
  have h3 : 3 ≤ n0 * i + i0 := hpl_three hg hf0
  have hi0 : i0 < i := (frs_some hm hf0).2.1
  obtain ⟨ino, hino⟩ : ∃ ino, n0 * i + i0 = ino := ⟨_, rfl⟩
  rw [hino] at h3 hv3 ⊢
  have hiN : ino < g * i := by
   have : (n0 + 1) * i ≤ g * i := Nat.mul_le_mul_right _ hn0
   rw [Nat.add_mul, Nat.one_mul] at this
   omega
  have hib : ((ino : Int) == 0) = false := by rw [beq_eq_false_iff_ne]; omega
  have hHl := hH.len n0 hn0
  have hHy := hH.byt n0 hn0
  have hput := hds_put hH (show 1 < b by omega) n0 (Mk.Al.putY_len true hHl i0 true) (Mk.Al.putY_byt true hHy i0 true)
  have hpm := iP_mod hg hiN
  have hinw : Inw (updI (putH (nimg g b i) b n0 (putY true (Mk.hdY i n0) i0 true)) (iP b i ino) (iA i ino) (Mk.dinB 1 1 0 0 0 0 0 0 0)) g b i (g * b) (Hpl (Mk.hdY i) n0 i0) (Hpl (Mk.hdY i) n0 i0) (fun _ => 0) := inw_new (hds_else hg hput _ _ _ (by omega))
  obtain ⟨hR5, hnF3⟩ := hR2.stp hst hnF
  obtain ⟨mb, hmb⟩ : ∃ mb, w5.heap.size = mb := ⟨_, rfl⟩
  obtain ⟨W6, hW6⟩ : ∃ W6, w5.alloc (.map #[] 0) = W6 := ⟨_, rfl⟩
  have hb6 : Below w5.heap.size w5 W6 := by rw [← hW6]; exact Mk.grew_alloc _ _
  have hs6 : W6.heap.size = mb + 1 := by rw [← hW6, ← hmb]; simp
  have hwn0 : Wnt W6 mb 0 (fun _ => 0) := by rw [← hW6, ← hmb]; exact wnt_made w5
  have hmF : ¬ F3 mb := fun hf => by have := hv3.lt _ hf; omega
  have hR6 := hR5.kept hb6
  have hnX : ¬ FX F3 mb w.heap.size ∧ ¬ FX F3 mb p := ⟨fun hf => hf.elim hnF3.1 (fun e => by have := hR5.lt.1; omega), fun hf => hf.elim hnF3.2 (fun e => by have := hR5.lt.2; omega)⟩
  have hS0 : GwS W6 W6 v F3 g b i ino (Hpl (Mk.hdY i) n0 i0) mb 0 := ⟨F3, _, _, fun _ => 0, 0 + 2, c3, fun _ => 0, hv3.later hb6, hinw, iB_put (by
   have := (HV.out.sect (iP b i ino)).1
   rw [putH_else (by omega) (by omega)]; exact this) (Mk.dinB_len _ _ _ _ _ _ _ _ _), by omega, by omega, Pt.Stp.refl _ _, hwn0, hmF, fun m _ h0 => absurd rfl h0⟩
  have hbW6 : Below w.heap.size w W6 := (HC.out.1.trans (hst.fr.below (HC.out.1.size) (fun k hk => by have := HC.out.2.2.2.1 k hk; omega))).trans (hb6.mono (by have := hR5.lt.1; omega))
  have hF3lo : ∀ k, FX F3 mb k → w.heap.size ≤ k := fun k hk => hk.elim (fun h9 => (hst.new _ h9).elim (fun h8 => by have := HC.out.2.2.2.1 k h8; omega) (fun h8 => by have := HC.out.1.size; have h8 : W2.heap.size ≤ k := h8; omega)) (fun h9 => by have := hR5.lt.1; omega)
  have HB : Hid (Below w.heap.size w W6 ∧ (∀ k, FX F3 mb k → w.heap.size ≤ k) ∧ Pt.II w q n xs ∧ (¬ FX F3 mb w.heap.size ∧ ¬ FX F3 mb p) ∧ R4 W6 w.heap.size p v g b i pd px py ∧ mb < W6.heap.size) := ⟨hbW6, hF3lo, HC.out.2.2.2.2.2, hnX, hR6, by omega⟩
  clear hinw hput hpm hst hv3 hpl ho hHl hHy r0 r1 r2 r3 hb6 hs6 hwn0 hmF hR5 hR6 hnX hbW6 hF3lo hnF hnF3 HC HV hR2 hx1 hx2 h1c hW2 hFlo hH
  have hmm0 := @run_makeMap Tryz.prog
  dsimp only
  go_wp2_with fail
  clear hmb hW6 hmm0
  go_loopw [46] (fun iv wr => GwL W6 v F3 g b i ino (Hpl (Mk.hdY i) n0 i0) mb n iv wr) (fun iv _ => n - (intOf iv).toNat)
  case atStart => exact ⟨0, by omega, by omega, rfl, hS0⟩
  case round =>
   clear hS0
   obtain ⟨t, htn, ht21, rfl, F1, I1, H1, val1, l1, c1, f, hv, hinw, hib1, hl1, hc1, hst, hwn, hmF, hag⟩ := hrel
   by_cases hgo : t < n ∧ t ≤ 20
   ·obtain ⟨htn', ht20⟩ := hgo
    have htI : (t : Int) < (n : Int) := by omega
    obtain ⟨hR, hnF1⟩ := HB.out.2.2.2.2.1.stp hst HB.out.2.2.2.1
    have hnF1 : ¬ F1 w.heap.size ∧ ¬ F1 p := ⟨fun hf => hnF1.1 (.inl hf), fun hf => hnF1.2 (.inl hf)⟩
    obtain ⟨bq, oq, rfl, hcq⟩ := HB.out.2.2.1.cells (by omega)
    have hcq0 := hcq t htn'
    have hbq := Mk.lt_of_cell hcq0
    have hsW := HB.out.1.size
    have hcell : wr.cell? ⟨bq, oq + t, none⟩ = some (.int .i64 (xs.getD t 0)) := (cell_keq ((hst.fr.block bq (by omega) (fun hf => by have := HB.out.2.1 bq hf; omega)).trans (HB.out.1.block bq hbq))).trans hcq0
    obtain ⟨xt, hxt⟩ : ∃ xt, xs.getD t 0 = xt := ⟨_, rfl⟩
    rw [hxt] at hcell
    have ht20I : ¬ (20 : Int) < (t : Int) := by omega
    have hN := hv.N1.2
    have hmay := may_val (fun i hi hv => (hinw.rng i hi hv).1) hN
    have hgd := get_din hib1 hmay
    have hgt := fun (w4 : World) (hb4 : Below wr.heap.size wr w4) => iget_ok (hv.later hb4) hg hiN (by omega)
    rw [hgd.1, hgd.2] at hgt
    have hvlt := hv.lt
    have hmbr : mb < wr.heap.size := by have := hst.fr.size; have := HB.out.2.2.2.2.2; omega
    obtain ⟨mm, hmm1, hmm2, hmm3⟩ := mod_4164 xt
    have hmm2 := wrap_4164 hmm3
    have H1c : Hid (Inw I1 g b i (g * b) H1 (Hpl (Mk.hdY i) n0 i0) val1 ∧ Pt.Stp (FX F3 mb) (FX F1 mb) W6 wr ∧ iB I1 b i ino = Mk.dinB 1 1 0 (val1 0 : Int) (val1 1 : Int) (val1 2 : Int) (val1 3 : Int) (val1 4 : Int) (val1 5 : Int) ∧ Wnt wr mb t f ∧ ¬ F1 mb ∧ ∀ m, m < 4164 → f m ≠ 0 → val1 (slotOf m) = f m) := ⟨hinw, hst, hib1, hwn, hmF, hag⟩
    clear hinw hst hv hmay hib1 hgd hcq hcq0 hxt hwn hmF hag
    go_upto_region 13 with fail
    clear hcell htI ht20I hmm1
    go_cut [11, 12] (fun v11 v12 wx => v12 = .int .i64 0 ∧ ∃ x F2, v11 = .pointer (some ⟨x, 0, none⟩) ∧ wx.heap[x]? = some (dinX 1 1 0 val1) ∧ ¬ F2 x ∧ wr.heap.size ≤ x ∧ Vol wx v F2 (g * b) I1 l1 (c1 + 1) ∧ Pt.Stp F1 F2 wr wx)
    case first =>
     refine wp_region_held_drew (S := (fun w' => w'.cell? ⟨w.heap.size, 0, none⟩ = some (.int .i64 (g : Int)) ∧ w'.cell? ⟨w.heap.size, 1, none⟩ = some (.int .i64 (b : Int)) ∧ w'.cell? ⟨w.heap.size, 2, none⟩ = some (.int .i64 (i : Int)) ∧ w'.cell? ⟨p, 1, none⟩ = some (.pointer (some ⟨v, 0, none⟩)))) (by kernel_rfl) hR.cells (fun hHeld => ?_)
     refine tk 0 ⟨some 58, .move (.tmp 5), 24, "law.go:110", #[], none⟩ ?_ ?_ hHeld ?_
     rotate_left
     ·(intro w hSw; (try dsimp only at hSw); go_simp; try (with_reducible rfl))
     simp only [Act.put, sA, sZ, sS]
     refine tk 1 ⟨some 59, .nilCheck (.tmp 58), 0, "law.go:110", #[⟨0, .data⟩], none⟩ ?_ ?_ hHeld ?_
     rotate_left
     ·(intro w hSw; (try dsimp only at hSw); go_simp; try (with_reducible rfl))
     simp only [Act.put, sA, sZ, sS]
     refine tk 2 ⟨some 60, .fieldAddr 33 (.tmp 59) 1, 0, "law.go:110", #[⟨1, .data⟩], none⟩ ?_ ?_ hHeld ?_
     rotate_left
     ·(intro w hSw; (try dsimp only at hSw); go_simp; try (with_reducible rfl))
     simp only [Act.put, sA, sZ, sS]
     refine tk 3 ⟨some 61, .load 29 (.tmp 60), 29, "law.go:110", #[⟨2, .data⟩], none⟩ ?_ ?_ hHeld ?_
     rotate_left
     ·(intro w hSw; (try dsimp only at hSw); go_simp; try (with_reducible rfl))
     simp only [Act.put, sA, sZ, sS]
     refine tk 4 ⟨some 62, .load 23 (.tmp 2), 23, "law.go:110", #[], none⟩ ?_ ?_ hHeld ?_
     rotate_left
     ·(intro w hSw; (try dsimp only at hSw); go_simp; try (with_reducible rfl))
     simp only [Act.put, sA, sZ, sS]
     refine tk 5 ⟨some 63, .move (.tmp 7), 3, "law.go:110", #[], none⟩ ?_ ?_ hHeld ?_
     rotate_left
     ·(intro w hSw; (try dsimp only at hSw); go_simp; try (with_reducible rfl))
     simp only [Act.put, sA, sZ, sS]
     refine wpAnyH_ready (rs := [6, 10]) (by kernel_rfl) (by simp) ?_
     refine AllReadyH.cons (o := ⟨some 64, .call { callee := .value (.func 29), args := #[.tmp 61, .tmp 62, .tmp 63], argTypes := #[29, 23, 3] }, 76, "law.go:110", #[⟨3, .data⟩, ⟨4, .data⟩, ⟨5, .data⟩], none⟩) rfl (fun K hK => ?_) ?_
     ·rw [if_pos (by rfl)]
      go_simp
      refine Calls.mono (hgt _ (Below.refl _ _).drew) ?_
      rintro e w5 ⟨rfl, F2, hv5, hst5⟩
      dsimp only
      have hR5 : R4 w5 w.heap.size p v g b i pd px py := hR.keptIf (hst5.fr.block _ hR.lt.1 hnF1.1) (hst5.fr.block _ hR.lt.2 hnF1.2)
      refine hK.out _ _ hR5.cells (fun hHeld => ?_)
      clear hK K
      try simp only [Act.put, sA, sZ, sS]
      refine tk 7 ⟨some 57, .move (.tmp 64), 76, "law.go:110", #[⟨6, .data⟩], none⟩ ?_ ?_ hHeld ?_
      rotate_left
      ·(intro w hSw; (try dsimp only at hSw); go_simp; try (with_reducible rfl))
      simp only [Act.put, sA, sZ, sS]
      refine tk 8 ⟨some 65, .extract (.tmp 57) 0, 75, "law.go:110", #[⟨7, .data⟩], none⟩ ?_ ?_ hHeld ?_
      rotate_left
      ·(intro w hSw; (try dsimp only at hSw); go_simp; try (with_reducible rfl))
      simp only [Act.put, sA, sZ, sS]
      refine tk 9 ⟨some 66, .extract (.tmp 57) 1, 36, "law.go:110", #[⟨7, .data⟩, ⟨11, .gcOnly .lateStores⟩], none⟩ ?_ ?_ hHeld ?_
      rotate_left
      ·(intro w hSw; (try dsimp only at hSw); go_simp; try (with_reducible rfl))
      simp only [Act.put, sA, sZ, sS]
      refine wpAnyH_ready (rs := [10]) (by kernel_rfl) (by simp) ?_
      refine AllReadyH.cons (o := ⟨some 11, .alloc 75, 0, "law.go:110", #[], none⟩) rfl (fun K hK => ?_) AllReadyH.nil
      rw [if_pos (by rfl)]
      go_simp
      have hR6 := hR5.kept (Mk.grew_alloc w5 (Mk.dinO 0 0 0 0 0 0 0 0 0))
      refine hK.out _ _ hR6.cells (fun hHeld => ?_)
      clear hK K
      try simp only [Act.put, sA, sZ, sS]
      refine wpAnyH_ready (rs := [11]) (by kernel_rfl) (by simp) ?_
      refine AllReadyH.cons (o := ⟨none, .store 75 (.tmp 11) (.tmp 65), 0, "law.go:110", #[⟨10, .data⟩, ⟨8, .data⟩, ⟨6, .chain⟩, ⟨0, .phase⟩, ⟨1, .phase⟩, ⟨2, .phase⟩, ⟨3, .phase⟩, ⟨4, .phase⟩, ⟨5, .phase⟩, ⟨6, .phase⟩, ⟨7, .phase⟩, ⟨8, .phase⟩, { on := 9, ground := Ground.textOnly Departure.lateStores }, ⟨10, .phase⟩], none⟩) rfl (fun K hK => ?_) AllReadyH.nil
      rw [if_pos (by rfl)]
      refine wp_store_row 75 _ _ rfl w5.heap.size (dinC 1 1 0 val1) rfl rfl 75 _ (at_new rfl) (dinC_info 1 1 0 val1) rfl (dinC_one 1 1 0 val1) ?_
      refine hK.out _ _ (hR6.keptIf (setRow_other _ _ _ _ (by have := hR5.lt.1; omega)) (setRow_other _ _ _ _ (by have := hR5.lt.2; omega))).cells (fun hHeld => ?_)
      clear hK K
      simp only [Act.put]
      refine tk 12 ⟨some 12, .assign (.tmp 66), 36, "law.go:110", #[⟨9, .data⟩, ⟨11, .chain⟩, ⟨0, .phase⟩, ⟨1, .phase⟩, ⟨2, .phase⟩, ⟨3, .phase⟩, ⟨4, .phase⟩, ⟨5, .phase⟩, ⟨6, .phase⟩, ⟨7, .phase⟩, ⟨8, .phase⟩, ⟨9, .phase⟩, ⟨10, .phase⟩, ⟨11, .phase⟩], none⟩ ?_ ?_ hHeld ?_
      rotate_left
      ·(intro w hSw; (try dsimp only at hSw); go_simp; try (with_reducible rfl))
      simp only [Act.put, sA, sZ, sS]
      refine wpAnyH_done (by kernel_rfl) ?_ _
      go_wp2_with fail
      go_meet
      have hbz : Below w5.heap.size w5 ((w5.alloc (Mk.dinO 0 0 0 0 0 0 0 0 0)).setRow w5.heap.size (dinC 1 1 0 val1)) := below_setRow (Mk.grew_alloc _ _) (Nat.le_refl _) _
      exact ⟨rfl, w5.heap.size, F2, rfl, setRow_heap _ _ _ _ _ _ (at_new rfl), fun hf => by have := hv5.lt _ hf; omega, hst5.fr.size, hv5.later hbz, stp_grown (stp_after (Below.refl _ _).drew hst5) hbz⟩
     refine AllReadyH.cons (o := ⟨some 11, .alloc 75, 0, "law.go:110", #[], none⟩) rfl (fun K hK => ?_) AllReadyH.nil
     rw [if_pos (by rfl)]
     go_simp
     have hR6 : R4 (wr.drew.alloc (Mk.dinO 0 0 0 0 0 0 0 0 0)) w.heap.size p v g b i pd px py := hR.kept ((Below.refl _ _).drew.alloc (Nat.le_refl _) _)
     refine hK.out _ _ hR6.cells (fun hHeld => ?_)
     clear hK K
     try simp only [Act.put, sA, sZ, sS]
     refine wpAnyH_ready (rs := [6]) (by kernel_rfl) (by simp) ?_
     refine AllReadyH.cons (o := ⟨some 64, .call { callee := .value (.func 29), args := #[.tmp 61, .tmp 62, .tmp 63], argTypes := #[29, 23, 3] }, 76, "law.go:110", #[⟨3, .data⟩, ⟨4, .data⟩, ⟨5, .data⟩], none⟩) rfl (fun K hK => ?_) AllReadyH.nil
     rw [if_pos (by rfl)]
     go_simp
     refine Calls.mono (hgt _ ((Below.refl _ _).drew.alloc (Nat.le_refl _) _)) ?_
     rintro e w5 ⟨rfl, F2, hv5, hst5⟩
     dsimp only
     have hR5 : R4 w5 w.heap.size p v g b i pd px py := hR6.keptIf (hst5.fr.block _ hR6.lt.1 hnF1.1) (hst5.fr.block _ hR6.lt.2 hnF1.2)
     refine hK.out _ _ hR5.cells (fun hHeld => ?_)
     clear hK K
     try simp only [Act.put, sA, sZ, sS]
     refine tk 7 ⟨some 57, .move (.tmp 64), 76, "law.go:110", #[⟨6, .data⟩], none⟩ ?_ ?_ hHeld ?_
     rotate_left
     ·(intro w hSw; (try dsimp only at hSw); go_simp; try (with_reducible rfl))
     simp only [Act.put, sA, sZ, sS]
     refine tk 8 ⟨some 65, .extract (.tmp 57) 0, 75, "law.go:110", #[⟨7, .data⟩], none⟩ ?_ ?_ hHeld ?_
     rotate_left
     ·(intro w hSw; (try dsimp only at hSw); go_simp; try (with_reducible rfl))
     simp only [Act.put, sA, sZ, sS]
     refine tk 9 ⟨some 66, .extract (.tmp 57) 1, 36, "law.go:110", #[⟨7, .data⟩, ⟨11, .gcOnly .lateStores⟩], none⟩ ?_ ?_ hHeld ?_
     rotate_left
     ·(intro w hSw; (try dsimp only at hSw); go_simp; try (with_reducible rfl))
     simp only [Act.put, sA, sZ, sS]
     refine wpAnyH_ready (rs := [11]) (by kernel_rfl) (by simp) ?_
     refine AllReadyH.cons (o := ⟨none, .store 75 (.tmp 11) (.tmp 65), 0, "law.go:110", #[⟨10, .data⟩, ⟨8, .data⟩, ⟨6, .chain⟩, ⟨0, .phase⟩, ⟨1, .phase⟩, ⟨2, .phase⟩, ⟨3, .phase⟩, ⟨4, .phase⟩, ⟨5, .phase⟩, ⟨6, .phase⟩, ⟨7, .phase⟩, ⟨8, .phase⟩, { on := 9, ground := Ground.textOnly Departure.lateStores }, ⟨10, .phase⟩], none⟩) rfl (fun K hK => ?_) AllReadyH.nil
     rw [if_pos (by rfl)]
     have hzz : w5.heap[wr.heap.size]? = some (Mk.dinO 0 0 0 0 0 0 0 0 0) := (hst5.fr.block _ (by simp) (fun hf => by have := hvlt _ hf; omega)).trans (at_new (w := wr.drew) rfl)
     refine wp_store_row 75 _ _ rfl wr.heap.size (dinC 1 1 0 val1) rfl rfl 75 _ hzz (dinC_info 1 1 0 val1) rfl (dinC_one 1 1 0 val1) ?_
     refine hK.out _ _ (hR5.keptIf (setRow_other _ _ _ _ (by have := hR.lt.1; omega)) (setRow_other _ _ _ _ (by have := hR.lt.2; omega))).cells (fun hHeld => ?_)
     clear hK K
     simp only [Act.put]
     refine tk 12 ⟨some 12, .assign (.tmp 66), 36, "law.go:110", #[⟨9, .data⟩, ⟨11, .chain⟩, ⟨0, .phase⟩, ⟨1, .phase⟩, ⟨2, .phase⟩, ⟨3, .phase⟩, ⟨4, .phase⟩, ⟨5, .phase⟩, ⟨6, .phase⟩, ⟨7, .phase⟩, ⟨8, .phase⟩, ⟨9, .phase⟩, ⟨10, .phase⟩, ⟨11, .phase⟩], none⟩ ?_ ?_ hHeld ?_
     rotate_left
     ·(intro w hSw; (try dsimp only at hSw); go_simp; try (with_reducible rfl))
     simp only [Act.put, sA, sZ, sS]
     refine wpAnyH_done (by kernel_rfl) ?_ _
     go_wp2_with fail
     go_meet
     have hs5 : wr.heap.size + 1 ≤ w5.heap.size := (by have := hst5.fr.size; simpa using this)
     have hbz : Below wr.heap.size w5 (w5.setRow wr.heap.size (dinC 1 1 0 val1)) := below_setRow (Below.refl _ _) (Nat.le_refl _) _
     have hnz : ¬ F2 wr.heap.size := fun hf => (hst5.new _ hf).elim (fun h9 => by have := hvlt _ h9; omega) (fun h9 => by have h9 : (wr.drew.alloc (Mk.dinO 0 0 0 0 0 0 0 0 0)).heap.size ≤ wr.heap.size := h9; have e9 : (wr.drew.alloc (Mk.dinO 0 0 0 0 0 0 0 0 0)).heap.size = wr.heap.size + 1 := (by simp); omega)
     exact ⟨rfl, wr.heap.size, F2, rfl, setRow_heap _ _ _ _ _ _ hzz, hnz, Nat.le_refl _, hv5.else hbz.size (fun k hk => setRow_other _ _ _ _ (fun e => hnz (e ▸ hk))), stp_low (stp_after ((Below.refl _ _).drew.alloc (Nat.le_refl _) _) hst5) hbz⟩
    case rest =>
     obtain ⟨rfl, x0, F2, rfl, hx0, hx0F, hx0l, hv2, hst2⟩ := hcut
     rename World => w4
     obtain ⟨hR4, hnF2⟩ := hR.stp hst2 hnF1
     have hnw := pnow_ok hv2 hR4.p hnF2.2 (by omega)
     clear hgt
     go_wp2_with fail
     refine Calls.mono hnw ?_
     rintro e wn ⟨u0, vs0, Fn, rfl, hpi, hvn, hstn, hpn⟩
     obtain ⟨p9, d9, rfl, _⟩ := hpi.ib (by omega)
     obtain ⟨hRn, hnFn⟩ := hR4.stp hstn hnF2
     have hx0n := stp_out hstn (Array.getElem?_eq_some_iff.1 hx0).1 hx0F
     have hx0w := hx0n.1.trans hx0
     have hgw := fun (w5 : World) (hb5 : Below wn.heap.size wn w5) => grow_ok (hvn.later hb5) hg H1c.out.1 hiN (n := mm) hmm3 1 1 0 (by omega) (by omega)
     have hrg0 : wn.rangeAt x0 0 (dinC 1 1 0 val1).toList := range_row hx0w
     have hx0lt := hx0n.2.2
     have hx0nF := hx0n.2.1
     have hvnlt := hvn.lt
     have hst12 := stp_trans hst2 hstn
     have HN : Hid (PI w4.heap.size wn (.slice p9 (g * b) d9) (g * b) vs0 (imgL I1 (g * b)) ∧ (∀ k, pif (.slice p9 (g * b) d9) vs0 k → ¬ Fn k) ∧ Pt.Stp F1 Fn wr wn) := ⟨hpi, hpn, hst12⟩
     clear hpi hpn hst12 hst2 hstn hv2 hvn hnw hx0n
     dsimp only
     go_upto_region 17 with fail
     go_cut [14, 15, 16, 12] (fun v14 v15 v16 v12 wx => GroY wn wx v Fn (g * b) I1 l1 (c1 + 1 + g * b) g b i (Hpl (Mk.hdY i) n0 i0) val1 mm v14 v15 v16 v12)
     case first =>
      refine wp_region_held_drew (S := (fun w' => (w'.cell? ⟨w.heap.size, 0, none⟩ = some (.int .i64 (g : Int)) ∧ w'.cell? ⟨w.heap.size, 1, none⟩ = some (.int .i64 (b : Int)) ∧ w'.cell? ⟨w.heap.size, 2, none⟩ = some (.int .i64 (i : Int)) ∧ w'.cell? ⟨p, 1, none⟩ = some (.pointer (some ⟨v, 0, none⟩))) ∧ w'.rangeAt x0 0 (dinC 1 1 0 val1).toList)) (by kernel_rfl) ⟨hRn.cells, hrg0⟩ (fun hHeld => ?_)
      refine tk 0 ⟨some 72, .move (.tmp 5), 24, "law.go:115", #[], none⟩ ?_ ?_ hHeld ?_
      rotate_left
      ·(intro w hSw; (try dsimp only at hSw); go_simp; try (with_reducible rfl))
      simp only [Act.put, sA, sZ, sS]
      refine tk 1 ⟨some 73, .nilCheck (.tmp 72), 0, "law.go:115", #[⟨0, .data⟩], none⟩ ?_ ?_ hHeld ?_
      rotate_left
      ·(intro w hSw; (try dsimp only at hSw); go_simp; try (with_reducible rfl))
      simp only [Act.put, sA, sZ, sS]
      refine tk 2 ⟨some 74, .fieldAddr 33 (.tmp 73) 1, 0, "law.go:115", #[⟨1, .data⟩], none⟩ ?_ ?_ hHeld ?_
      rotate_left
      ·(intro w hSw; (try dsimp only at hSw); go_simp; try (with_reducible rfl))
      simp only [Act.put, sA, sZ, sS]
      refine tk 3 ⟨some 75, .load 29 (.tmp 74), 29, "law.go:115", #[⟨2, .data⟩], none⟩ ?_ ?_ hHeld ?_
      rotate_left
      ·(intro w hSw; (try dsimp only at hSw); go_simp; try (with_reducible rfl))
      simp only [Act.put, sA, sZ, sS]
      refine tk 4 ⟨some 76, .load 23 (.tmp 2), 23, "law.go:115", #[], none⟩ ?_ ?_ hHeld ?_
      rotate_left
      ·(intro w hSw; (try dsimp only at hSw); go_simp; try (with_reducible rfl))
      simp only [Act.put, sA, sZ, sS]
      refine tk 5 ⟨some 77, .move (.tmp 7), 3, "law.go:115", #[], none⟩ ?_ ?_ hHeld ?_
      rotate_left
      ·(intro w hSw; (try dsimp only at hSw); go_simp; try (with_reducible rfl))
      simp only [Act.put, sA, sZ, sS]
      refine wpAnyH_take (i := 6) (oi := ⟨some 78, .load 75 (.tmp 11), 75, "law.go:115", #[], none⟩) (v := .agg (dinC 1 1 0 val1)) rfl (by kernel_rfl) (by kernel_rfl) (by kernel_rfl) (fun _ _ _ h => h) (yieldsIf_load_mid (by rfl) 75 _ rfl x0 0 rfl (dinC 1 1 0 val1).toList _ (fun _ hS => hS.2) Tryz.underlying75 rfl (dinC_info 1 1 0 val1)) hHeld ?_
      simp only [Act.put, sA, sZ, sS]
      refine tk 7 ⟨some 79, .move (.tmp 10), 3, "law.go:115", #[], none⟩ ?_ ?_ hHeld ?_
      rotate_left
      ·(intro w hSw; (try dsimp only at hSw); go_simp; try (with_reducible rfl))
      simp only [Act.put, sA, sZ, sS]
      refine wpAnyH_ready (rs := [8, 14]) (by kernel_rfl) (by simp) ?_
      refine AllReadyH.cons (o := ⟨some 80, .call { callee := .value (.func 30), args := #[.tmp 75, .tmp 76, .tmp 77, .tmp 78, .tmp 79], argTypes := #[29, 23, 3, 75, 3] }, 78, "law.go:115", #[⟨3, .data⟩, ⟨4, .data⟩, ⟨5, .data⟩, ⟨6, .data⟩, ⟨7, .data⟩], none⟩) rfl (fun K hK => ?_) ?_
      ·rw [if_pos (by rfl)]
       go_simp
       refine Calls.mono (hgw _ (Below.refl _ _).drew) ?_
       intro e w5 he
       obtain ⟨bb, m, ln, sz, val2, u, er, rfl, hX⟩ := groX_of H1c.out.1 he
       dsimp only
       have hR5 : R4 w5 w.heap.size p v g b i pd px py := hRn.keptIf (hX.stp.block _ hRn.lt.1 hnFn.1) (hX.stp.block _ hRn.lt.2 hnFn.2)
       have hx5 : w5.heap[x0]? = some (dinX 1 1 0 val1) := (hX.stp.block x0 hx0lt hx0nF).trans hx0w
       have hs5 : wn.heap.size ≤ w5.heap.size := hX.stp.size
       refine hK.out _ _ ⟨hR5.cells, range_row hx5⟩ (fun hHeld => ?_)
       clear hK K
       try simp only [Act.put, sA, sZ, sS]
       refine tk 9 ⟨some 71, .move (.tmp 80), 78, "law.go:115", #[⟨8, .data⟩], none⟩ ?_ ?_ hHeld ?_
       rotate_left
       ·(intro w hSw; (try dsimp only at hSw); go_simp; try (with_reducible rfl))
       simp only [Act.put, sA, sZ, sS]
       refine tk 10 ⟨some 81, .extract (.tmp 71) 0, 3, "law.go:115", #[⟨9, .data⟩], none⟩ ?_ ?_ hHeld ?_
       rotate_left
       ·(intro w hSw; (try dsimp only at hSw); go_simp; try (with_reducible rfl))
       simp only [Act.put, sA, sZ, sS]
       refine tk 11 ⟨some 82, .extract (.tmp 71) 1, 75, "law.go:115", #[⟨9, .data⟩, ⟨15, .gcOnly .lateStores⟩], none⟩ ?_ ?_ hHeld ?_
       rotate_left
       ·(intro w hSw; (try dsimp only at hSw); go_simp; try (with_reducible rfl))
       simp only [Act.put, sA, sZ, sS]
       refine tk 12 ⟨some 83, .extract (.tmp 71) 2, 49, "law.go:115", #[⟨9, .data⟩, ⟨16, .gcOnly .lateStores⟩], none⟩ ?_ ?_ hHeld ?_
       rotate_left
       ·(intro w hSw; (try dsimp only at hSw); go_simp; try (with_reducible rfl))
       simp only [Act.put, sA, sZ, sS]
       refine tk 13 ⟨some 84, .extract (.tmp 71) 3, 36, "law.go:115", #[⟨9, .data⟩, ⟨17, .gcOnly .lateStores⟩], none⟩ ?_ ?_ hHeld ?_
       rotate_left
       ·(intro w hSw; (try dsimp only at hSw); go_simp; try (with_reducible rfl))
       simp only [Act.put, sA, sZ, sS]
       refine wpAnyH_ready (rs := [14]) (by kernel_rfl) (by simp) ?_
       refine AllReadyH.cons (o := ⟨some 15, .alloc 75, 0, "law.go:115", #[], none⟩) rfl (fun K hK => ?_) AllReadyH.nil
       rw [if_pos (by rfl)]
       go_simp
       have hR6 := hR5.kept (Mk.grew_alloc w5 (Mk.dinO 0 0 0 0 0 0 0 0 0))
       refine hK.out _ _ ⟨hR6.cells, range_row ((at_old hx5))⟩ (fun hHeld => ?_)
       clear hK K
       try simp only [Act.put, sA, sZ, sS]
       refine tk 15 ⟨some 14, .assign (.tmp 81), 3, "law.go:115", #[⟨10, .data⟩, ⟨8, .chain⟩, ⟨0, .phase⟩, ⟨1, .phase⟩, ⟨2, .phase⟩, ⟨3, .phase⟩, ⟨4, .phase⟩, ⟨5, .phase⟩, ⟨6, .phase⟩, ⟨7, .phase⟩, ⟨8, .phase⟩, ⟨9, .phase⟩, ⟨10, .phase⟩, { on := 11, ground := Ground.textOnly Departure.lateStores }, { on := 12, ground := Ground.textOnly Departure.lateStores }, { on := 13, ground := Ground.textOnly Departure.lateStores }, ⟨14, .phase⟩], none⟩ ?_ ?_ hHeld ?_
       rotate_left
       ·(intro w hSw; (try dsimp only at hSw); go_simp; try (with_reducible rfl))
       simp only [Act.put, sA, sZ, sS]
       refine wpAnyH_ready (rs := [16]) (by kernel_rfl) (by simp) ?_
       refine AllReadyH.cons (o := ⟨none, .store 75 (.tmp 15) (.tmp 82), 0, "law.go:115", #[⟨14, .data⟩, ⟨11, .data⟩, ⟨15, .chain⟩, ⟨0, .phase⟩, ⟨1, .phase⟩, ⟨2, .phase⟩, ⟨3, .phase⟩, ⟨4, .phase⟩, ⟨5, .phase⟩, ⟨6, .phase⟩, ⟨7, .phase⟩, ⟨8, .phase⟩, ⟨9, .phase⟩, ⟨10, .phase⟩, ⟨11, .phase⟩, { on := 12, ground := Ground.textOnly Departure.lateStores }, { on := 13, ground := Ground.textOnly Departure.lateStores }, ⟨14, .phase⟩, ⟨15, .phase⟩], none⟩) rfl (fun K hK => ?_) AllReadyH.nil
       rw [if_pos (by rfl)]
       refine wp_store_row 75 _ _ rfl w5.heap.size (dinC m ln sz val2) rfl rfl 75 _ (at_new rfl) (dinC_info m ln sz val2) rfl (dinC_one m ln sz val2) ?_
       refine hK.out _ _ ⟨(hR6.keptIf (setRow_other _ _ _ _ (by have := hR5.lt.1; omega)) (setRow_other _ _ _ _ (by have := hR5.lt.2; omega))).cells, range_row ((setRow_other _ _ _ _ (by omega)).trans (at_old hx5))⟩ (fun hHeld => ?_)
       clear hK K
       simp only [Act.put]
       refine tk 17 ⟨some 16, .assign (.tmp 83), 49, "law.go:115", #[⟨12, .data⟩, ⟨16, .chain⟩, ⟨0, .phase⟩, ⟨1, .phase⟩, ⟨2, .phase⟩, ⟨3, .phase⟩, ⟨4, .phase⟩, ⟨5, .phase⟩, ⟨6, .phase⟩, ⟨7, .phase⟩, ⟨8, .phase⟩, ⟨9, .phase⟩, ⟨10, .phase⟩, ⟨11, .phase⟩, ⟨12, .phase⟩, { on := 13, ground := Ground.textOnly Departure.lateStores }, ⟨14, .phase⟩, ⟨15, .phase⟩, ⟨16, .phase⟩], none⟩ ?_ ?_ hHeld ?_
       rotate_left
       ·(intro w hSw; (try dsimp only at hSw); go_simp; try (with_reducible rfl))
       simp only [Act.put, sA, sZ, sS]
       refine tk 18 ⟨some 12, .assign (.tmp 84), 36, "law.go:115", #[⟨13, .data⟩, ⟨17, .chain⟩, ⟨0, .phase⟩, ⟨1, .phase⟩, ⟨2, .phase⟩, ⟨3, .phase⟩, ⟨4, .phase⟩, ⟨5, .phase⟩, ⟨6, .phase⟩, ⟨7, .phase⟩, ⟨8, .phase⟩, ⟨9, .phase⟩, ⟨10, .phase⟩, ⟨11, .phase⟩, ⟨12, .phase⟩, ⟨13, .phase⟩, ⟨14, .phase⟩, ⟨15, .phase⟩, ⟨16, .phase⟩, ⟨17, .phase⟩], none⟩ ?_ ?_ hHeld ?_
       rotate_left
       ·(intro w hSw; (try dsimp only at hSw); go_simp; try (with_reducible rfl))
       simp only [Act.put, sA, sZ, sS]
       refine wpAnyH_done (by kernel_rfl) ?_ _
       go_wp2_with fail
       go_meet
       exact groY_call hX _ rfl
      refine AllReadyH.cons (o := ⟨some 15, .alloc 75, 0, "law.go:115", #[], none⟩) rfl (fun K hK => ?_) AllReadyH.nil
      rw [if_pos (by rfl)]
      go_simp
      have hR6 : R4 (wn.drew.alloc (Mk.dinO 0 0 0 0 0 0 0 0 0)) w.heap.size p v g b i pd px py := hRn.kept ((Below.refl _ _).drew.alloc (Nat.le_refl _) _)
      have hx6 : (wn.drew.alloc (Mk.dinO 0 0 0 0 0 0 0 0 0)).heap[x0]? = some (dinX 1 1 0 val1) := at_old (w := wn.drew) hx0w
      refine hK.out _ _ ⟨hR6.cells, range_row hx6⟩ (fun hHeld => ?_)
      clear hK K
      try simp only [Act.put, sA, sZ, sS]
      refine wpAnyH_ready (rs := [8]) (by kernel_rfl) (by simp) ?_
      refine AllReadyH.cons (o := ⟨some 80, .call { callee := .value (.func 30), args := #[.tmp 75, .tmp 76, .tmp 77, .tmp 78, .tmp 79], argTypes := #[29, 23, 3, 75, 3] }, 78, "law.go:115", #[⟨3, .data⟩, ⟨4, .data⟩, ⟨5, .data⟩, ⟨6, .data⟩, ⟨7, .data⟩], none⟩) rfl (fun K hK => ?_) AllReadyH.nil
      rw [if_pos (by rfl)]
      go_simp
      refine Calls.mono (hgw _ ((Below.refl _ _).drew.alloc (Nat.le_refl _) _)) ?_
      intro e w5 he
      obtain ⟨bb, m, ln, sz, val2, u, er, rfl, hX⟩ := groX_of H1c.out.1 he
      dsimp only
      have hR5 : R4 w5 w.heap.size p v g b i pd px py := hR6.keptIf (hX.stp.block _ hR6.lt.1 hnFn.1) (hX.stp.block _ hR6.lt.2 hnFn.2)
      have hx5 : w5.heap[x0]? = some (dinX 1 1 0 val1) := (hX.stp.block x0 (by simp; omega) hx0nF).trans hx6
      obtain ⟨hzz, hY⟩ := groY_block hX rfl hvnlt
      refine hK.out _ _ ⟨hR5.cells, range_row hx5⟩ (fun hHeld => ?_)
      clear hK K
      try simp only [Act.put, sA, sZ, sS]
      refine tk 9 ⟨some 71, .move (.tmp 80), 78, "law.go:115", #[⟨8, .data⟩], none⟩ ?_ ?_ hHeld ?_
      rotate_left
      ·(intro w hSw; (try dsimp only at hSw); go_simp; try (with_reducible rfl))
      simp only [Act.put, sA, sZ, sS]
      refine tk 10 ⟨some 81, .extract (.tmp 71) 0, 3, "law.go:115", #[⟨9, .data⟩], none⟩ ?_ ?_ hHeld ?_
      rotate_left
      ·(intro w hSw; (try dsimp only at hSw); go_simp; try (with_reducible rfl))
      simp only [Act.put, sA, sZ, sS]
      refine tk 11 ⟨some 82, .extract (.tmp 71) 1, 75, "law.go:115", #[⟨9, .data⟩, ⟨15, .gcOnly .lateStores⟩], none⟩ ?_ ?_ hHeld ?_
      rotate_left
      ·(intro w hSw; (try dsimp only at hSw); go_simp; try (with_reducible rfl))
      simp only [Act.put, sA, sZ, sS]
      refine tk 12 ⟨some 83, .extract (.tmp 71) 2, 49, "law.go:115", #[⟨9, .data⟩, ⟨16, .gcOnly .lateStores⟩], none⟩ ?_ ?_ hHeld ?_
      rotate_left
      ·(intro w hSw; (try dsimp only at hSw); go_simp; try (with_reducible rfl))
      simp only [Act.put, sA, sZ, sS]
      refine tk 13 ⟨some 84, .extract (.tmp 71) 3, 36, "law.go:115", #[⟨9, .data⟩, ⟨17, .gcOnly .lateStores⟩], none⟩ ?_ ?_ hHeld ?_
      rotate_left
      ·(intro w hSw; (try dsimp only at hSw); go_simp; try (with_reducible rfl))
      simp only [Act.put, sA, sZ, sS]
      refine tk 15 ⟨some 14, .assign (.tmp 81), 3, "law.go:115", #[⟨10, .data⟩, ⟨8, .chain⟩, ⟨0, .phase⟩, ⟨1, .phase⟩, ⟨2, .phase⟩, ⟨3, .phase⟩, ⟨4, .phase⟩, ⟨5, .phase⟩, ⟨6, .phase⟩, ⟨7, .phase⟩, ⟨8, .phase⟩, ⟨9, .phase⟩, ⟨10, .phase⟩, { on := 11, ground := Ground.textOnly Departure.lateStores }, { on := 12, ground := Ground.textOnly Departure.lateStores }, { on := 13, ground := Ground.textOnly Departure.lateStores }, ⟨14, .phase⟩], none⟩ ?_ ?_ hHeld ?_
      rotate_left
      ·(intro w hSw; (try dsimp only at hSw); go_simp; try (with_reducible rfl))
      simp only [Act.put, sA, sZ, sS]
      refine wpAnyH_ready (rs := [16]) (by kernel_rfl) (by simp) ?_
      refine AllReadyH.cons (o := ⟨none, .store 75 (.tmp 15) (.tmp 82), 0, "law.go:115", #[⟨14, .data⟩, ⟨11, .data⟩, ⟨15, .chain⟩, ⟨0, .phase⟩, ⟨1, .phase⟩, ⟨2, .phase⟩, ⟨3, .phase⟩, ⟨4, .phase⟩, ⟨5, .phase⟩, ⟨6, .phase⟩, ⟨7, .phase⟩, ⟨8, .phase⟩, ⟨9, .phase⟩, ⟨10, .phase⟩, ⟨11, .phase⟩, { on := 12, ground := Ground.textOnly Departure.lateStores }, { on := 13, ground := Ground.textOnly Departure.lateStores }, ⟨14, .phase⟩, ⟨15, .phase⟩], none⟩) rfl (fun K hK => ?_) AllReadyH.nil
      rw [if_pos (by rfl)]
      refine wp_store_row 75 _ _ rfl wn.heap.size (dinC m ln sz val2) rfl rfl 75 _ hzz (dinC_info m ln sz val2) rfl (dinC_one m ln sz val2) ?_
      refine hK.out _ _ ⟨(hR5.keptIf (setRow_other _ _ _ _ (by have := hRn.lt.1; omega)) (setRow_other _ _ _ _ (by have := hRn.lt.2; omega))).cells, range_row ((setRow_other _ _ _ _ (by omega)).trans hx5)⟩ (fun hHeld => ?_)
      clear hK K
      simp only [Act.put]
      refine tk 17 ⟨some 16, .assign (.tmp 83), 49, "law.go:115", #[⟨12, .data⟩, ⟨16, .chain⟩, ⟨0, .phase⟩, ⟨1, .phase⟩, ⟨2, .phase⟩, ⟨3, .phase⟩, ⟨4, .phase⟩, ⟨5, .phase⟩, ⟨6, .phase⟩, ⟨7, .phase⟩, ⟨8, .phase⟩, ⟨9, .phase⟩, ⟨10, .phase⟩, ⟨11, .phase⟩, ⟨12, .phase⟩, { on := 13, ground := Ground.textOnly Departure.lateStores }, ⟨14, .phase⟩, ⟨15, .phase⟩, ⟨16, .phase⟩], none⟩ ?_ ?_ hHeld ?_
      rotate_left
      ·(intro w hSw; (try dsimp only at hSw); go_simp; try (with_reducible rfl))
      simp only [Act.put, sA, sZ, sS]
      refine tk 18 ⟨some 12, .assign (.tmp 84), 36, "law.go:115", #[⟨13, .data⟩, ⟨17, .chain⟩, ⟨0, .phase⟩, ⟨1, .phase⟩, ⟨2, .phase⟩, ⟨3, .phase⟩, ⟨4, .phase⟩, ⟨5, .phase⟩, ⟨6, .phase⟩, ⟨7, .phase⟩, ⟨8, .phase⟩, ⟨9, .phase⟩, ⟨10, .phase⟩, ⟨11, .phase⟩, ⟨12, .phase⟩, ⟨13, .phase⟩, ⟨14, .phase⟩, ⟨15, .phase⟩, ⟨16, .phase⟩, ⟨17, .phase⟩], none⟩ ?_ ?_ hHeld ?_
      rotate_left
      ·(intro w hSw; (try dsimp only at hSw); go_simp; try (with_reducible rfl))
      simp only [Act.put, sA, sZ, sS]
      refine wpAnyH_done (by kernel_rfl) ?_ _
      go_wp2_with fail
      go_meet
      exact hY
     case rest =>
      obtain ⟨x1, bb, m, ln, sz, val2, er, F4, I3, H3, l3, c3', rfl, rfl, rfl, hx1', hx1F, hx1l, hv3, hl3, hc3', hst3, hr⟩ := hcut
      rename World => w5'
      obtain ⟨hR5, hnF4⟩ := hRn.stp hst3 hnFn
      have hstA : Pt.Stp (FX F3 mb) (FX F4 mb) W6 w5' := stp_trans H1c.out.2.1 (stp_fx (stp_trans HN.out.2.2 hst3))
      have hmb5 := stp_out (stp_trans HN.out.2.2 hst3) hmbr H1c.out.2.2.2.2.1
      have hwn5 : Wnt w5' mb t f := H1c.out.2.2.2.1.kept hmb5.1
      have hx05 : w5'.heap[x0]? = some (dinX 1 1 0 val1) := (stp_out hst3 hx0lt hx0nF).1.trans hx0w
      rcases hr with ⟨rfl, rfl, rfl⟩ | ⟨rfl, rfl, rfl, rfl, hinw3, hino3, hbb, hb0, hkp, hsame, q5, cp5, zs5, rfl, hii5, hq5, hk5, hz5⟩
      ·have hnw := pnow_ok hv3 hR5.p hnF4.2 (by omega)
       clear hgw
       go_wp2_with fail
       refine Calls.mono hnw ?_
       rintro e w7 ⟨u7, vs7, F7, rfl, hpi7, hv7, hst7, hpn7⟩
       obtain ⟨p7, d7, rfl, hib7⟩ := hpi7.ib (by omega)
       have hpi0 := (HN.out.1.keepF (fun k hk => (stp_out (stp_trans hst3 hst7) (HN.out.1.flt hk).2 (HN.out.2.1 k hk)).1)).ib (by omega)
       obtain ⟨p8, d8, e8, hib8⟩ := hpi0
       cases e8
       have hmb7 := stp_out hst7 hmb5.2.2 hmb5.2.1
       have HE : Hid (Vol w7 v F7 (g * b) I3 l3 (c3' + g * b) ∧ Pt.Stp (FX F3 mb) (FX F7 mb) W6 w7 ∧ Wnt w7 mb t f ∧ ¬ F7 mb) := ⟨hv7, stp_trans hstA (stp_fx hst7), hwn5.kept hmb7.1, hmb7.2.1⟩
       have hsi := sameImage_ok p7 _ _ d7 _ d9 _ _ w7 hib7 hib8
       rw [beq_self_eq_true] at hsi
       clear hib7 hib8 hpi7 hv7 hst7 hpn7 hwn5 hstA hv3 hst3 hnw
       dsimp only
       go_wp2_with fail
       refine same_at hsi ?_
       dsimp only
       go_wp2_with fail
       go_roundw
       case rel =>
        exact ⟨t + 1, by omega, by omega, by push_cast; rfl, F7, I3, H1, val1, l3, c3' + g * b, f, HE.out.1, H1c.out.1, H1c.out.2.2.1, by omega, by omega, HE.out.2.1, HE.out.2.2.1.mono (Nat.le_succ _), HE.out.2.2.2, H1c.out.2.2.2.2.2⟩
       case measure => simp [intOf]; omega
      ·have hsl := slotOf_lt hmm3
       have hb2 : val2 (slotOf mm) < g * b := (hinw3.rng _ hsl hb0).1
       have hlk := hwn5.look mm hmm3
       have hx15 : w5'.heap[x1]? = some (dinX 1 1 0 val2) := hx1'
       have hag3 : ∀ k, k < 4164 → f k ≠ 0 → val2 (slotOf k) = f k := fun k hk h0 => by
        have e := H1c.out.2.2.2.2.2 k hk h0
        rw [hkp _ (slotOf_lt hk) (by rw [e]; exact h0), e]
       obtain ⟨bn, hbn⟩ : ∃ bn, val2 (slotOf mm) = bn := ⟨_, rfl⟩
       rw [hbn] at hb0 hb2 hbb
       subst hbb
       have hbn0 : ((bn : Int) == 0) = false := by rw [beq_eq_false_iff_ne]; omega
       have hx1lt := (Array.getElem?_eq_some_iff.1 hx15).1
       have hne1 : x1 ≠ mb := by have := HN.out.2.2.fr.size; omega
       have hi75 : (Tryz.prog.info? 75).map (·.size) = some (dinC 1 1 0 val2).size := dinC_info 1 1 0 val2
       have hfm : f mm = 0 ∨ (f mm = bn ∧ val2 = val1) := by
        rcases Nat.eq_zero_or_pos (f mm) with h0 | h0
        ·exact .inl h0
        ·have e := H1c.out.2.2.2.2.2 mm hmm3 (by omega)
         have e2 := hsame (by rw [e]; omega)
         rw [e2] at hbn
         exact .inr ⟨e.symm.trans hbn, e2⟩
       have hinj : ∀ k, k < 4164 → f k = bn → k = mm := fun k hk e => by
        have e1 := hag3 k hk (by rw [e]; exact hb0)
        exact slotOf_inj (hinw3.tre.inj _ _ (slotOf_lt hk) hsl (by rw [e1, e]; exact hb0) (by rw [e1, e, hbn]))
       have H3c : Hid (Inw I3 g b i (g * b) H3 (Hpl (Mk.hdY i) n0 i0) val2 ∧ Pt.Stp (FX F3 mb) (FX F4 mb) W6 w5' ∧ Wnt w5' mb t f ∧ (¬ F4 mb ∧ mb < w5'.heap.size) ∧ (∀ k, k < 4164 → f k ≠ 0 → val2 (slotOf k) = f k) ∧ Vol w5' v F4 (g * b) I3 l3 c3' ∧ Pt.II w5' q5 zs5.length zs5 ∧ (∀ k, Pt.blkOf q5 = some k → ¬ F4 k) ∧ val2 (slotOf mm) = bn ∧ ∀ k, k < 4164 → f k = bn → k = mm) := ⟨hinw3, hstA, hwn5, ⟨hmb5.2.1, hmb5.2.2⟩, hag3, hv3, hii5, hq5, hbn, hinj⟩
       clear hinw3 hstA hmb5 hag3 hst3 hii5 hq5 hkp hino3 hgw hrg0 hv3 hbn hinj hsame hx1'
       go_upto_region 21 with fail
       go_cut [111] (fun v111 wx => v111 = .bool false ∧ wx = w5')
       case first =>
        rcases hfm with hf0 | ⟨hf0, rfl⟩
        ·rw [hf0] at hlk
         clear hx15 hx05 hi75
         go_wp2_with fail
         go_meet
         exact ⟨rfl, rfl⟩
        ·rw [hf0] at hlk
         have heq := fun w => Mk.eq45 1 1 0 (val2 0 : Int) (val2 1 : Int) (val2 2 : Int) (val2 3 : Int) (val2 4 : Int) (val2 5 : Int) 1 1 0 (val2 0 : Int) (val2 1 : Int) (val2 2 : Int) (val2 3 : Int) (val2 4 : Int) (val2 5 : Int) w
         simp only [and_self, decide_true] at heq
         go_wp2_with (first
          | (refine wpList_load_wanted (by rfl) 75 (.tmp 15) rfl x1 rfl 75 _ (0, 0) _ hx15 Tryz.underlying75 rfl hi75 ?_)
          | (refine wpList_load_wanted (by rfl) 75 (.tmp 11) rfl x0 rfl 75 _ (0, 0) _ hx05 Tryz.underlying75 rfl hi75 ?_)
          | (refine wpList_neq_wanted (by rfl) 75 (.tmp 106) (.tmp 107) rfl _ _ rfl rfl Mk.guard45 true (heq _) ?_))
         go_meet
         exact ⟨rfl, rfl⟩
       case rest =>
        obtain ⟨rfl, rfl⟩ := hcut
        clear hlk hx05 hfm
        rename World => w6
        go_wp2_with (first | (at_range; refine wpList_wnt_range _ rfl (.tmp 112) rfl H3c.out.2.2.1 rfl ?_; intro w7 cnt7 hr7 hc7 hg7 hs7))
        have hb7 : Below w6.heap.size w6 w7 := (Below.refl _ _).grown hg7 (Nat.le_refl _) (fun k hk => by cases hk)
        clear hg7 hs7
        obtain ⟨r, hr⟩ : ∃ r, w6.heap.size = r := ⟨_, rfl⟩
        rw [hr] at hr7 ⊢
        go_frame
        go_loopw [] (fun wz => ∃ cnt, WntR wz mb r t f cnt ∧ Below r w6 wz) (fun wz => wz.rangeLeft mb r)
        case atStart => exact ⟨cnt7, hr7, by rw [← hr]; exact hb7⟩
        case round =>
         clear hr7 hb7 hc7
         obtain ⟨cnt, hrg, hbz⟩ := hrel
         go_wp2_with (first
          | (at_next; refine wpList_wnt_next _ rfl (.tmp 113) rfl hrg rfl ?_ ?_))
         ·intro hc0
          obtain ⟨es9, cl9, hmap9⟩ := hrg.wnt.isMap
          have hsr := hr ▸ hbz.size
          rw [← hr] at hbz
          have hvz := H3c.out.2.2.2.2.2.1.later hbz
          have hmz := (hbz.block mb H3c.out.2.2.2.1.2)
          go_wp2_with (first | (refine wpList_wnt_put _ rfl (.tmp 127) (.tmp 128) (.tmp 129) rfl hrg.wnt (by omega) mm hmm3 bn (by omega) hb0 rfl rfl rfl ?_; intro w8 hwn8 hg8))
          have hv8 := vol_grown hvz hg8 H3c.out.2.2.2.1.1
          have hRz := hR5.kept hbz
          have hR8 := hRz.grown hg8 (fun e => HB.out.2.2.2.1.1 (.inr e)) (fun e => HB.out.2.2.2.1.2 (.inr e))
          have hx18 := row_grown (row_below hx15 hbz) hg8 hne1
          have hii8 := ii_row (H3c.out.2.2.2.2.2.2.1.kept hbz) hmap9 hg8
          have hst8 : Pt.Stp (FX F3 mb) (FX F4 mb) W6 w8 := stp_row (stp_grown H3c.out.2.1 hbz) hg8 (.inl (.inr rfl))
          have hmay2 := may_val (fun i hi hv => (H3c.out.1.rng i hi hv).1) hN
          have hpt := fun (w9 : World) (hb9 : Below w8.heap.size w8 w9) => iput_ok (hv8.later hb9) hg hiN (by omega) 1 1 0 (val2 0 : Int) (val2 1 : Int) (val2 2 : Int) (val2 3 : Int) (val2 4 : Int) (val2 5 : Int) hmay2 q5 zs5.length cp5 zs5 (hii8.kept hb9) (fun k hk e => H3c.out.2.2.2.2.2.2.2.1 k hk (e ▸ hv8.mem)) hk5 (by omega)
          obtain ⟨idn, hidn⟩ : ∃ z : Int, ((l3 + 1 : Nat) : Int) = z := ⟨_, rfl⟩
          rw [hidn] at hpt
          clear hidn
          have hrg1 : w8.rangeAt x1 0 (dinC 1 1 0 val2).toList := range_row hx18
          have hx1lt8 := (Array.getElem?_eq_some_iff.1 hx18).1
          have hlen3 := (hv8.sect (iP b i ino)).1
          have hmb8 : mb < w8.heap.size := hwn8.lt
          have H8 : Hid (Wnt w8 mb (t + 1) (updV f mm bn) ∧ Pt.Stp (FX F3 mb) (FX F4 mb) W6 w8 ∧ (I3 (iP b i ino)).length = 128 ∧ Vol w8 v F4 (g * b) I3 l3 c3' ∧ (∀ k, k < 4164 → updV f mm bn k ≠ 0 → val2 (slotOf k) = updV f mm bn k)) := ⟨hwn8, hst8, hlen3, hv8, fun k hk h0 => by
           unfold updV at h0 ⊢
           by_cases e : k = mm
           ·rw [if_pos e, e]; exact H3c.out.2.2.2.2.2.2.2.2.1
           ·rw [if_neg e] at h0 ⊢; exact H3c.out.2.2.2.2.1 k hk h0⟩
          clear hwn8 hst8 hlen3 hv8 hii8 hmay2 hrg hbz hvz hmz hmap9 hg8 hx15 hsr
          go_upto_region 29 with fail
          refine wp_region_held_drew (S := (fun w' => (w'.cell? ⟨w.heap.size, 0, none⟩ = some (.int .i64 (g : Int)) ∧ w'.cell? ⟨w.heap.size, 1, none⟩ = some (.int .i64 (b : Int)) ∧ w'.cell? ⟨w.heap.size, 2, none⟩ = some (.int .i64 (i : Int)) ∧ w'.cell? ⟨p, 1, none⟩ = some (.pointer (some ⟨v, 0, none⟩))) ∧ w'.rangeAt x1 0 (dinC 1 1 0 val2).toList)) (by kernel_rfl) ⟨hR8.cells, hrg1⟩ (fun hHeld => ?_)
          refine tk 0 ⟨some 131, .move (.tmp 5), 24, "law.go:131", #[], none⟩ ?_ ?_ hHeld ?_
          rotate_left
          ·(intro w hSw; (try dsimp only at hSw); go_simp; try (with_reducible rfl))
          simp only [Act.put, sA, sZ, sS]
          refine tk 1 ⟨some 132, .nilCheck (.tmp 131), 0, "law.go:131", #[⟨0, .data⟩], none⟩ ?_ ?_ hHeld ?_
          rotate_left
          ·(intro w hSw; (try dsimp only at hSw); go_simp; try (with_reducible rfl))
          simp only [Act.put, sA, sZ, sS]
          refine tk 2 ⟨some 133, .fieldAddr 33 (.tmp 132) 1, 0, "law.go:131", #[⟨1, .data⟩], none⟩ ?_ ?_ hHeld ?_
          rotate_left
          ·(intro w hSw; (try dsimp only at hSw); go_simp; try (with_reducible rfl))
          simp only [Act.put, sA, sZ, sS]
          refine tk 3 ⟨some 134, .load 29 (.tmp 133), 29, "law.go:131", #[⟨2, .data⟩], none⟩ ?_ ?_ hHeld ?_
          rotate_left
          ·(intro w hSw; (try dsimp only at hSw); go_simp; try (with_reducible rfl))
          simp only [Act.put, sA, sZ, sS]
          refine tk 4 ⟨some 135, .load 23 (.tmp 2), 23, "law.go:131", #[], none⟩ ?_ ?_ hHeld ?_
          rotate_left
          ·(intro w hSw; (try dsimp only at hSw); go_simp; try (with_reducible rfl))
          simp only [Act.put, sA, sZ, sS]
          refine tk 5 ⟨some 136, .move (.tmp 7), 3, "law.go:131", #[], none⟩ ?_ ?_ hHeld ?_
          rotate_left
          ·(intro w hSw; (try dsimp only at hSw); go_simp; try (with_reducible rfl))
          simp only [Act.put, sA, sZ, sS]
          refine wpAnyH_take (i := 6) (oi := ⟨some 137, .load 75 (.tmp 15), 75, "law.go:131", #[], none⟩) (v := .agg (dinC 1 1 0 val2)) rfl (by kernel_rfl) (by kernel_rfl) (by kernel_rfl) (fun _ _ _ h => h) (yieldsIf_load_mid (by rfl) 75 _ rfl x1 0 rfl (dinC 1 1 0 val2).toList _ (fun _ hS => hS.2) Tryz.underlying75 rfl (dinC_info 1 1 0 val2)) hHeld ?_
          simp only [Act.put, sA, sZ, sS]
          refine tk 7 ⟨some 138, .move (.tmp 16), 49, "law.go:131", #[], none⟩ ?_ ?_ hHeld ?_
          rotate_left
          ·(intro w hSw; (try dsimp only at hSw); go_simp; try (with_reducible rfl))
          simp only [Act.put, sA, sZ, sS]
          refine wpAnyH_ready (rs := [8]) (by kernel_rfl) (by simp) ?_
          refine AllReadyH.cons (o := ⟨some 139, .call { callee := .value (.func 32), args := #[.tmp 134, .tmp 135, .tmp 136, .tmp 137, .tmp 138], argTypes := #[29, 23, 3, 75, 49] }, 40, "law.go:131", #[⟨3, .data⟩, ⟨4, .data⟩, ⟨5, .data⟩, ⟨6, .data⟩, ⟨7, .data⟩], none⟩) rfl (fun K hK => ?_) AllReadyH.nil
          rw [if_pos (by rfl)]
          go_simp
          refine Calls.mono (hpt _ (Below.refl _ _).drew) ?_
          rintro e w10 ⟨rfl, F6, hv6, hst6⟩
          dsimp only
          have hR6 : R4 w10 w.heap.size p v g b i pd px py := hR8.keptIf (hst6.fr.block _ hR8.lt.1 hnF4.1) (hst6.fr.block _ hR8.lt.2 hnF4.2)
          have hx6 : w10.heap[x1]? = some (dinX 1 1 0 val2) := (hst6.fr.block x1 hx1lt8 hx1F).trans hx18
          refine hK.out _ _ ⟨hR6.cells, range_row hx6⟩ (fun hHeld => ?_)
          clear hK K
          try simp only [Act.put, sA, sZ, sS]
          refine tk 9 ⟨some 130, .move (.tmp 139), 40, "law.go:131", #[⟨8, .data⟩], none⟩ ?_ ?_ hHeld ?_
          rotate_left
          ·(intro w hSw; (try dsimp only at hSw); go_simp; try (with_reducible rfl))
          simp only [Act.put, sA, sZ, sS]
          refine tk 10 ⟨some 140, .extract (.tmp 130) 0, 3, "law.go:131", #[⟨9, .data⟩], none⟩ ?_ ?_ hHeld ?_
          rotate_left
          ·(intro w hSw; (try dsimp only at hSw); go_simp; try (with_reducible rfl))
          simp only [Act.put, sA, sZ, sS]
          refine tk 11 ⟨some 141, .extract (.tmp 130) 1, 36, "law.go:131", #[⟨9, .data⟩, ⟨12, .gcOnly .lateStores⟩], none⟩ ?_ ?_ hHeld ?_
          rotate_left
          ·(intro w hSw; (try dsimp only at hSw); go_simp; try (with_reducible rfl))
          simp only [Act.put, sA, sZ, sS]
          refine tk 12 ⟨some 19, .assign (.tmp 140), 3, "law.go:131", #[⟨10, .data⟩, ⟨8, .chain⟩, ⟨0, .phase⟩, ⟨1, .phase⟩, ⟨2, .phase⟩, ⟨3, .phase⟩, ⟨4, .phase⟩, ⟨5, .phase⟩, ⟨6, .phase⟩, ⟨7, .phase⟩, ⟨8, .phase⟩, ⟨9, .phase⟩, ⟨10, .phase⟩, { on := 11, ground := Ground.textOnly Departure.lateStores }], none⟩ ?_ ?_ hHeld ?_
          rotate_left
          ·(intro w hSw; (try dsimp only at hSw); go_simp; try (with_reducible rfl))
          simp only [Act.put, sA, sZ, sS]
          refine tk 13 ⟨some 20, .assign (.tmp 141), 36, "law.go:131", #[⟨11, .data⟩, ⟨12, .chain⟩, ⟨0, .phase⟩, ⟨1, .phase⟩, ⟨2, .phase⟩, ⟨3, .phase⟩, ⟨4, .phase⟩, ⟨5, .phase⟩, ⟨6, .phase⟩, ⟨7, .phase⟩, ⟨8, .phase⟩, ⟨9, .phase⟩, ⟨10, .phase⟩, ⟨11, .phase⟩, ⟨12, .phase⟩], none⟩ ?_ ?_ hHeld ?_
          rotate_left
          ·(intro w hSw; (try dsimp only at hSw); go_simp; try (with_reducible rfl))
          simp only [Act.put, sA, sZ, sS]
          refine wpAnyH_done (by kernel_rfl) ?_ _
          have hstB : Pt.Stp F4 F6 w8 w10 := stp_after (Below.refl _ _).drew hst6
          obtain ⟨hRb, hnF6⟩ := hR8.stp hstB hnF4
          have hmb10 := stp_out hstB hmb8 H3c.out.2.2.2.1.1
          have hwn10 := H8.out.1.kept hmb10.1
          have hinw6 := inw_put hg H3c.out.1 hiN (iA i ino) (Mk.dinB 1 1 0 (val2 0 : Int) (val2 1 : Int) (val2 2 : Int) (val2 3 : Int) (val2 4 : Int) (val2 5 : Int))
          obtain ⟨I6, hI6⟩ : ∃ I6, updI I3 (iP b i ino) (iA i ino) (Mk.dinB 1 1 0 (val2 0 : Int) (val2 1 : Int) (val2 2 : Int) (val2 3 : Int) (val2 4 : Int) (val2 5 : Int)) = I6 := ⟨_, rfl⟩
          have hib6 : iB I6 b i ino = Mk.dinB 1 1 0 (val2 0 : Int) (val2 1 : Int) (val2 2 : Int) (val2 3 : Int) (val2 4 : Int) (val2 5 : Int) := by rw [← hI6]; exact iB_put H8.out.2.2.1 (Mk.dinB_len _ _ _ _ _ _ _ _ _)
          rw [hI6] at hinw6 hv6
          have hx110 : w10.heap[x1]? = some (dinX 1 1 0 val2) := hx6
          have hx1F6 : ¬ F6 x1 := (stp_out hstB hx1lt8 hx1F).2.1
          have hstC : Pt.Stp (FX F3 mb) (FX F6 mb) W6 w10 := stp_trans H8.out.2.1 (stp_fx hstB)
          have H10 : Hid (Inw I6 g b i (g * b) H3 (Hpl (Mk.hdY i) n0 i0) val2 ∧ iB I6 b i ino = Mk.dinB 1 1 0 (val2 0 : Int) (val2 1 : Int) (val2 2 : Int) (val2 3 : Int) (val2 4 : Int) (val2 5 : Int) ∧ Pt.Stp (FX F3 mb) (FX F6 mb) W6 w10 ∧ Vol w10 v F6 (g * b) I6 (l3 + 1) c3' ∧ (¬ F6 mb ∧ mb < w10.heap.size) ∧ R4 w10 w.heap.size p v g b i pd px py ∧ (¬ F6 w.heap.size ∧ ¬ F6 p) ∧ w10.heap[x1]? = some (dinX 1 1 0 val2) ∧ ¬ F6 x1) := ⟨hinw6, hib6, hstC, hv6, ⟨hmb10.2.1, hmb10.2.2⟩, hRb, hnF6, hx110, hx1F6⟩
          clear hHeld hinw6 hib6 hstC hmb10 hRb hnF6 hx110 hx1F6 hstB hst6 hI6 hpt hrg1 hR6 hx6 hR8
          go_wp2_with (first | (at_range; refine wpList_wnt_range _ rfl (.tmp 144) rfl hwn10 rfl ?_; intro w11 cnt11 hr11 hc11 hg11 hs11))
          have hb11 : Below w10.heap.size w10 w11 := (Below.refl _ _).grown hg11 (Nat.le_refl _) (fun k hk => by cases hk)
          have hv11 := H10.out.2.2.2.1.later hb11
          have hnr : ¬ F6 w10.heap.size := fun hf => by have := H10.out.2.2.2.1.lt _ hf; omega
          obtain ⟨r2, hr2⟩ : ∃ r2, w10.heap.size = r2 := ⟨_, rfl⟩
          rw [hr2] at hr11 hnr ⊢
          clear hg11 hs11 hwn10 hv6
          go_frame
          go_loopw [] (fun wz => ∃ cnt F7 c7, WntR wz mb r2 (t + 1) (updV f mm bn) cnt ∧ Vol wz v F7 (g * b) I6 (l3 + 1) c7 ∧ c7 + 3 * cnt ≤ c3' + 66 ∧ Pt.Stp F6 F7 w10 wz ∧ ¬ F7 r2) (fun wz => wz.rangeLeft mb r2)
          case atStart => exact ⟨cnt11, F6, c3', hr11, hv11, by omega, stp_grown (Pt.Stp.refl _ _) hb11, hnr⟩
          case round =>
           clear hr11 hv11 hb11 hc11 hnr
           obtain ⟨cnt, F7, c7, hrg, hv7, hc7, hst7, hnr⟩ := hrel
           rename World => wz
           obtain ⟨hR7, hnF7⟩ := H10.out.2.2.2.2.2.1.stp hst7 H10.out.2.2.2.2.2.2.1
           have hx17 := stp_out hst7 (Array.getElem?_eq_some_iff.1 H10.out.2.2.2.2.2.2.2.1).1 H10.out.2.2.2.2.2.2.2.2
           have hmb7 := stp_out hst7 H10.out.2.2.2.2.1.2 H10.out.2.2.2.2.1.1
           have hx1r : x1 ≠ r2 := by have := (Array.getElem?_eq_some_iff.1 H10.out.2.2.2.2.2.2.2.1).1; omega
           have hbig : c7 + 1000 < 4611686018427387904 := by omega
           go_wp2_with (first
            | (at_next; refine wpList_wnt_next _ rfl (.tmp 145) rfl hrg rfl ?_ ?_))
           ·intro hc0
            have hx13 := hx17.1.trans H10.out.2.2.2.2.2.2.2.1
            have hrg3 : wz.rangeAt x1 0 (dinC 1 1 0 val2).toList := range_row hx13
            have hspn := fun (w13 : World) (hb13 : Below wz.heap.size wz w13) => span_ok (hv7.later hb13) hg H10.out.1.tre (fun i hi hv => (H10.out.1.rng i hi hv).1) 1 1 0 hbig
            have hsc : (nlist (span val2)).contains (bn : Int) = true := by
             have := span_slot H10.out.1.tre (slotOf_lt hmm3) (by rw [H3c.out.2.2.2.2.2.2.2.2.1]; exact hb0)
             rw [H3c.out.2.2.2.2.2.2.2.2.1] at this
             exact this
            have H13 : Hid (Pt.Stp F6 F7 w10 wz ∧ Wnt wz mb (t + 1) (updV f mm bn) ∧ (¬ F7 mb ∧ mb < wz.heap.size) ∧ (nlist (span val2)).contains (bn : Int) = true) := ⟨hst7, hrg.wnt, ⟨hmb7.2.1, hmb7.2.2⟩, hsc⟩
            have hx1F7 := hx17.2.1
            have hx1lt7 := hx17.2.2
            clear hrg hst7 hv7 hx17 hmb7 hsc
            go_upto_region 38 with fail
            refine wp_region_held_drew (S := (fun w' => (w'.cell? ⟨w.heap.size, 0, none⟩ = some (.int .i64 (g : Int)) ∧ w'.cell? ⟨w.heap.size, 1, none⟩ = some (.int .i64 (b : Int)) ∧ w'.cell? ⟨w.heap.size, 2, none⟩ = some (.int .i64 (i : Int)) ∧ w'.cell? ⟨p, 1, none⟩ = some (.pointer (some ⟨v, 0, none⟩))) ∧ w'.rangeAt x1 0 (dinC 1 1 0 val2).toList)) (by kernel_rfl) ⟨hR7.cells, hrg3⟩ (fun hHeld => ?_)
            refine tk 0 ⟨some 170, .move (.tmp 5), 24, "law.go:139", #[], none⟩ ?_ ?_ hHeld ?_
            rotate_left
            ·(intro w hSw; (try dsimp only at hSw); go_simp; try (with_reducible rfl))
            simp only [Act.put, sA, sZ, sS]
            refine tk 1 ⟨some 171, .nilCheck (.tmp 170), 0, "law.go:139", #[⟨0, .data⟩], none⟩ ?_ ?_ hHeld ?_
            rotate_left
            ·(intro w hSw; (try dsimp only at hSw); go_simp; try (with_reducible rfl))
            simp only [Act.put, sA, sZ, sS]
            refine tk 2 ⟨some 172, .fieldAddr 33 (.tmp 171) 1, 0, "law.go:139", #[⟨1, .data⟩], none⟩ ?_ ?_ hHeld ?_
            rotate_left
            ·(intro w hSw; (try dsimp only at hSw); go_simp; try (with_reducible rfl))
            simp only [Act.put, sA, sZ, sS]
            refine tk 3 ⟨some 173, .load 29 (.tmp 172), 29, "law.go:139", #[⟨2, .data⟩], none⟩ ?_ ?_ hHeld ?_
            rotate_left
            ·(intro w hSw; (try dsimp only at hSw); go_simp; try (with_reducible rfl))
            simp only [Act.put, sA, sZ, sS]
            refine tk 4 ⟨some 174, .load 23 (.tmp 2), 23, "law.go:139", #[], none⟩ ?_ ?_ hHeld ?_
            rotate_left
            ·(intro w hSw; (try dsimp only at hSw); go_simp; try (with_reducible rfl))
            simp only [Act.put, sA, sZ, sS]
            refine wpAnyH_take (i := 5) (oi := ⟨some 175, .load 75 (.tmp 15), 75, "law.go:139", #[], none⟩) (v := .agg (dinC 1 1 0 val2)) rfl (by kernel_rfl) (by kernel_rfl) (by kernel_rfl) (fun _ _ _ h => h) (yieldsIf_load_mid (by rfl) 75 _ rfl x1 0 rfl (dinC 1 1 0 val2).toList _ (fun _ hS => hS.2) Tryz.underlying75 rfl (dinC_info 1 1 0 val2)) hHeld ?_
            simp only [Act.put, sA, sZ, sS]
            refine wpAnyH_ready (rs := [6]) (by kernel_rfl) (by simp) ?_
            refine AllReadyH.cons (o := ⟨some 176, .call { callee := .value (.func 34), args := #[.tmp 173, .tmp 174, .tmp 175], argTypes := #[29, 23, 75] }, 83, "law.go:139", #[⟨3, .data⟩, ⟨4, .data⟩, ⟨5, .data⟩], none⟩) rfl (fun K hK => ?_) AllReadyH.nil
            rw [if_pos (by rfl)]
            go_simp
            refine Calls.mono (hspn _ (Below.refl _ _).drew) ?_
            rintro e w14 ⟨q9, cp9, F9, c9, rfl, hii9, hl9, hc9, hv9, hst9, hq9⟩
            dsimp only
            have hRq : R4 w14 w.heap.size p v g b i pd px py := hR7.keptIf (hst9.fr.block _ hR7.lt.1 hnF7.1) (hst9.fr.block _ hR7.lt.2 hnF7.2)
            have hxq : w14.heap[x1]? = some (dinX 1 1 0 val2) := (hst9.fr.block x1 hx1lt7 hx1F7).trans hx13
            refine hK.out _ _ ⟨hRq.cells, range_row hxq⟩ (fun hHeld => ?_)
            clear hK K
            try simp only [Act.put, sA, sZ, sS]
            refine tk 7 ⟨some 169, .move (.tmp 176), 83, "law.go:139", #[⟨6, .data⟩], none⟩ ?_ ?_ hHeld ?_
            rotate_left
            ·(intro w hSw; (try dsimp only at hSw); go_simp; try (with_reducible rfl))
            simp only [Act.put, sA, sZ, sS]
            refine tk 8 ⟨some 177, .extract (.tmp 169) 0, 49, "law.go:139", #[⟨7, .data⟩], none⟩ ?_ ?_ hHeld ?_
            rotate_left
            ·(intro w hSw; (try dsimp only at hSw); go_simp; try (with_reducible rfl))
            simp only [Act.put, sA, sZ, sS]
            refine tk 9 ⟨some 178, .extract (.tmp 169) 1, 36, "law.go:139", #[⟨7, .data⟩, ⟨10, .gcOnly .lateStores⟩], none⟩ ?_ ?_ hHeld ?_
            rotate_left
            ·(intro w hSw; (try dsimp only at hSw); go_simp; try (with_reducible rfl))
            simp only [Act.put, sA, sZ, sS]
            refine tk 10 ⟨some 25, .assign (.tmp 177), 49, "law.go:139", #[⟨8, .data⟩, ⟨6, .chain⟩, ⟨0, .phase⟩, ⟨1, .phase⟩, ⟨2, .phase⟩, ⟨3, .phase⟩, ⟨4, .phase⟩, ⟨5, .phase⟩, ⟨6, .phase⟩, ⟨7, .phase⟩, ⟨8, .phase⟩, { on := 9, ground := Ground.textOnly Departure.lateStores }], none⟩ ?_ ?_ hHeld ?_
            rotate_left
            ·(intro w hSw; (try dsimp only at hSw); go_simp; try (with_reducible rfl))
            simp only [Act.put, sA, sZ, sS]
            refine tk 11 ⟨some 12, .assign (.tmp 178), 36, "law.go:139", #[⟨9, .data⟩, ⟨10, .chain⟩, ⟨0, .phase⟩, ⟨1, .phase⟩, ⟨2, .phase⟩, ⟨3, .phase⟩, ⟨4, .phase⟩, ⟨5, .phase⟩, ⟨6, .phase⟩, ⟨7, .phase⟩, ⟨8, .phase⟩, ⟨9, .phase⟩, ⟨10, .phase⟩], none⟩ ?_ ?_ hHeld ?_
            rotate_left
            ·(intro w hSw; (try dsimp only at hSw); go_simp; try (with_reducible rfl))
            simp only [Act.put, sA, sZ, sS]
            refine wpAnyH_done (by kernel_rfl) ?_ _
            have hstD : Pt.Stp F7 F9 wz w14 := stp_after (Below.refl _ _).drew hst9
            have hmb14 := stp_out hstD H13.out.2.2.1.2 H13.out.2.2.1.1
            have hwn14 := H13.out.2.1.kept hmb14.1
            have hstE : Pt.Stp (FX F3 mb) (FX F9 mb) W6 w14 := stp_trans H10.out.2.2.1 (stp_fx (stp_trans H13.out.1 hstD))
            have hct := contains_ok (c := cp9) hii9 (bn : Int)
            rw [H13.out.2.2.2] at hct
            clear hHeld hspn hrg3 hst9
            go_wp2_with fail
            refine same_at hct ?_
            dsimp only
            go_wp2_with fail
            go_roundw
            case rel =>
             unfold GwL GwS
             exact ⟨t + 1, by omega, by omega, by push_cast; rfl, F9, I6, H3, val2, l3 + 1, c9, updV f mm bn, hv9, H10.out.1, H10.out.2.1, by omega, by omega, hstE, hwn14, hmb14.2.1, H8.out.2.2.2.2⟩
            case measure => simp [intOf]; omega
           ·intro k w12 cnt12 hk hfk hr12 hlt12 hg12 hs12 hen12
            have hv12 := vol_grown hv7 hg12 hnr
            have hrne : ∀ {k}, k < w10.heap.size → w12.heap[k]? = wz.heap[k]? := fun {k} hk => hg12.block k (by have := hst7.fr.size; omega) (fun e => by have := Option.some.inj e; omega)
            have hR12 := hR7.keptIf (hrne H10.out.2.2.2.2.2.1.lt.1) (hrne H10.out.2.2.2.2.2.1.lt.2)
            have hx12 := (hrne (Array.getElem?_eq_some_iff.1 H10.out.2.2.2.2.2.2.2.1).1).trans (hx17.1.trans H10.out.2.2.2.2.2.2.2.1)
            have hrg2 : w12.rangeAt x1 0 (dinC 1 1 0 val2).toList := range_row hx12
            have hst12 : Pt.Stp F6 F7 w10 w12 := stp_row hst7 hg12 (.inr (by omega))
            have had := fun (w13 : World) (hb13 : Below w12.heap.size w12 w13) => addr_ok (hv12.later hb13) hg H10.out.1.tre (fun i hi hv => (H10.out.1.rng i hi hv).1) 1 1 0 hk (by omega)
            rw [H8.out.2.2.2.2 k hk hfk] at had
            obtain ⟨fk, hfke⟩ : ∃ fk, updV f mm bn k = fk := ⟨_, rfl⟩
            rw [hfke] at had hen12 ⊢
            have H12 : Hid (Vol w12 v F7 (g * b) I6 (l3 + 1) c7 ∧ Pt.Stp F6 F7 w10 w12) := ⟨hv12, hst12⟩
            have hx12lt := (Array.getElem?_eq_some_iff.1 hx12).1
            clear hv12 hst12 hrne
            go_upto_region 35 with fail
            refine wp_region_held_drew (S := (fun w' => (w'.cell? ⟨w.heap.size, 0, none⟩ = some (.int .i64 (g : Int)) ∧ w'.cell? ⟨w.heap.size, 1, none⟩ = some (.int .i64 (b : Int)) ∧ w'.cell? ⟨w.heap.size, 2, none⟩ = some (.int .i64 (i : Int)) ∧ w'.cell? ⟨p, 1, none⟩ = some (.pointer (some ⟨v, 0, none⟩))) ∧ w'.rangeAt x1 0 (dinC 1 1 0 val2).toList)) (by kernel_rfl) ⟨hR12.cells, hrg2⟩ (fun hHeld => ?_)
            refine tk 0 ⟨some 152, .move (.tmp 5), 24, "law.go:135", #[], none⟩ ?_ ?_ hHeld ?_
            rotate_left
            ·(intro w hSw; (try dsimp only at hSw); go_simp; try (with_reducible rfl))
            simp only [Act.put, sA, sZ, sS]
            refine tk 1 ⟨some 153, .nilCheck (.tmp 152), 0, "law.go:135", #[⟨0, .data⟩], none⟩ ?_ ?_ hHeld ?_
            rotate_left
            ·(intro w hSw; (try dsimp only at hSw); go_simp; try (with_reducible rfl))
            simp only [Act.put, sA, sZ, sS]
            refine tk 2 ⟨some 154, .fieldAddr 33 (.tmp 153) 1, 0, "law.go:135", #[⟨1, .data⟩], none⟩ ?_ ?_ hHeld ?_
            rotate_left
            ·(intro w hSw; (try dsimp only at hSw); go_simp; try (with_reducible rfl))
            simp only [Act.put, sA, sZ, sS]
            refine tk 3 ⟨some 155, .load 29 (.tmp 154), 29, "law.go:135", #[⟨2, .data⟩], none⟩ ?_ ?_ hHeld ?_
            rotate_left
            ·(intro w hSw; (try dsimp only at hSw); go_simp; try (with_reducible rfl))
            simp only [Act.put, sA, sZ, sS]
            refine tk 4 ⟨some 156, .load 23 (.tmp 2), 23, "law.go:135", #[], none⟩ ?_ ?_ hHeld ?_
            rotate_left
            ·(intro w hSw; (try dsimp only at hSw); go_simp; try (with_reducible rfl))
            simp only [Act.put, sA, sZ, sS]
            refine wpAnyH_take (i := 5) (oi := ⟨some 157, .load 75 (.tmp 15), 75, "law.go:135", #[], none⟩) (v := .agg (dinC 1 1 0 val2)) rfl (by kernel_rfl) (by kernel_rfl) (by kernel_rfl) (fun _ _ _ h => h) (yieldsIf_load_mid (by rfl) 75 _ rfl x1 0 rfl (dinC 1 1 0 val2).toList _ (fun _ hS => hS.2) Tryz.underlying75 rfl (dinC_info 1 1 0 val2)) hHeld ?_
            simp only [Act.put, sA, sZ, sS]
            refine tk 6 ⟨some 158, .move (.tmp 21), 3, "law.go:135", #[], none⟩ ?_ ?_ hHeld ?_
            rotate_left
            ·(intro w hSw; (try dsimp only at hSw); go_simp; try (with_reducible rfl))
            simp only [Act.put, sA, sZ, sS]
            refine wpAnyH_ready (rs := [7]) (by kernel_rfl) (by simp) ?_
            refine AllReadyH.cons (o := ⟨some 159, .call { callee := .value (.func 33), args := #[.tmp 155, .tmp 156, .tmp 157, .tmp 158], argTypes := #[29, 23, 75, 3] }, 40, "law.go:135", #[⟨3, .data⟩, ⟨4, .data⟩, ⟨5, .data⟩, ⟨6, .data⟩], none⟩) rfl (fun K hK => ?_) AllReadyH.nil
            rw [if_pos (by rfl)]
            go_simp
            refine Calls.mono (had _ (Below.refl _ _).drew) ?_
            rintro e w14 ⟨rfl, F9, c9, hc9, hv9, hst9⟩
            dsimp only
            have hRq : R4 w14 w.heap.size p v g b i pd px py := hR12.keptIf (hst9.fr.block _ hR12.lt.1 hnF7.1) (hst9.fr.block _ hR12.lt.2 hnF7.2)
            have hxq : w14.heap[x1]? = some (dinX 1 1 0 val2) := (hst9.fr.block x1 hx12lt hx17.2.1).trans hx12
            refine hK.out _ _ ⟨hRq.cells, range_row hxq⟩ (fun hHeld => ?_)
            clear hK K
            try simp only [Act.put, sA, sZ, sS]
            refine tk 8 ⟨some 151, .move (.tmp 159), 40, "law.go:135", #[⟨7, .data⟩], none⟩ ?_ ?_ hHeld ?_
            rotate_left
            ·(intro w hSw; (try dsimp only at hSw); go_simp; try (with_reducible rfl))
            simp only [Act.put, sA, sZ, sS]
            refine tk 9 ⟨some 160, .extract (.tmp 151) 0, 3, "law.go:135", #[⟨8, .data⟩], none⟩ ?_ ?_ hHeld ?_
            rotate_left
            ·(intro w hSw; (try dsimp only at hSw); go_simp; try (with_reducible rfl))
            simp only [Act.put, sA, sZ, sS]
            refine tk 10 ⟨some 161, .extract (.tmp 151) 1, 36, "law.go:135", #[⟨8, .data⟩, ⟨11, .gcOnly .lateStores⟩], none⟩ ?_ ?_ hHeld ?_
            rotate_left
            ·(intro w hSw; (try dsimp only at hSw); go_simp; try (with_reducible rfl))
            simp only [Act.put, sA, sZ, sS]
            refine tk 11 ⟨some 23, .assign (.tmp 160), 3, "law.go:135", #[⟨9, .data⟩, ⟨7, .chain⟩, ⟨0, .phase⟩, ⟨1, .phase⟩, ⟨2, .phase⟩, ⟨3, .phase⟩, ⟨4, .phase⟩, ⟨5, .phase⟩, ⟨6, .phase⟩, ⟨7, .phase⟩, ⟨8, .phase⟩, ⟨9, .phase⟩, { on := 10, ground := Ground.textOnly Departure.lateStores }], none⟩ ?_ ?_ hHeld ?_
            rotate_left
            ·(intro w hSw; (try dsimp only at hSw); go_simp; try (with_reducible rfl))
            simp only [Act.put, sA, sZ, sS]
            refine tk 12 ⟨some 24, .assign (.tmp 161), 36, "law.go:135", #[⟨10, .data⟩, ⟨11, .chain⟩, ⟨0, .phase⟩, ⟨1, .phase⟩, ⟨2, .phase⟩, ⟨3, .phase⟩, ⟨4, .phase⟩, ⟨5, .phase⟩, ⟨6, .phase⟩, ⟨7, .phase⟩, ⟨8, .phase⟩, ⟨9, .phase⟩, ⟨10, .phase⟩, ⟨11, .phase⟩], none⟩ ?_ ?_ hHeld ?_
            rotate_left
            ·(intro w hSw; (try dsimp only at hSw); go_simp; try (with_reducible rfl))
            simp only [Act.put, sA, sZ, sS]
            refine wpAnyH_done (by kernel_rfl) ?_ _
            have hstD : Pt.Stp F7 F9 w12 w14 := stp_after (Below.refl _ _).drew hst9
            have hr14 := hr12.kept (stp_out hstD hr12.lt.1 hmb7.2.1).1 (stp_out hstD hr12.lt.2.1 hnr).1
            have hn14 := (stp_out hstD hr12.lt.2.1 hnr).2.1
            have hstE := stp_trans H12.out.2 hstD
            clear hHeld had hrg2 hst9
            go_wp2_with fail
            go_roundw
            case rel => exact ⟨cnt12, F9, c9, hr14, hv9, by omega, hstE, hn14⟩
            case measure => rw [hr14.left, hrg.left]; exact hlt12
         ·intro k w8 cnt8 hk hfk hr8 hlt8 hg8 hs8 hen8
          have hb8 : Below r w6 w8 := hbz.grown hg8 (by have := hbz.size; omega) (fun k hk => by cases hk; exact Nat.le_refl _)
          by_cases e : f k = bn
          ·obtain rfl := H3c.out.2.2.2.2.2.2.2.2.2 k hk e
           rw [e] at hen8
           rw [e]
           go_wp2_with fail
           go_roundw
           case rel => exact ⟨cnt8, hr8, hb8⟩
           case measure => rw [hr8.left, hrg.left]; exact hlt8
          ·have e1 : ((f k : Int) == (bn : Int)) = false := by rw [beq_eq_false_iff_ne]; omega
           go_wp2_with fail
           go_roundw
           case rel => exact ⟨cnt8, hr8, hb8⟩
           case measure => rw [hr8.left, hrg.left]; exact hlt8
   ·have hbE : Below w.heap.size w wr := HB.out.1.trans (hst.fr.below HB.out.1.size HB.out.2.1)
    rcases Nat.lt_or_ge t n with htn' | htn'
    case' inl =>
     have htI : (t : Int) < (n : Int) := by omega
     obtain ⟨bq, oq, rfl, hcq⟩ := HB.out.2.2.1.cells (by omega)
     have hcq0 := hcq t htn'
     have hbq := Mk.lt_of_cell hcq0
     have hsW := HB.out.1.size
     have hcell : wr.cell? ⟨bq, oq + t, none⟩ = some (.int .i64 (xs.getD t 0)) := (cell_keq ((hst.fr.block bq (by omega) (fun hf => by have := HB.out.2.1 bq hf; omega)).trans (HB.out.1.block bq hbq))).trans hcq0
     obtain ⟨xt, hxt⟩ : ∃ xt, xs.getD t 0 = xt := ⟨_, rfl⟩
     rw [hxt] at hcell
     have ht20I : (20 : Int) < (t : Int) := by omega
    case' inr => obtain rfl : t = n := by omega
    all_goals
     clear hv hinw hib1 hst hwn
     go_wp2_with fail
     go_ret
     exact ⟨rfl, hbE⟩
end Go.Proofs.YthdlpeejmmobmaaGreat
