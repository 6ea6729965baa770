/- J20 -/
import Derived.Test.YthdlpeejmmobmaaGreatYC45
import Derived.Test.YthdlpeejmmobmaaGreatYC35
import Derived.Test.YthdlpeejmmobmaaGreatYC01

namespace Go.Proofs.YthdlpeejmmobmaaGreat
open Go.RowKit Go.Maps
open Mk.Al (putY rowOf)
set_option linter.unusedVariables false
set_option maxRecDepth 100000
def ClS (W2 wr : World) (v : Nat) (F : Nat → Prop) (g b i ino : Nat) (Hp : Nat → List Int) (t : Nat) : Prop :=
 ∃ (F1 : Nat → Prop) (I1 H1 : Nat → List Int) (val1 : Nat → Nat) (l1 c1 : Nat), Vol wr v F1 (g * b) I1 l1 c1 ∧ Inw I1 g b i (g * b) H1 Hp val1 ∧ iB I1 b i ino = Mk.dinB 1 1 0 (val1 0 : Int) (val1 1 : Int) (val1 2 : Int) (val1 3 : Int) (val1 4 : Int) (val1 5 : Int) ∧ l1 ≤ 2 + 10 * t ∧ c1 ≤ 100 + 40 * t ∧ Pt.Stp F F1 W2 wr
def ClL (W2 : World) (v : Nat) (F : Nat → Prop) (g b i ino : Nat) (Hp : Nat → List Int) (n : Nat) (iv : Value) (wr : World) : Prop :=
 ∃ t : Nat, t ≤ n ∧ t ≤ 21 ∧ iv = .int .i64 (t : Int) ∧ ClS W2 wr v F g b i ino Hp t
set_option maxHeartbeats 16000000 in
theorem inodeClears_walk (A B C : Int) (q : Option Addr) (n d : Nat) (xs : List Int) (w : World) (hii : Pt.II w q n xs) : Calls Tryz.prog 8 #[Mk.geomV A B C, .slice q n d] w fun e w' => e = .returned (.bool true) ∧ Below w.heap.size w w' := by
 obtain ⟨W, hW⟩ : ∃ W, w.alloc (Mk.geomO A B C) = W := ⟨_, rfl⟩
 have hb : Below w.heap.size w W := by rw [← hW]; exact Mk.grew_alloc _ _
 have hx : W.heap[w.heap.size]? = some (Mk.geomO A B C) := by rw [← hW]; exact at_new rfl
 have hsz : W.heap.size = w.heap.size + 1 := by rw [← hW]; simp
 have c0 := (g3_of hx).c0
 have c1 := (g3_of hx).c1
 have c2 := (g3_of hx).c2
 have hfr := fun w => fresh_ok A B C w
 go_enter Tryz.func8, Tryz.ntmps8
 go_wp2_with fail
 refine Calls.mono (hfr _) ?_
 rintro e w1 ⟨g, b, i, hm, hfp⟩
 obtain ⟨p, v, F, pd, px, py, rfl, hpr, hv, hF, hplo, hb1⟩ := fr_vol hfp
 have hg := geo_of hm
 have hH := hds_new hm
 have hfit := hg.fit
 have hx1 := (hb1.block _ (Array.getElem?_eq_some_iff.1 hx).1).trans hx
 obtain ⟨W2, hW2⟩ : ∃ W2, w1.setRow w.heap.size #[.int .i64 (g : Int), .int .i64 (b : Int), .int .i64 (i : Int)] = W2 := ⟨_, rfl⟩
 have hx2 : W2.heap[w.heap.size]? = some (Mk.geomO g b i) := by rw [← hW2]; exact setRow_heap _ _ _ _ _ _ hx1
 have hs1 := hb1.size
 have hb2 : Below w.heap.size w W2 := by rw [← hW2]; exact below_setRow (hb.trans (hb1.mono (by omega))) (Nat.le_refl _) _
 have ho2 : ∀ k, W.heap.size ≤ k → W2.heap[k]? = w1.heap[k]? := fun k hk => by rw [← hW2]; exact setRow_other _ _ _ _ (by omega)
 have hsz2 : W2.heap.size = w1.heap.size := by rw [← hW2]; simp [World.setRow]
 have hv2 : Vol W2 v F (g * b) (nimg g b i) 0 0 := hv.else (by omega) fun k hk => ho2 k (hF k hk).1
 have hp2 := (ho2 p hplo).trans hpr
 have hnF : ¬ F w.heap.size ∧ ¬ F p := ⟨fun hf => by have := (hF _ hf).1; omega, fun hf => (hF _ hf).2 rfl⟩
 have hR2 : R4 W2 w.heap.size p v g b i pd px py := ⟨hx2, hp2⟩
 have hFlo : ∀ k, F k → w.heap.size < k := fun k hk => by have := (hF k hk).1; omega
 have hn0 := hH.len
 have HC : Hid (Below w.heap.size w W2 ∧ R4 W2 w.heap.size p v g b i pd px py ∧ (¬ F w.heap.size ∧ ¬ F p) ∧ (∀ k, F k → w.heap.size < k) ∧ Hds (nimg g b i) g b (Mk.hdY i) ∧ Pt.II w q n xs) := ⟨hb2, hR2, hnF, hFlo, hH, hii⟩
 have HV : Hid (Vol W2 v F (g * b) (nimg g b i) 0 0) := hv2
 have h1c : (#[.int .i64 (g : Int), .int .i64 (b : Int), .int .i64 (i : Int)] : Array Value).all (·.oneCell') = true := by simp [Value.oneCell']
 clear hfp hv hF hb1 hpr hb hfr hW hs1 hb2 ho2 hv2 hp2 hii hn0
 dsimp only
 go_upto_region 4 with (first | (refine wpList_store_row rfl 23 _ _ rfl w.heap.size #[.int .i64 (g : Int), .int .i64 (b : Int), .int .i64 (i : Int)] rfl rfl 23 _ hx1 Mk.info23 rfl h1c ?_; rw [hW2]))
 have hrm := fun (w4 : World) (hb4 : Below W2.heap.size W2 w4) => room_ok (HV.out.later hb4) hg hH (by omega)
 go_cut [7, 8, 9] (fun v7 v8 v9 wx => v7 = .int .i64 ((tot (Mk.hdY i) false b i g : Nat) : Int) ∧ v8 = .int .i64 ((tot (Mk.hdY i) true b i g : Nat) : Int) ∧ ∃ F2 c2, c2 ≤ 8 ∧ Vol wx v F2 (g * b) (nimg g b i) 0 c2 ∧ Pt.Stp F F2 W2 wx)
 case first =>
  refine wp_region_held_drew (S := (fun w' => w'.cell? ⟨w.heap.size, 0, none⟩ = some (.int .i64 (g : Int)) ∧ w'.cell? ⟨w.heap.size, 1, none⟩ = some (.int .i64 (b : Int)) ∧ w'.cell? ⟨w.heap.size, 2, none⟩ = some (.int .i64 (i : Int)) ∧ w'.cell? ⟨p, 1, none⟩ = some (.pointer (some ⟨v, 0, none⟩)))) (by kernel_rfl) hR2.cells (fun hHeld => ?_)
  refine tk 0 ⟨some 34, .move (.tmp 5), 24, "law.go:153", #[], none⟩ ?_ ?_ hHeld ?_
  rotate_left
  ·(intro w hSw; (try dsimp only at hSw); go_simp; try (with_reducible rfl))
  simp only [Act.put, sA, sZ, sS]
  refine tk 1 ⟨some 35, .nilCheck (.tmp 34), 0, "law.go:153", #[⟨0, .data⟩], none⟩ ?_ ?_ hHeld ?_
  rotate_left
  ·(intro w hSw; (try dsimp only at hSw); go_simp; try (with_reducible rfl))
  simp only [Act.put, sA, sZ, sS]
  refine tk 2 ⟨some 36, .fieldAddr 33 (.tmp 35) 1, 0, "law.go:153", #[⟨1, .data⟩], none⟩ ?_ ?_ hHeld ?_
  rotate_left
  ·(intro w hSw; (try dsimp only at hSw); go_simp; try (with_reducible rfl))
  simp only [Act.put, sA, sZ, sS]
  refine tk 3 ⟨some 37, .load 29 (.tmp 36), 29, "law.go:153", #[⟨2, .data⟩], none⟩ ?_ ?_ hHeld ?_
  rotate_left
  ·(intro w hSw; (try dsimp only at hSw); go_simp; try (with_reducible rfl))
  simp only [Act.put, sA, sZ, sS]
  refine tk 4 ⟨some 38, .load 23 (.tmp 2), 23, "law.go:153", #[], none⟩ ?_ ?_ hHeld ?_
  rotate_left
  ·(intro w hSw; (try dsimp only at hSw); go_simp; try (with_reducible rfl))
  simp only [Act.put, sA, sZ, sS]
  refine wpAnyH_ready (rs := [5]) (by kernel_rfl) (by simp) ?_
  refine AllReadyH.cons (o := ⟨some 39, .call { callee := .value (.func 21), args := #[.tmp 37, .tmp 38], argTypes := #[29, 23] }, 52, "law.go:153", #[⟨3, .data⟩, ⟨4, .data⟩], none⟩) rfl (fun K hK => ?_) AllReadyH.nil
  rw [if_pos (by rfl)]
  go_simp
  refine Calls.mono (hrm _ (Below.refl _ _).drew) ?_
  rintro e w5 ⟨rfl, F2, c2, hc2, hv5, hst5⟩
  dsimp only
  have hR5 : R4 w5 w.heap.size p v g b i pd px py := hR2.keptIf (hst5.fr.block _ hR2.lt.1 hnF.1) (hst5.fr.block _ hR2.lt.2 hnF.2)
  refine hK.out _ _ hR5.cells (fun hHeld => ?_)
  clear hK K
  try simp only [Act.put, sA, sZ, sS]
  refine tk 6 ⟨some 33, .move (.tmp 39), 52, "law.go:153", #[⟨5, .data⟩], none⟩ ?_ ?_ hHeld ?_
  rotate_left
  ·(intro w hSw; (try dsimp only at hSw); go_simp; try (with_reducible rfl))
  simp only [Act.put, sA, sZ, sS]
  refine tk 7 ⟨some 40, .extract (.tmp 33) 0, 3, "law.go:153", #[⟨6, .data⟩], none⟩ ?_ ?_ hHeld ?_
  rotate_left
  ·(intro w hSw; (try dsimp only at hSw); go_simp; try (with_reducible rfl))
  simp only [Act.put, sA, sZ, sS]
  refine tk 8 ⟨some 41, .extract (.tmp 33) 1, 3, "law.go:153", #[⟨6, .data⟩, ⟨10, .gcOnly .lateStores⟩], none⟩ ?_ ?_ hHeld ?_
  rotate_left
  ·(intro w hSw; (try dsimp only at hSw); go_simp; try (with_reducible rfl))
  simp only [Act.put, sA, sZ, sS]
  refine tk 9 ⟨some 42, .extract (.tmp 33) 2, 36, "law.go:153", #[⟨6, .data⟩, ⟨11, .gcOnly .lateStores⟩], none⟩ ?_ ?_ hHeld ?_
  rotate_left
  ·(intro w hSw; (try dsimp only at hSw); go_simp; try (with_reducible rfl))
  simp only [Act.put, sA, sZ, sS]
  refine tk 10 ⟨some 7, .assign (.tmp 40), 3, "law.go:153", #[⟨7, .data⟩, ⟨5, .chain⟩, ⟨0, .phase⟩, ⟨1, .phase⟩, ⟨2, .phase⟩, ⟨3, .phase⟩, ⟨4, .phase⟩, ⟨5, .phase⟩, ⟨6, .phase⟩, ⟨7, .phase⟩, { on := 8, ground := Ground.textOnly Departure.lateStores }, { on := 9, ground := Ground.textOnly Departure.lateStores }], none⟩ ?_ ?_ hHeld ?_
  rotate_left
  ·(intro w hSw; (try dsimp only at hSw); go_simp; try (with_reducible rfl))
  simp only [Act.put, sA, sZ, sS]
  refine tk 11 ⟨some 8, .assign (.tmp 41), 3, "law.go:153", #[⟨8, .data⟩, ⟨10, .chain⟩, ⟨0, .phase⟩, ⟨1, .phase⟩, ⟨2, .phase⟩, ⟨3, .phase⟩, ⟨4, .phase⟩, ⟨5, .phase⟩, ⟨6, .phase⟩, ⟨7, .phase⟩, ⟨8, .phase⟩, { on := 9, ground := Ground.textOnly Departure.lateStores }, ⟨10, .phase⟩], none⟩ ?_ ?_ hHeld ?_
  rotate_left
  ·(intro w hSw; (try dsimp only at hSw); go_simp; try (with_reducible rfl))
  simp only [Act.put, sA, sZ, sS]
  refine tk 12 ⟨some 9, .assign (.tmp 42), 36, "law.go:153", #[⟨9, .data⟩, ⟨11, .chain⟩, ⟨0, .phase⟩, ⟨1, .phase⟩, ⟨2, .phase⟩, ⟨3, .phase⟩, ⟨4, .phase⟩, ⟨5, .phase⟩, ⟨6, .phase⟩, ⟨7, .phase⟩, ⟨8, .phase⟩, ⟨9, .phase⟩, ⟨10, .phase⟩, ⟨11, .phase⟩], none⟩ ?_ ?_ hHeld ?_
  rotate_left
  ·(intro w hSw; (try dsimp only at hSw); go_simp; try (with_reducible rfl))
  simp only [Act.put, sA, sZ, sS]
  refine wpAnyH_done (by kernel_rfl) ?_ _
  go_wp2_with fail
  go_meet
  exact ⟨rfl, rfl, F2, c2, by omega, hv5, stp_after (Below.refl _ _).drew hst5⟩
 case rest =>
  obtain ⟨rfl, rfl, F2, c2, hc2, hv2, hst2⟩ := hcut
  rename World => w4
  have hR4 : R4 w4 w.heap.size p v g b i pd px py := hR2.keptIf (hst2.fr.block _ hR2.lt.1 hnF.1) (hst2.fr.block _ hR2.lt.2 hnF.2)
  have hnF2 : ¬ F2 w.heap.size ∧ ¬ F2 p := ⟨fun hf => (hst2.new _ hf).elim hnF.1 (fun h9 => by have := hR2.lt.1; have h9 : W2.heap.size ≤ w.heap.size := h9; omega), fun hf => (hst2.new _ hf).elim hnF.2 (fun h9 => by have := hR2.lt.2; have h9 : W2.heap.size ≤ p := h9; omega)⟩
  have hpl := place_ok hv2 hg hH hR4.p hnF2.2 (by omega) (by omega)
  obtain ⟨r0, r1, r2, r3⟩ := hR4.cells
  have HS2 : Hid (Pt.Stp F F2 W2 w4) := hst2
  clear hv2 hst2 hnF2
  go_wp2_with fail
  refine Calls.mono hpl ?_
  intro e w5 hP
  obtain ⟨F3, c3, hc3, hst3, ⟨ho, rfl, hv3⟩ | ⟨n0, i0, ho, rfl, hv3⟩⟩ := hP
  ·dsimp only
   go_wp2_with fail
   go_ret
   have hst := stp_trans HS2.out hst3
   exact ⟨rfl, HC.out.1.trans (hst.fr.below (HC.out.1.size) (fun k hk => by have := HC.out.2.2.2.1 k hk; omega))⟩
  ·obtain ⟨hn0, hf0⟩ := ido_some (by omega) ho
   have h3 : 3 ≤ n0 * i + i0 := hpl_three hg hf0
   have hi0 : i0 < i := (frs_some hm hf0).2.1
   obtain ⟨ino, hino⟩ : ∃ ino, n0 * i + i0 = ino := ⟨_, rfl⟩
   obtain ⟨dv1, dv2⟩ := div_at (n := n0) hi0
   rw [hino] at h3 hv3 dv1 dv2 ⊢
   have hiN : ino < g * i := by
    have : (n0 + 1) * i ≤ g * i := Nat.mul_le_mul_right _ hn0
    rw [Nat.add_mul, Nat.one_mul] at this
    omega
   have hib : ((ino : Int) == 0) = false := by rw [beq_eq_false_iff_ne]; omega
   have hst := stp_trans HS2.out hst3
   have hHl := hH.len n0 hn0
   have hHy := hH.byt n0 hn0
   have hput := hds_put hH (show 1 < b by omega) n0 (Mk.Al.putY_len true hHl i0 true) (Mk.Al.putY_byt true hHy i0 true)
   have hpm := iP_mod hg hiN
   have hinw : Inw (updI (putH (nimg g b i) b n0 (putY true (Mk.hdY i n0) i0 true)) (iP b i ino) (iA i ino) (Mk.dinB 1 1 0 0 0 0 0 0 0)) g b i (g * b) (Hpl (Mk.hdY i) n0 i0) (Hpl (Mk.hdY i) n0 i0) (fun _ => 0) := inw_new (hds_else hg hput _ _ _ (by omega))
   have hS0 : ClS W2 w5 v F g b i ino (Hpl (Mk.hdY i) n0 i0) 0 := ⟨F3, _, _, fun _ => 0, 0 + 2, c3, hv3, hinw, iB_put (by
    have := (HV.out.sect (iP b i ino)).1
    rw [putH_else (by omega) (by omega)]; exact this) (Mk.dinB_len _ _ _ _ _ _ _ _ _), by omega, by omega, hst⟩
   have HI : Hid (n0 < g ∧ frs (Mk.hdY i) true b i n0 = some i0 ∧ n0 * i + i0 = ino ∧ ino / i = n0 ∧ ino % i = i0 ∧ 3 ≤ ino ∧ (Mk.hdY i n0).length = 40 ∧ Mk.Num.Byt (Mk.hdY i n0)) := ⟨hn0, hf0, hino, dv1, dv2, h3, hHl, hHy⟩
   clear hinw hput hpm hst hst3 hv3 hpl ho hHl hHy dv1 dv2 r0 r1 r2 r3 hR4 hrm
   dsimp only
   go_wp2_with fail
   go_loopw [54] (fun iv wr => ClL W2 v F g b i ino (Hpl (Mk.hdY i) n0 i0) n iv wr) (fun iv _ => n - (intOf iv).toNat)
   case atStart => exact ⟨0, by omega, by omega, rfl, hS0⟩
   case round =>
    clear hS0
    obtain ⟨t, htn, ht21, rfl, F1, I1, H1, val1, l1, c1, hv, hinw, hib1, hl1, hc1, hst⟩ := hrel
    have hS : ClS W2 wr v F g b i ino (Hpl (Mk.hdY i) n0 i0) t := ⟨F1, I1, H1, val1, l1, c1, hv, hinw, hib1, hl1, hc1, hst⟩
    by_cases hgo : t < n ∧ t ≤ 20
    ·obtain ⟨htn', ht20⟩ := hgo
     have htI : (t : Int) < (n : Int) := by omega
     have hnF1 : ¬ F1 w.heap.size ∧ ¬ F1 p := ⟨fun hf => (hst.new _ hf).elim hnF.1 (fun h9 => by have := hR2.lt.1; have h9 : W2.heap.size ≤ w.heap.size := h9; omega), fun hf => (hst.new _ hf).elim hnF.2 (fun h9 => by have := hR2.lt.2; have h9 : W2.heap.size ≤ p := h9; omega)⟩
     have hR : R4 wr w.heap.size p v g b i pd px py := hR2.keptIf (hst.fr.block _ hR2.lt.1 hnF.1) (hst.fr.block _ hR2.lt.2 hnF.2)
     obtain ⟨bq, oq, rfl, hcq⟩ := HC.out.2.2.2.2.2.cells (by omega)
     have hcq0 := hcq t htn'
     have hbq := Mk.lt_of_cell hcq0
     have hsW := HC.out.1.size
     have hcell : wr.cell? ⟨bq, oq + t, none⟩ = some (.int .i64 (xs.getD t 0)) := (cell_keq ((hst.fr.block bq (by omega) (fun hf => by have := HC.out.2.2.2.1 bq hf; omega)).trans (HC.out.1.block bq hbq))).trans hcq0
     obtain ⟨xt, hxt⟩ : ∃ xt, xs.getD t 0 = xt := ⟨_, rfl⟩
     rw [hxt] at hcell
     have ht20I : ¬ (20 : Int) < (t : Int) := by omega
     have hN := hv.N1.2
     have hmay := may_val (fun i hi hv => (hinw.rng i hi hv).1) hN
     have hgd := get_din hib1 hmay
     have hgt := fun (w4 : World) (hb4 : Below wr.heap.size wr w4) => iget_ok (hv.later hb4) hg hiN (by omega)
     rw [hgd.1, hgd.2] at hgt
     have hsz1 := hst.fr.size
     have hvlt := hv.lt
     obtain ⟨mm, hmm1, hmm2, hmm3⟩ := mod_4164 xt
     have HM : Hid ((IntKind.u64.wrap xt).tmod 4164 = (mm : Int) ∧ IntKind.i64.wrap (mm : Int) = (mm : Int) ∧ mm < 4164) := ⟨hmm1, wrap_4164 hmm3, hmm3⟩
     have H1c : Hid (Inw I1 g b i (g * b) H1 (Hpl (Mk.hdY i) n0 i0) val1 ∧ Pt.Stp F F1 W2 wr ∧ Vol wr v F1 (g * b) I1 l1 c1 ∧ True ∧ iB I1 b i ino = Mk.dinB 1 1 0 (val1 0 : Int) (val1 1 : Int) (val1 2 : Int) (val1 3 : Int) (val1 4 : Int) (val1 5 : Int)) := ⟨hinw, hst, hv, trivial, hib1⟩
     clear hmm1 hmm2 hS hinw hst hv hmay hib1 hgd hcq hcq0 hxt
     go_upto_region 12 with fail
     go_cut [13, 14] (fun v13 v14 wx => v14 = .int .i64 0 ∧ ∃ x F2, v13 = .pointer (some ⟨x, 0, none⟩) ∧ wx.heap[x]? = some (dinX 1 1 0 val1) ∧ ¬ F2 x ∧ wr.heap.size ≤ x ∧ Vol wx v F2 (g * b) I1 l1 (c1 + 1) ∧ Pt.Stp F1 F2 wr wx)
     case first =>
      refine wp_region_held_drew (S := (fun w' => w'.cell? ⟨w.heap.size, 0, none⟩ = some (.int .i64 (g : Int)) ∧ w'.cell? ⟨w.heap.size, 1, none⟩ = some (.int .i64 (b : Int)) ∧ w'.cell? ⟨w.heap.size, 2, none⟩ = some (.int .i64 (i : Int)) ∧ w'.cell? ⟨p, 1, none⟩ = some (.pointer (some ⟨v, 0, none⟩)))) (by kernel_rfl) hR.cells (fun hHeld => ?_)
      refine tk 0 ⟨some 62, .move (.tmp 5), 24, "law.go:162", #[], none⟩ ?_ ?_ hHeld ?_
      rotate_left
      ·(intro w hSw; (try dsimp only at hSw); go_simp; try (with_reducible rfl))
      simp only [Act.put, sA, sZ, sS]
      refine tk 1 ⟨some 63, .nilCheck (.tmp 62), 0, "law.go:162", #[⟨0, .data⟩], none⟩ ?_ ?_ hHeld ?_
      rotate_left
      ·(intro w hSw; (try dsimp only at hSw); go_simp; try (with_reducible rfl))
      simp only [Act.put, sA, sZ, sS]
      refine tk 2 ⟨some 64, .fieldAddr 33 (.tmp 63) 1, 0, "law.go:162", #[⟨1, .data⟩], none⟩ ?_ ?_ hHeld ?_
      rotate_left
      ·(intro w hSw; (try dsimp only at hSw); go_simp; try (with_reducible rfl))
      simp only [Act.put, sA, sZ, sS]
      refine tk 3 ⟨some 65, .load 29 (.tmp 64), 29, "law.go:162", #[⟨2, .data⟩], none⟩ ?_ ?_ hHeld ?_
      rotate_left
      ·(intro w hSw; (try dsimp only at hSw); go_simp; try (with_reducible rfl))
      simp only [Act.put, sA, sZ, sS]
      refine tk 4 ⟨some 66, .load 23 (.tmp 2), 23, "law.go:162", #[], none⟩ ?_ ?_ hHeld ?_
      rotate_left
      ·(intro w hSw; (try dsimp only at hSw); go_simp; try (with_reducible rfl))
      simp only [Act.put, sA, sZ, sS]
      refine tk 5 ⟨some 67, .move (.tmp 10), 3, "law.go:162", #[], none⟩ ?_ ?_ hHeld ?_
      rotate_left
      ·(intro w hSw; (try dsimp only at hSw); go_simp; try (with_reducible rfl))
      simp only [Act.put, sA, sZ, sS]
      refine wpAnyH_ready (rs := [6, 10]) (by kernel_rfl) (by simp) ?_
      refine AllReadyH.cons (o := ⟨some 68, .call { callee := .value (.func 29), args := #[.tmp 65, .tmp 66, .tmp 67], argTypes := #[29, 23, 3] }, 76, "law.go:162", #[⟨3, .data⟩, ⟨4, .data⟩, ⟨5, .data⟩], none⟩) rfl (fun K hK => ?_) ?_
      ·rw [if_pos (by rfl)]
       go_simp
       refine Calls.mono (hgt _ (Below.refl _ _).drew) ?_
       rintro e w5 ⟨rfl, F2, hv5, hst5⟩
       dsimp only
       have hR5 : R4 w5 w.heap.size p v g b i pd px py := hR.keptIf (hst5.fr.block _ hR.lt.1 hnF1.1) (hst5.fr.block _ hR.lt.2 hnF1.2)
       refine hK.out _ _ hR5.cells (fun hHeld => ?_)
       clear hK K
       try simp only [Act.put, sA, sZ, sS]
       refine tk 7 ⟨some 61, .move (.tmp 68), 76, "law.go:162", #[⟨6, .data⟩], none⟩ ?_ ?_ hHeld ?_
       rotate_left
       ·(intro w hSw; (try dsimp only at hSw); go_simp; try (with_reducible rfl))
       simp only [Act.put, sA, sZ, sS]
       refine tk 8 ⟨some 69, .extract (.tmp 61) 0, 75, "law.go:162", #[⟨7, .data⟩], none⟩ ?_ ?_ hHeld ?_
       rotate_left
       ·(intro w hSw; (try dsimp only at hSw); go_simp; try (with_reducible rfl))
       simp only [Act.put, sA, sZ, sS]
       refine tk 9 ⟨some 70, .extract (.tmp 61) 1, 36, "law.go:162", #[⟨7, .data⟩, ⟨11, .gcOnly .lateStores⟩], none⟩ ?_ ?_ hHeld ?_
       rotate_left
       ·(intro w hSw; (try dsimp only at hSw); go_simp; try (with_reducible rfl))
       simp only [Act.put, sA, sZ, sS]
       refine wpAnyH_ready (rs := [10]) (by kernel_rfl) (by simp) ?_
       refine AllReadyH.cons (o := ⟨some 13, .alloc 75, 0, "law.go:162", #[], none⟩) rfl (fun K hK => ?_) AllReadyH.nil
       rw [if_pos (by rfl)]
       go_simp
       have hR6 := hR5.kept (Mk.grew_alloc w5 (Mk.dinO 0 0 0 0 0 0 0 0 0))
       refine hK.out _ _ hR6.cells (fun hHeld => ?_)
       clear hK K
       try simp only [Act.put, sA, sZ, sS]
       refine wpAnyH_ready (rs := [11]) (by kernel_rfl) (by simp) ?_
       refine AllReadyH.cons (o := ⟨none, .store 75 (.tmp 13) (.tmp 69), 0, "law.go:162", #[⟨10, .data⟩, ⟨8, .data⟩, ⟨6, .chain⟩, ⟨0, .phase⟩, ⟨1, .phase⟩, ⟨2, .phase⟩, ⟨3, .phase⟩, ⟨4, .phase⟩, ⟨5, .phase⟩, ⟨6, .phase⟩, ⟨7, .phase⟩, ⟨8, .phase⟩, { on := 9, ground := Ground.textOnly Departure.lateStores }, ⟨10, .phase⟩], none⟩) rfl (fun K hK => ?_) AllReadyH.nil
       rw [if_pos (by rfl)]
       refine wp_store_row 75 _ _ rfl w5.heap.size (dinC 1 1 0 val1) rfl rfl 75 _ (at_new rfl) (dinC_info 1 1 0 val1) rfl (dinC_one 1 1 0 val1) ?_
       refine hK.out _ _ (hR6.keptIf (setRow_other _ _ _ _ (by have := hR5.lt.1; omega)) (setRow_other _ _ _ _ (by have := hR5.lt.2; omega))).cells (fun hHeld => ?_)
       clear hK K
       simp only [Act.put]
       refine tk 12 ⟨some 14, .assign (.tmp 70), 36, "law.go:162", #[⟨9, .data⟩, ⟨11, .chain⟩, ⟨0, .phase⟩, ⟨1, .phase⟩, ⟨2, .phase⟩, ⟨3, .phase⟩, ⟨4, .phase⟩, ⟨5, .phase⟩, ⟨6, .phase⟩, ⟨7, .phase⟩, ⟨8, .phase⟩, ⟨9, .phase⟩, ⟨10, .phase⟩, ⟨11, .phase⟩], none⟩ ?_ ?_ hHeld ?_
       rotate_left
       ·(intro w hSw; (try dsimp only at hSw); go_simp; try (with_reducible rfl))
       simp only [Act.put, sA, sZ, sS]
       refine wpAnyH_done (by kernel_rfl) ?_ _
       go_wp2_with fail
       go_meet
       have hbz : Below w5.heap.size w5 ((w5.alloc (Mk.dinO 0 0 0 0 0 0 0 0 0)).setRow w5.heap.size (dinC 1 1 0 val1)) := below_setRow (Mk.grew_alloc _ _) (Nat.le_refl _) _
       exact ⟨rfl, w5.heap.size, F2, rfl, setRow_heap _ _ _ _ _ _ (at_new rfl), fun hf => by have := hv5.lt _ hf; omega, hst5.fr.size, hv5.later hbz, stp_grown (stp_after (Below.refl _ _).drew hst5) hbz⟩
      refine AllReadyH.cons (o := ⟨some 13, .alloc 75, 0, "law.go:162", #[], none⟩) rfl (fun K hK => ?_) AllReadyH.nil
      rw [if_pos (by rfl)]
      go_simp
      have hR6 : R4 (wr.drew.alloc (Mk.dinO 0 0 0 0 0 0 0 0 0)) w.heap.size p v g b i pd px py := hR.kept ((Below.refl _ _).drew.alloc (Nat.le_refl _) _)
      refine hK.out _ _ hR6.cells (fun hHeld => ?_)
      clear hK K
      try simp only [Act.put, sA, sZ, sS]
      refine wpAnyH_ready (rs := [6]) (by kernel_rfl) (by simp) ?_
      refine AllReadyH.cons (o := ⟨some 68, .call { callee := .value (.func 29), args := #[.tmp 65, .tmp 66, .tmp 67], argTypes := #[29, 23, 3] }, 76, "law.go:162", #[⟨3, .data⟩, ⟨4, .data⟩, ⟨5, .data⟩], none⟩) rfl (fun K hK => ?_) AllReadyH.nil
      rw [if_pos (by rfl)]
      go_simp
      refine Calls.mono (hgt _ ((Below.refl _ _).drew.alloc (Nat.le_refl _) _)) ?_
      rintro e w5 ⟨rfl, F2, hv5, hst5⟩
      dsimp only
      have hR5 : R4 w5 w.heap.size p v g b i pd px py := hR6.keptIf (hst5.fr.block _ hR6.lt.1 hnF1.1) (hst5.fr.block _ hR6.lt.2 hnF1.2)
      refine hK.out _ _ hR5.cells (fun hHeld => ?_)
      clear hK K
      try simp only [Act.put, sA, sZ, sS]
      refine tk 7 ⟨some 61, .move (.tmp 68), 76, "law.go:162", #[⟨6, .data⟩], none⟩ ?_ ?_ hHeld ?_
      rotate_left
      ·(intro w hSw; (try dsimp only at hSw); go_simp; try (with_reducible rfl))
      simp only [Act.put, sA, sZ, sS]
      refine tk 8 ⟨some 69, .extract (.tmp 61) 0, 75, "law.go:162", #[⟨7, .data⟩], none⟩ ?_ ?_ hHeld ?_
      rotate_left
      ·(intro w hSw; (try dsimp only at hSw); go_simp; try (with_reducible rfl))
      simp only [Act.put, sA, sZ, sS]
      refine tk 9 ⟨some 70, .extract (.tmp 61) 1, 36, "law.go:162", #[⟨7, .data⟩, ⟨11, .gcOnly .lateStores⟩], none⟩ ?_ ?_ hHeld ?_
      rotate_left
      ·(intro w hSw; (try dsimp only at hSw); go_simp; try (with_reducible rfl))
      simp only [Act.put, sA, sZ, sS]
      refine wpAnyH_ready (rs := [11]) (by kernel_rfl) (by simp) ?_
      refine AllReadyH.cons (o := ⟨none, .store 75 (.tmp 13) (.tmp 69), 0, "law.go:162", #[⟨10, .data⟩, ⟨8, .data⟩, ⟨6, .chain⟩, ⟨0, .phase⟩, ⟨1, .phase⟩, ⟨2, .phase⟩, ⟨3, .phase⟩, ⟨4, .phase⟩, ⟨5, .phase⟩, ⟨6, .phase⟩, ⟨7, .phase⟩, ⟨8, .phase⟩, { on := 9, ground := Ground.textOnly Departure.lateStores }, ⟨10, .phase⟩], none⟩) rfl (fun K hK => ?_) AllReadyH.nil
      rw [if_pos (by rfl)]
      have hzz : w5.heap[wr.heap.size]? = some (Mk.dinO 0 0 0 0 0 0 0 0 0) := (hst5.fr.block _ (by simp) (fun hf => by have := hvlt _ hf; omega)).trans (at_new (w := wr.drew) rfl)
      refine wp_store_row 75 _ _ rfl wr.heap.size (dinC 1 1 0 val1) rfl rfl 75 _ hzz (dinC_info 1 1 0 val1) rfl (dinC_one 1 1 0 val1) ?_
      refine hK.out _ _ (hR5.keptIf (setRow_other _ _ _ _ (by have := hR.lt.1; omega)) (setRow_other _ _ _ _ (by have := hR.lt.2; omega))).cells (fun hHeld => ?_)
      clear hK K
      simp only [Act.put]
      refine tk 12 ⟨some 14, .assign (.tmp 70), 36, "law.go:162", #[⟨9, .data⟩, ⟨11, .chain⟩, ⟨0, .phase⟩, ⟨1, .phase⟩, ⟨2, .phase⟩, ⟨3, .phase⟩, ⟨4, .phase⟩, ⟨5, .phase⟩, ⟨6, .phase⟩, ⟨7, .phase⟩, ⟨8, .phase⟩, ⟨9, .phase⟩, ⟨10, .phase⟩, ⟨11, .phase⟩], none⟩ ?_ ?_ hHeld ?_
      rotate_left
      ·(intro w hSw; (try dsimp only at hSw); go_simp; try (with_reducible rfl))
      simp only [Act.put, sA, sZ, sS]
      refine wpAnyH_done (by kernel_rfl) ?_ _
      go_wp2_with fail
      go_meet
      have hs5 : wr.heap.size + 1 ≤ w5.heap.size := (by have := hst5.fr.size; simpa using this)
      have hbz : Below wr.heap.size w5 (w5.setRow wr.heap.size (dinC 1 1 0 val1)) := below_setRow (Below.refl _ _) (Nat.le_refl _) _
      have hnz : ¬ F2 wr.heap.size := fun hf => (hst5.new _ hf).elim (fun h9 => by have := hvlt _ h9; omega) (fun h9 => by have h9 : (wr.drew.alloc (Mk.dinO 0 0 0 0 0 0 0 0 0)).heap.size ≤ wr.heap.size := h9; have e9 : (wr.drew.alloc (Mk.dinO 0 0 0 0 0 0 0 0 0)).heap.size = wr.heap.size + 1 := (by simp); omega)
      exact ⟨rfl, wr.heap.size, F2, rfl, setRow_heap _ _ _ _ _ _ hzz, hnz, Nat.le_refl _, hv5.else hbz.size (fun k hk => setRow_other _ _ _ _ (fun e => hnz (e ▸ hk))), stp_low (stp_after ((Below.refl _ _).drew.alloc (Nat.le_refl _) _) hst5) hbz⟩
     case rest =>
      obtain ⟨rfl, x0, F2, rfl, hx0, hx0F, hx0l, hv2, hst2⟩ := hcut
      rename World => w4
      have hR4 : R4 w4 w.heap.size p v g b i pd px py := hR.keptIf (hst2.fr.block _ hR.lt.1 hnF1.1) (hst2.fr.block _ hR.lt.2 hnF1.2)
      have hnF2 : ¬ F2 w.heap.size ∧ ¬ F2 p := ⟨fun hf => (hst2.new _ hf).elim hnF1.1 (fun h9 => by have := hR.lt.1; have h9 : wr.heap.size ≤ w.heap.size := h9; omega), fun hf => (hst2.new _ hf).elim hnF1.2 (fun h9 => by have := hR.lt.2; have h9 : wr.heap.size ≤ p := h9; omega)⟩
      have hgw := fun (w5 : World) (hb5 : Below w4.heap.size w4 w5) => grow_ok (hv2.later hb5) hg H1c.out.1 hiN (n := mm) HM.out.2.2 1 1 0 (by omega) (by omega)
      have hrg0 : w4.rangeAt x0 0 (dinC 1 1 0 val1).toList := range_row hx0
      have hv2lt := hv2.lt
      have hsz2w := hst2.fr.size
      have hx0lt := (Array.getElem?_eq_some_iff.1 hx0).1
      go_upto_region 15 with fail
      go_cut [15, 16, 17, 14] (fun v15 v16 v17 v14 wx => GroY w4 wx v F2 (g * b) I1 l1 (c1 + 1) g b i (Hpl (Mk.hdY i) n0 i0) val1 mm v15 v16 v17 v14)
      case first =>
       refine wp_region_held_drew (S := (fun w' => (w'.cell? ⟨w.heap.size, 0, none⟩ = some (.int .i64 (g : Int)) ∧ w'.cell? ⟨w.heap.size, 1, none⟩ = some (.int .i64 (b : Int)) ∧ w'.cell? ⟨w.heap.size, 2, none⟩ = some (.int .i64 (i : Int)) ∧ w'.cell? ⟨p, 1, none⟩ = some (.pointer (some ⟨v, 0, none⟩))) ∧ w'.rangeAt x0 0 (dinC 1 1 0 val1).toList)) (by kernel_rfl) ⟨hR4.cells, hrg0⟩ (fun hHeld => ?_)
       refine tk 0 ⟨some 74, .move (.tmp 5), 24, "law.go:166", #[], none⟩ ?_ ?_ hHeld ?_
       rotate_left
       ·(intro w hSw; (try dsimp only at hSw); go_simp; try (with_reducible rfl))
       simp only [Act.put, sA, sZ, sS]
       refine tk 1 ⟨some 75, .nilCheck (.tmp 74), 0, "law.go:166", #[⟨0, .data⟩], none⟩ ?_ ?_ hHeld ?_
       rotate_left
       ·(intro w hSw; (try dsimp only at hSw); go_simp; try (with_reducible rfl))
       simp only [Act.put, sA, sZ, sS]
       refine tk 2 ⟨some 76, .fieldAddr 33 (.tmp 75) 1, 0, "law.go:166", #[⟨1, .data⟩], none⟩ ?_ ?_ hHeld ?_
       rotate_left
       ·(intro w hSw; (try dsimp only at hSw); go_simp; try (with_reducible rfl))
       simp only [Act.put, sA, sZ, sS]
       refine tk 3 ⟨some 77, .load 29 (.tmp 76), 29, "law.go:166", #[⟨2, .data⟩], none⟩ ?_ ?_ hHeld ?_
       rotate_left
       ·(intro w hSw; (try dsimp only at hSw); go_simp; try (with_reducible rfl))
       simp only [Act.put, sA, sZ, sS]
       refine tk 4 ⟨some 78, .load 23 (.tmp 2), 23, "law.go:166", #[], none⟩ ?_ ?_ hHeld ?_
       rotate_left
       ·(intro w hSw; (try dsimp only at hSw); go_simp; try (with_reducible rfl))
       simp only [Act.put, sA, sZ, sS]
       refine tk 5 ⟨some 79, .move (.tmp 10), 3, "law.go:166", #[], none⟩ ?_ ?_ hHeld ?_
       rotate_left
       ·(intro w hSw; (try dsimp only at hSw); go_simp; try (with_reducible rfl))
       simp only [Act.put, sA, sZ, sS]
       refine wpAnyH_take (i := 6) (oi := ⟨some 80, .load 75 (.tmp 13), 75, "law.go:166", #[], none⟩) (v := .agg (dinC 1 1 0 val1)) rfl (by kernel_rfl) (by kernel_rfl) (by kernel_rfl) (fun _ _ _ h => h) (yieldsIf_load_mid (by rfl) 75 _ rfl x0 0 rfl (dinC 1 1 0 val1).toList _ (fun _ hS => hS.2) Tryz.underlying75 rfl (dinC_info 1 1 0 val1)) hHeld ?_
       simp only [Act.put, sA, sZ, sS]
       refine tk 7 ⟨some 81, .move (.tmp 12), 3, "law.go:166", #[], none⟩ ?_ ?_ hHeld ?_
       rotate_left
       ·(intro w hSw; (try dsimp only at hSw); go_simp; try (with_reducible rfl))
       simp only [Act.put, sA, sZ, sS]
       refine tk 8 ⟨some 82, .convert 3 27 (.tmp 81), 27, "law.go:166", #[⟨7, .data⟩], none⟩ ?_ ?_ hHeld ?_
       rotate_left
       ·(intro w hSw; (try dsimp only at hSw); go_simp; try (with_reducible rfl))
       simp only [Act.put, sA, sZ, sS]
       refine tk 9 ⟨some 83, .binOp BinOp.rem 27 (.tmp 82) (.const (.int .u64 4164)) 27, 27, "law.go:166", #[⟨8, .data⟩], none⟩ ?_ ?_ hHeld ?_
       rotate_left
       ·(intro w hSw; (try dsimp only at hSw); go_simp; try (with_reducible rfl))
       simp only [Act.put, sA, sZ, sS]
       refine tk 10 ⟨some 84, .convert 27 3 (.tmp 83), 3, "law.go:166", #[⟨9, .data⟩], none⟩ ?_ ?_ hHeld ?_
       rotate_left
       ·(intro w hSw; (try dsimp only at hSw); go_simp; try (with_reducible rfl))
       simp only [Act.put, sA, sZ, sS]
       refine wpAnyH_ready (rs := [11, 17]) (by kernel_rfl) (by simp) ?_
       refine AllReadyH.cons (o := ⟨some 85, .call { callee := .value (.func 30), args := #[.tmp 77, .tmp 78, .tmp 79, .tmp 80, .tmp 84], argTypes := #[29, 23, 3, 75, 3] }, 78, "law.go:166", #[⟨3, .data⟩, ⟨4, .data⟩, ⟨5, .data⟩, ⟨6, .data⟩, ⟨10, .data⟩], none⟩) rfl (fun K hK => ?_) ?_
       ·rw [if_pos (by rfl)]
        go_simp
        rw [HM.out.1, HM.out.2.1]
        refine Calls.mono (hgw _ (Below.refl _ _).drew) ?_
        intro e w5 he
        obtain ⟨bb, m, ln, sz, val2, u, er, rfl, hX⟩ := groX_of H1c.out.1 he
        dsimp only
        have hR5 : R4 w5 w.heap.size p v g b i pd px py := hR4.keptIf (hX.stp.block _ hR4.lt.1 hnF2.1) (hX.stp.block _ hR4.lt.2 hnF2.2)
        have hx5 : w5.heap[x0]? = some (dinX 1 1 0 val1) := (hX.stp.block x0 hx0lt hx0F).trans hx0
        have hs5 : w4.heap.size ≤ w5.heap.size := hX.stp.size
        refine hK.out _ _ ⟨hR5.cells, range_row hx5⟩ (fun hHeld => ?_)
        clear hK K
        try simp only [Act.put, sA, sZ, sS]
        refine tk 12 ⟨some 73, .move (.tmp 85), 78, "law.go:166", #[⟨11, .data⟩], none⟩ ?_ ?_ hHeld ?_
        rotate_left
        ·(intro w hSw; (try dsimp only at hSw); go_simp; try (with_reducible rfl))
        simp only [Act.put, sA, sZ, sS]
        refine tk 13 ⟨some 86, .extract (.tmp 73) 0, 3, "law.go:166", #[⟨12, .data⟩], none⟩ ?_ ?_ hHeld ?_
        rotate_left
        ·(intro w hSw; (try dsimp only at hSw); go_simp; try (with_reducible rfl))
        simp only [Act.put, sA, sZ, sS]
        refine tk 14 ⟨some 87, .extract (.tmp 73) 1, 75, "law.go:166", #[⟨12, .data⟩, ⟨18, .gcOnly .lateStores⟩], none⟩ ?_ ?_ hHeld ?_
        rotate_left
        ·(intro w hSw; (try dsimp only at hSw); go_simp; try (with_reducible rfl))
        simp only [Act.put, sA, sZ, sS]
        refine tk 15 ⟨some 88, .extract (.tmp 73) 2, 49, "law.go:166", #[⟨12, .data⟩, ⟨19, .gcOnly .lateStores⟩], none⟩ ?_ ?_ hHeld ?_
        rotate_left
        ·(intro w hSw; (try dsimp only at hSw); go_simp; try (with_reducible rfl))
        simp only [Act.put, sA, sZ, sS]
        refine tk 16 ⟨some 89, .extract (.tmp 73) 3, 36, "law.go:166", #[⟨12, .data⟩, ⟨20, .gcOnly .lateStores⟩], none⟩ ?_ ?_ hHeld ?_
        rotate_left
        ·(intro w hSw; (try dsimp only at hSw); go_simp; try (with_reducible rfl))
        simp only [Act.put, sA, sZ, sS]
        refine wpAnyH_ready (rs := [17]) (by kernel_rfl) (by simp) ?_
        refine AllReadyH.cons (o := ⟨some 16, .alloc 75, 0, "law.go:166", #[], none⟩) rfl (fun K hK => ?_) AllReadyH.nil
        rw [if_pos (by rfl)]
        go_simp
        have hR6 := hR5.kept (Mk.grew_alloc w5 (Mk.dinO 0 0 0 0 0 0 0 0 0))
        refine hK.out _ _ ⟨hR6.cells, range_row ((at_old hx5))⟩ (fun hHeld => ?_)
        clear hK K
        try simp only [Act.put, sA, sZ, sS]
        refine tk 18 ⟨some 15, .assign (.tmp 86), 3, "law.go:166", #[⟨13, .data⟩, ⟨11, .chain⟩, ⟨0, .phase⟩, ⟨1, .phase⟩, ⟨2, .phase⟩, ⟨3, .phase⟩, ⟨4, .phase⟩, ⟨5, .phase⟩, ⟨6, .phase⟩, ⟨7, .phase⟩, ⟨8, .phase⟩, ⟨9, .phase⟩, ⟨10, .phase⟩, ⟨11, .phase⟩, ⟨12, .phase⟩, ⟨13, .phase⟩, { on := 14, ground := Ground.textOnly Departure.lateStores }, { on := 15, ground := Ground.textOnly Departure.lateStores }, { on := 16, ground := Ground.textOnly Departure.lateStores }, ⟨17, .phase⟩], none⟩ ?_ ?_ hHeld ?_
        rotate_left
        ·(intro w hSw; (try dsimp only at hSw); go_simp; try (with_reducible rfl))
        simp only [Act.put, sA, sZ, sS]
        refine wpAnyH_ready (rs := [19]) (by kernel_rfl) (by simp) ?_
        refine AllReadyH.cons (o := ⟨none, .store 75 (.tmp 16) (.tmp 87), 0, "law.go:166", #[⟨17, .data⟩, ⟨14, .data⟩, ⟨18, .chain⟩, ⟨0, .phase⟩, ⟨1, .phase⟩, ⟨2, .phase⟩, ⟨3, .phase⟩, ⟨4, .phase⟩, ⟨5, .phase⟩, ⟨6, .phase⟩, ⟨7, .phase⟩, ⟨8, .phase⟩, ⟨9, .phase⟩, ⟨10, .phase⟩, ⟨11, .phase⟩, ⟨12, .phase⟩, ⟨13, .phase⟩, ⟨14, .phase⟩, { on := 15, ground := Ground.textOnly Departure.lateStores }, { on := 16, ground := Ground.textOnly Departure.lateStores }, ⟨17, .phase⟩, ⟨18, .phase⟩], none⟩) rfl (fun K hK => ?_) AllReadyH.nil
        rw [if_pos (by rfl)]
        refine wp_store_row 75 _ _ rfl w5.heap.size (dinC m ln sz val2) rfl rfl 75 _ (at_new rfl) (dinC_info m ln sz val2) rfl (dinC_one m ln sz val2) ?_
        refine hK.out _ _ ⟨(hR6.keptIf (setRow_other _ _ _ _ (by have := hR5.lt.1; omega)) (setRow_other _ _ _ _ (by have := hR5.lt.2; omega))).cells, range_row ((setRow_other _ _ _ _ (by omega)).trans (at_old hx5))⟩ (fun hHeld => ?_)
        clear hK K
        simp only [Act.put]
        refine tk 20 ⟨some 17, .assign (.tmp 88), 49, "law.go:166", #[⟨15, .data⟩, ⟨19, .chain⟩, ⟨0, .phase⟩, ⟨1, .phase⟩, ⟨2, .phase⟩, ⟨3, .phase⟩, ⟨4, .phase⟩, ⟨5, .phase⟩, ⟨6, .phase⟩, ⟨7, .phase⟩, ⟨8, .phase⟩, ⟨9, .phase⟩, ⟨10, .phase⟩, ⟨11, .phase⟩, ⟨12, .phase⟩, ⟨13, .phase⟩, ⟨14, .phase⟩, ⟨15, .phase⟩, { on := 16, ground := Ground.textOnly Departure.lateStores }, ⟨17, .phase⟩, ⟨18, .phase⟩, ⟨19, .phase⟩], none⟩ ?_ ?_ hHeld ?_
        rotate_left
        ·(intro w hSw; (try dsimp only at hSw); go_simp; try (with_reducible rfl))
        simp only [Act.put, sA, sZ, sS]
        refine tk 21 ⟨some 14, .assign (.tmp 89), 36, "law.go:166", #[⟨16, .data⟩, ⟨20, .chain⟩, ⟨0, .phase⟩, ⟨1, .phase⟩, ⟨2, .phase⟩, ⟨3, .phase⟩, ⟨4, .phase⟩, ⟨5, .phase⟩, ⟨6, .phase⟩, ⟨7, .phase⟩, ⟨8, .phase⟩, ⟨9, .phase⟩, ⟨10, .phase⟩, ⟨11, .phase⟩, ⟨12, .phase⟩, ⟨13, .phase⟩, ⟨14, .phase⟩, ⟨15, .phase⟩, ⟨16, .phase⟩, ⟨17, .phase⟩, ⟨18, .phase⟩, ⟨19, .phase⟩, ⟨20, .phase⟩], none⟩ ?_ ?_ hHeld ?_
        rotate_left
        ·(intro w hSw; (try dsimp only at hSw); go_simp; try (with_reducible rfl))
        simp only [Act.put, sA, sZ, sS]
        refine wpAnyH_done (by kernel_rfl) ?_ _
        go_wp2_with fail
        go_meet
        exact groY_call hX _ rfl
       refine AllReadyH.cons (o := ⟨some 16, .alloc 75, 0, "law.go:166", #[], none⟩) rfl (fun K hK => ?_) AllReadyH.nil
       rw [if_pos (by rfl)]
       go_simp
       have hR6 : R4 (w4.drew.alloc (Mk.dinO 0 0 0 0 0 0 0 0 0)) w.heap.size p v g b i pd px py := hR4.kept ((Below.refl _ _).drew.alloc (Nat.le_refl _) _)
       have hx6 : (w4.drew.alloc (Mk.dinO 0 0 0 0 0 0 0 0 0)).heap[x0]? = some (dinX 1 1 0 val1) := at_old (w := w4.drew) hx0
       refine hK.out _ _ ⟨hR6.cells, range_row hx6⟩ (fun hHeld => ?_)
       clear hK K
       try simp only [Act.put, sA, sZ, sS]
       refine wpAnyH_ready (rs := [11]) (by kernel_rfl) (by simp) ?_
       refine AllReadyH.cons (o := ⟨some 85, .call { callee := .value (.func 30), args := #[.tmp 77, .tmp 78, .tmp 79, .tmp 80, .tmp 84], argTypes := #[29, 23, 3, 75, 3] }, 78, "law.go:166", #[⟨3, .data⟩, ⟨4, .data⟩, ⟨5, .data⟩, ⟨6, .data⟩, ⟨10, .data⟩], none⟩) rfl (fun K hK => ?_) AllReadyH.nil
       rw [if_pos (by rfl)]
       go_simp
       rw [HM.out.1, HM.out.2.1]
       refine Calls.mono (hgw _ ((Below.refl _ _).drew.alloc (Nat.le_refl _) _)) ?_
       intro e w5 he
       obtain ⟨bb, m, ln, sz, val2, u, er, rfl, hX⟩ := groX_of H1c.out.1 he
       dsimp only
       have hR5 : R4 w5 w.heap.size p v g b i pd px py := hR6.keptIf (hX.stp.block _ hR6.lt.1 hnF2.1) (hX.stp.block _ hR6.lt.2 hnF2.2)
       have hx5 : w5.heap[x0]? = some (dinX 1 1 0 val1) := (hX.stp.block x0 (by simp; omega) hx0F).trans hx6
       obtain ⟨hzz, hY⟩ := groY_block hX rfl hv2lt
       refine hK.out _ _ ⟨hR5.cells, range_row hx5⟩ (fun hHeld => ?_)
       clear hK K
       try simp only [Act.put, sA, sZ, sS]
       refine tk 12 ⟨some 73, .move (.tmp 85), 78, "law.go:166", #[⟨11, .data⟩], none⟩ ?_ ?_ hHeld ?_
       rotate_left
       ·(intro w hSw; (try dsimp only at hSw); go_simp; try (with_reducible rfl))
       simp only [Act.put, sA, sZ, sS]
       refine tk 13 ⟨some 86, .extract (.tmp 73) 0, 3, "law.go:166", #[⟨12, .data⟩], none⟩ ?_ ?_ hHeld ?_
       rotate_left
       ·(intro w hSw; (try dsimp only at hSw); go_simp; try (with_reducible rfl))
       simp only [Act.put, sA, sZ, sS]
       refine tk 14 ⟨some 87, .extract (.tmp 73) 1, 75, "law.go:166", #[⟨12, .data⟩, ⟨18, .gcOnly .lateStores⟩], none⟩ ?_ ?_ hHeld ?_
       rotate_left
       ·(intro w hSw; (try dsimp only at hSw); go_simp; try (with_reducible rfl))
       simp only [Act.put, sA, sZ, sS]
       refine tk 15 ⟨some 88, .extract (.tmp 73) 2, 49, "law.go:166", #[⟨12, .data⟩, ⟨19, .gcOnly .lateStores⟩], none⟩ ?_ ?_ hHeld ?_
       rotate_left
       ·(intro w hSw; (try dsimp only at hSw); go_simp; try (with_reducible rfl))
       simp only [Act.put, sA, sZ, sS]
       refine tk 16 ⟨some 89, .extract (.tmp 73) 3, 36, "law.go:166", #[⟨12, .data⟩, ⟨20, .gcOnly .lateStores⟩], none⟩ ?_ ?_ hHeld ?_
       rotate_left
       ·(intro w hSw; (try dsimp only at hSw); go_simp; try (with_reducible rfl))
       simp only [Act.put, sA, sZ, sS]
       refine tk 18 ⟨some 15, .assign (.tmp 86), 3, "law.go:166", #[⟨13, .data⟩, ⟨11, .chain⟩, ⟨0, .phase⟩, ⟨1, .phase⟩, ⟨2, .phase⟩, ⟨3, .phase⟩, ⟨4, .phase⟩, ⟨5, .phase⟩, ⟨6, .phase⟩, ⟨7, .phase⟩, ⟨8, .phase⟩, ⟨9, .phase⟩, ⟨10, .phase⟩, ⟨11, .phase⟩, ⟨12, .phase⟩, ⟨13, .phase⟩, { on := 14, ground := Ground.textOnly Departure.lateStores }, { on := 15, ground := Ground.textOnly Departure.lateStores }, { on := 16, ground := Ground.textOnly Departure.lateStores }, ⟨17, .phase⟩], none⟩ ?_ ?_ hHeld ?_
       rotate_left
       ·(intro w hSw; (try dsimp only at hSw); go_simp; try (with_reducible rfl))
       simp only [Act.put, sA, sZ, sS]
       refine wpAnyH_ready (rs := [19]) (by kernel_rfl) (by simp) ?_
       refine AllReadyH.cons (o := ⟨none, .store 75 (.tmp 16) (.tmp 87), 0, "law.go:166", #[⟨17, .data⟩, ⟨14, .data⟩, ⟨18, .chain⟩, ⟨0, .phase⟩, ⟨1, .phase⟩, ⟨2, .phase⟩, ⟨3, .phase⟩, ⟨4, .phase⟩, ⟨5, .phase⟩, ⟨6, .phase⟩, ⟨7, .phase⟩, ⟨8, .phase⟩, ⟨9, .phase⟩, ⟨10, .phase⟩, ⟨11, .phase⟩, ⟨12, .phase⟩, ⟨13, .phase⟩, ⟨14, .phase⟩, { on := 15, ground := Ground.textOnly Departure.lateStores }, { on := 16, ground := Ground.textOnly Departure.lateStores }, ⟨17, .phase⟩, ⟨18, .phase⟩], none⟩) rfl (fun K hK => ?_) AllReadyH.nil
       rw [if_pos (by rfl)]
       refine wp_store_row 75 _ _ rfl w4.heap.size (dinC m ln sz val2) rfl rfl 75 _ hzz (dinC_info m ln sz val2) rfl (dinC_one m ln sz val2) ?_
       refine hK.out _ _ ⟨(hR5.keptIf (setRow_other _ _ _ _ (by have := hR4.lt.1; omega)) (setRow_other _ _ _ _ (by have := hR4.lt.2; omega))).cells, range_row ((setRow_other _ _ _ _ (by omega)).trans hx5)⟩ (fun hHeld => ?_)
       clear hK K
       simp only [Act.put]
       refine tk 20 ⟨some 17, .assign (.tmp 88), 49, "law.go:166", #[⟨15, .data⟩, ⟨19, .chain⟩, ⟨0, .phase⟩, ⟨1, .phase⟩, ⟨2, .phase⟩, ⟨3, .phase⟩, ⟨4, .phase⟩, ⟨5, .phase⟩, ⟨6, .phase⟩, ⟨7, .phase⟩, ⟨8, .phase⟩, ⟨9, .phase⟩, ⟨10, .phase⟩, ⟨11, .phase⟩, ⟨12, .phase⟩, ⟨13, .phase⟩, ⟨14, .phase⟩, ⟨15, .phase⟩, { on := 16, ground := Ground.textOnly Departure.lateStores }, ⟨17, .phase⟩, ⟨18, .phase⟩, ⟨19, .phase⟩], none⟩ ?_ ?_ hHeld ?_
       rotate_left
       ·(intro w hSw; (try dsimp only at hSw); go_simp; try (with_reducible rfl))
       simp only [Act.put, sA, sZ, sS]
       refine tk 21 ⟨some 14, .assign (.tmp 89), 36, "law.go:166", #[⟨16, .data⟩, ⟨20, .chain⟩, ⟨0, .phase⟩, ⟨1, .phase⟩, ⟨2, .phase⟩, ⟨3, .phase⟩, ⟨4, .phase⟩, ⟨5, .phase⟩, ⟨6, .phase⟩, ⟨7, .phase⟩, ⟨8, .phase⟩, ⟨9, .phase⟩, ⟨10, .phase⟩, ⟨11, .phase⟩, ⟨12, .phase⟩, ⟨13, .phase⟩, ⟨14, .phase⟩, ⟨15, .phase⟩, ⟨16, .phase⟩, ⟨17, .phase⟩, ⟨18, .phase⟩, ⟨19, .phase⟩, ⟨20, .phase⟩], none⟩ ?_ ?_ hHeld ?_
       rotate_left
       ·(intro w hSw; (try dsimp only at hSw); go_simp; try (with_reducible rfl))
       simp only [Act.put, sA, sZ, sS]
       refine wpAnyH_done (by kernel_rfl) ?_ _
       go_wp2_with fail
       go_meet
       exact hY
      case rest =>
       obtain ⟨x1, bb, m, ln, sz, val2, er, F3, I3, H3, l3, c3, rfl, rfl, rfl, hx1', hx1F, hx1l, hv3, hl3, hc3, hst3, hr⟩ := hcut
       rename World => w5
       have hstA : Pt.Stp F F3 W2 w5 := stp_trans H1c.out.2.1 (stp_trans hst2 hst3)
       rcases hr with ⟨rfl, rfl, rfl⟩ | ⟨rfl, rfl, rfl, rfl, hinw3, hino3, hbb, hb0, hkp, hsame, q5, cp5, zs5, rfl, hii5, hq5, hk5, hz5⟩
       ·go_wp2_with fail
        go_roundw
        case rel =>
         unfold ClL ClS
         exact ⟨t + 1, by omega, by omega, by push_cast; rfl, F3, I3, H1, val1, l3, c3, hv3, H1c.out.1, H1c.out.2.2.2.2, by omega, by omega, hstA⟩
        case measure => simp [intOf]; omega
       ·have hnF3 : ¬ F3 w.heap.size ∧ ¬ F3 p := ⟨fun hf => (hst3.new _ hf).elim hnF2.1 (fun h9 => by have := hR4.lt.1; have h9 : w4.heap.size ≤ w.heap.size := h9; omega), fun hf => (hst3.new _ hf).elim hnF2.2 (fun h9 => by have := hR4.lt.2; have h9 : w4.heap.size ≤ p := h9; omega)⟩
        have hR5 : R4 w5 w.heap.size p v g b i pd px py := hR4.keptIf (hst3.fr.block _ hR4.lt.1 hnF2.1) (hst3.fr.block _ hR4.lt.2 hnF2.2)
        have hmay2 := may_val (fun i hi hv => (hinw3.rng i hi hv).1) hN
        have hpt := fun (w6 : World) (hb6 : Below w5.heap.size w5 w6) => iput_ok (hv3.later hb6) hg hiN (by omega) 1 1 0 (val2 0 : Int) (val2 1 : Int) (val2 2 : Int) (val2 3 : Int) (val2 4 : Int) (val2 5 : Int) hmay2 q5 zs5.length cp5 zs5 (hii5.kept hb6) (fun k hk e => hq5 k hk (e ▸ hv3.mem)) hk5 (by omega)
        have hrg1 : w5.rangeAt x1 0 (dinC 1 1 0 val2).toList := range_row hx1'
        have hx1lt := (Array.getElem?_eq_some_iff.1 hx1').1
        have hlen3 := (hv3.sect (iP b i ino)).1
        have H3c : Hid (Inw I3 g b i (g * b) H3 (Hpl (Mk.hdY i) n0 i0) val2 ∧ (I3 (iP b i ino)).length = 128 ∧ Pt.Stp F F3 W2 w5) := ⟨hinw3, hlen3, hstA⟩
        clear hinw3 hlen3 hstA hst3 hv3 hmay2 hii5 hsame hkp hbb hino3 hst2 hv2 hgw hrg0 hgt
        go_upto_region 17 with fail
        refine wp_region_held_drew (S := (fun w' => (w'.cell? ⟨w.heap.size, 0, none⟩ = some (.int .i64 (g : Int)) ∧ w'.cell? ⟨w.heap.size, 1, none⟩ = some (.int .i64 (b : Int)) ∧ w'.cell? ⟨w.heap.size, 2, none⟩ = some (.int .i64 (i : Int)) ∧ w'.cell? ⟨p, 1, none⟩ = some (.pointer (some ⟨v, 0, none⟩))) ∧ w'.rangeAt x1 0 (dinC 1 1 0 val2).toList)) (by kernel_rfl) ⟨hR5.cells, hrg1⟩ (fun hHeld => ?_)
        refine tk 0 ⟨some 92, .move (.tmp 5), 24, "law.go:168", #[], none⟩ ?_ ?_ hHeld ?_
        rotate_left
        ·(intro w hSw; (try dsimp only at hSw); go_simp; try (with_reducible rfl))
        simp only [Act.put, sA, sZ, sS]
        refine tk 1 ⟨some 93, .nilCheck (.tmp 92), 0, "law.go:168", #[⟨0, .data⟩], none⟩ ?_ ?_ hHeld ?_
        rotate_left
        ·(intro w hSw; (try dsimp only at hSw); go_simp; try (with_reducible rfl))
        simp only [Act.put, sA, sZ, sS]
        refine tk 2 ⟨some 94, .fieldAddr 33 (.tmp 93) 1, 0, "law.go:168", #[⟨1, .data⟩], none⟩ ?_ ?_ hHeld ?_
        rotate_left
        ·(intro w hSw; (try dsimp only at hSw); go_simp; try (with_reducible rfl))
        simp only [Act.put, sA, sZ, sS]
        refine tk 3 ⟨some 95, .load 29 (.tmp 94), 29, "law.go:168", #[⟨2, .data⟩], none⟩ ?_ ?_ hHeld ?_
        rotate_left
        ·(intro w hSw; (try dsimp only at hSw); go_simp; try (with_reducible rfl))
        simp only [Act.put, sA, sZ, sS]
        refine tk 4 ⟨some 96, .load 23 (.tmp 2), 23, "law.go:168", #[], none⟩ ?_ ?_ hHeld ?_
        rotate_left
        ·(intro w hSw; (try dsimp only at hSw); go_simp; try (with_reducible rfl))
        simp only [Act.put, sA, sZ, sS]
        refine tk 5 ⟨some 97, .move (.tmp 10), 3, "law.go:168", #[], none⟩ ?_ ?_ hHeld ?_
        rotate_left
        ·(intro w hSw; (try dsimp only at hSw); go_simp; try (with_reducible rfl))
        simp only [Act.put, sA, sZ, sS]
        refine wpAnyH_take (i := 6) (oi := ⟨some 98, .load 75 (.tmp 16), 75, "law.go:168", #[], none⟩) (v := .agg (dinC 1 1 0 val2)) rfl (by kernel_rfl) (by kernel_rfl) (by kernel_rfl) (fun _ _ _ h => h) (yieldsIf_load_mid (by rfl) 75 _ rfl x1 0 rfl (dinC 1 1 0 val2).toList _ (fun _ hS => hS.2) Tryz.underlying75 rfl (dinC_info 1 1 0 val2)) hHeld ?_
        simp only [Act.put, sA, sZ, sS]
        refine tk 7 ⟨some 99, .move (.tmp 17), 49, "law.go:168", #[], none⟩ ?_ ?_ hHeld ?_
        rotate_left
        ·(intro w hSw; (try dsimp only at hSw); go_simp; try (with_reducible rfl))
        simp only [Act.put, sA, sZ, sS]
        refine wpAnyH_ready (rs := [8]) (by kernel_rfl) (by simp) ?_
        refine AllReadyH.cons (o := ⟨some 100, .call { callee := .value (.func 32), args := #[.tmp 95, .tmp 96, .tmp 97, .tmp 98, .tmp 99], argTypes := #[29, 23, 3, 75, 49] }, 40, "law.go:168", #[⟨3, .data⟩, ⟨4, .data⟩, ⟨5, .data⟩, ⟨6, .data⟩, ⟨7, .data⟩], none⟩) rfl (fun K hK => ?_) AllReadyH.nil
        rw [if_pos (by rfl)]
        go_simp
        refine Calls.mono (hpt _ (Below.refl _ _).drew) ?_
        rintro e w6 ⟨rfl, F6, hv6, hst6⟩
        dsimp only
        have hR6 : R4 w6 w.heap.size p v g b i pd px py := hR5.keptIf (hst6.fr.block _ hR5.lt.1 hnF3.1) (hst6.fr.block _ hR5.lt.2 hnF3.2)
        have hx6 : w6.heap[x1]? = some (dinX 1 1 0 val2) := (hst6.fr.block x1 hx1lt hx1F).trans hx1'
        refine hK.out _ _ ⟨hR6.cells, range_row hx6⟩ (fun hHeld => ?_)
        clear hK K
        try simp only [Act.put, sA, sZ, sS]
        refine wpAnyH_done (by kernel_rfl) ?_ _
        go_wp2_with fail
        go_roundw
        case rel =>
         unfold ClL ClS
         exact ⟨t + 1, by omega, by omega, by push_cast; rfl, F6, _, H3, val2, l3 + 1, c3, hv6, inw_put hg H3c.out.1 hiN _ _, iB_put H3c.out.2.1 (Mk.dinB_len _ _ _ _ _ _ _ _ _), by omega, by omega, stp_trans H3c.out.2.2 (stp_after (Below.refl _ _).drew hst6)⟩
        case measure => simp [intOf]; omega
    rcases Nat.lt_or_ge t n with htn' | htn'
    case' inl =>
     have htI : (t : Int) < (n : Int) := by omega
     have hnF1 : ¬ F1 w.heap.size ∧ ¬ F1 p := ⟨fun hf => (hst.new _ hf).elim hnF.1 (fun h9 => by have := hR2.lt.1; have h9 : W2.heap.size ≤ w.heap.size := h9; omega), fun hf => (hst.new _ hf).elim hnF.2 (fun h9 => by have := hR2.lt.2; have h9 : W2.heap.size ≤ p := h9; omega)⟩
     have hR : R4 wr w.heap.size p v g b i pd px py := hR2.keptIf (hst.fr.block _ hR2.lt.1 hnF.1) (hst.fr.block _ hR2.lt.2 hnF.2)
     obtain ⟨bq, oq, rfl, hcq⟩ := HC.out.2.2.2.2.2.cells (by omega)
     have hcq0 := hcq t htn'
     have hbq := Mk.lt_of_cell hcq0
     have hsW := HC.out.1.size
     have hcell : wr.cell? ⟨bq, oq + t, none⟩ = some (.int .i64 (xs.getD t 0)) := (cell_keq ((hst.fr.block bq (by omega) (fun hf => by have := HC.out.2.2.2.1 bq hf; omega)).trans (HC.out.1.block bq hbq))).trans hcq0
     obtain ⟨xt, hxt⟩ : ∃ xt, xs.getD t 0 = xt := ⟨_, rfl⟩
     rw [hxt] at hcell
     have ht20I : (20 : Int) < (t : Int) := by omega
    case' inr => obtain rfl : t = n := by omega
    all_goals
     obtain ⟨Fa, Ia, Ha, vala, la, ca, hva, hinwa, hiba, hla, hca, hsta⟩ := hS
     have hnFa : ¬ Fa w.heap.size ∧ ¬ Fa p := ⟨fun hf => (hsta.new _ hf).elim hnF.1 (fun h9 => by have := hR2.lt.1; have h9 : W2.heap.size ≤ w.heap.size := h9; omega), fun hf => (hsta.new _ hf).elim hnF.2 (fun h9 => by have := hR2.lt.2; have h9 : W2.heap.size ≤ p := h9; omega)⟩
     have hRa : R4 wr w.heap.size p v g b i pd px py := hR2.keptIf (hsta.fr.block _ hR2.lt.1 hnF.1) (hsta.fr.block _ hR2.lt.2 hnF.2)
     obtain ⟨x1n, x2f, x3i, x4d, x5m, x6t, x7l, x8b⟩ := HI.out
     have hona : Mk.Bit.on (rowOf true (Ha (ino / i))) (ino % i) = true := by rw [x4d, x5m, hinwa.rows _ x1n]; exact hpl_on hg x2f x7l x8b
     have hclr := fun (w5 : World) (hb5 : Below wr.heap.size wr w5) => clear_ok (hva.later hb5) hg hinwa hiN x6t hona hiba (by omega) (by omega)
     have HCl : Hid (Pt.Stp F Fa W2 wr ∧ Inw Ia g b i (g * b) Ha (Hpl (Mk.hdY i) n0 i0) vala) := ⟨hsta, hinwa⟩
     have hlna := span_len vala
     clear hsta hinwa hiba hva hona
     go_upto_region 19 with fail
     go_cut [19] (fun v19 wx => v19 = .int .i64 0 ∧ ∃ (Fb : Nat → Prop) (Ib Hb : Nat → List Int) (lb cb : Nat), Vol wx v Fb (g * b) Ib lb cb ∧ Hds Ib g b Hb ∧ (∀ y, onB Hb b y = (onB Ha b y && !decide (y ∈ span vala))) ∧ (∀ k, k < g → rowOf true (Hb k) = if k = ino / i then Mk.Bit.put (rowOf true (Ha k)) (ino % i) false else rowOf true (Ha k)) ∧ iB Ib b i ino = Mk.dinB 0 0 0 0 0 0 0 0 0 ∧ cb ≤ 20000 ∧ Pt.Stp Fa Fb wr wx)
     case first =>
      refine wp_region_held_drew (S := (fun w' => w'.cell? ⟨w.heap.size, 0, none⟩ = some (.int .i64 (g : Int)) ∧ w'.cell? ⟨w.heap.size, 1, none⟩ = some (.int .i64 (b : Int)) ∧ w'.cell? ⟨w.heap.size, 2, none⟩ = some (.int .i64 (i : Int)) ∧ w'.cell? ⟨p, 1, none⟩ = some (.pointer (some ⟨v, 0, none⟩)))) (by kernel_rfl) hRa.cells (fun hHeld => ?_)
      refine tk 0 ⟨some 103, .move (.tmp 5), 24, "law.go:171", #[], none⟩ ?_ ?_ hHeld ?_
      rotate_left
      ·(intro w hSw; (try dsimp only at hSw); go_simp; try (with_reducible rfl))
      simp only [Act.put, sA, sZ, sS]
      refine tk 1 ⟨some 104, .nilCheck (.tmp 103), 0, "law.go:171", #[⟨0, .data⟩], none⟩ ?_ ?_ hHeld ?_
      rotate_left
      ·(intro w hSw; (try dsimp only at hSw); go_simp; try (with_reducible rfl))
      simp only [Act.put, sA, sZ, sS]
      refine tk 2 ⟨some 105, .fieldAddr 33 (.tmp 104) 1, 0, "law.go:171", #[⟨1, .data⟩], none⟩ ?_ ?_ hHeld ?_
      rotate_left
      ·(intro w hSw; (try dsimp only at hSw); go_simp; try (with_reducible rfl))
      simp only [Act.put, sA, sZ, sS]
      refine tk 3 ⟨some 106, .load 29 (.tmp 105), 29, "law.go:171", #[⟨2, .data⟩], none⟩ ?_ ?_ hHeld ?_
      rotate_left
      ·(intro w hSw; (try dsimp only at hSw); go_simp; try (with_reducible rfl))
      simp only [Act.put, sA, sZ, sS]
      refine tk 4 ⟨some 107, .load 23 (.tmp 2), 23, "law.go:171", #[], none⟩ ?_ ?_ hHeld ?_
      rotate_left
      ·(intro w hSw; (try dsimp only at hSw); go_simp; try (with_reducible rfl))
      simp only [Act.put, sA, sZ, sS]
      refine tk 5 ⟨some 108, .move (.tmp 10), 3, "law.go:171", #[], none⟩ ?_ ?_ hHeld ?_
      rotate_left
      ·(intro w hSw; (try dsimp only at hSw); go_simp; try (with_reducible rfl))
      simp only [Act.put, sA, sZ, sS]
      refine wpAnyH_ready (rs := [6]) (by kernel_rfl) (by simp) ?_
      refine AllReadyH.cons (o := ⟨some 109, .call { callee := .value (.func 36), args := #[.tmp 106, .tmp 107, .tmp 108, .const (.slice none 0 0)], argTypes := #[29, 23, 3, 49] }, 40, "law.go:171", #[⟨3, .data⟩, ⟨4, .data⟩, ⟨5, .data⟩], none⟩) rfl (fun K hK => ?_) AllReadyH.nil
      rw [if_pos (by rfl)]
      go_simp
      refine Calls.mono (hclr _ (Below.refl _ _).drew) ?_
      rintro e w5 ⟨idz, Fb, Ib, Hb, lb, cb, rfl, hv5, hH5, hon5, hr5, hi5, hl5, hc5, hst5⟩
      dsimp only
      have hR5 : R4 w5 w.heap.size p v g b i pd px py := hRa.keptIf (hst5.fr.block _ hRa.lt.1 hnFa.1) (hst5.fr.block _ hRa.lt.2 hnFa.2)
      refine hK.out _ _ hR5.cells (fun hHeld => ?_)
      clear hK K
      try simp only [Act.put, sA, sZ, sS]
      refine tk 7 ⟨some 102, .move (.tmp 109), 40, "law.go:171", #[⟨6, .data⟩], none⟩ ?_ ?_ hHeld ?_
      rotate_left
      ·(intro w hSw; (try dsimp only at hSw); go_simp; try (with_reducible rfl))
      simp only [Act.put, sA, sZ, sS]
      refine tk 8 ⟨some 110, .extract (.tmp 102) 0, 3, "law.go:171", #[⟨7, .data⟩], none⟩ ?_ ?_ hHeld ?_
      rotate_left
      ·(intro w hSw; (try dsimp only at hSw); go_simp; try (with_reducible rfl))
      simp only [Act.put, sA, sZ, sS]
      refine tk 9 ⟨some 111, .extract (.tmp 102) 1, 36, "law.go:171", #[⟨7, .data⟩, ⟨10, .gcOnly .lateStores⟩], none⟩ ?_ ?_ hHeld ?_
      rotate_left
      ·(intro w hSw; (try dsimp only at hSw); go_simp; try (with_reducible rfl))
      simp only [Act.put, sA, sZ, sS]
      refine tk 10 ⟨some 18, .assign (.tmp 110), 3, "law.go:171", #[⟨8, .data⟩, ⟨6, .chain⟩, ⟨0, .phase⟩, ⟨1, .phase⟩, ⟨2, .phase⟩, ⟨3, .phase⟩, ⟨4, .phase⟩, ⟨5, .phase⟩, ⟨6, .phase⟩, ⟨7, .phase⟩, ⟨8, .phase⟩, { on := 9, ground := Ground.textOnly Departure.lateStores }], none⟩ ?_ ?_ hHeld ?_
      rotate_left
      ·(intro w hSw; (try dsimp only at hSw); go_simp; try (with_reducible rfl))
      simp only [Act.put, sA, sZ, sS]
      refine tk 11 ⟨some 19, .assign (.tmp 111), 36, "law.go:171", #[⟨9, .data⟩, ⟨10, .chain⟩, ⟨0, .phase⟩, ⟨1, .phase⟩, ⟨2, .phase⟩, ⟨3, .phase⟩, ⟨4, .phase⟩, ⟨5, .phase⟩, ⟨6, .phase⟩, ⟨7, .phase⟩, ⟨8, .phase⟩, ⟨9, .phase⟩, ⟨10, .phase⟩], none⟩ ?_ ?_ hHeld ?_
      rotate_left
      ·(intro w hSw; (try dsimp only at hSw); go_simp; try (with_reducible rfl))
      simp only [Act.put, sA, sZ, sS]
      refine wpAnyH_done (by kernel_rfl) ?_ _
      go_wp2_with fail
      go_meet
      exact ⟨rfl, Fb, Ib, Hb, lb, cb, hv5, hH5, hon5, hr5, hi5, by omega, stp_after (Below.refl _ _).drew hst5⟩
     case rest =>
      obtain ⟨rfl, Fb, Ib, Hb, lb, cb, hvb, hHb, hbb, hrb, hib, hcb, hstb⟩ := hcut
      rename World => w7
      have hRb : R4 w7 w.heap.size p v g b i pd px py := hRa.keptIf (hstb.fr.block _ hRa.lt.1 hnFa.1) (hstb.fr.block _ hRa.lt.2 hnFa.2)
      have hnFb : ¬ Fb w.heap.size ∧ ¬ Fb p := ⟨fun hf => (hstb.new _ hf).elim hnFa.1 (fun h9 => by have := hRa.lt.1; have h9 : wr.heap.size ≤ w.heap.size := h9; omega), fun hf => (hstb.new _ hf).elim hnFa.2 (fun h9 => by have := hRa.lt.2; have h9 : wr.heap.size ≤ p := h9; omega)⟩
      have htb : tot Hb false b i g = tot (Mk.hdY i) false b i g := tot_blocks hg (fun y hy => (clear_blocks HCl.out.2 hbb y hy).trans (hpl_blocks x7l y))
      have hti : tot Hb true b i g = tot (Mk.hdY i) true b i g := clear_inodes hg x1n x2f x7l x8b HCl.out.2.rows (by rw [x3i]; exact hrb)
      have hrmb := fun (w8 : World) (hb8 : Below w7.heap.size w7 w8) => room_ok (hvb.later hb8) hg hHb (by omega)
      rw [htb, hti] at hrmb
      have HBv : Hid (Pt.Stp Fa Fb wr w7 ∧ iB Ib b i ino = Mk.dinB 0 0 0 0 0 0 0 0 0) := ⟨hstb, hib⟩
      clear htb hti hbb hrb hib hstb hclr
      go_upto_region 22 with fail
      go_cut [20, 21, 22] (fun v20 v21 v22 wx => v20 = .int .i64 ((tot (Mk.hdY i) false b i g : Nat) : Int) ∧ v21 = .int .i64 ((tot (Mk.hdY i) true b i g : Nat) : Int) ∧ v22 = .int .i64 0 ∧ ∃ Fc cc, cc ≤ 30000 ∧ Vol wx v Fc (g * b) Ib lb cc ∧ Pt.Stp Fb Fc w7 wx)
      case first =>
       refine wp_region_held_drew (S := (fun w' => w'.cell? ⟨w.heap.size, 0, none⟩ = some (.int .i64 (g : Int)) ∧ w'.cell? ⟨w.heap.size, 1, none⟩ = some (.int .i64 (b : Int)) ∧ w'.cell? ⟨w.heap.size, 2, none⟩ = some (.int .i64 (i : Int)) ∧ w'.cell? ⟨p, 1, none⟩ = some (.pointer (some ⟨v, 0, none⟩)))) (by kernel_rfl) hRb.cells (fun hHeld => ?_)
       refine tk 0 ⟨some 115, .move (.tmp 5), 24, "law.go:174", #[], none⟩ ?_ ?_ hHeld ?_
       rotate_left
       ·(intro w hSw; (try dsimp only at hSw); go_simp; try (with_reducible rfl))
       simp only [Act.put, sA, sZ, sS]
       refine tk 1 ⟨some 116, .nilCheck (.tmp 115), 0, "law.go:174", #[⟨0, .data⟩], none⟩ ?_ ?_ hHeld ?_
       rotate_left
       ·(intro w hSw; (try dsimp only at hSw); go_simp; try (with_reducible rfl))
       simp only [Act.put, sA, sZ, sS]
       refine tk 2 ⟨some 117, .fieldAddr 33 (.tmp 116) 1, 0, "law.go:174", #[⟨1, .data⟩], none⟩ ?_ ?_ hHeld ?_
       rotate_left
       ·(intro w hSw; (try dsimp only at hSw); go_simp; try (with_reducible rfl))
       simp only [Act.put, sA, sZ, sS]
       refine tk 3 ⟨some 118, .load 29 (.tmp 117), 29, "law.go:174", #[⟨2, .data⟩], none⟩ ?_ ?_ hHeld ?_
       rotate_left
       ·(intro w hSw; (try dsimp only at hSw); go_simp; try (with_reducible rfl))
       simp only [Act.put, sA, sZ, sS]
       refine tk 4 ⟨some 119, .load 23 (.tmp 2), 23, "law.go:174", #[], none⟩ ?_ ?_ hHeld ?_
       rotate_left
       ·(intro w hSw; (try dsimp only at hSw); go_simp; try (with_reducible rfl))
       simp only [Act.put, sA, sZ, sS]
       refine wpAnyH_ready (rs := [5]) (by kernel_rfl) (by simp) ?_
       refine AllReadyH.cons (o := ⟨some 120, .call { callee := .value (.func 21), args := #[.tmp 118, .tmp 119], argTypes := #[29, 23] }, 52, "law.go:174", #[⟨3, .data⟩, ⟨4, .data⟩], none⟩) rfl (fun K hK => ?_) AllReadyH.nil
       rw [if_pos (by rfl)]
       go_simp
       refine Calls.mono (hrmb _ (Below.refl _ _).drew) ?_
       rintro e w5 ⟨rfl, Fc, cc, hcc5, hv5, hst5⟩
       dsimp only
       have hR5 : R4 w5 w.heap.size p v g b i pd px py := hRb.keptIf (hst5.fr.block _ hRb.lt.1 hnFb.1) (hst5.fr.block _ hRb.lt.2 hnFb.2)
       refine hK.out _ _ hR5.cells (fun hHeld => ?_)
       clear hK K
       try simp only [Act.put, sA, sZ, sS]
       refine tk 6 ⟨some 114, .move (.tmp 120), 52, "law.go:174", #[⟨5, .data⟩], none⟩ ?_ ?_ hHeld ?_
       rotate_left
       ·(intro w hSw; (try dsimp only at hSw); go_simp; try (with_reducible rfl))
       simp only [Act.put, sA, sZ, sS]
       refine tk 7 ⟨some 121, .extract (.tmp 114) 0, 3, "law.go:174", #[⟨6, .data⟩], none⟩ ?_ ?_ hHeld ?_
       rotate_left
       ·(intro w hSw; (try dsimp only at hSw); go_simp; try (with_reducible rfl))
       simp only [Act.put, sA, sZ, sS]
       refine tk 8 ⟨some 122, .extract (.tmp 114) 1, 3, "law.go:174", #[⟨6, .data⟩, ⟨10, .gcOnly .lateStores⟩], none⟩ ?_ ?_ hHeld ?_
       rotate_left
       ·(intro w hSw; (try dsimp only at hSw); go_simp; try (with_reducible rfl))
       simp only [Act.put, sA, sZ, sS]
       refine tk 9 ⟨some 123, .extract (.tmp 114) 2, 36, "law.go:174", #[⟨6, .data⟩, ⟨11, .gcOnly .lateStores⟩], none⟩ ?_ ?_ hHeld ?_
       rotate_left
       ·(intro w hSw; (try dsimp only at hSw); go_simp; try (with_reducible rfl))
       simp only [Act.put, sA, sZ, sS]
       refine tk 10 ⟨some 20, .assign (.tmp 121), 3, "law.go:174", #[⟨7, .data⟩, ⟨5, .chain⟩, ⟨0, .phase⟩, ⟨1, .phase⟩, ⟨2, .phase⟩, ⟨3, .phase⟩, ⟨4, .phase⟩, ⟨5, .phase⟩, ⟨6, .phase⟩, ⟨7, .phase⟩, { on := 8, ground := Ground.textOnly Departure.lateStores }, { on := 9, ground := Ground.textOnly Departure.lateStores }], none⟩ ?_ ?_ hHeld ?_
       rotate_left
       ·(intro w hSw; (try dsimp only at hSw); go_simp; try (with_reducible rfl))
       simp only [Act.put, sA, sZ, sS]
       refine tk 11 ⟨some 21, .assign (.tmp 122), 3, "law.go:174", #[⟨8, .data⟩, ⟨10, .chain⟩, ⟨0, .phase⟩, ⟨1, .phase⟩, ⟨2, .phase⟩, ⟨3, .phase⟩, ⟨4, .phase⟩, ⟨5, .phase⟩, ⟨6, .phase⟩, ⟨7, .phase⟩, ⟨8, .phase⟩, { on := 9, ground := Ground.textOnly Departure.lateStores }, ⟨10, .phase⟩], none⟩ ?_ ?_ hHeld ?_
       rotate_left
       ·(intro w hSw; (try dsimp only at hSw); go_simp; try (with_reducible rfl))
       simp only [Act.put, sA, sZ, sS]
       refine tk 12 ⟨some 22, .assign (.tmp 123), 36, "law.go:174", #[⟨9, .data⟩, ⟨11, .chain⟩, ⟨0, .phase⟩, ⟨1, .phase⟩, ⟨2, .phase⟩, ⟨3, .phase⟩, ⟨4, .phase⟩, ⟨5, .phase⟩, ⟨6, .phase⟩, ⟨7, .phase⟩, ⟨8, .phase⟩, ⟨9, .phase⟩, ⟨10, .phase⟩, ⟨11, .phase⟩], none⟩ ?_ ?_ hHeld ?_
       rotate_left
       ·(intro w hSw; (try dsimp only at hSw); go_simp; try (with_reducible rfl))
       simp only [Act.put, sA, sZ, sS]
       refine wpAnyH_done (by kernel_rfl) ?_ _
       go_wp2_with fail
       go_meet
       exact ⟨rfl, rfl, rfl, Fc, cc, by omega, hv5, stp_after (Below.refl _ _).drew hst5⟩
      case rest =>
       obtain ⟨rfl, rfl, rfl, Fc, cc, hcc, hvc, hstc⟩ := hcut
       rename World => w10
       have hRc : R4 w10 w.heap.size p v g b i pd px py := hRb.keptIf (hstc.fr.block _ hRb.lt.1 hnFb.1) (hstc.fr.block _ hRb.lt.2 hnFb.2)
       have hnFc : ¬ Fc w.heap.size ∧ ¬ Fc p := ⟨fun hf => (hstc.new _ hf).elim hnFb.1 (fun h9 => by have := hRb.lt.1; have h9 : w7.heap.size ≤ w.heap.size := h9; omega), fun hf => (hstc.new _ hf).elim hnFb.2 (fun h9 => by have := hRb.lt.2; have h9 : w7.heap.size ≤ p := h9; omega)⟩
       have hgd2 := get_din HBv.out.2 (.inl ⟨rfl, rfl, rfl, rfl, rfl, rfl, rfl, rfl, rfl⟩)
       have hgt2 := fun (w8 : World) (hb8 : Below w10.heap.size w10 w8) => iget_ok (hvc.later hb8) hg hiN (by omega)
       rw [hgd2.1, hgd2.2] at hgt2
       have hvclt := hvc.lt
       have HCc : Hid (Pt.Stp Fb Fc w7 w10) := hstc
       clear hgd2
       go_upto_region 23 with fail
       go_cut [23, 24] (fun v23 v24 wx => v24 = .int .i64 0 ∧ ∃ x F2, v23 = .pointer (some ⟨x, 0, none⟩) ∧ wx.heap[x]? = some (dinX 0 0 0 (fun _ => 0)) ∧ ¬ F2 x ∧ w10.heap.size ≤ x ∧ Vol wx v F2 (g * b) Ib lb (cc + 1) ∧ Pt.Stp Fc F2 w10 wx)
       case first =>
        refine wp_region_held_drew (S := (fun w' => w'.cell? ⟨w.heap.size, 0, none⟩ = some (.int .i64 (g : Int)) ∧ w'.cell? ⟨w.heap.size, 1, none⟩ = some (.int .i64 (b : Int)) ∧ w'.cell? ⟨w.heap.size, 2, none⟩ = some (.int .i64 (i : Int)) ∧ w'.cell? ⟨p, 1, none⟩ = some (.pointer (some ⟨v, 0, none⟩)))) (by kernel_rfl) hRc.cells (fun hHeld => ?_)
        refine tk 0 ⟨some 125, .move (.tmp 5), 24, "law.go:175", #[], none⟩ ?_ ?_ hHeld ?_
        rotate_left
        ·(intro w hSw; (try dsimp only at hSw); go_simp; try (with_reducible rfl))
        simp only [Act.put, sA, sZ, sS]
        refine tk 1 ⟨some 126, .nilCheck (.tmp 125), 0, "law.go:175", #[⟨0, .data⟩], none⟩ ?_ ?_ hHeld ?_
        rotate_left
        ·(intro w hSw; (try dsimp only at hSw); go_simp; try (with_reducible rfl))
        simp only [Act.put, sA, sZ, sS]
        refine tk 2 ⟨some 127, .fieldAddr 33 (.tmp 126) 1, 0, "law.go:175", #[⟨1, .data⟩], none⟩ ?_ ?_ hHeld ?_
        rotate_left
        ·(intro w hSw; (try dsimp only at hSw); go_simp; try (with_reducible rfl))
        simp only [Act.put, sA, sZ, sS]
        refine tk 3 ⟨some 128, .load 29 (.tmp 127), 29, "law.go:175", #[⟨2, .data⟩], none⟩ ?_ ?_ hHeld ?_
        rotate_left
        ·(intro w hSw; (try dsimp only at hSw); go_simp; try (with_reducible rfl))
        simp only [Act.put, sA, sZ, sS]
        refine tk 4 ⟨some 129, .load 23 (.tmp 2), 23, "law.go:175", #[], none⟩ ?_ ?_ hHeld ?_
        rotate_left
        ·(intro w hSw; (try dsimp only at hSw); go_simp; try (with_reducible rfl))
        simp only [Act.put, sA, sZ, sS]
        refine tk 5 ⟨some 130, .move (.tmp 10), 3, "law.go:175", #[], none⟩ ?_ ?_ hHeld ?_
        rotate_left
        ·(intro w hSw; (try dsimp only at hSw); go_simp; try (with_reducible rfl))
        simp only [Act.put, sA, sZ, sS]
        refine wpAnyH_ready (rs := [6, 10]) (by kernel_rfl) (by simp) ?_
        refine AllReadyH.cons (o := ⟨some 131, .call { callee := .value (.func 29), args := #[.tmp 128, .tmp 129, .tmp 130], argTypes := #[29, 23, 3] }, 76, "law.go:175", #[⟨3, .data⟩, ⟨4, .data⟩, ⟨5, .data⟩], none⟩) rfl (fun K hK => ?_) ?_
        ·rw [if_pos (by rfl)]
         go_simp
         refine Calls.mono (hgt2 _ (Below.refl _ _).drew) ?_
         rintro e w5 ⟨rfl, F2, hv5, hst5⟩
         dsimp only
         have hR5 : R4 w5 w.heap.size p v g b i pd px py := hRc.keptIf (hst5.fr.block _ hRc.lt.1 hnFc.1) (hst5.fr.block _ hRc.lt.2 hnFc.2)
         refine hK.out _ _ hR5.cells (fun hHeld => ?_)
         clear hK K
         try simp only [Act.put, sA, sZ, sS]
         refine tk 7 ⟨some 124, .move (.tmp 131), 76, "law.go:175", #[⟨6, .data⟩], none⟩ ?_ ?_ hHeld ?_
         rotate_left
         ·(intro w hSw; (try dsimp only at hSw); go_simp; try (with_reducible rfl))
         simp only [Act.put, sA, sZ, sS]
         refine tk 8 ⟨some 132, .extract (.tmp 124) 0, 75, "law.go:175", #[⟨7, .data⟩], none⟩ ?_ ?_ hHeld ?_
         rotate_left
         ·(intro w hSw; (try dsimp only at hSw); go_simp; try (with_reducible rfl))
         simp only [Act.put, sA, sZ, sS]
         refine tk 9 ⟨some 133, .extract (.tmp 124) 1, 36, "law.go:175", #[⟨7, .data⟩, ⟨11, .gcOnly .lateStores⟩], none⟩ ?_ ?_ hHeld ?_
         rotate_left
         ·(intro w hSw; (try dsimp only at hSw); go_simp; try (with_reducible rfl))
         simp only [Act.put, sA, sZ, sS]
         refine wpAnyH_ready (rs := [10]) (by kernel_rfl) (by simp) ?_
         refine AllReadyH.cons (o := ⟨some 23, .alloc 75, 0, "law.go:175", #[], none⟩) rfl (fun K hK => ?_) AllReadyH.nil
         rw [if_pos (by rfl)]
         go_simp
         have hR6 := hR5.kept (Mk.grew_alloc w5 (Mk.dinO 0 0 0 0 0 0 0 0 0))
         refine hK.out _ _ hR6.cells (fun hHeld => ?_)
         clear hK K
         try simp only [Act.put, sA, sZ, sS]
         refine wpAnyH_ready (rs := [11]) (by kernel_rfl) (by simp) ?_
         refine AllReadyH.cons (o := ⟨none, .store 75 (.tmp 23) (.tmp 132), 0, "law.go:175", #[⟨10, .data⟩, ⟨8, .data⟩, ⟨6, .chain⟩, ⟨0, .phase⟩, ⟨1, .phase⟩, ⟨2, .phase⟩, ⟨3, .phase⟩, ⟨4, .phase⟩, ⟨5, .phase⟩, ⟨6, .phase⟩, ⟨7, .phase⟩, ⟨8, .phase⟩, { on := 9, ground := Ground.textOnly Departure.lateStores }, ⟨10, .phase⟩], none⟩) rfl (fun K hK => ?_) AllReadyH.nil
         rw [if_pos (by rfl)]
         refine wp_store_row 75 _ _ rfl w5.heap.size (dinC 0 0 0 (fun _ => 0)) rfl rfl 75 _ (at_new rfl) (dinC_info 0 0 0 (fun _ => 0)) rfl (dinC_one 0 0 0 (fun _ => 0)) ?_
         refine hK.out _ _ (hR6.keptIf (setRow_other _ _ _ _ (by have := hR5.lt.1; omega)) (setRow_other _ _ _ _ (by have := hR5.lt.2; omega))).cells (fun hHeld => ?_)
         clear hK K
         simp only [Act.put]
         refine tk 12 ⟨some 24, .assign (.tmp 133), 36, "law.go:175", #[⟨9, .data⟩, ⟨11, .chain⟩, ⟨0, .phase⟩, ⟨1, .phase⟩, ⟨2, .phase⟩, ⟨3, .phase⟩, ⟨4, .phase⟩, ⟨5, .phase⟩, ⟨6, .phase⟩, ⟨7, .phase⟩, ⟨8, .phase⟩, ⟨9, .phase⟩, ⟨10, .phase⟩, ⟨11, .phase⟩], none⟩ ?_ ?_ hHeld ?_
         rotate_left
         ·(intro w hSw; (try dsimp only at hSw); go_simp; try (with_reducible rfl))
         simp only [Act.put, sA, sZ, sS]
         refine wpAnyH_done (by kernel_rfl) ?_ _
         go_wp2_with fail
         go_meet
         have hbz : Below w5.heap.size w5 ((w5.alloc (Mk.dinO 0 0 0 0 0 0 0 0 0)).setRow w5.heap.size (dinC 0 0 0 (fun _ => 0))) := below_setRow (Mk.grew_alloc _ _) (Nat.le_refl _) _
         exact ⟨rfl, w5.heap.size, F2, rfl, setRow_heap _ _ _ _ _ _ (at_new rfl), fun hf => by have := hv5.lt _ hf; omega, hst5.fr.size, hv5.later hbz, stp_grown (stp_after (Below.refl _ _).drew hst5) hbz⟩
        refine AllReadyH.cons (o := ⟨some 23, .alloc 75, 0, "law.go:175", #[], none⟩) rfl (fun K hK => ?_) AllReadyH.nil
        rw [if_pos (by rfl)]
        go_simp
        have hR6 : R4 (w10.drew.alloc (Mk.dinO 0 0 0 0 0 0 0 0 0)) w.heap.size p v g b i pd px py := hRc.kept ((Below.refl _ _).drew.alloc (Nat.le_refl _) _)
        refine hK.out _ _ hR6.cells (fun hHeld => ?_)
        clear hK K
        try simp only [Act.put, sA, sZ, sS]
        refine wpAnyH_ready (rs := [6]) (by kernel_rfl) (by simp) ?_
        refine AllReadyH.cons (o := ⟨some 131, .call { callee := .value (.func 29), args := #[.tmp 128, .tmp 129, .tmp 130], argTypes := #[29, 23, 3] }, 76, "law.go:175", #[⟨3, .data⟩, ⟨4, .data⟩, ⟨5, .data⟩], none⟩) rfl (fun K hK => ?_) AllReadyH.nil
        rw [if_pos (by rfl)]
        go_simp
        refine Calls.mono (hgt2 _ ((Below.refl _ _).drew.alloc (Nat.le_refl _) _)) ?_
        rintro e w5 ⟨rfl, F2, hv5, hst5⟩
        dsimp only
        have hR5 : R4 w5 w.heap.size p v g b i pd px py := hR6.keptIf (hst5.fr.block _ hR6.lt.1 hnFc.1) (hst5.fr.block _ hR6.lt.2 hnFc.2)
        refine hK.out _ _ hR5.cells (fun hHeld => ?_)
        clear hK K
        try simp only [Act.put, sA, sZ, sS]
        refine tk 7 ⟨some 124, .move (.tmp 131), 76, "law.go:175", #[⟨6, .data⟩], none⟩ ?_ ?_ hHeld ?_
        rotate_left
        ·(intro w hSw; (try dsimp only at hSw); go_simp; try (with_reducible rfl))
        simp only [Act.put, sA, sZ, sS]
        refine tk 8 ⟨some 132, .extract (.tmp 124) 0, 75, "law.go:175", #[⟨7, .data⟩], none⟩ ?_ ?_ hHeld ?_
        rotate_left
        ·(intro w hSw; (try dsimp only at hSw); go_simp; try (with_reducible rfl))
        simp only [Act.put, sA, sZ, sS]
        refine tk 9 ⟨some 133, .extract (.tmp 124) 1, 36, "law.go:175", #[⟨7, .data⟩, ⟨11, .gcOnly .lateStores⟩], none⟩ ?_ ?_ hHeld ?_
        rotate_left
        ·(intro w hSw; (try dsimp only at hSw); go_simp; try (with_reducible rfl))
        simp only [Act.put, sA, sZ, sS]
        refine wpAnyH_ready (rs := [11]) (by kernel_rfl) (by simp) ?_
        refine AllReadyH.cons (o := ⟨none, .store 75 (.tmp 23) (.tmp 132), 0, "law.go:175", #[⟨10, .data⟩, ⟨8, .data⟩, ⟨6, .chain⟩, ⟨0, .phase⟩, ⟨1, .phase⟩, ⟨2, .phase⟩, ⟨3, .phase⟩, ⟨4, .phase⟩, ⟨5, .phase⟩, ⟨6, .phase⟩, ⟨7, .phase⟩, ⟨8, .phase⟩, { on := 9, ground := Ground.textOnly Departure.lateStores }, ⟨10, .phase⟩], none⟩) rfl (fun K hK => ?_) AllReadyH.nil
        rw [if_pos (by rfl)]
        have hzz : w5.heap[w10.heap.size]? = some (Mk.dinO 0 0 0 0 0 0 0 0 0) := (hst5.fr.block _ (by simp) (fun hf => by have := hvclt _ hf; omega)).trans (at_new (w := w10.drew) rfl)
        refine wp_store_row 75 _ _ rfl w10.heap.size (dinC 0 0 0 (fun _ => 0)) rfl rfl 75 _ hzz (dinC_info 0 0 0 (fun _ => 0)) rfl (dinC_one 0 0 0 (fun _ => 0)) ?_
        refine hK.out _ _ (hR5.keptIf (setRow_other _ _ _ _ (by have := hRc.lt.1; omega)) (setRow_other _ _ _ _ (by have := hRc.lt.2; omega))).cells (fun hHeld => ?_)
        clear hK K
        simp only [Act.put]
        refine tk 12 ⟨some 24, .assign (.tmp 133), 36, "law.go:175", #[⟨9, .data⟩, ⟨11, .chain⟩, ⟨0, .phase⟩, ⟨1, .phase⟩, ⟨2, .phase⟩, ⟨3, .phase⟩, ⟨4, .phase⟩, ⟨5, .phase⟩, ⟨6, .phase⟩, ⟨7, .phase⟩, ⟨8, .phase⟩, ⟨9, .phase⟩, ⟨10, .phase⟩, ⟨11, .phase⟩], none⟩ ?_ ?_ hHeld ?_
        rotate_left
        ·(intro w hSw; (try dsimp only at hSw); go_simp; try (with_reducible rfl))
        simp only [Act.put, sA, sZ, sS]
        refine wpAnyH_done (by kernel_rfl) ?_ _
        go_wp2_with fail
        go_meet
        have hs5 : w10.heap.size + 1 ≤ w5.heap.size := (by have := hst5.fr.size; simpa using this)
        have hbz : Below w10.heap.size w5 (w5.setRow w10.heap.size (dinC 0 0 0 (fun _ => 0))) := below_setRow (Below.refl _ _) (Nat.le_refl _) _
        have hnz : ¬ F2 w10.heap.size := fun hf => (hst5.new _ hf).elim (fun h9 => by have := hvclt _ h9; omega) (fun h9 => by have h9 : (w10.drew.alloc (Mk.dinO 0 0 0 0 0 0 0 0 0)).heap.size ≤ w10.heap.size := h9; have e9 : (w10.drew.alloc (Mk.dinO 0 0 0 0 0 0 0 0 0)).heap.size = w10.heap.size + 1 := (by simp); omega)
        exact ⟨rfl, w10.heap.size, F2, rfl, setRow_heap _ _ _ _ _ _ hzz, hnz, Nat.le_refl _, hv5.else hbz.size (fun k hk => setRow_other _ _ _ _ (fun e => hnz (e ▸ hk))), stp_low (stp_after ((Below.refl _ _).drew.alloc (Nat.le_refl _) _) hst5) hbz⟩
       case rest =>
        obtain ⟨rfl, x0, F2, rfl, hx0, hx0F, hx0l, hv2, hst2⟩ := hcut
        rename World => w11
        clear hv2 hx0F hgt2 hrmb
        have hx0 : w11.heap[x0]? = some (Mk.dinO 0 0 0 0 0 0 0 0 0) := hx0
        have hd0 : ∀ k, k < 9 → w11.cell? ⟨x0, k, none⟩ = some (.int .i64 0) := fun k hk => by
         rcases (by omega : k = 0 ∨ k = 1 ∨ k = 2 ∨ k = 3 ∨ k = 4 ∨ k = 5 ∨ k = 6 ∨ k = 7 ∨ k = 8) with rfl | rfl | rfl | rfl | rfl | rfl | rfl | rfl | rfl <;> exact Mk.cell_row hx0 _ _ rfl
        have e0 := hd0 0 (by omega)
        have e1 := hd0 1 (by omega)
        have e2 := hd0 2 (by omega)
        have e3 := hd0 3 (by omega)
        have e4 := hd0 4 (by omega)
        have e5 := hd0 5 (by omega)
        have e6 := hd0 6 (by omega)
        have e7 := hd0 7 (by omega)
        have e8 := hd0 8 (by omega)
        have hq := fun w => Mk.eq45 0 0 0 0 0 0 0 0 0 0 0 0 0 0 0 0 0 0 w
        simp only [and_self, decide_true] at hq
        go_wp2_with (first
         | (refine wpList_eql_wanted (by rfl) 75 _ _ rfl _ _ rfl rfl Mk.guard45 _ (hq _) ?_))
        go_ret
        have hst := stp_trans HCl.out.1 (stp_trans HBv.out.1 (stp_trans HCc.out hst2))
        exact ⟨rfl, HC.out.1.trans (hst.fr.below (HC.out.1.size) (fun k hk => by have := HC.out.2.2.2.1 k hk; omega))⟩
end Go.Proofs.YthdlpeejmmobmaaGreat
