/- C5 C6 C8 CA J2 -/
import Derived.Test.YthdlpeejmmobmaaGreatYG35
import Derived.WalkMore
import Derived.Deep.LoopGhost
import Derived.Test.YthdlpeejmmobmaaGreatYG01

namespace Go.Proofs.YthdlpeejmmobmaaGreat
open Go.RowKit Go.Maps
set_option maxRecDepth 100000
set_option linter.unusedVariables false
def bst (H : Nat → List Int) (r : Bool) (G B Q near : Nat) : Nat → Nat
 | 0 => near
 | k + 1 => if fre H r B Q (bst H r G B Q near k) < fre H r B Q ((near + k) % G) then (near + k) % G else bst H r G B Q near k
theorem bst_lt {H : Nat → List Int} {r : Bool} {G B Q near : Nat} (hn : near < G) : ∀ k, bst H r G B Q near k < G
 | 0 => hn
 | k + 1 => by
  simp only [bst]
  split
  ·exact Nat.mod_lt _ (by omega)
  ·exact bst_lt hn k
def mos (H : Nat → List Int) (r : Bool) (G B Q near : Nat) : Option (Nat × Nat) := (frs H r B Q (bst H r G B Q near G)).map fun i => (bst H r G B Q near G, i)
structure R5 (w wr w2 wx : World) (G B Q n m : Nat) (ys zs : List Int) : Prop where
 g : wx.heap[w.heap.size]? = some (Mk.geomO G B Q)
 n : wx.heap[wr.heap.size]? = some (Mk.groupO n ys)
 m : wx.heap[w2.heap.size]? = some (Mk.groupO m zs)
 b : Below w2.heap.size w2 wx
theorem R5.kept {w wr w2 wx wy : World} {G B Q n m : Nat} {ys zs : List Int} (h : R5 w wr w2 wx G B Q n m ys zs) (hb : Below wx.heap.size wx wy) : R5 w wr w2 wy G B Q n m ys zs :=
 ⟨(hb.block _ (Array.getElem?_eq_some_iff.1 h.g).1).trans h.g, (hb.block _ (Array.getElem?_eq_some_iff.1 h.n).1).trans h.n, (hb.block _ (Array.getElem?_eq_some_iff.1 h.m).1).trans h.m, h.b.trans (hb.mono h.b.size)⟩
theorem row_range {w : World} {b : Nat} {n : Int} {ys : List Int} (h : w.heap[b]? = some (Mk.groupO n ys)) : w.rangeAt b 0 (Mk.groupA n ys).toList := fun j v hv => by
 rw [Nat.zero_add]
 refine cell_of_row _ _ j _ _ _ h |>.trans ?_
 rw [← Array.getElem?_toList]
 exact hv
theorem R5.cells {w wr w2 wx : World} {G B Q n m : Nat} {ys zs : List Int} (h : R5 w wr w2 wx G B Q n m ys zs) :
  (wx.cell? ⟨w.heap.size, 0, none⟩ = some (.int .i64 (G : Int)) ∧ wx.cell? ⟨w.heap.size, 1, none⟩ = some (.int .i64 (B : Int)) ∧ wx.cell? ⟨w.heap.size, 2, none⟩ = some (.int .i64 (Q : Int))) ∧ wx.rangeAt wr.heap.size 0 (Mk.groupA n ys).toList ∧ wx.rangeAt w2.heap.size 0 (Mk.groupA m zs).toList :=
 ⟨⟨(g3_of h.g).c0, (g3_of h.g).c1, (g3_of h.g).c2⟩, row_range h.n, row_range h.m⟩
section
variable {w w' : World} {v : Nat} {F : Nat → Prop} {N : Nat} {I : Nat → List Int} {l c G B Q : Nat}
open Mk.Al in
set_option maxHeartbeats 4000000 in
theorem emptiest_ok (h : Vol w v F N I l c) (hg : Geo G B Q N) {H : Nat → List Int} (hH : Hds I G B H) (r : Bool) {near : Nat} (hn : near < G) (hc : c + 8 < 4611686018427387904) :
  Calls Tryz.prog 72 #[.pointer (some ⟨v, 0, none⟩), Mk.geomV G B Q, .int .i64 (rI r), .int .i64 (near : Int)] w fun e w' => e = .returned (nstV H r (mos H r G B Q near)) ∧ ∃ F' c', c' ≤ c + 8 ∧ Vol w' v F' N I l c' ∧ Pt.Stp F F' w w' := by
 have hfit := hg.fit
 obtain ⟨W, hW⟩ : ∃ W, ((w.alloc (Mk.geomO G B Q)).alloc (spotO 0 (Mk.zers 40) false 0)) = W := ⟨_, rfl⟩
 have hb : Below w.heap.size w W := by rw [← hW]; exact (((Below.refl _ _).alloc (Nat.le_refl _) _).alloc (by simp) _)
 have hx : W.heap[w.heap.size]? = some (Mk.geomO G B Q) := by rw [← hW]; exact at_old (at_new rfl)
 have hs : W.heap[w.heap.size + 1]? = some (spotO 0 (Mk.zers 40) false 0) := by rw [← hW]; exact at_new (by simp)
 have c0 := (g3_of hx).c0
 have c1 := (g3_of hx).c1
 have c2 := (g3_of hx).c2
 have hsz : W.heap.size = w.heap.size + 2 := by rw [← hW]; simp
 have hlt := h.lt
 have hv := h.later hb
 have hah := allHeaders_ok hv hg hH hc
 have hi0 := info138 0 (Mk.zers_len 40) false 0
 have h10 := spot_one 0 (Mk.zers 40) false 0
 dsimp only [spotO] at hW
 rw [zeroSpot] at hW
 have HC : Hid (Vol W v F N I l c ∧ Below w.heap.size w W ∧ (∀ k, F k → k < w.heap.size) ∧ c + 8 < 4611686018427387904) := ⟨hv, hb, hlt, hc⟩
 clear hv h hb hlt
 go_enter Tryz.func72, Tryz.ntmps72
 go_wp2_with fail
 refine Calls.mono hah ?_
 rintro e w2 ⟨hb, rfl, F2, c', hc', hv2, hst2, hblo, hnF, hrow⟩
 dsimp only
 have hx2 : w2.heap[w.heap.size]? = some (Mk.geomO G B Q) := (hst2.fr.block _ (Array.getElem?_eq_some_iff.1 hx).1 (fun hf => by have := HC.out.2.2.1 _ hf; omega)).trans hx
 have hs2 : w2.heap[w.heap.size + 1]? = some (spotO 0 (Mk.zers 40) false 0) := (hst2.fr.block _ (Array.getElem?_eq_some_iff.1 hs).1 (fun hf => by have := HC.out.2.2.1 _ hf; omega)).trans hs
 have c0 := (g3_of hx2).c0
 have c1 := (g3_of hx2).c1
 have c2 := (g3_of hx2).c2
 have hst : Pt.Stp F F2 w w2 := stp_after (HC.out.2.1) hst2
 have hlt2 : hb < w2.heap.size := by
  have h1 := (hrow.there 0 (by omega)).1
  rw [Option.isSome_iff_exists] at h1
  obtain ⟨v0, h1⟩ := h1
  exact lt_of_cell h1
 have hq2 : ∀ q, F2 q → q ≠ w.heap.size + 1 := fun q hq e => (hst2.new q hq).elim (fun h => by have := HC.out.2.2.1 q h; omega) (fun h => by have : W.heap.size ≤ q := h; omega)
 have HV : Hid (Vol w2 v F2 N I l c' ∧ Pt.Stp F F2 w w2 ∧ Hrow w2 hb G G H ∧ ∀ q, F2 q → q ≠ w.heap.size + 1) := ⟨hv2, hst, hrow, hq2⟩
 have hln := hH.len near hn
 have hsg := Mk.groupA_size (near : Int) (H near) hln
 have hsg0 := Mk.groupA_size 0 (Mk.zers 40) (Mk.zers_len 40)
 have hrw := hrow.row near hn
 have hnI : (near : Int) < (G : Int) := by omega
 have hinf : (Tryz.prog.info? 64).map (·.size) = some (Mk.groupA near (H near)).toList.length := by rw [Array.length_toList]; exact Mk.info38 (near : Int) (H near) hln
 obtain ⟨W6, hW6⟩ : ∃ W6, w2.alloc (Mk.groupO 0 (Mk.zers 40)) = W6 := ⟨_, rfl⟩
 have hb6 : Below w2.heap.size w2 W6 := by rw [← hW6]; exact Mk.grew_alloc _ _
 have hn6 : W6.heap[w2.heap.size]? = some (Mk.groupO 0 (Mk.zers 40)) := by rw [← hW6]; exact at_new rfl
 obtain ⟨W7, hW7⟩ : ∃ W7, W6.setRow w2.heap.size (Mk.groupA near (H near)) = W7 := ⟨_, rfl⟩
 have hn7 : W7.heap[w2.heap.size]? = some (Mk.groupO near (H near)) := by rw [← hW7]; exact setRow_heap _ _ _ _ _ _ hn6
 have hb7 : Below w2.heap.size w2 W7 := by rw [← hW7]; exact below_setRow hb6 (Nat.le_refl _) _
 dsimp only [Mk.groupO] at hW6
 rw [Mk.zero38] at hW6
 clear hah hv2 hst2 hst hrow hq2
 go_wp2_with (first
    | (refine wpList_load_mid rfl 64 _ rfl hb (near * 41) rfl _ _ hrw Tryz.underlying64 rfl hinf ?_; rw [Array.toArray_toList])
    | (refine wpList_store_row rfl 64 _ _ rfl w2.heap.size (Mk.groupA near (H near)) rfl rfl 64 _ hn6 (Mk.info38 (near : Int) (H near) hln) (hsg0.trans hsg.symm) (Mk.group_one (near : Int) (H near)) ?_; rw [hW7]))
 have hB8 : ∀ r, eN r B Q ≤ 256 := fun r => (fe_lt hg.may r 0).2.2
 have hI0 : ∃ k, k ≤ G ∧ (.int .i64 0 : Value) = .int .i64 (k : Int) ∧ Below w2.heap.size w2 W7 ∧ W7.heap[w2.heap.size]? = some (Mk.groupO (bst H r G B Q near k) (H (bst H r G B Q near k))) := ⟨0, by omega, rfl, hb7, hn7⟩
 clear hrw hinf hn7 hn6 hW7 hW6 hb6 hb7 hln hsg
 go_loopw [33] (fun v33 wr => ∃ k, k ≤ G ∧ v33 = .int .i64 (k : Int) ∧ Below w2.heap.size w2 wr ∧ wr.heap[w2.heap.size]? = some (Mk.groupO (bst H r G B Q near k) (H (bst H r G B Q near k)))) (fun v33 _ => G - (intOf v33).toNat)
 case atStart => exact hI0
 case round =>
  clear hI0
  obtain ⟨k, hkG, rfl, hbr, hbest⟩ := hrel
  have hx3 := (hbr.block _ (Array.getElem?_eq_some_iff.1 hx2).1).trans hx2
  have hs3 := (hbr.block _ (Array.getElem?_eq_some_iff.1 hs2).1).trans hs2
  have c0 := (g3_of hx3).c0
  have c1 := (g3_of hx3).c1
  have c2 := (g3_of hx3).c2
  by_cases hlt : k < G
  ·have hkI : (k : Int) < (G : Int) := by omega
   have hstep : bst H r G B Q near (k + 1) = if fre H r B Q (bst H r G B Q near k) < fre H r B Q ((near + k) % G) then (near + k) % G else bst H r G B Q near k := rfl
   have hmG := bst_lt (H := H) (r := r) (B := B) (Q := Q) hn k
   obtain ⟨m, hm⟩ : ∃ m, bst H r G B Q near k = m := ⟨_, rfl⟩
   obtain ⟨n, hnn⟩ : ∃ n, (near + k) % G = n := ⟨_, rfl⟩
   have hnG : n < G := by rw [← hnn]; exact Nat.mod_lt _ (by omega)
   have hnI2 : (n : Int) < (G : Int) := by omega
   have hrem : ((near : Int) + (k : Int)).tmod (G : Int) = (n : Int) := by rw [← Int.natCast_add, ← hnn]; rfl
   have hsum : IntKind.i64.wrap ((near : Int) + (k : Int)) = (near : Int) + (k : Int) := IntWalk.i64_in _ (by omega)
   have hwn : wrap64 (n : Int) = (n : Int) := IntWalk.wrap64_in _ ⟨by omega, by omega⟩
   have hGn : ¬ G = 0 := by omega
   rw [hm] at hbest hstep hmG
   rw [hnn] at hstep
   have HS : Hid (bst H r G B Q near (k + 1) = if fre H r B Q m < fre H r B Q n then n else m) := hstep
   clear hstep hm hnn
   have hln := hH.len n hnG
   have hlm := hH.len m hmG
   have hsg := Mk.groupA_size (n : Int) (H n) hln
   have hsm := Mk.groupA_size (m : Int) (H m) hlm
   have hrw := (HV.out.2.2.1.keep (hbr.block _ hlt2)).row n hnG
   have hinf : (Tryz.prog.info? 64).map (·.size) = some (Mk.groupA n (H n)).toList.length := by rw [Array.length_toList]; exact Mk.info38 (n : Int) (H n) hln
   have hinm : (Tryz.prog.info? 64).map (·.size) = some (Mk.groupA m (H m)).toList.length := by rw [Array.length_toList]; exact Mk.info38 (m : Int) (H m) hlm
   have hln' : ∀ w, Calls Tryz.prog 65 #[.int .i64 (rI r), Mk.geomV G B Q, Mk.groupV n (H n)] w fun e w' => e = .returned (.int .i64 (fre H r B Q n : Int)) ∧ Below w.heap.size w w' := fun w => by
    have := left_ok r (hg.inn hnG) (H n) hln (hH.byt n hnG) w
    rw [fre_zc hg.may] at this
    exact this
   have hlm' : ∀ w, Calls Tryz.prog 65 #[.int .i64 (rI r), Mk.geomV G B Q, Mk.groupV m (H m)] w fun e w' => e = .returned (.int .i64 (fre H r B Q m : Int)) ∧ Below w.heap.size w w' := fun w => by
    have := left_ok r (hg.inn hmG) (H m) hlm (hH.byt m hmG) w
    rw [fre_zc hg.may] at this
    exact this
   obtain ⟨fn, hfn⟩ : ∃ fn, fre H r B Q n = fn := ⟨_, rfl⟩
   obtain ⟨fm, hfm⟩ : ∃ fm, fre H r B Q m = fm := ⟨_, rfl⟩
   rw [hfn] at hln'
   rw [hfm] at hlm'
   have HF : Hid (fre H r B Q n = fn ∧ fre H r B Q m = fm) := ⟨hfn, hfm⟩
   clear hfn hfm
   obtain ⟨W6, hW6⟩ : ∃ W6, wr.alloc (Mk.groupO 0 (Mk.zers 40)) = W6 := ⟨_, rfl⟩
   have hb6 : Below wr.heap.size wr W6 := by rw [← hW6]; exact Mk.grew_alloc _ _
   have hn6 : W6.heap[wr.heap.size]? = some (Mk.groupO 0 (Mk.zers 40)) := by rw [← hW6]; exact at_new rfl
   obtain ⟨W7, hW7⟩ : ∃ W7, W6.setRow wr.heap.size (Mk.groupA n (H n)) = W7 := ⟨_, rfl⟩
   have hn7 : W7.heap[wr.heap.size]? = some (Mk.groupO n (H n)) := by rw [← hW7]; exact setRow_heap _ _ _ _ _ _ hn6
   have hb7 : Below wr.heap.size wr W7 := by rw [← hW7]; exact below_setRow hb6 (Nat.le_refl _) _
   have hx7 := (hb7.block _ (Array.getElem?_eq_some_iff.1 hx3).1).trans hx3
   have hm7 := (hb7.block _ (Array.getElem?_eq_some_iff.1 hbest).1).trans hbest
   dsimp only [Mk.groupO] at hW6
   rw [Mk.zero38] at hW6
   go_upto_region 9 with (first
    | (refine wpList_load_mid rfl 64 _ rfl hb (n * 41) rfl _ _ hrw Tryz.underlying64 rfl hinf ?_; rw [Array.toArray_toList])
    | (refine wpList_store_row rfl 64 _ _ rfl wr.heap.size (Mk.groupA n (H n)) rfl rfl 64 _ hn6 (Mk.info38 (n : Int) (H n) hln) (hsg0.trans hsg.symm) (Mk.group_one (n : Int) (H n)) ?_; rw [hW7]))
   try simp only [Act.put]
   go_cut [53] (fun v53 wx => v53 = .bool (decide (fm < fn)) ∧ Below w2.heap.size w2 wx ∧ wx.heap[wr.heap.size]? = some (Mk.groupO n (H n)) ∧ wx.heap[w2.heap.size]? = some (Mk.groupO m (H m)))
   case first =>
    have hR7 : R5 w wr w2 W7.drew G B Q n m (H n) (H m) := ⟨hx7, hn7, hm7, (hbr.trans (hb7.mono hbr.size)).drew⟩
    refine wp_region_held_drew (S := (fun w' => (w'.cell? ⟨w.heap.size, 0, none⟩ = some (.int .i64 (G : Int)) ∧ w'.cell? ⟨w.heap.size, 1, none⟩ = some (.int .i64 (B : Int)) ∧ w'.cell? ⟨w.heap.size, 2, none⟩ = some (.int .i64 (Q : Int))) ∧ w'.rangeAt wr.heap.size 0 (Mk.groupA n (H n)).toList ∧ w'.rangeAt w2.heap.size 0 (Mk.groupA m (H m)).toList)) (by kernel_rfl) hR7.cells (fun hHeld => ?_)
    refine tk 0 ⟨some 45, .move (.tmp 2), 134, "row.go:115", #[], none⟩ ?_ ?_ hHeld ?_
    rotate_left
    ·(intro w hSw; (try dsimp only at hSw); go_simp; try (with_reducible rfl))
    simp only [Act.put, sA, sZ, sS]
    refine tk 1 ⟨some 46, .load 23 (.tmp 5), 23, "row.go:115", #[], none⟩ ?_ ?_ hHeld ?_
    rotate_left
    ·(intro w hSw; (try dsimp only at hSw); go_simp; try (with_reducible rfl))
    simp only [Act.put, sA, sZ, sS]
    refine wpAnyH_take (i := 2) (oi := ⟨some 47, .load 64 (.tmp 14), 64, "row.go:115", #[], none⟩) (v := .agg (Mk.groupA n (H n))) rfl (by kernel_rfl) (by kernel_rfl) (by kernel_rfl) (fun _ _ _ h => h) (yieldsIf_load_mid (by rfl) 64 _ rfl wr.heap.size 0 rfl (Mk.groupA n (H n)).toList _ (fun _ hS => hS.2.1) Tryz.underlying64 rfl hinf) hHeld ?_
    simp only [Act.put, sA, sZ, sS]
    refine tk 4 ⟨some 49, .move (.tmp 2), 134, "row.go:115", #[], none⟩ ?_ ?_ hHeld ?_
    rotate_left
    ·(intro w hSw; (try dsimp only at hSw); go_simp; try (with_reducible rfl))
    simp only [Act.put, sA, sZ, sS]
    refine tk 5 ⟨some 50, .load 23 (.tmp 5), 23, "row.go:115", #[], none⟩ ?_ ?_ hHeld ?_
    rotate_left
    ·(intro w hSw; (try dsimp only at hSw); go_simp; try (with_reducible rfl))
    simp only [Act.put, sA, sZ, sS]
    refine wpAnyH_take (i := 6) (oi := ⟨some 51, .load 64 (.tmp 12), 64, "row.go:115", #[], none⟩) (v := .agg (Mk.groupA m (H m))) rfl (by kernel_rfl) (by kernel_rfl) (by kernel_rfl) (fun _ _ _ h => h) (yieldsIf_load_mid (by rfl) 64 _ rfl w2.heap.size 0 rfl (Mk.groupA m (H m)).toList _ (fun _ hS => hS.2.2) Tryz.underlying64 rfl hinm) hHeld ?_
    simp only [Act.put, sA, sZ, sS]
    refine wpAnyH_ready (rs := [3]) (by kernel_rfl) (by simp) ?_
    refine AllReadyH.cons (o := ⟨some 48, .call { callee := .value (.func 65), args := #[.tmp 45, .tmp 46, .tmp 47], argTypes := #[134, 23, 64] }, 3, "row.go:115", #[⟨0, .data⟩, ⟨1, .data⟩, ⟨2, .data⟩], none⟩) rfl (fun K hK => ?_) AllReadyH.nil
    rw [if_pos (by rfl)]
    go_simp
    refine Mk.grew_at ((hln' _)) ?_
    intro x1 hbx1
    have hRx1 := hR7.kept hbx1
    refine hK.out _ _ hRx1.cells (fun hHeld => ?_)
    clear hK K
    try simp only [Act.put, sA, sZ, sS]
    refine wpAnyH_ready (rs := [7]) (by kernel_rfl) (by simp) ?_
    refine AllReadyH.cons (o := ⟨some 52, .call { callee := .value (.func 65), args := #[.tmp 49, .tmp 50, .tmp 51], argTypes := #[134, 23, 64] }, 3, "row.go:115", #[⟨4, .data⟩, ⟨5, .data⟩, ⟨6, .data⟩, ⟨3, .chain⟩], none⟩) rfl (fun K hK => ?_) AllReadyH.nil
    rw [if_pos (by rfl)]
    go_simp
    refine Mk.grew_at ((hlm' _)) ?_
    intro x2 hbx2
    have hRx2 := hRx1.kept hbx2
    refine hK.out _ _ hRx2.cells (fun hHeld => ?_)
    clear hK K
    try simp only [Act.put, sA, sZ, sS]
    refine tk 8 ⟨some 53, .binOp BinOp.gtr 3 (.tmp 48) (.tmp 52) 3, 4, "row.go:115", #[⟨3, .data⟩, ⟨7, .data⟩], none⟩ ?_ ?_ hHeld ?_
    rotate_left
    ·(intro w hSw; (try dsimp only at hSw); go_simp; try (with_reducible rfl))
    simp only [Act.put, sA, sZ, sS]
    refine wpAnyH_done (by kernel_rfl) ?_ _
    go_wp2_with fail
    go_meet
    exact ⟨rfl, hRx2.b, hRx2.n, hRx2.m⟩
   case rest =>
    obtain ⟨rfl, hbx, hnx, hmx⟩ := hcut
    rename World => wx
    by_cases hcmp : fm < fn
    ·rw [decide_eq_true hcmp]
     obtain ⟨W8, hW8⟩ : ∃ W8, wx.setRow w2.heap.size (Mk.groupA n (H n)) = W8 := ⟨_, rfl⟩
     have hb8 : Below w2.heap.size w2 W8 := by rw [← hW8]; exact below_setRow hbx (Nat.le_refl _) _
     have hm8 : W8.heap[w2.heap.size]? = some (Mk.groupO n (H n)) := by rw [← hW8]; exact setRow_heap _ _ _ _ _ _ hmx
     have HB : Hid (Below w2.heap.size w2 W8) := hb8
     clear hb8
     go_wp2_with (first
      | (refine wpList_load_row rfl 64 _ rfl wr.heap.size rfl 64 _ (0, 0) _ hnx Tryz.underlying64 rfl (Mk.info38 (n : Int) (H n) hln) ?_)
      | (refine wpList_store_row rfl 64 _ _ rfl w2.heap.size (Mk.groupA n (H n)) rfl rfl 64 _ hmx (Mk.info38 (n : Int) (H n) hln) (hsm.trans hsg.symm) (Mk.group_one (n : Int) (H n)) ?_; rw [hW8]))
     go_roundw
     case rel => exact ⟨k + 1, by omega, by go_num, HB.out, by rw [HS.out, HF.out.1, HF.out.2, if_pos hcmp]; exact hm8⟩
     case measure => simp [intOf]; omega
    ·rw [decide_eq_false hcmp]
     go_wp2_with fail
     go_roundw
     case rel => exact ⟨k + 1, by omega, by go_num, hbx, by rw [HS.out, HF.out.1, HF.out.2, if_neg hcmp]; exact hmx⟩
     case measure => simp [intOf]; omega
  ·have hkG' : k = G := by omega
   subst hkG'
   have hkI : ¬ ((k : Int) < (k : Int)) := by omega
   have hmG := bst_lt (H := H) (r := r) (B := B) (Q := Q) hn k
   have ho0 : mos H r k B Q near = (frs H r B Q (bst H r k B Q near k)).map fun i => (bst H r k B Q near k, i) := rfl
   obtain ⟨n, hnn⟩ : ∃ n, bst H r k B Q near k = n := ⟨_, rfl⟩
   rw [hnn] at hbest hmG ho0
   have hln := hH.len n hmG
   have hfo := first_ok r (hg.inn hmG) (H n) hln (hH.byt n hmG)
   change ∀ w, Calls _ _ _ _ fun e w' => ∃ i : Int, e = .returned (.tuple #[.int .i64 i, .bool (frs H r B Q n).isSome]) ∧ (∀ j, frs H r B Q n = some j → _) ∧ _ at hfo
   clear hnn
   go_wp2_with (first | (refine wpList_load_row rfl 64 _ rfl w2.heap.size rfl 64 _ (0, 0) _ hbest Tryz.underlying64 rfl (Mk.info38 (n : Int) (H n) hln) ?_))
   refine Calls.mono (hfo _) ?_
   rintro e w3 ⟨i, rfl, hi, hb3w⟩
   dsimp only
   have hs3' := (hb3w.block _ (Array.getElem?_eq_some_iff.1 hs3).1).trans hs3
   have hbn3 := (hb3w.block _ (Array.getElem?_eq_some_iff.1 hbest).1).trans hbest
   have hsz2 : w.heap.size + 2 ≤ w2.heap.size := by have := (Array.getElem?_eq_some_iff.1 hs2).1; omega
   have hb23 : Below w2.heap.size w2 w3 := hbr.trans (hb3w.mono hbr.size)
   cases ho : frs H r B Q n with
   | none =>
    have ho1 : mos H r k B Q near = none := by rw [ho0, ho]; rfl
    go_wp2_with (first
     | (refine wpList_store_row rfl 138 _ _ rfl (w.heap.size + 1) (spotA 0 (Mk.zers 40) false 0) rfl rfl 138 _ hs3' hi0 rfl h10 ?_))
    skip
    refine bodyPost_ret (v := .tuple #[spotV 0 (Mk.zers 40) false 0, .int .i64 5]) (Mk.results_cell_tmp_row (p := 8) (u := 9) (ty := 138) Tryz.results72 _ _ (w.heap.size + 1) 138 _ (0, 0) _ rfl (setRow_heap _ _ _ _ _ _ hs3') Tryz.underlying138 rfl hi0) rfl ?_
    have hlow : Below w.heap.size w3 (w3.setRow (w.heap.size + 1) (spotA 0 (Mk.zers 40) false 0)) := below_setRow (Below.refl _ _) (by omega) _
    refine ⟨by rw [ho1]; rfl, F2, c', hc', (HV.out.1.later hb23).else hlow.size (fun q hq => setRow_other _ _ _ _ (HV.out.2.2.2 q hq)), stp_low (stp_grown HV.out.2.1 hb23) hlow⟩
   | some j =>
    have ho1 : mos H r k B Q near = some (n, j) := by rw [ho0, ho]; rfl
    have hij := hi j ho
    subst hij
    have hinf := info138 (n : Int) hln r (j : Int)
    have hso := spot_one (n : Int) (H n) r (j : Int)
    have hss : (spotA 0 (Mk.zers 40) false 0).size = (spotA n (H n) r j).size := (spot_size 0 (Mk.zers_len 40) false 0).trans (spot_size (n : Int) hln r (j : Int)).symm
    go_wp2_with (first
     | (refine wpList_load_row rfl 64 _ rfl w2.heap.size rfl 64 _ (0, 0) _ hbn3 Tryz.underlying64 rfl (Mk.info38 (n : Int) (H n) hln) ?_)
     | (refine wpList_built rfl 138 _ rfl _ (Eq.trans (congrArg (Tryz.prog.built 138) (by simp only [Act.eval, Array.toList_map, List.map_cons, List.map_nil]; rfl)) (built_spot (n : Int) hln r (j : Int))) ?_)
     | (refine wpList_store_row rfl 138 _ _ rfl (w.heap.size + 1) (spotA n (H n) r j) rfl rfl 138 _ hs3' hinf hss hso ?_))
    skip
    refine bodyPost_ret (v := .tuple #[spotV n (H n) r j, .int .i64 0]) (Mk.results_cell_tmp_row (p := 8) (u := 9) (ty := 138) Tryz.results72 _ _ (w.heap.size + 1) 138 _ (0, 0) _ rfl (setRow_heap _ _ _ _ _ _ hs3') Tryz.underlying138 rfl hinf) rfl ?_
    have hlow : Below w.heap.size w3 (w3.setRow (w.heap.size + 1) (spotA n (H n) r j)) := below_setRow (Below.refl _ _) (by omega) _
    refine ⟨by rw [ho1]; rfl, F2, c', hc', (HV.out.1.later hb23).else hlow.size (fun q hq => setRow_other _ _ _ _ (HV.out.2.2.2 q hq)), stp_low (stp_grown HV.out.2.1 hb23) hlow⟩
end
end Go.Proofs.YthdlpeejmmobmaaGreat

namespace Go.Proofs.YthdlpeejmmobmaaGreat
open Go.RowKit Go.Maps
set_option maxRecDepth 100000
set_option linter.unusedVariables false
def ido (H : Nat → List Int) (dir : Bool) (G B Q near : Nat) : Option (Nat × Nat) := if dir then mos H true G B Q near else nst H true G B Q near G
theorem ido_some {H : Nat → List Int} {dir : Bool} {G B Q near n i : Nat} (hr : near < G) (h : ido H dir G B Q near = some (n, i)) : n < G ∧ frs H true B Q n = some i := by
 unfold ido at h
 cases dir with
 | false => exact nst_some (by omega) h
 | true =>
  simp only [if_true, mos] at h
  cases ho : frs H true B Q (bst H true G B Q near G) with
  | none => rw [ho] at h; cases h
  | some j => rw [ho] at h; cases h; exact ⟨bst_lt hr G, ho⟩
theorem ii_nil (w : World) : Pt.II w none 0 [] := ⟨rfl, by omega, fun x hx => (by cases hx), fun h => absurd h (by omega)⟩
section
variable {w w' : World} {v : Nat} {F : Nat → Prop} {N : Nat} {I : Nat → List Int} {l c G B Q : Nat}
open Mk.Al in
set_option maxHeartbeats 4000000 in
theorem inode_ok (h : Vol w v F N I l c) (hg : Geo G B Q N) {H : Nat → List Int} (hH : Hds I G B H) {near : Nat} (hn : near < G) (dir : Bool) (hc : c + 8 < 4611686018427387904) (hl1 : l + 1 ≤ 10000) :
  Calls Tryz.prog 25 #[.pointer (some ⟨v, 0, none⟩), Mk.geomV G B Q, .int .i64 (near : Int), .bool dir] w fun e w' =>
   (∀ n i, ido H dir G B Q near = some (n, i) → e = .returned (.tuple #[.int .i64 ((n * Q + i : Nat) : Int), .int .i64 ((l + 1 : Nat) : Int), .int .i64 0]) ∧ ∃ F' c', c' ≤ c + 8 ∧ Vol w' v F' N (putH I B n (putY true (H n) i true)) (l + 1) c' ∧ Pt.Stp F F' w w') ∧
   (ido H dir G B Q near = none → e = .returned (.tuple #[.int .i64 0, .int .i64 0, .int .i64 5]) ∧ ∃ F' c', c' ≤ c + 8 ∧ Vol w' v F' N I l c' ∧ Pt.Stp F F' w w') := by
 have hfit := hg.fit
 obtain ⟨W, hW⟩ : ∃ W, w.alloc (Mk.geomO G B Q) = W := ⟨_, rfl⟩
 have hb : Below w.heap.size w W := by rw [← hW]; exact Mk.grew_alloc _ _
 have hx : W.heap[w.heap.size]? = some (Mk.geomO G B Q) := by rw [← hW]; exact at_new rfl
 have hsz : W.heap.size = w.heap.size + 1 := by rw [← hW]; simp
 have c0 := (g3_of hx).c0
 have c1 := (g3_of hx).c1
 have c2 := (g3_of hx).c2
 have hlt := h.lt
 have hv := h.later hb
 have hnr := near_ok hv hg hn
 have HV : Hid (Vol W v F N I l c ∧ Below w.heap.size w W ∧ (∀ k, F k → k < w.heap.size)) := ⟨hv, hb, hlt⟩
 clear hv h hb hlt
 go_enter Tryz.func25, Tryz.ntmps25
 go_wp2_with fail
 refine Mk.grew_at hnr ?_
 intro w1 hb1
 have hx1 := (hb1.block _ (Array.getElem?_eq_some_iff.1 hx).1).trans hx
 have c0 := (g3_of hx1).c0
 have c1 := (g3_of hx1).c1
 have c2 := (g3_of hx1).c2
 have hne := nearest_ok (HV.out.1.later hb1) hg hH true hn hc
 have hme := emptiest_ok (HV.out.1.later hb1) hg hH true hn hc
 dsimp only
 cases dir with
 | false =>
  go_wp2_with fail
  refine Calls.mono hne ?_
  rintro e w2 ⟨rfl, F2, c', hc', hv2, hst2⟩
  have hx2 : w2.heap[w.heap.size]? = some (Mk.geomO G B Q) := (hst2.fr.block _ (Array.getElem?_eq_some_iff.1 hx1).1 (fun hf => by have := HV.out.2.2 _ hf; omega)).trans hx1
  have c0 := (g3_of hx2).c0
  have c1 := (g3_of hx2).c1
  have c2 := (g3_of hx2).c2
  have hst : Pt.Stp F F2 w w2 := stp_after (HV.out.2.1.trans (hb1.mono HV.out.2.1.size)) hst2
  have hs2 : w.heap.size + 1 ≤ w2.heap.size := by have := (Array.getElem?_eq_some_iff.1 hx2).1; omega
  obtain ⟨W5, hW5⟩ : ∃ W5, w2.alloc (spotO 0 (Mk.zers 40) false 0) = W5 := ⟨_, rfl⟩
  have hn5 : W5.heap[w2.heap.size]? = some (spotO 0 (Mk.zers 40) false 0) := by rw [← hW5]; exact at_new rfl
  have hb5 : Below w2.heap.size w2 W5 := by rw [← hW5]; exact Mk.grew_alloc _ _
  have hx5 := (hb5.block _ (Array.getElem?_eq_some_iff.1 hx2).1).trans hx2
  dsimp only [spotO] at hW5
  rw [zeroSpot] at hW5
  cases ho : nst H true G B Q near G with
  | none =>
   have hd : ido H false G B Q near = none := ho
   obtain ⟨W6, hW6⟩ : ∃ W6, W5.setRow w2.heap.size (spotA 0 (Mk.zers 40) false 0) = W6 := ⟨_, rfl⟩
   have hb6 : Below w2.heap.size w2 W6 := by rw [← hW6]; exact below_setRow hb5 (Nat.le_refl _) _
   have hi0 := info138 0 (Mk.zers_len 40) false 0
   have h10 := spot_one 0 (Mk.zers 40) false 0
   dsimp only [nstV]
   go_wp2_with (first
    | (refine wpList_store_row rfl 138 _ _ rfl w2.heap.size (spotA 0 (Mk.zers 40) false 0) rfl rfl 138 _ hn5 hi0 rfl h10 ?_; rw [hW6]))
   go_ret3
   exact ⟨rfl, F2, c', hc', hv2.later hb6, stp_grown hst hb6⟩
  | some ni =>
   obtain ⟨n, i⟩ := ni
   have hd : ido H false G B Q near = some (n, i) := ho
   obtain ⟨hnG, hfr⟩ := ido_some hn hd
   obtain ⟨hf1, hf2, hf3⟩ := frs_some hg.may hfr
   have hln := hH.len n hnG
   have hinf := info138 (n : Int) hln true (i : Int)
   have hso := spot_one (n : Int) (H n) true (i : Int)
   have hss : (spotA 0 (Mk.zers 40) false 0).size = (spotA n (H n) true i).size := (spot_size 0 (Mk.zers_len 40) false 0).trans (spot_size (n : Int) hln true (i : Int)).symm
   obtain ⟨W6, hW6⟩ : ∃ W6, W5.setRow w2.heap.size (spotA n (H n) true i) = W6 := ⟨_, rfl⟩
   have hn6 : W6.heap[w2.heap.size]? = some (spotO n (H n) true i) := by rw [← hW6]; exact setRow_heap _ _ _ _ _ _ hn5
   have hb6 : Below w2.heap.size w2 W6 := by rw [← hW6]; exact below_setRow hb5 (Nat.le_refl _) _
   have hx6 := (hb6.block _ (Array.getElem?_eq_some_iff.1 hx2).1).trans hx2
   have c0 := (g3_of hx6).c0
   have c1 := (g3_of hx6).c1
   have c2 := (g3_of hx6).c2
   have hgv := give_ok (hv2.later hb6) hg hnG (hH.at_ n hnG) (hH.len n hnG) (hH.byt n hnG) hl1 true i hf2 none 0 0 [] (ii_nil W6) (fun k hk => by cases hk) rfl (by omega)
   rw [hf3] at hgv
   dsimp only [nstV]
   go_wp2_with (first
    | (refine wpList_store_row rfl 138 _ _ rfl w2.heap.size (spotA n (H n) true i) rfl rfl 138 _ hn5 hinf hss hso ?_; rw [hW6])
    | (refine wpList_load_row rfl 138 _ rfl w2.heap.size rfl 138 _ (0, 0) _ hn6 Tryz.underlying138 rfl hinf ?_))
   refine Calls.mono hgv ?_
   rintro e w3 ⟨rfl, F3, hv3, hst3⟩
   dsimp only
   go_wp2_with fail
   go_ret3
   refine ⟨fun n' i' h => ?_, fun h => by rw [hd] at h; cases h⟩
   rw [hd] at h; cases h
   exact ⟨rfl, F3, c', hc', hv3, stp_trans (stp_grown hst hb6) hst3⟩
 | true =>
  go_wp2_with fail
  refine Calls.mono hme ?_
  rintro e w2 ⟨rfl, F2, c', hc', hv2, hst2⟩
  have hx2 : w2.heap[w.heap.size]? = some (Mk.geomO G B Q) := (hst2.fr.block _ (Array.getElem?_eq_some_iff.1 hx1).1 (fun hf => by have := HV.out.2.2 _ hf; omega)).trans hx1
  have c0 := (g3_of hx2).c0
  have c1 := (g3_of hx2).c1
  have c2 := (g3_of hx2).c2
  have hst : Pt.Stp F F2 w w2 := stp_after (HV.out.2.1.trans (hb1.mono HV.out.2.1.size)) hst2
  have hs2 : w.heap.size + 1 ≤ w2.heap.size := by have := (Array.getElem?_eq_some_iff.1 hx2).1; omega
  obtain ⟨W5, hW5⟩ : ∃ W5, w2.alloc (spotO 0 (Mk.zers 40) false 0) = W5 := ⟨_, rfl⟩
  have hn5 : W5.heap[w2.heap.size]? = some (spotO 0 (Mk.zers 40) false 0) := by rw [← hW5]; exact at_new rfl
  have hb5 : Below w2.heap.size w2 W5 := by rw [← hW5]; exact Mk.grew_alloc _ _
  have hx5 := (hb5.block _ (Array.getElem?_eq_some_iff.1 hx2).1).trans hx2
  dsimp only [spotO] at hW5
  rw [zeroSpot] at hW5
  cases ho : mos H true G B Q near with
  | none =>
   have hd : ido H true G B Q near = none := ho
   obtain ⟨W6, hW6⟩ : ∃ W6, W5.setRow w2.heap.size (spotA 0 (Mk.zers 40) false 0) = W6 := ⟨_, rfl⟩
   have hb6 : Below w2.heap.size w2 W6 := by rw [← hW6]; exact below_setRow hb5 (Nat.le_refl _) _
   have hi0 := info138 0 (Mk.zers_len 40) false 0
   have h10 := spot_one 0 (Mk.zers 40) false 0
   dsimp only [nstV]
   go_wp2_with (first
    | (refine wpList_store_row rfl 138 _ _ rfl w2.heap.size (spotA 0 (Mk.zers 40) false 0) rfl rfl 138 _ hn5 hi0 rfl h10 ?_; rw [hW6]))
   go_ret3
   exact ⟨rfl, F2, c', hc', hv2.later hb6, stp_grown hst hb6⟩
  | some ni =>
   obtain ⟨n, i⟩ := ni
   have hd : ido H true G B Q near = some (n, i) := ho
   obtain ⟨hnG, hfr⟩ := ido_some hn hd
   obtain ⟨hf1, hf2, hf3⟩ := frs_some hg.may hfr
   have hln := hH.len n hnG
   have hinf := info138 (n : Int) hln true (i : Int)
   have hso := spot_one (n : Int) (H n) true (i : Int)
   have hss : (spotA 0 (Mk.zers 40) false 0).size = (spotA n (H n) true i).size := (spot_size 0 (Mk.zers_len 40) false 0).trans (spot_size (n : Int) hln true (i : Int)).symm
   obtain ⟨W6, hW6⟩ : ∃ W6, W5.setRow w2.heap.size (spotA n (H n) true i) = W6 := ⟨_, rfl⟩
   have hn6 : W6.heap[w2.heap.size]? = some (spotO n (H n) true i) := by rw [← hW6]; exact setRow_heap _ _ _ _ _ _ hn5
   have hb6 : Below w2.heap.size w2 W6 := by rw [← hW6]; exact below_setRow hb5 (Nat.le_refl _) _
   have hx6 := (hb6.block _ (Array.getElem?_eq_some_iff.1 hx2).1).trans hx2
   have c0 := (g3_of hx6).c0
   have c1 := (g3_of hx6).c1
   have c2 := (g3_of hx6).c2
   have hgv := give_ok (hv2.later hb6) hg hnG (hH.at_ n hnG) (hH.len n hnG) (hH.byt n hnG) hl1 true i hf2 none 0 0 [] (ii_nil W6) (fun k hk => by cases hk) rfl (by omega)
   rw [hf3] at hgv
   dsimp only [nstV]
   go_wp2_with (first
    | (refine wpList_store_row rfl 138 _ _ rfl w2.heap.size (spotA n (H n) true i) rfl rfl 138 _ hn5 hinf hss hso ?_; rw [hW6])
    | (refine wpList_load_row rfl 138 _ rfl w2.heap.size rfl 138 _ (0, 0) _ hn6 Tryz.underlying138 rfl hinf ?_))
   refine Calls.mono hgv ?_
   rintro e w3 ⟨rfl, F3, hv3, hst3⟩
   dsimp only
   go_wp2_with fail
   go_ret3
   refine ⟨fun n' i' h => ?_, fun h => by rw [hd] at h; cases h⟩
   rw [hd] at h; cases h
   exact ⟨rfl, F3, c', hc', hv3, stp_trans (stp_grown hst hb6) hst3⟩
end
end Go.Proofs.YthdlpeejmmobmaaGreat

namespace Go.Proofs.YthdlpeejmmobmaaGreat
open Go.RowKit Go.Maps
open Mk.Al (putY rowOf fN eN lo zc)
set_option maxRecDepth 100000
set_option linter.unusedVariables false
theorem row_hdY (Q n : Nat) : rowOf true (Mk.hdY Q n) = Mk.hdI n := by
 have h := Mk.hdI_len n
 simp [rowOf, Mk.Al.rAt, Mk.Al.rLen, Mk.hdY, h]
theorem on_first : ∀ j : Fin 64, Mk.Bit.on [7, 0, 0, 0, 0, 0, 0, 0] j.val = decide (j.val < 3) := by decide +kernel
end Go.Proofs.YthdlpeejmmobmaaGreat

namespace Go.Proofs.YthdlpeejmmobmaaGreat
open Go.RowKit Go.Maps
open Mk.Al (putY rowOf fN eN lo zc)
set_option maxRecDepth 100000
set_option linter.unusedVariables false
theorem row_updF {H : Nat → List Int} {n i k : Nat} (r bb : Bool) (hl : (H n).length = 40) : rowOf r (updH H n (putY r (H n) i bb) k) = if k = n then Mk.Bit.put (rowOf r (H n)) i bb else rowOf r (H k) := by
 unfold updH
 by_cases e : k = n
 ·rw [if_pos e, if_pos e]; exact Mk.Al.row_put r hl i bb
 ·rw [if_neg e, if_neg e]
theorem div_at {n i b : Nat} (hi : i < b) : (n * b + i) / b = n ∧ (n * b + i) % b = i := by
 refine ⟨?_, ?_⟩
 ·rw [Nat.add_comm, Nat.add_mul_div_right _ _ (by omega), Nat.div_eq_of_lt hi]; omega
 ·rw [Nat.add_comm, Nat.add_mul_mod_self_right, Nat.mod_eq_of_lt hi]
end Go.Proofs.YthdlpeejmmobmaaGreat

namespace Go.Proofs.YthdlpeejmmobmaaGreat
open Go.RowKit Go.Maps
set_option linter.unusedVariables false
set_option maxRecDepth 100000
def adI (I : Nat → List Int) (b p : Nat) : Int := Mk.Num.numD (I b) (2 * p) 2
theorem fan_adI (I : Nat → List Int) (b : Nat) {k : Nat} (h : k < 64) : (Mk.fanZ (I b)).getD k 0 = adI I b k := by
 rw [List.getD_eq_getElem?_getD, Mk.fanZ_at _ _ h]; rfl
theorem lay_at {ys xs : List Int} {o : Nat} (h : o + xs.length ≤ ys.length) (i : Nat) : (lay ys o xs).getD i 0 = if i < o then ys.getD i 0 else if i < o + xs.length then xs.getD (i - o) 0 else ys.getD i 0 := by
 have ho : (ys.take o).length = o := by rw [List.length_take]; omega
 simp only [List.getD_eq_getElem?_getD, lay]
 by_cases h1 : i < o
 ·rw [if_pos h1, List.append_assoc, List.getElem?_append_left (by omega), List.getElem?_take_of_lt h1]
 ·rw [if_neg h1]
  by_cases h2 : i < o + xs.length
  ·rw [if_pos h2, List.append_assoc, List.getElem?_append_right (by omega), ho, List.getElem?_append_left (by omega)]
  ·rw [if_neg h2, List.getElem?_append_right (by rw [List.length_append]; omega), List.length_append, ho, List.getElem?_drop]
   congr 2
   omega
theorem numD_two (xs : List Int) (a : Nat) : Mk.Num.numD xs a 2 = xs.getD a 0 + 256 * (xs.getD (a + 1) 0 + 256 * 0) := rfl
theorem adI_else (I : Nat → List Int) {b c : Nat} (o : Nat) (xs : List Int) (h : c ≠ b) (q : Nat) : adI (updI I b o xs) c q = adI I c q := by
 unfold adI updI; rw [if_neg h]
theorem adI_new {I : Nat → List Int} {b p : Nat} {xs : List Int} (hl : (I b).length = 128) (hx : xs.length = 2) (hp : p < 64) : adI (updI I b (2 * p) xs) b p = Mk.Num.numD xs 0 2 := by
 unfold adI updI
 rw [if_pos rfl, numD_two, numD_two, lay_at (by omega), lay_at (by omega), if_neg (by omega), if_pos (by omega), if_neg (by omega), if_pos (by omega), show 2 * p - 2 * p = 0 by omega, show 2 * p + 1 - 2 * p = 0 + 1 by omega]
theorem adI_old {I : Nat → List Int} {b p q : Nat} {xs : List Int} (hl : (I b).length = 128) (hx : xs.length = 2) (hp : p < 64) (h : q ≠ p) : adI (updI I b (2 * p) xs) b q = adI I b q := by
 unfold adI updI
 have hk : ∀ i, i = 2 * q ∨ i = 2 * q + 1 → (lay (I b) (2 * p) xs).getD i 0 = (I b).getD i 0 := by
  intro i hi
  rw [lay_at (by omega)]
  by_cases h1 : i < 2 * p
  ·rw [if_pos h1]
  ·rw [if_neg h1, if_neg (by omega)]
 rw [if_pos rfl, numD_two, numD_two, hk _ (.inl rfl), hk _ (.inr rfl)]
theorem adI_zero {I : Nat → List Int} {b : Nat} (hl : (I b).length = 128) (q : Nat) : adI (updI I b 0 (Mk.zers 128)) b q = 0 := by
 unfold adI updI
 have e : lay (I b) 0 (Mk.zers 128) = Mk.zers 128 := by
  unfold lay
  rw [List.take_zero, List.nil_append, Mk.zers_len, List.drop_eq_nil_of_le (by omega), List.append_nil]
 rw [if_pos rfl, e, Mk.numD_zers]
def twoB (p b : Nat) : List Int := ((Mk.fanL ((Mk.zers 64).set p (b : Int))).drop (2 * p)).take 2
theorem twoB_len {p b : Nat} (hp : p < 64) : (twoB p b).length = 2 := by
 unfold twoB; rw [List.length_take, List.length_drop, Mk.fanL_len]; omega
theorem twoB_num {p b : Nat} (hp : p < 64) (hb : b < 65536) : Mk.Num.numD (twoB p b) 0 2 = (b : Int) := by
 have hz : ((Mk.zers 64).set p (b : Int)).getD p 0 = (b : Int) := by
  rw [List.getD_eq_getElem?_getD, List.getElem?_set_self (by rw [Mk.zers_len]; exact hp)]; rfl
 have h := Mk.num_ins (Mk.zers 128) 0 2 ((Mk.zers 64).set p (b : Int)) 64 p hp (by rw [Mk.zers_len]; omega) (by rw [hz]; omega) (by rw [hz]; omega)
 rw [hz] at h
 rw [← h]
 show _ = Mk.Num.numD (Mk.fanL _) (0 + 2 * p) 2
 unfold twoB
 rw [numD_two, numD_two, Mk.getD_take _ _ _ (by omega), Mk.getD_take _ _ _ (by omega), Mk.getD_drop', Mk.getD_drop']
 simp
theorem twoB_ads {p b : Nat} (hb : b ≤ 2047) : Mk.Ads ((Mk.zers 64).set p (b : Int)) := by
 intro z hz
 rcases List.mem_or_eq_of_mem_set hz with h | h
 ·unfold Mk.zers at h
  have := List.eq_of_mem_replicate h
  omega
 ·omega
end Go.Proofs.YthdlpeejmmobmaaGreat
