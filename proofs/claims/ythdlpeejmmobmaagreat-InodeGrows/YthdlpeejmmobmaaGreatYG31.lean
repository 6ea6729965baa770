/- A9 A10 -/
import Derived.Test.YthdlpeejmmobmaaGreatYG30
import Derived.WalkMore
import Derived.Deep.LoopGhost
import Derived.Test.YthdlpeejmmobmaaGreatYG01

namespace Go.Proofs.YthdlpeejmmobmaaGreat
open Go.RowKit Go.Maps
set_option maxRecDepth 100000
set_option linter.unusedVariables false
def frs (H : Nat → List Int) (r : Bool) (B Q n : Nat) : Option Nat := Mk.Al.lo (Mk.Al.rowOf r (H n)) (Mk.Al.fN r Q n) (Mk.Al.eN r B Q - Mk.Al.fN r Q n)
def nst (H : Nat → List Int) (r : Bool) (G B Q near : Nat) : Nat → Option (Nat × Nat)
 | 0 => none
 | k + 1 => match nst H r G B Q near k with
  | some x => some x
  | none => (frs H r B Q ((near + k) % G)).map fun i => ((near + k) % G, i)
def nstV (H : Nat → List Int) (r : Bool) (o : Option (Nat × Nat)) : Value := match o with
 | some (n, i) => .tuple #[Mk.Al.spotV n (H n) r i, .int .i64 0]
 | none => .tuple #[Mk.Al.spotV 0 (Mk.zers 40) false 0, .int .i64 5]
theorem nst_stays {H : Nat → List Int} {r : Bool} {G B Q near k : Nat} {x : Nat × Nat} (h : nst H r G B Q near k = some x) : ∀ {m : Nat}, k ≤ m → nst H r G B Q near m = some x
 | 0, hm => by have : k = 0 := by omega
               rw [← this]; exact h
 | m + 1, hm => by
  by_cases e : k = m + 1
  ·rw [← e]; exact h
  ·show (match nst H r G B Q near m with | some x => some x | none => _) = _
   rw [nst_stays h (show k ≤ m by omega)]
theorem wpList_built {P : Program} {ops : Array Oper} {rest : List Oper} {o : Oper} {a : Act} {w : World} {Q : Exit → Act → World → Prop} (hg : o.guard = none) (t : TypeId) (parts : Array (Nat × Operand)) (ho : o.op = .build t parts) (cs : Array Value)
  (hf : P.built t (parts.map fun (i, x) => (i, a.eval x)).toList = some cs) (h : wpList P ops Q rest (a.put o.dst (.agg cs)) w) : wpList P ops Q (o :: rest) a w :=
 wpList_build hg t parts ho (by rw [hf]; rfl) (by rw [hf]; exact h)
structure R3 (w wx : World) (G B Q : Nat) : Prop where
 g : wx.heap[w.heap.size]? = some (Mk.geomO G B Q)
 s : wx.heap[w.heap.size + 1]? = some (Mk.Al.spotO 0 (Mk.zers 40) false 0)
 f : wx.heap[w.heap.size + 2]? = some (Mk.Al.spotO 0 (Mk.zers 40) false 0)
theorem R3.lt {w wx : World} {G B Q : Nat} (h : R3 w wx G B Q) : w.heap.size + 3 ≤ wx.heap.size := (Array.getElem?_eq_some_iff.1 h.f).1
theorem R3.kept {w wx wy : World} {G B Q : Nat} (h : R3 w wx G B Q) (hb : ∀ k, w.heap.size ≤ k → k < w.heap.size + 3 → wy.heap[k]? = wx.heap[k]?) : R3 w wy G B Q :=
 ⟨(hb _ (by omega) (by omega)).trans h.g, (hb _ (by omega) (by omega)).trans h.s, (hb _ (by omega) (by omega)).trans h.f⟩
theorem R3.cells {w wx : World} {G B Q : Nat} (h : R3 w wx G B Q) : wx.cell? ⟨w.heap.size, 0, none⟩ = some (.int .i64 (G : Int)) ∧ wx.cell? ⟨w.heap.size, 1, none⟩ = some (.int .i64 (B : Int)) ∧ wx.cell? ⟨w.heap.size, 2, none⟩ = some (.int .i64 (Q : Int)) := ⟨(g3_of h.g).c0, (g3_of h.g).c1, (g3_of h.g).c2⟩
def Rnd [Inhabited Past] (w W1 wx : World) (v : Nat) (F : Nat → Prop) (N : Nat) (I : Nat → List Int) (l c G B Q : Nat) (n : Nat) (ys : List Int) (v13 v14 : Value) : Prop :=
 ∃ b F2, v13 = .pointer (some ⟨b, 0, none⟩) ∧ v14 = .int .i64 0 ∧ wx.heap[b]? = some (Mk.groupO n ys) ∧ w.heap.size + 3 ≤ b ∧ Vol wx v F2 N I l c ∧ Pt.Stp F F2 W1 wx ∧ R3 w wx G B Q
theorem rnd_mk [Inhabited Past] {w W1 wx w5 : World} {v : Nat} {F F2 : Nat → Prop} {N : Nat} {I : Nat → List Int} {l c G B Q n b : Nat} {ys : List Int} (hv : Vol w5 v F2 N I l c) (hst : Pt.Stp F F2 W1 w5) (hlow : Below W1.heap.size w5 wx) (hk : ∀ k, F2 k → wx.heap[k]? = w5.heap[k]?) (hb : wx.heap[b]? = some (Mk.groupO n ys)) (h3 : w.heap.size + 3 ≤ b) (hR : R3 w wx G B Q) :
  Rnd w W1 wx v F N I l c G B Q n ys (.pointer (some ⟨b, 0, none⟩)) (.int .i64 0) := ⟨b, F2, rfl, rfl, hb, h3, hv.else hlow.size hk, stp_low hst hlow, hR⟩
section
variable [Inhabited Past] {w w' : World} {v : Nat} {F : Nat → Prop} {N : Nat} {I : Nat → List Int} {l c G B Q : Nat}
open Mk.Al in
set_option maxHeartbeats 4000000 in
theorem nearest_ok (h : Vol w v F N I l c) (hg : Geo G B Q N) {H : Nat → List Int} (hH : Hds I G B H) (r : Bool) {near : Nat} (hn : near < G) (hc : c + 8 < 4611686018427387904) :
  Calls Tryz.prog 67 #[.pointer (some ⟨v, 0, none⟩), Mk.geomV G B Q, .int .i64 (rI r), .int .i64 (near : Int)] w fun e w' => e = .returned (nstV H r (nst H r G B Q near G)) ∧ ∃ F' c', c' ≤ c + 8 ∧ Vol w' v F' N I l c' ∧ Pt.Stp F F' w w' := by
 have hfit := hg.fit
 obtain ⟨W, hW⟩ : ∃ W, ((w.alloc (Mk.geomO G B Q)).alloc (spotO 0 (Mk.zers 40) false 0)).alloc (spotO 0 (Mk.zers 40) false 0) = W := ⟨_, rfl⟩
 have hb : Below w.heap.size w W := by rw [← hW]; exact (((Below.refl _ _).alloc (Nat.le_refl _) _).alloc (by simp) _).alloc (by simp; omega) _
 have hx : W.heap[w.heap.size]? = some (Mk.geomO G B Q) := by rw [← hW]; exact at_old (at_old (at_new rfl))
 have hs : W.heap[w.heap.size + 1]? = some (spotO 0 (Mk.zers 40) false 0) := by rw [← hW]; exact at_old (at_new (by simp))
 have hf : W.heap[w.heap.size + 2]? = some (spotO 0 (Mk.zers 40) false 0) := by rw [← hW]; exact at_new (by simp)
 have c0 := (g3_of hx).c0
 have c1 := (g3_of hx).c1
 have c2 := (g3_of hx).c2
 have hsz : W.heap.size = w.heap.size + 3 := by rw [← hW]; simp
 have hlt := h.lt
 have hv := h.later hb
 obtain ⟨W1, hW1⟩ : ∃ W1, W.setRow (w.heap.size + 2) (spotA 0 (Mk.zers 40) false 0) = W1 := ⟨_, rfl⟩
 have hb1 : Below w.heap.size w W1 := by rw [← hW1]; exact below_setRow hb (by omega) _
 have hsz1 : W1.heap.size = w.heap.size + 3 := by rw [← hW1]; simp [World.setRow, hsz]
 have hx1 : W1.heap[w.heap.size]? = some (Mk.geomO G B Q) := by rw [← hW1, setRow_other _ _ _ _ (by omega)]; exact hx
 have hs1 : W1.heap[w.heap.size + 1]? = some (spotO 0 (Mk.zers 40) false 0) := by rw [← hW1, setRow_other _ _ _ _ (by omega)]; exact hs
 have hf1 : W1.heap[w.heap.size + 2]? = some (spotO 0 (Mk.zers 40) false 0) := by rw [← hW1]; exact setRow_heap _ _ _ _ _ _ hf
 have hi0 := info138 0 (Mk.zers_len 40) false 0
 have h10 := spot_one 0 (Mk.zers 40) false 0
 have hf0 := hf
 dsimp only [spotO] at hW hf0
 rw [zeroSpot] at hW hf0 hi0 h10
 have HW1 : Hid (W.setRow (w.heap.size + 2) (spotA 0 (Mk.zers 40) false 0) = W1) := hW1
 rw [zeroSpot] at hW1
 have c0 := (g3_of hx1).c0
 have c1 := (g3_of hx1).c1
 have c2 := (g3_of hx1).c2
 go_enter Tryz.func67, Tryz.ntmps67
 go_wp2_with fail
 go_step3
 go_wp2_with (first
  | (refine wpList_store_row rfl 138 _ _ rfl (w.heap.size + 2) _ rfl rfl 138 _ hf0 hi0 rfl h10 ?_; rw [hW1]))
 go_step3
 go_wp2_with fail
 rw [← zeroSpot]
 generalize spotA 0 (Mk.zers 40) false 0 = zsp
 have HC : Hid (Below w.heap.size w W1 ∧ (∀ k, F k → k < w.heap.size) ∧ c + 8 < 4611686018427387904) := ⟨hb1, hlt, hc⟩
 have hv1 : Vol W1 v F N I l c := h.later hb1
 have hI0 : ∃ k F1 c1, k ≤ G ∧ (.int .i64 5 : Value) = .int .i64 5 ∧ (.int .i64 0 : Value) = .int .i64 (k : Int) ∧ nst H r G B Q near k = none ∧ c1 ≤ c + k ∧ Vol W1 v F1 N I l c1 ∧ Pt.Stp F F1 W1 W1 ∧ W1.heap[w.heap.size]? = some (Mk.geomO G B Q) ∧ W1.heap[w.heap.size + 1]? = some (spotO 0 (Mk.zers 40) false 0) ∧ W1.heap[w.heap.size + 2]? = some (spotO 0 (Mk.zers 40) false 0) :=
  ⟨0, F, c, by omega, rfl, rfl, rfl, by omega, hv1, Pt.Stp.refl _ _, hx1, hs1, hf1⟩
 clear hv1 hb1 hb hx hs hf hf0 hx1 hs1 hf1 hW1 hW hv h hlt hi0 h10
 go_loopw [11, 20] (fun v11 v20 wr => ∃ k F1 c1, k ≤ G ∧ v11 = .int .i64 5 ∧ v20 = .int .i64 (k : Int) ∧ nst H r G B Q near k = none ∧ c1 ≤ c + k ∧ Vol wr v F1 N I l c1 ∧ Pt.Stp F F1 W1 wr ∧ wr.heap[w.heap.size]? = some (Mk.geomO G B Q) ∧ wr.heap[w.heap.size + 1]? = some (spotO 0 (Mk.zers 40) false 0) ∧ wr.heap[w.heap.size + 2]? = some (spotO 0 (Mk.zers 40) false 0)) (fun _ v20 _ => G - (intOf v20).toNat)
 case atStart => exact hI0
 case round =>
  clear hI0
  obtain ⟨k, F1, c1, hkG, rfl, rfl, hnone, hc1, hv, hst, hx, hs, hf⟩ := hrel
  have c0 := (g3_of hx).c0
  have c1' := (g3_of hx).c1
  have c2 := (g3_of hx).c2
  by_cases hlt : k < G
  ·have hkI : (k : Int) < (G : Int) := by omega
   obtain ⟨n, hnn⟩ : ∃ n, (near + k) % G = n := ⟨_, rfl⟩
   have hnG : n < G := by rw [← hnn]; exact Nat.mod_lt _ (by omega)
   have hrem : ((near : Int) + (k : Int)).tmod (G : Int) = (n : Int) := by rw [← Int.natCast_add, ← hnn]; rfl
   have hsum : IntKind.i64.wrap ((near : Int) + (k : Int)) = (near : Int) + (k : Int) := IntWalk.i64_in _ (by omega)
   have hGn : ¬ G = 0 := by omega
   have hhd := fun (w4 : World) (hb4 : Below wr.heap.size wr w4) => header_ok (hv.later hb4) hg hnG (hH.at_ n hnG) (hH.len n hnG) (by have := HC.out.2.2; omega)
   have hR : R3 w wr G B Q := ⟨hx, hs, hf⟩
   have hltF := HC.out.2.1
   have hln := hH.len n hnG
   have hsg := Mk.groupA_size (n : Int) (H n) hln
   have hsg0 := Mk.groupA_size 0 (Mk.zers 40) (Mk.zers_len 40)
   go_upto_region 5 with fail
   go_cut [13, 14] (fun v13 v14 wx => Rnd w W1 wx v F N I l (c1 + 1) G B Q n (H n) v13 v14)
   case first =>
    refine wp_region_held_drew (S := (fun w' => w'.cell? ⟨w.heap.size, 0, none⟩ = some (.int .i64 (G : Int)) ∧ w'.cell? ⟨w.heap.size, 1, none⟩ = some (.int .i64 (B : Int)) ∧ w'.cell? ⟨w.heap.size, 2, none⟩ = some (.int .i64 (Q : Int)))) (by kernel_rfl) hR.cells (fun hHeld => ?_)
    refine tk 0 ⟨some 24, .move (.tmp 0), 29, "row.go:92", #[], none⟩ ?_ ?_ hHeld ?_
    rotate_left
    ·(intro w hSw; (try dsimp only at hSw); go_simp; try (with_reducible rfl))
    simp only [Act.put, sA, sZ, sS]
    refine tk 1 ⟨some 25, .load 23 (.tmp 5), 23, "row.go:92", #[], none⟩ ?_ ?_ hHeld ?_
    rotate_left
    ·(intro w hSw; (try dsimp only at hSw); go_simp; try (with_reducible rfl))
    simp only [Act.put, sA, sZ, sS]
    refine tk 2 ⟨some 26, .move (.tmp 3), 3, "row.go:92", #[], none⟩ ?_ ?_ hHeld ?_
    rotate_left
    ·(intro w hSw; (try dsimp only at hSw); go_simp; try (with_reducible rfl))
    simp only [Act.put, sA, sZ, sS]
    refine tk 3 ⟨some 27, .move (.tmp 12), 3, "row.go:92", #[], none⟩ ?_ ?_ hHeld ?_
    rotate_left
    ·(intro w hSw; (try dsimp only at hSw); go_simp; try (with_reducible rfl))
    simp only [Act.put, sA, sZ, sS]
    refine tk 4 ⟨some 28, .binOp BinOp.add 3 (.tmp 26) (.tmp 27) 3, 3, "row.go:92", #[⟨2, .data⟩, ⟨3, .data⟩], none⟩ ?_ ?_ hHeld ?_
    rotate_left
    ·(intro w hSw; (try dsimp only at hSw); go_simp; try (with_reducible rfl))
    simp only [Act.put, sA, sZ, sS]
    refine tk 5 ⟨some 29, .fieldAddr 23 (.tmp 5) 0, 0, "row.go:92", #[], none⟩ ?_ ?_ hHeld ?_
    rotate_left
    ·(intro w hSw; (try dsimp only at hSw); go_simp; try (with_reducible rfl))
    simp only [Act.put, sA, sZ, sS]
    refine tk 6 ⟨some 30, .load 3 (.tmp 29), 3, "row.go:92", #[⟨5, .data⟩], none⟩ ?_ ?_ hHeld ?_
    rotate_left
    ·(intro w hSw; (try dsimp only at hSw); go_simp; try (with_reducible rfl))
    simp only [Act.put, sA, sZ, sS]
    refine tk 7 ⟨some 31, .binOp BinOp.rem 3 (.tmp 28) (.tmp 30) 3, 3, "row.go:92", #[⟨4, .data⟩, ⟨6, .data⟩], none⟩ ?_ ?_ hHeld ?_
    rotate_left
    ·(intro w hSw; (try dsimp only at hSw); go_simp; try (with_reducible rfl))
    simp only [Act.put, sA, sZ, sS]
    refine wpAnyH_ready (rs := [8, 12]) (by kernel_rfl) (by simp) ?_
    refine AllReadyH.cons (o := ⟨some 32, .call { callee := .value (.func 26), args := #[.tmp 24, .tmp 25, .tmp 31], argTypes := #[29, 23, 3] }, 65, "row.go:92", #[⟨0, .data⟩, ⟨1, .data⟩, ⟨7, .data⟩], none⟩) rfl (fun K hK => ?_) ?_
    ·rw [if_pos (by rfl)]
     go_simp
     refine Calls.mono (hhd _ (Below.refl _ _).drew) ?_
     rintro e w5 ⟨rfl, F2, hv5, hst5⟩
     dsimp only
     have hR5 : R3 w w5 G B Q := hR.kept (fun k h1 h2 => hst5.fr.block k (by have := hR.lt; exact Nat.lt_of_lt_of_le h2 this) (fun hf => (hst.new k hf).elim (fun h3 => by have := hltF k h3; omega) (fun h3 => by omega)))
     refine hK.out _ _ hR5.cells (fun hHeld => ?_)
     clear hK K
     try simp only [Act.put, sA, sZ, sS]
     refine tk 9 ⟨some 23, .move (.tmp 32), 65, "row.go:92", #[⟨8, .data⟩], none⟩ ?_ ?_ hHeld ?_
     rotate_left
     ·(intro w hSw; (try dsimp only at hSw); go_simp; try (with_reducible rfl))
     simp only [Act.put, sA, sZ, sS]
     refine tk 10 ⟨some 33, .extract (.tmp 23) 0, 64, "row.go:92", #[⟨9, .data⟩], none⟩ ?_ ?_ hHeld ?_
     rotate_left
     ·(intro w hSw; (try dsimp only at hSw); go_simp; try (with_reducible rfl))
     simp only [Act.put, sA, sZ, sS]
     refine tk 11 ⟨some 34, .extract (.tmp 23) 1, 36, "row.go:92", #[⟨9, .data⟩, ⟨13, .gcOnly .lateStores⟩], none⟩ ?_ ?_ hHeld ?_
     rotate_left
     ·(intro w hSw; (try dsimp only at hSw); go_simp; try (with_reducible rfl))
     simp only [Act.put, sA, sZ, sS]
     refine wpAnyH_ready (rs := [12]) (by kernel_rfl) (by simp) ?_
     refine AllReadyH.cons (o := ⟨some 13, .alloc 64, 0, "row.go:92", #[], none⟩) rfl (fun K hK => ?_) AllReadyH.nil
     rw [if_pos (by rfl)]
     go_simp
     obtain ⟨W6, hW6⟩ : ∃ W6, w5.alloc (Mk.groupO 0 (Mk.zers 40)) = W6 := ⟨_, rfl⟩
     have hb6 : Below w5.heap.size w5 W6 := by rw [← hW6]; exact Mk.grew_alloc _ _
     have hn6 : W6.heap[w5.heap.size]? = some (Mk.groupO 0 (Mk.zers 40)) := by rw [← hW6]; exact at_new rfl
     have hR6 : R3 w W6 G B Q := hR5.kept (fun k _ hk => hb6.block k (by have := hR5.lt; omega))
     have hR7 : R3 w (W6.setRow w5.heap.size (Mk.groupA n (H n))) G B Q := hR6.kept (fun k _ hk => setRow_other _ _ _ _ (by have := hR5.lt; omega))
     dsimp only [Mk.groupO] at hW6
     rw [Mk.zero38] at hW6
     rw [hW6]
     refine hK.out _ _ hR6.cells (fun hHeld => ?_)
     clear hK K
     try simp only [Act.put, sA, sZ, sS]
     refine wpAnyH_ready (rs := [13]) (by kernel_rfl) (by simp) ?_
     refine AllReadyH.cons (o := ⟨none, .store 64 (.tmp 13) (.tmp 33), 0, "row.go:92", #[⟨12, .data⟩, ⟨10, .data⟩, ⟨8, .chain⟩, ⟨0, .phase⟩, ⟨1, .phase⟩, ⟨2, .phase⟩, ⟨3, .phase⟩, ⟨4, .phase⟩, ⟨5, .phase⟩, ⟨6, .phase⟩, ⟨7, .phase⟩, ⟨8, .phase⟩, ⟨9, .phase⟩, ⟨10, .phase⟩, { on := 11, ground := Ground.textOnly Departure.lateStores }, ⟨12, .phase⟩], none⟩) rfl (fun K hK => ?_) AllReadyH.nil
     rw [if_pos (by rfl)]
     refine wp_store_row 64 _ _ rfl w5.heap.size (Mk.groupA n (H n)) rfl rfl 64 _ hn6 (Mk.info38 (n : Int) (H n) hln) (hsg0.trans hsg.symm) (Mk.group_one (n : Int) (H n)) ?_
     refine hK.out _ _ hR7.cells (fun hHeld => ?_)
     clear hK K
     simp only [Act.put]
     refine tk 14 ⟨some 14, .assign (.tmp 34), 36, "row.go:92", #[⟨11, .data⟩, ⟨13, .chain⟩, ⟨0, .phase⟩, ⟨1, .phase⟩, ⟨2, .phase⟩, ⟨3, .phase⟩, ⟨4, .phase⟩, ⟨5, .phase⟩, ⟨6, .phase⟩, ⟨7, .phase⟩, ⟨8, .phase⟩, ⟨9, .phase⟩, ⟨10, .phase⟩, ⟨11, .phase⟩, ⟨12, .phase⟩, ⟨13, .phase⟩], none⟩ ?_ ?_ hHeld ?_
     rotate_left
     ·(intro w hSw; (try dsimp only at hSw); go_simp; try (with_reducible rfl))
     simp only [Act.put, sA, sZ, sS]
     refine wpAnyH_done (by kernel_rfl) ?_ _
     go_wp2_with fail
     go_meet
     have hbA : Below w5.heap.size w5 (W6.setRow w5.heap.size (Mk.groupA n (H n))) := below_setRow hb6 (Nat.le_refl _) _
     exact rnd_mk hv5 (stp_trans (stp_grown hst (Below.refl _ _).drew) hst5) (hbA.mono (by have := hR5.lt; omega)) (fun k hk => hbA.block k (hv5.lt k hk)) (setRow_heap _ _ _ _ _ _ hn6) hR5.lt hR7
    refine AllReadyH.cons (o := ⟨some 13, .alloc 64, 0, "row.go:92", #[], none⟩) rfl (fun K hK => ?_) AllReadyH.nil
    rw [if_pos (by rfl)]
    go_simp
    obtain ⟨W6, hW6⟩ : ∃ W6, wr.alloc (Mk.groupO 0 (Mk.zers 40)) = W6 := ⟨_, rfl⟩
    have hb6 : Below wr.heap.size wr W6 := by rw [← hW6]; exact Mk.grew_alloc _ _
    have hn6 : W6.heap[wr.heap.size]? = some (Mk.groupO 0 (Mk.zers 40)) := by rw [← hW6]; exact at_new rfl
    have hz6 : W6.heap.size = wr.heap.size + 1 := by rw [← hW6]; simp
    have hR6 : R3 w W6 G B Q := hR.kept (fun k _ hk => hb6.block k (by have := hR.lt; omega))
    dsimp only [Mk.groupO] at hW6
    rw [Mk.zero38] at hW6
    rw [hW6]
    refine hK.out _ _ hR6.cells (fun hHeld => ?_)
    clear hK K
    try simp only [Act.put, sA, sZ, sS]
    refine wpAnyH_ready (rs := [8]) (by kernel_rfl) (by simp) ?_
    refine AllReadyH.cons (o := ⟨some 32, .call { callee := .value (.func 26), args := #[.tmp 24, .tmp 25, .tmp 31], argTypes := #[29, 23, 3] }, 65, "row.go:92", #[⟨0, .data⟩, ⟨1, .data⟩, ⟨7, .data⟩], none⟩) rfl (fun K hK => ?_) AllReadyH.nil
    rw [if_pos (by rfl)]
    go_simp
    refine Calls.mono (hhd _ hb6.drew) ?_
    rintro e w5 ⟨rfl, F2, hv5, hst5⟩
    dsimp only
    have hR5 : R3 w w5 G B Q := hR6.kept (fun k h1 h2 => hst5.fr.block k (by have := hR6.lt; exact Nat.lt_of_lt_of_le h2 this) (fun hf => (hst.new k hf).elim (fun h3 => by have := hltF k h3; omega) (fun h3 => by omega)))
    have hn5 : w5.heap[wr.heap.size]? = some (Mk.groupO 0 (Mk.zers 40)) := (hst5.fr.block _ (show wr.heap.size < W6.heap.size by omega) (fun hf => by have := hv.lt _ hf; omega)).trans hn6
    have hR7 : R3 w (w5.setRow wr.heap.size (Mk.groupA n (H n))) G B Q := hR5.kept (fun k _ hk => setRow_other _ _ _ _ (by have := hR.lt; omega))
    refine hK.out _ _ hR5.cells (fun hHeld => ?_)
    clear hK K
    try simp only [Act.put, sA, sZ, sS]
    refine tk 9 ⟨some 23, .move (.tmp 32), 65, "row.go:92", #[⟨8, .data⟩], none⟩ ?_ ?_ hHeld ?_
    rotate_left
    ·(intro w hSw; (try dsimp only at hSw); go_simp; try (with_reducible rfl))
    simp only [Act.put, sA, sZ, sS]
    refine tk 10 ⟨some 33, .extract (.tmp 23) 0, 64, "row.go:92", #[⟨9, .data⟩], none⟩ ?_ ?_ hHeld ?_
    rotate_left
    ·(intro w hSw; (try dsimp only at hSw); go_simp; try (with_reducible rfl))
    simp only [Act.put, sA, sZ, sS]
    refine tk 11 ⟨some 34, .extract (.tmp 23) 1, 36, "row.go:92", #[⟨9, .data⟩, ⟨13, .gcOnly .lateStores⟩], none⟩ ?_ ?_ hHeld ?_
    rotate_left
    ·(intro w hSw; (try dsimp only at hSw); go_simp; try (with_reducible rfl))
    simp only [Act.put, sA, sZ, sS]
    refine wpAnyH_ready (rs := [13]) (by kernel_rfl) (by simp) ?_
    refine AllReadyH.cons (o := ⟨none, .store 64 (.tmp 13) (.tmp 33), 0, "row.go:92", #[⟨12, .data⟩, ⟨10, .data⟩, ⟨8, .chain⟩, ⟨0, .phase⟩, ⟨1, .phase⟩, ⟨2, .phase⟩, ⟨3, .phase⟩, ⟨4, .phase⟩, ⟨5, .phase⟩, ⟨6, .phase⟩, ⟨7, .phase⟩, ⟨8, .phase⟩, ⟨9, .phase⟩, ⟨10, .phase⟩, { on := 11, ground := Ground.textOnly Departure.lateStores }, ⟨12, .phase⟩], none⟩) rfl (fun K hK => ?_) AllReadyH.nil
    rw [if_pos (by rfl)]
    refine wp_store_row 64 _ _ rfl wr.heap.size (Mk.groupA n (H n)) rfl rfl 64 _ hn5 (Mk.info38 (n : Int) (H n) hln) (hsg0.trans hsg.symm) (Mk.group_one (n : Int) (H n)) ?_
    refine hK.out _ _ hR7.cells (fun hHeld => ?_)
    clear hK K
    simp only [Act.put]
    refine tk 14 ⟨some 14, .assign (.tmp 34), 36, "row.go:92", #[⟨11, .data⟩, ⟨13, .chain⟩, ⟨0, .phase⟩, ⟨1, .phase⟩, ⟨2, .phase⟩, ⟨3, .phase⟩, ⟨4, .phase⟩, ⟨5, .phase⟩, ⟨6, .phase⟩, ⟨7, .phase⟩, ⟨8, .phase⟩, ⟨9, .phase⟩, ⟨10, .phase⟩, ⟨11, .phase⟩, ⟨12, .phase⟩, ⟨13, .phase⟩], none⟩ ?_ ?_ hHeld ?_
    rotate_left
    ·(intro w hSw; (try dsimp only at hSw); go_simp; try (with_reducible rfl))
    simp only [Act.put, sA, sZ, sS]
    refine wpAnyH_done (by kernel_rfl) ?_ _
    go_wp2_with fail
    go_meet
    exact rnd_mk hv5 (stp_trans hst (stp_after hb6.drew hst5)) (below_setRow (Below.refl _ _) (by have := hR.lt; omega) _) (fun k hk => setRow_other _ _ _ _ (by rcases hst5.new k hk with h9 | h9; (have := hv.lt k h9; omega); (have : W6.heap.size ≤ k := h9; omega))) (setRow_heap _ _ _ _ _ _ hn5) hR.lt hR7
   case rest =>
    obtain ⟨b, F2, rfl, rfl, hbn, hb3, hv2, hst2, hR2⟩ := hcut
    rename World => wx
    have c0 := (g3_of hR2.g).c0
    have c1' := (g3_of hR2.g).c1
    have c2 := (g3_of hR2.g).c2
    have hfo := first_ok r (hg.inn hnG) (H n) hln (hH.byt n hnG)
    have hns : nst H r G B Q near (k + 1) = (frs H r B Q n).map fun i => (n, i) := by
     show (match nst H r G B Q near k with | some x => some x | none => (frs H r B Q ((near + k) % G)).map fun i => ((near + k) % G, i)) = _
     rw [hnone, hnn]
    change ∀ w, Calls _ _ _ _ fun e w' => ∃ i : Int, e = .returned (.tuple #[.int .i64 i, .bool (frs H r B Q n).isSome]) ∧ (∀ j, frs H r B Q n = some j → _) ∧ _ at hfo
    have HV : Hid (Vol wx v F2 N I l (c1 + 1) ∧ Pt.Stp F F2 W1 wx ∧ Vol wr v F1 N I l c1) := ⟨hv2, hst2, hv⟩
    clear hv2 hst2 hst hv hhd
    go_wp2_with (first | (refine wpList_load_row rfl 64 _ rfl b rfl 64 _ (0, 0) _ hbn Tryz.underlying64 rfl (Mk.info38 (n : Int) (H n) hln) ?_))
    refine Calls.mono (hfo _) ?_
    rintro e w3 ⟨i, rfl, hi, hb3w⟩
    dsimp only
    have hR3 : R3 w w3 G B Q := hR2.kept (fun k _ hk => hb3w.block k (by have := hR2.lt; omega))
    cases ho : frs H r B Q n with
    | none =>
     rw [ho] at hns
     go_wp2_with fail
     go_roundw
     case rel =>
      obtain ⟨hv2, hst2, _⟩ := HV.out
      exact ⟨k + 1, F2, c1 + 1, by omega, rfl, by go_num, hns, by omega, hv2.later hb3w, stp_grown hst2 hb3w, hR3.g, hR3.s, hR3.f⟩
     case measure => simp [intOf]; omega
    | some j =>
     rw [ho] at hns
     have hij := hi j ho
     subst hij
     have hinf := info138 (n : Int) hln r (j : Int)
     have hso := spot_one (n : Int) (H n) r (j : Int)
     have hss : (spotA 0 (Mk.zers 40) false 0).size = (spotA n (H n) r j).size := (spot_size 0 (Mk.zers_len 40) false 0).trans (spot_size (n : Int) hln r (j : Int)).symm
     have hf3 := hR3.f
     have hbn3 := (hb3w.block b (Array.getElem?_eq_some_iff.1 hbn).1).trans hbn
     obtain ⟨W4, hW4⟩ : ∃ W4, w3.setRow (w.heap.size + 2) (spotA n (H n) r j) = W4 := ⟨_, rfl⟩
     have hf4 : W4.heap[w.heap.size + 2]? = some (spotO n (H n) r j) := by rw [← hW4]; exact setRow_heap _ _ _ _ _ _ hf3
     have hs4 : W4.heap[w.heap.size + 1]? = some (spotO 0 (Mk.zers 40) false 0) := by rw [← hW4, setRow_other _ _ _ _ (by omega)]; exact hR3.s
     have hb4 : Below w.heap.size w3 W4 := by rw [← hW4]; exact below_setRow (Below.refl _ _) (by omega) _
     have HW4 : Hid (w3.setRow (w.heap.size + 2) (spotA n (H n) r j) = W4) := hW4
     have HB : Hid (Below w.heap.size w3 W4 ∧ Below wx.heap.size wx w3 ∧ w.heap.size + 3 ≤ wx.heap.size) := ⟨hb4, hb3w, hR2.lt⟩
     go_wp2_with (first
      | (refine wpList_load_row rfl 64 _ rfl b rfl 64 _ (0, 0) _ hbn3 Tryz.underlying64 rfl (Mk.info38 (n : Int) (H n) hln) ?_)
      | (refine wpList_built rfl 138 _ rfl _ (Eq.trans (congrArg (Tryz.prog.built 138) (by simp only [Act.eval, Array.toList_map, List.map_cons, List.map_nil]; rfl)) (built_spot (n : Int) hln r (j : Int))) ?_)
      | (refine wpList_store_row rfl 138 _ _ rfl (w.heap.size + 2) (spotA n (H n) r j) rfl rfl 138 _ hf3 hinf hss hso ?_; rw [hW4])
      | (refine wpList_load_row rfl 138 _ rfl (w.heap.size + 2) rfl 138 _ (0, 0) _ hf4 Tryz.underlying138 rfl hinf ?_)
      | (refine wpList_store_row rfl 138 _ _ rfl (w.heap.size + 1) (spotA n (H n) r j) rfl rfl 138 _ hs4 hinf hss hso ?_))
     rw [Exit.noGoto_ret]
     refine bodyPost_ret (v := .tuple #[spotV n (H n) r j, .int .i64 0]) (Mk.results_cell_tmp_row (p := 8) (u := 9) (ty := 138) Tryz.results67 _ _ (w.heap.size + 1) 138 _ (0, 0) _ rfl (setRow_heap _ _ _ _ _ _ hs4) Tryz.underlying138 rfl hinf) rfl ?_
     obtain ⟨hv2, hst2, _⟩ := HV.out
     obtain ⟨hb4, hb3w, h3w⟩ := HB.out
     obtain ⟨hbW, hltF, hcl⟩ := HC.out
     have hlow : Below w.heap.size wx (W4.setRow (w.heap.size + 1) (spotA n (H n) r j)) := below_setRow ((hb3w.mono (by omega)).trans hb4) (by omega) _
     refine ⟨?_, F2, c1 + 1, by omega, hv2.else hlow.size (fun q hq => ?_), stp_low (stp_after hbW hst2) hlow⟩
     ·rw [nst_stays hns (show k + 1 ≤ G by omega)]
      rfl
     ·have hqw := hv2.lt q hq
      have hne : q < w.heap.size ∨ w.heap.size + 3 ≤ q := by
       rcases hst2.new q hq with h9 | h9
       ·exact .inl (hltF q h9)
       ·exact .inr (by omega)
      rw [setRow_other _ _ _ _ (by omega), ← HW4.out, setRow_other _ _ _ _ (by omega)]
      exact hb3w.block q hqw
  ·have hkG' : k = G := by omega
   subst hkG'
   have hkI : ¬ ((k : Int) < (k : Int)) := by omega
   have hi0 := info138 0 (Mk.zers_len 40) false 0
   have h10 := spot_one 0 (Mk.zers 40) false 0
   go_wp2_with (first
    | (refine wpList_load_row rfl 138 _ rfl (w.heap.size + 2) rfl 138 _ (0, 0) _ hf Tryz.underlying138 rfl hi0 ?_)
    | (refine wpList_store_row rfl 138 _ _ rfl (w.heap.size + 1) (spotA 0 (Mk.zers 40) false 0) rfl rfl 138 _ hs hi0 rfl h10 ?_))
   refine bodyPost_ret (v := .tuple #[spotV 0 (Mk.zers 40) false 0, .int .i64 5]) (Mk.results_cell_tmp_row (p := 8) (u := 9) (ty := 138) Tryz.results67 _ _ (w.heap.size + 1) 138 _ (0, 0) _ rfl (setRow_heap _ _ _ _ _ _ hs) Tryz.underlying138 rfl hi0) rfl ?_
   obtain ⟨hbW, hltF, hcl⟩ := HC.out
   have hR : R3 w wr k B Q := ⟨hx, hs, hf⟩
   have h3w := hR.lt
   have hlow : Below w.heap.size wr (wr.setRow (w.heap.size + 1) (spotA 0 (Mk.zers 40) false 0)) := below_setRow (Below.refl _ _) (by omega) _
   refine ⟨?_, F1, c1, by omega, hv.else hlow.size (fun q hq => ?_), stp_low (stp_after hbW hst) hlow⟩
   ·rw [hnone]
    rfl
   ·have hne : q < w.heap.size ∨ w.heap.size + 3 ≤ q := by
     rcases hst.new q hq with h9 | h9
     ·exact .inl (hltF q h9)
     ·exact .inr (by omega)
    exact setRow_other _ _ _ _ (by omega)
end
end Go.Proofs.YthdlpeejmmobmaaGreat

namespace Go.Proofs.YthdlpeejmmobmaaGreat
open Go.RowKit Go.Maps
set_option maxRecDepth 100000
set_option linter.unusedVariables false
theorem nst_some {H : Nat → List Int} {r : Bool} {G B Q near : Nat} (hG : 0 < G) : ∀ {k : Nat} {n i : Nat}, nst H r G B Q near k = some (n, i) → n < G ∧ frs H r B Q n = some i
 | 0, _, _, h => by cases h
 | k + 1, n, i, h => by
  have h' : (match nst H r G B Q near k with | some x => some x | none => (frs H r B Q ((near + k) % G)).map fun i => ((near + k) % G, i)) = some (n, i) := h
  cases e : nst H r G B Q near k with
  | some x =>
   rw [e] at h'
   have : x = (n, i) := Option.some.inj h'
   exact nst_some hG (e.trans (congrArg some this))
  | none =>
   rw [e] at h'
   dsimp only at h'
   cases e2 : frs H r B Q ((near + k) % G) with
   | none => rw [e2] at h'; cases h'
   | some j =>
    rw [e2] at h'
    have h2 := Option.some.inj h'
    have h3 : (near + k) % G = n := congrArg Prod.fst h2
    have h4 : j = i := congrArg Prod.snd h2
    rw [← h3, ← h4]
    exact ⟨Nat.mod_lt _ hG, e2⟩
theorem frs_some {H : Nat → List Int} {r : Bool} {G B Q n i : Nat} (hm : Mk.Gm.May (G : Int) B Q) (h : frs H r B Q n = some i) : Mk.Al.fN r Q n ≤ i ∧ i < Mk.Al.eN r B Q ∧ Mk.Bit.on (Mk.Al.rowOf r (H n)) i = false := by
 have h1 := Mk.Al.lo_some _ _ _ h
 have h2 := (Mk.Al.fe_lt hm r n).1
 exact ⟨h1.1, by omega, h1.2.2⟩
section
variable [Inhabited Past] {w w' : World} {v : Nat} {F : Nat → Prop} {N : Nat} {I : Nat → List Int} {l c G B Q : Nat}
open Mk.Al in
set_option maxHeartbeats 4000000 in
theorem block_ok (h : Vol w v F N I l c) (hg : Geo G B Q N) {H : Nat → List Int} (hH : Hds I G B H) {near : Nat} (hn : near < G) (hc : c + 8 < 4611686018427387904) (hl1 : l + 1 ≤ 10000)
  (q : Option Addr) (m d : Nat) (zs : List Int) (hz : Pt.II w q m zs) (hqv : ∀ k, Pt.blkOf q = some k → ¬ F k) (hk : zs.all (Pt.kn l) = true) (hm : m ≤ 100000) :
  Calls Tryz.prog 22 #[.pointer (some ⟨v, 0, none⟩), Mk.geomV G B Q, .int .i64 (near : Int), .slice q m d] w fun e w' =>
   (∀ n i, nst H false G B Q near G = some (n, i) → e = .returned (.tuple #[.int .i64 ((n * B + i : Nat) : Int), .int .i64 ((l + 1 : Nat) : Int), .int .i64 0]) ∧ ∃ F' c', c' ≤ c + 8 ∧ Vol w' v F' N (putH I B n (putY false (H n) i true)) (l + 1) c' ∧ Pt.Stp F F' w w') ∧
   (nst H false G B Q near G = none → e = .returned (.tuple #[.int .i64 0, .int .i64 0, .int .i64 5]) ∧ ∃ F' c', c' ≤ c + 8 ∧ Vol w' v F' N I l c' ∧ Pt.Stp F F' w w') := by
 have hfit := hg.fit
 obtain ⟨W, hW⟩ : ∃ W, w.alloc (Mk.geomO G B Q) = W := ⟨_, rfl⟩
 have hb : Below w.heap.size w W := by rw [← hW]; exact Mk.grew_alloc _ _
 have hx : W.heap[w.heap.size]? = some (Mk.geomO G B Q) := by rw [← hW]; exact at_new rfl
 have hsz : W.heap.size = w.heap.size + 1 := by rw [← hW]; simp
 have c0 := (g3_of hx).c0
 have c1 := (g3_of hx).c1
 have c2 := (g3_of hx).c2
 have hlt := h.lt
 have hv := h.later hb
 have hnr := near_ok hv hg hn
 have HV : Hid (Vol W v F N I l c ∧ Below w.heap.size w W ∧ (∀ k, F k → k < w.heap.size)) := ⟨hv, hb, hlt⟩
 have hzW := hz.kept hb
 clear hv h hz hb hlt
 go_enter Tryz.func22, Tryz.ntmps22
 go_wp2_with fail
 refine Mk.grew_at hnr ?_
 intro w1 hb1
 have hx1 := (hb1.block _ (Array.getElem?_eq_some_iff.1 hx).1).trans hx
 have c0 := (g3_of hx1).c0
 have c1 := (g3_of hx1).c1
 have c2 := (g3_of hx1).c2
 have hne := nearest_ok (HV.out.1.later hb1) hg hH false hn hc
 dsimp only
 go_wp2_with fail
 refine Calls.mono hne ?_
 rintro e w2 ⟨rfl, F2, c', hc', hv2, hst2⟩
 have hx2 : w2.heap[w.heap.size]? = some (Mk.geomO G B Q) := (hst2.fr.block _ (Array.getElem?_eq_some_iff.1 hx1).1 (fun hf => by have := HV.out.2.2 _ hf; omega)).trans hx1
 have c0 := (g3_of hx2).c0
 have c1 := (g3_of hx2).c1
 have c2 := (g3_of hx2).c2
 have hst : Pt.Stp F F2 w w2 := stp_after (HV.out.2.1.trans (hb1.mono HV.out.2.1.size)) hst2
 have hs2 : w.heap.size + 1 ≤ w2.heap.size := by have := (Array.getElem?_eq_some_iff.1 hx2).1; omega
 obtain ⟨W5, hW5⟩ : ∃ W5, w2.alloc (spotO 0 (Mk.zers 40) false 0) = W5 := ⟨_, rfl⟩
 have hn5 : W5.heap[w2.heap.size]? = some (spotO 0 (Mk.zers 40) false 0) := by rw [← hW5]; exact at_new rfl
 have hb5 : Below w2.heap.size w2 W5 := by rw [← hW5]; exact Mk.grew_alloc _ _
 have hx5 := (hb5.block _ (Array.getElem?_eq_some_iff.1 hx2).1).trans hx2
 dsimp only [spotO] at hW5
 rw [zeroSpot] at hW5
 cases ho : nst H false G B Q near G with
 | none =>
  obtain ⟨W6, hW6⟩ : ∃ W6, W5.setRow w2.heap.size (spotA 0 (Mk.zers 40) false 0) = W6 := ⟨_, rfl⟩
  have hb6 : Below w2.heap.size w2 W6 := by rw [← hW6]; exact below_setRow hb5 (Nat.le_refl _) _
  have hi0 := info138 0 (Mk.zers_len 40) false 0
  have h10 := spot_one 0 (Mk.zers 40) false 0
  dsimp only [nstV]
  go_wp2_with (first
   | (refine wpList_store_row rfl 138 _ _ rfl w2.heap.size (spotA 0 (Mk.zers 40) false 0) rfl rfl 138 _ hn5 hi0 rfl h10 ?_; rw [hW6]))
  go_ret3
  exact ⟨rfl, F2, c', hc', hv2.later hb6, stp_grown hst hb6⟩
 | some ni =>
  obtain ⟨n, i⟩ := ni
  obtain ⟨hnG, hfr⟩ := nst_some (by omega) ho
  obtain ⟨hf1, hf2, hf3⟩ := frs_some hg.may hfr
  have hln := hH.len n hnG
  have hinf := info138 (n : Int) hln false (i : Int)
  have hso := spot_one (n : Int) (H n) false (i : Int)
  have hss : (spotA 0 (Mk.zers 40) false 0).size = (spotA n (H n) false i).size := (spot_size 0 (Mk.zers_len 40) false 0).trans (spot_size (n : Int) hln false (i : Int)).symm
  obtain ⟨W6, hW6⟩ : ∃ W6, W5.setRow w2.heap.size (spotA n (H n) false i) = W6 := ⟨_, rfl⟩
  have hn6 : W6.heap[w2.heap.size]? = some (spotO n (H n) false i) := by rw [← hW6]; exact setRow_heap _ _ _ _ _ _ hn5
  have hb6 : Below w2.heap.size w2 W6 := by rw [← hW6]; exact below_setRow hb5 (Nat.le_refl _) _
  have hx6 := (hb6.block _ (Array.getElem?_eq_some_iff.1 hx2).1).trans hx2
  have c0 := (g3_of hx6).c0
  have c1 := (g3_of hx6).c1
  have c2 := (g3_of hx6).c2
  have hz2 : Pt.II W6 q m zs := ((hzW.kept hb1).keptIf (fun k hk hl => hst2.fr.block k hl (fun hF => hqv k hk hF))).kept hb6
  have hgv := give_ok (hv2.later hb6) hg hnG (hH.at_ n hnG) (hH.len n hnG) (hH.byt n hnG) hl1 false i hf2 q m d zs hz2 (fun k hk e => hqv k hk (by rw [e]; exact HV.out.1.mem)) hk hm
  rw [hf3] at hgv
  dsimp only [nstV]
  go_wp2_with (first
   | (refine wpList_store_row rfl 138 _ _ rfl w2.heap.size (spotA n (H n) false i) rfl rfl 138 _ hn5 hinf hss hso ?_; rw [hW6])
   | (refine wpList_load_row rfl 138 _ rfl w2.heap.size rfl 138 _ (0, 0) _ hn6 Tryz.underlying138 rfl hinf ?_))
  refine Calls.mono hgv ?_
  rintro e w3 ⟨rfl, F3, hv3, hst3⟩
  dsimp only
  go_wp2_with fail
  go_ret3
  refine ⟨fun n' i' h => ?_, fun h => by rw [ho] at h; cases h⟩
  rw [ho] at h; cases h
  exact ⟨rfl, F3, c', hc', hv3, stp_trans (stp_grown hst hb6) hst3⟩
end
end Go.Proofs.YthdlpeejmmobmaaGreat
