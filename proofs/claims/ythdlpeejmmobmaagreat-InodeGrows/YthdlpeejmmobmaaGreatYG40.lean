/- J10 -/
import Derived.Test.YthdlpeejmmobmaaGreatYG39

namespace Go.Proofs.YthdlpeejmmobmaaGreat
open Go.RowKit Go.Maps
set_option linter.unusedVariables false
set_option maxRecDepth 100000
theorem leadMF (x u y : Value) (w : World) : ((method 564 239 x "bollard/inode.lead").run Tryz.prog w).andThen (fun a w' => (callFunc a.fst #[a.snd, u, y]).run Tryz.prog w') = .ok (.enter 337 #[x, u, y]) w := by kernel_rfl
theorem leadML (x u y : Value) (w : World) : ((method 564 346 x "bollard/inode.lead").run Tryz.prog w).andThen (fun a w' => (callFunc a.fst #[a.snd, u, y]).run Tryz.prog w') = .ok (.enter 342 #[x, u, y]) w := by kernel_rfl
structure Pav (w wr : World) (I : Nat → List Int) (H0 : Nat → List Int) (val : Nat → Nat) (v N l c G B Q x : Nat) (F : Nat → Prop) (m ln sz : Int) (s : Nat) (ps : List Nat) (q : Option Addr) [Inhabited Past]
  (u : Value) (s1 : Nat) (ps1 : List Nat) (q1 : Option Addr) (F1 : Nat → Prop) (I1 H1 : Nat → List Int) (val1 : Nat → Nat) (l1 c1 : Nat) (zs1 : List Int) : Prop where
 vol : Vol wr v F1 N I1 l1 c1
 inw : Inw I1 G B Q N H1 H0 val1
 dx : wr.heap[x]? = some (dinX m ln sz val1)
 nx : ¬ F1 x
 row : Nrw w.heap.size wr u zs1 F1 x
 kn : zs1.all (Pt.kn l1) = true
 zl : zs1.length + 2 * ps1.length ≤ 2 * ps.length
 up : 6 ≤ s1 → val1 (par s1) ≠ 0
 zero : val1 s1 = 0
 chn : Chn s1 ps1
 ends : endS s1 ps1 = endS s ps
 keep : ∀ i, i < 4230 → val i ≠ 0 → val1 i = val i
 plc : Plc wr q1 ps1
 plq : ∀ k, Pt.blkOf q1 = some k → Pt.blkOf q = some k
 geo : wr.heap[w.heap.size]? = some (Mk.geomO G B Q)
 way : wr.heap[w.heap.size + 1]? = some (.cells #[slotV x val1 s1, .slice q1 ps1.length ps1.length] 154 (0, 0))
 ll : l1 + 3 * ps1.length ≤ l + 3 * ps.length
 cl : c1 + 8 * ps1.length ≤ c + 8 * ps.length
 ino : ∀ k, k % B ≠ 1 → k % B < 2 + Q / 4 → I1 k = I k
 stp : Pt.Stp (FX F x) (FX F1 x) w wr
 new : ∀ k, F1 k → F k ∨ w.heap.size + 2 ≤ k
def Led [Inhabited Past] (wa wb : World) (I2 : Nat → List Int) (val1 : Nat → Nat) (v N l2 c2 x b s1 : Nat) (F2 : Nat → Prop) (m ln sz : Int) (v14 : Value) : Prop :=
 ∃ (q3 : Option Addr) (F3 : Nat → Prop) (l3 : Nat) (zs3 : List Int), v14 = .slice q3 zs3.length zs3.length ∧ l2 ≤ l3 ∧ l3 ≤ l2 + 1 ∧ Vol wb v F3 N (putS I2 val1 s1 b) l3 c2 ∧ wb.heap[x]? = some (dinX m ln sz (updV val1 s1 b)) ∧ ¬ F3 x ∧
   Pt.II wb q3 zs3.length zs3 ∧ zs3.all (Pt.kn l3) = true ∧ 1 ≤ zs3.length ∧ zs3.length ≤ 2 ∧ (∀ k, Pt.blkOf q3 = some k → wa.heap.size ≤ k ∧ ¬ F3 k) ∧ Pt.Stp (FX F2 x) (FX F3 x) wa wb
section
variable [Inhabited Past] {w w' : World} {v : Nat} {F : Nat → Prop} {N : Nat} {I : Nat → List Int} {l c G B Q : Nat}
set_option maxHeartbeats 8000000 in
theorem pave_ok (h : Vol w v F N I l c) (hg : Geo G B Q N) {H H0 : Nat → List Int} {val : Nat → Nat} (hW0 : Inw I G B Q N H H0 val) {near : Nat} (hn : near < G) {m ln sz : Int} {x : Nat} (hx : w.heap[x]? = some (dinX m ln sz val)) (hxF : ¬ F x) {s : Nat} {ps : List Nat} (hs : Chn s ps) (hz : val s = 0) (h6 : 6 ≤ s → val (par s) ≠ 0)
  (q : Option Addr) (hq : Plc w q ps) (hqF : ∀ k, Pt.blkOf q = some k → ¬ F k ∧ k < w.heap.size ∧ k ≠ x) (hc : c + 40 < 4611686018427387904) (hl : l + 20 ≤ 10000) :
  Calls Tryz.prog 83 #[.pointer (some ⟨v, 0, none⟩), Mk.geomV G B Q, .int .i64 (near : Int), .agg #[slotV x val s, .slice q ps.length ps.length]] w fun e w' =>
   (e = .returned (.tuple #[.int .i64 0, .slice none 0 0, .int .i64 5]) ∧ ∃ F' I' l' c', c' ≤ c + 24 ∧ Vol w' v F' N I' l' c' ∧ Pt.Stp (FX F x) (FX F' x) w w') ∨
   (∃ (b : Nat) (u : Value) (zs : List Int) (F' : Nat → Prop) (I' H' : Nat → List Int) (val' : Nat → Nat) (l' c' : Nat), e = .returned (.tuple #[.int .i64 (b : Int), u, .int .i64 0]) ∧ Nrw w.heap.size w' u zs F' x ∧ zs.all (Pt.kn l') = true ∧ zs.length ≤ 6 ∧ Vol w' v F' N I' l' c' ∧ Inw I' G B Q N H' H0 val' ∧ val' (endS s ps) = b ∧ b ≠ 0 ∧
    (∀ i, i < 4230 → val i ≠ 0 → val' i = val i) ∧ w'.heap[x]? = some (dinX m ln sz val') ∧ ¬ F' x ∧ l' ≤ l + 9 ∧ c' ≤ c + 24 ∧ (∀ k, k % B ≠ 1 → k % B < 2 + Q / 4 → I' k = I k) ∧ Pt.Stp (FX F x) (FX F' x) w w') := by
 obtain ⟨W, hW⟩ : ∃ W, (w.alloc (Mk.geomO G B Q)).alloc (.cells #[slotV x val s, .slice q ps.length ps.length] 154) = W := ⟨_, rfl⟩
 have hb : Below w.heap.size w W := by rw [← hW]; exact ((Below.refl _ _).alloc (Nat.le_refl _) _).alloc (by simp) _
 have hgr : W.heap[w.heap.size]? = some (Mk.geomO G B Q) := by rw [← hW]; exact at_old (at_new rfl)
 have hwr : W.heap[w.heap.size + 1]? = some (.cells #[slotV x val s, .slice q ps.length ps.length] 154 (0, 0)) := by rw [← hW]; exact at_new (by simp)
 have hxl := (Array.getElem?_eq_some_iff.1 hx).1
 have hN := h.N1.2
 have hlt := h.lt
 have hl2 := hq.1
 have hsv : ∀ val s, (slotV x val s).oneCell' = true := fun val s => by unfold slotV; split <;> simp [Value.oneCell']
 have hP0 : Pav w W I H0 val v N l c G B Q x F m ln sz s ps q (.slice none 0 0) s ps q F I H val l c [] :=
  ⟨h.later hb, hW0, (hb.block x hxl).trans hx, hxF, nrw_nil _ _ _ _, rfl, by simp, h6, hz, hs, rfl, fun i _ _ => rfl, hq.kept hb, fun k hk => hk, hgr, hwr, by omega, by omega, fun k _ _ => rfl, stp_fx (stp_grown (Pt.Stp.refl F w) hb), fun k hk => .inl hk⟩
 have HQ : Hid ((∀ k, Pt.blkOf q = some k → ¬ F k ∧ k < w.heap.size ∧ k ≠ x) ∧ (∀ k, F k → k < w.heap.size)) := ⟨hqF, hlt⟩
 clear h hW0 hx hxF hs hz h6 hq hqF hb hgr hwr hlt
 go_enter Tryz.func83, Tryz.ntmps83
 go_wp2_with fail
 go_loopw [11] (fun u wr => ∃ (s1 : Nat) (ps1 : List Nat) (q1 : Option Addr) (F1 : Nat → Prop) (I1 H1 : Nat → List Int) (val1 : Nat → Nat) (l1 c1 : Nat) (zs1 : List Int), Pav w wr I H0 val v N l c G B Q x F m ln sz s ps q u s1 ps1 q1 F1 I1 H1 val1 l1 c1 zs1) (fun _ wr => plcN wr (w.heap.size + 1))
 case atStart => exact ⟨_, _, _, _, _, _, _, _, _, _, hP0⟩
 case round =>
  clear hP0 hW
  obtain ⟨s1, ps1, q1, F1, I1, H1, val1, l1, c1, zs1, hP⟩ := hrel
  have c0 := (g3_of hP.geo).c0
  have c1' := (g3_of hP.geo).c1
  have c2 := (g3_of hP.geo).c2
  have hlc := hP.ll
  have hcc := hP.cl
  have hgv := gives_ok hP.vol hg hP.inw.hds hn (by omega) (by omega)
  go_wp2_with fail
  refine Calls.mono hgv ?_
  rintro e wa ⟨F2, c2', hc2, hst2, ⟨rfl, hv2⟩ | ⟨b, I2, H2, rfl, hgn, hv2⟩⟩
  ·have hstf := stp_trans hP.stp (stp_fx (x := x) hst2)
   dsimp only
   go_wp2_with fail
   go_ret3
   exact .inl ⟨rfl, F2, _, _, c2', by omega, hv2.later (Mk.grew_alloc _ _), stp_grown hstf (Mk.grew_alloc _ _)⟩
  ·obtain ⟨wf, hwf⟩ : ∃ wf, wa.alloc (Obj.cells #[.int .i64 (b : Int), .int .i64 ((l1 : Int) + 1), .int .i64 ((l1 : Int) + 2)] 242) = wf := ⟨_, rfl⟩
   have hbf : Below wa.heap.size wa wf := by rw [← hwf]; exact Mk.grew_alloc _ _
   have hnf : wf.heap[wa.heap.size]? = some (.cells #[.int .i64 (b : Int), .int .i64 ((l1 : Int) + 1), .int .i64 ((l1 : Int) + 2)] 242 (0, 0)) := by rw [← hwf]; exact at_new rfl
   have hsa := hst2.fr.size
   have hsaf : wa.heap.size < wf.heap.size := (Array.getElem?_eq_some_iff.1 hnf).1
   have hwl := (Array.getElem?_eq_some_iff.1 hP.way).1
   have hF1 : ∀ k, k < w.heap.size + 2 → ¬ F k → ¬ F1 k := fun k hk hf hF => (hP.new k hF).elim hf (fun h9 => by omega)
   have hFa : ∀ k, w.heap.size ≤ k → ¬ F k := fun k hk hf => by have := HQ.out.2 k hf; omega
   have hlt1 : ∀ k, k < w.heap.size + 2 → ¬ F k → wf.heap[k]? = wr.heap[k]? := fun k hk hf => (hbf.block k (by omega)).trans (hst2.fr.block k (by omega) (hF1 k hk hf))
   have hgeo := (hlt1 _ (by omega) (hFa _ (Nat.le_refl _))).trans hP.geo
   have hway := (hlt1 _ (by omega) (hFa _ (by omega))).trans hP.way
   have hxl2 := (Array.getElem?_eq_some_iff.1 hP.dx).1
   have hdx := ((hbf.block x (by omega)).trans (hst2.fr.block x hxl2 hP.nx)).trans hP.dx
   have hxF2 : ¬ F2 x := fun hf => (hst2.new x hf).elim hP.nx (fun h9 => by have h9 : wr.heap.size ≤ x := h9; omega)
   have hvf := hv2.later hbf
   have hs4 := hP.chn.lt
   have hbN := hgn.lt
   have d0 := cell_of_row _ _ 0 _ _ _ hway
   have k0 := cell_of_row _ _ 0 _ _ _ hnf
   have k1 := cell_of_row _ _ 1 _ _ _ hnf
   have k2 := cell_of_row _ _ 2 _ _ _ hnf
   dsimp only
   go_upto_region 5 with fail
   go_cut [14, 13] (fun v14 v13 wb => v13 = .int .i64 0 ∧ Led wf wb I2 val1 v N (l1 + 2) c2' x b s1 F2 m ln sz v14)
   case first =>
    by_cases hs6 : s1 < 6
    ·have e1 : slotV x val1 s1 = .iface 239 (.agg #[.pointer (some ⟨x, 3 + s1, none⟩)]) := if_pos hs6
     rw [e1] at d0
     have hld := leadF_ok hvf hdx hxF2 hs6 b (l1 + 1) (l1 + 2) (by omega) (by omega) (by omega)
     go_wp2_with (first
      | (rw [leadMF, Oper.upon_enter]; refine Calls.mono hld ?_; rintro e wb ⟨q3, F3, l3, zs3, rfl, hL⟩; dsimp only))
     go_meet
     exact ⟨rfl, q3, F3, l3, zs3, rfl, hL⟩
    ·have e1 : slotV x val1 s1 = .iface 346 (.agg #[.int .i64 (val1 (par s1) : Int), .int .i64 (plc s1 : Int)]) := if_neg hs6
     rw [e1] at d0
     have hp0 := hP.up (by omega)
     have hpN := (hP.inw.rng _ (inner_lt (par_in (by omega) hs4).1) hp0).1
     have hld := leadL_ok hvf hdx hxF2 (show 6 ≤ s1 by omega) hs4 hpN b (l1 + 1) (l1 + 2) (by omega) (by omega) (by omega) (by omega)
     go_wp2_with (first
      | (rw [leadML, Oper.upon_enter]; refine Calls.mono hld ?_; rintro e wb ⟨q3, F3, l3, zs3, rfl, hL⟩; dsimp only))
     go_meet
     exact ⟨rfl, q3, F3, l3, zs3, rfl, hL⟩
   case rest =>
    obtain ⟨rfl, q3, F3, l3, zs3, rfl, hl3, hl3', hv3, hdx3, hxF3, hii3, hkn3, hz1, hz2, hq3, hst3⟩ := hcut
    rename World => wb
    have hF2n : ∀ k, F2 k → F k ∨ w.heap.size + 2 ≤ k := fun k hk => (hst2.new k hk).elim (hP.new k) (fun h9 => .inr (by have h9 : wr.heap.size ≤ k := h9; omega))
    have hF2o : ∀ k, k < w.heap.size + 2 → ¬ F k → ¬ F2 k := fun k hk hf hF => (hF2n k hF).elim hf (fun h9 => by omega)
    have hob : ∀ k, w.heap.size ≤ k → k < w.heap.size + 2 → wb.heap[k]? = wf.heap[k]? := fun k hk hk2 => hst3.fr.block k (by omega) (fun hf => hf.elim (hF2o k hk2 (hFa k hk)) (fun e => by omega))
    have hgeo3 := (hob _ (Nat.le_refl _) (by omega)).trans hgeo
    have hway3 := (hob _ (by omega) (by omega)).trans hway
    have hnf3 := (hst3.fr.block wa.heap.size hsaf (fun hf => hf.elim (fun h9 => by have := hv2.lt _ h9; omega) (fun e => by omega))).trans hnf
    have hstR : Pt.Stp (FX F1 x) (FX F3 x) wr wb := stp_trans (stp_grown (stp_fx hst2) hbf) hst3
    have hrow3 := hP.row.stp hstR
    have hs3 := hst3.fr.size
    obtain ⟨hinw3, hino3⟩ := hP.inw.step hg hgn hN (fun b => (hv2.sect b).1) hs4 hP.zero hP.up
    have hb0 : b ≠ 0 := fun e => by have := hgn.data; rw [e, Nat.zero_mod] at this; omega
    have hzl := hP.zl
    have HR : Hid (Pt.Stp (FX F1 x) (FX F3 x) wr wb ∧ Vol wb v F3 N (putS I2 val1 s1 b) l3 c2' ∧ (∀ k, F2 k → F k ∨ w.heap.size + 2 ≤ k)) := ⟨hstR, hv3, hF2n⟩
    clear hst3 hstR hgn hnf hgeo hway hdx hvf hbf hst2 hgv
    go_upto_region 9 with (first
     | (at_builtin; refine wpList_nrw rfl _ _ rfl hrow3 rfl rfl hii3 (by omega) (by omega) (by omega) hv3.lt (by omega) ?_; intro u5 w5 hrow5 hg5))
    have hs5 := hg5.size
    have hgeo5 : w5.heap[w.heap.size]? = some (Mk.geomO G B Q) := hrow3.other hg5 hgeo3 (by decide)
    have hway5 := hrow3.other hg5 hway3 (by decide)
    have hnf5 := hrow3.other hg5 hnf3 (by decide)
    have hdx5 := (hrow3.vol hg5 (show x < wb.heap.size by omega) (.inr rfl)).trans hdx3
    have hv5 : Vol w5 v F3 N (putS I2 val1 s1 b) l3 c2' := hv3.else hg5.size (fun k hk => hrow3.vol hg5 (hv3.lt k hk) (.inl hk))
    have hlow5 := hrow3.low hg5 (show w.heap.size ≤ wb.heap.size by omega)
    have hst5 : Pt.Stp (FX F x) (FX F3 x) w w5 := stp_low (stp_trans hP.stp HR.out.1) hlow5
    have hF3n : ∀ k, F3 k → F k ∨ w.heap.size + 2 ≤ k := fun k hk => (HR.out.1.new k (.inl hk)).elim (fun h9 => h9.elim (hP.new k) (fun e => absurd (e ▸ hk) hxF3)) (fun h9 => .inr (by have h9 : wr.heap.size ≤ k := h9; omega))
    have hkp : ∀ k, k < w.heap.size → ¬ F k → k ≠ x → w5.heap[k]? = wr.heap[k]? := fun k hk hf hkx => (hlow5.block k hk).trans (HR.out.1.fr.block k (by omega) (fun h9 => h9.elim (hF1 k (by omega) hf) hkx))
    have hplc5 : Plc w5 q1 ps1 := hP.plc.keptIf (fun k hk => hkp k (HQ.out.1 k (hP.plq k hk)).2.1 (HQ.out.1 k (hP.plq k hk)).1 (HQ.out.1 k (hP.plq k hk)).2.2)
    have hkn5 : (zs1 ++ zs3).all (Pt.kn l3) = true := by rw [List.all_append, kn_mono (by omega) hP.kn, hkn3]; rfl
    have hkeep : ∀ i, i < 4230 → val i ≠ 0 → updV val1 s1 b i = val i := fun i hi hv => by
     have h9 := hP.keep i hi hv
     rw [updV_ne _ _ (fun e => hv (by rw [← h9, e]; exact hP.zero)), h9]
    have hino5 : ∀ k, k % B ≠ 1 → k % B < 2 + Q / 4 → putS I2 val1 s1 b k = I k := fun k h1 h2 => (hino3 k h1 h2).trans (hP.ino k h1 h2)
    have d5 := cell_of_row _ _ 0 _ _ _ hnf5
    have hpl : plcN wr (w.heap.size + 1) = ps1.length := by unfold plcN; rw [cell_of_row _ _ 1 _ _ _ hP.way]; rfl
    have hil := isLast_ok (slotV x val1 s1) (hsv val1 s1) q1 ps1.length ps1.length w5
    have hzero := hP.zero
    have hchn := hP.chn
    have HE : Hid (endS s1 ps1 = endS s ps) := hP.ends
    have hplq := hP.plq
    have hdead := fun (j p : Nat) (hj : inner j) (hp : p < 64) (h0 : val1 j = 0) => hP.inw.tre.dead j hj h0 p hp
    clear hP hrow3 hgeo3 hway3 hnf3 hdx3 HR hii3 hv3 hg5 hlow5 d0 k0 k1 k2 c0 c1' c2
    cases ps1 with
    | nil =>
     have hi2 : (Tryz.prog.info? 154).map (·.size) = some (#[slotV x val1 s1, .slice q1 0 0] : Array Value).size := info154
     have hil : Calls Tryz.prog 148 #[.agg #[slotV x val1 s1, .slice q1 0 0]] w5 fun e w' => e = .returned (.bool true) ∧ Below w5.heap.size w5 w' := hil
     go_wp2_with (first
      | (refine wpList_load_row rfl 154 _ rfl (w.heap.size + 1) rfl 154 _ (0, 0) _ hway5 Tryz.underlying154 rfl hi2 ?_)
      | (refine Calls.mono hil ?_; rintro e w6 ⟨rfl, hb6⟩; have d6 := Mk.cell_kept d5 hb6; dsimp only))
     go_ret3
     have hends : s1 = endS s ps := HE.out
     have hs6 := hb6.size
     refine .inr ⟨b, u5, zs1 ++ zs3, F3, putS I2 val1 s1 b, H2, updV val1 s1 b, l3, c2', rfl, hrow5.stp (stp_grown (Pt.Stp.refl (FX F3 x) w5) hb6), hkn5, by rw [List.length_append]; omega, hv5.later hb6, hinw3, by rw [← hends, updV_same], hb0, hkeep, (hb6.block x (by omega)).trans hdx5, hxF3, by omega, by omega, hino5, stp_grown hst5 hb6⟩
    | cons p ps2 =>
     have hway5 : w5.heap[w.heap.size + 1]? = some (.cells #[slotV x val1 s1, .slice q1 (ps2.length + 1) (ps2.length + 1)] 154 (0, 0)) := hway5
     have hi2 : (Tryz.prog.info? 154).map (·.size) = some (#[slotV x val1 s1, .slice q1 (ps2.length + 1) (ps2.length + 1)] : Array Value).size := info154
     have hil : Calls Tryz.prog 148 #[.agg #[slotV x val1 s1, .slice q1 (ps2.length + 1) (ps2.length + 1)]] w5 fun e w' => e = .returned (.bool false) ∧ Below w5.heap.size w5 w' := hil
     have hnx := fun (w6 : World) (hb6 : Below w5.heap.size w5 w6) => next_ok (slotV x val1 s1) (hsv val1 s1) q1 b p ps2 w6 (hplc5.kept hb6)
     go_wp2_with (first
      | (refine wpList_load_row rfl 154 _ rfl (w.heap.size + 1) rfl 154 _ (0, 0) _ hway5 Tryz.underlying154 rfl hi2 ?_)
      | (refine Calls.mono hil ?_; rintro e w6 ⟨rfl, hb6⟩; have d6 := Mk.cell_kept d5 hb6; have hway6 := (hb6.block _ (by omega)).trans hway5; dsimp only)
      | (refine wpList_load_row rfl 154 _ rfl (w.heap.size + 1) rfl 154 _ (0, 0) _ hway6 Tryz.underlying154 rfl hi2 ?_)
      | (refine Calls.mono (hnx _ hb6) ?_; rintro e w7 ⟨q', rfl, hq', hqb, hb7⟩; have hway7 := (hb7.block _ (by have := hb6.size; omega)).trans hway6; dsimp only)
      | (refine wpList_store_row rfl 154 _ _ rfl (w.heap.size + 1) #[.iface 346 (.agg #[.int .i64 (b : Int), .int .i64 (p : Int)]), .slice q' ps2.length ps2.length] rfl rfl 154 _ hway7 info154 rfl (one2 rfl rfl) ?_))
     have hs6 := hb6.size
     have hs7 := hb7.size
     obtain ⟨a1, a2, a3⟩ := hchn
     obtain ⟨k1, k2⟩ := par_kid a1 a2
     have hk6 := kid_lt a1 a2
     have esv : slotV x (updV val1 s1 b) (kid s1 p) = .iface 346 (.agg #[.int .i64 (b : Int), .int .i64 (p : Int)]) := by unfold slotV; rw [if_neg (by omega), k1, k2, updV_same]
     obtain ⟨w8, hw8⟩ : ∃ w8, w7.setRow (w.heap.size + 1) #[.iface 346 (.agg #[.int .i64 (b : Int), .int .i64 (p : Int)]), .slice q' ps2.length ps2.length] = w8 := ⟨_, rfl⟩
     have hrn : w8.heap[w.heap.size + 1]? = some (.cells #[.iface 346 (.agg #[.int .i64 (b : Int), .int .i64 (p : Int)]), .slice q' ps2.length ps2.length] 154 (0, 0)) := by rw [← hw8]; exact setRow_heap _ _ _ _ _ _ hway7
     have hoth : ∀ k, k ≠ w.heap.size + 1 → w8.heap[k]? = w7.heap[k]? := fun k hk => by rw [← hw8]; exact setRow_other _ _ _ _ hk
     have hb57 : Below w5.heap.size w5 w7 := hb6.trans (hb7.mono hs6)
     have hlow : Below w.heap.size w7 w8 := by rw [← hw8]; exact below_setRow (Below.refl _ _) (by omega) _
     have hrow7 := hrow5.stp (stp_grown (Pt.Stp.refl (FX F3 x) w5) hb57)
     have hrow8 := hrow7.keptIf (w' := w8) (fun k hk => hoth k (fun e => hrow7.ne hway7 (by decide) (e ▸ hk)))
     have hF3b : ∀ k, F3 k → k ≠ w.heap.size + 1 := fun k hk => (hF3n k hk).elim (fun h9 e => hFa k (by omega) h9) (fun h9 => by omega)
     rw [hw8]
     go_roundw
     case rel =>
      refine ⟨_, _, _, _, _, _, _, _, _, _, _, _, _, _, _, _, _, _, _, _, _, _, _, _, _, _, _, _, _, _, _, _, _, _, _, _, _, _, _, _, ?_, rfl⟩
      refine ⟨kid s1 p, ps2, q', F3, putS I2 val1 s1 b, H2, updV val1 s1 b, l3, c2', zs1 ++ zs3, ?_⟩
      have hzl2 : zs1.length + 2 * (ps2.length + 1) ≤ 2 * ps.length := hzl
      have hlc2 : l1 + 3 * (ps2.length + 1) ≤ l + 3 * ps.length := hlc
      have hcc2 : c1 + 8 * (ps2.length + 1) ≤ c + 8 * ps.length := hcc
      refine ⟨(hv5.later hb57).else hlow.size (fun k hk => hoth k (hF3b k hk)), hinw3, (hoth x (by omega)).trans ((hb57.block x (by omega)).trans hdx5), hxF3, hrow8, hkn5, by rw [List.length_append]; omega, fun _ => by rw [k1, updV_same]; exact hb0, ?_, a3, HE.out, hkeep, hq'.keptIf (fun k hk => hoth k (by have := (HQ.out.1 k (hplq k (hqb k hk))).2.1; omega)), fun k hk => hplq k (hqb k hk), ?_, ?_, by omega, by omega, hino5, stp_low (stp_grown hst5 hb57) hlow, hF3n⟩
      ·rw [updV_ne _ _ hk6.2.2]
       exact hdead s1 p a1 a2 hzero
      ·exact (hoth _ (by omega)).trans ((hb57.block _ (by omega)).trans hgeo5)
      ·rw [esv]; exact hrn
     case measure =>
      rw [hpl]
      unfold plcN
      rw [cell_of_row _ _ 1 _ _ _ hrn]
      exact Nat.lt_succ_self _
end
end Go.Proofs.YthdlpeejmmobmaaGreat
