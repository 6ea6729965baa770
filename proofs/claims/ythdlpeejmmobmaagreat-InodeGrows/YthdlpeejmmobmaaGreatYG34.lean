/- I0 I1 I2 I3 KFan KDFan I4 I5 I6 IU J0 -/
import Derived.Test.YthdlpeejmmobmaaGreatYG29
import Derived.Test.YthdlpeejmmobmaaGreatYG23
import Derived.Test.YthdlpeejmmobmaaGreatYG18

namespace Go.Proofs.YthdlpeejmmobmaaGreat
open Go.RowKit Go.Maps
set_option linter.unusedVariables false
set_option maxRecDepth 100000
set_option maxHeartbeats 2000000 in
theorem irefusal_fit {w : World} {v : Nat} {k G B I N : Int} (h : VHas w v k) (hk : ¬ k = 0) (hm : Mk.Gm.May G B I) (hN : G * B = N) (hlt : ¬ k < N) : Calls Tryz.prog 88 #[.pointer (some ⟨v, 0, none⟩), Mk.geomV G B I] w fun e w' => e = .returned (.int .i64 0) ∧ Below w.heap.size w w' := by
 have hb1 : Below w.heap.size w (w.alloc (Mk.geomO G B I)) := Mk.grew_alloc _ _
 have hg1 : (w.alloc (Mk.geomO G B I)).heap[w.heap.size]? = some (Mk.geomO G B I) := at_new rfl
 obtain ⟨W1, hW1⟩ : ∃ W1, w.alloc (Mk.geomO G B I) = W1 := ⟨_, rfl⟩
 rw [hW1] at hb1 hg1
 have hv1 := h.kept hb1
 have c1 := hv1.blocks
 have hkb : (k == 0) = false := by rw [beq_eq_false_iff_ne]; exact hk
 have hd : Below W1.heap.size W1 W1.drew := (Below.refl _ _).drew
 have hv2 := hv1.kept hd
 have g2 := (g3_of hg1).kept hd
 have q0 := g2.c0
 have q1 := g2.c1
 have q2 := g2.c2
 have hca := Mk.can_ok G B I W1.drew
 rw [Mk.Gm.can, if_pos hm] at hca
 have HB : Hid (Below w.heap.size w W1.drew) := hb1.drew
 have HN : Hid (G * B = N) := hN
 have HM : Hid (Mk.Gm.May G B I) := hm
 clear hm hN hb1 hd
 go_enter Tryz.func88, Tryz.ntmps88
 go_wp2_with (first | (go_at_call 13; refine same_at c1 ?_))
 go_region_with (first
  | (go_at_call 48; refine Mk.grew_at hca ?_; intro w2 hb2; have hv3 := hv2.kept hb2; have g3 := g2.kept hb2; have q0' := g3.c0; have q1' := g3.c1; have q2' := g3.c2; have hb3 := Mk.blocks_ok G B I w2; rw [Mk.Gm.num, if_pos HM.out, HN.out] at hb3; have cb := hv3.blocks)
  | (go_at_call 13; first | refine same_at cb ?_ | refine same_at cb' ?_)
  | (go_at_call 49; refine Mk.grew_at hb3 ?_; intro w4 hb4; have cb' := (hv3.kept hb4).blocks))
 all_goals go_wp2_with fail
 all_goals go_ret
 all_goals exact ⟨rfl, Mk.grew_trans (Mk.grew_trans HB.out hb2) hb4⟩
section
variable [Inhabited Past] {w w' : World} {v : Nat} {F : Nat → Prop} {N : Nat} {I : Nat → List Int} {l c G B Q : Nat}
theorem irefusal_ok (h : Vol w v F N I l c) (hg : Geo G B Q N) : Calls Tryz.prog 88 #[.pointer (some ⟨v, 0, none⟩), Mk.geomV G B Q] w fun e w' => e = .returned (.int .i64 0) ∧ Below w.heap.size w w' := by
 have hN := h.N1
 exact irefusal_fit h.has (by omega) hg.may (N := (N : Int)) (by have := hg.N; rw [← this]; simp) (by omega)
set_option maxHeartbeats 1000000 in
theorem irefusalInode_ok (h : Vol w v F N I l c) (hg : Geo G B Q N) {n : Nat} (hn : n < G * Q) (m : Nat) (hm : m ≤ n) : Calls Tryz.prog 75 #[.pointer (some ⟨v, 0, none⟩), Mk.geomV G B Q, .int .i64 (n : Int), .int .i64 (m : Int)] w fun e w' => e = .returned (.int .i64 0) ∧ Below w.heap.size w w' := by
 obtain ⟨W, hW⟩ : ∃ W, w.alloc (Mk.geomO G B Q) = W := ⟨_, rfl⟩
 have hb : Below w.heap.size w W := by rw [← hW]; exact Mk.grew_alloc _ _
 have hx : W.heap[w.heap.size]? = some (Mk.geomO G B Q) := by rw [← hW]; exact at_new rfl
 have c0 := (g3_of hx).c0
 have c1 := (g3_of hx).c1
 have c2 := (g3_of hx).c2
 have hr := irefusal_ok (h.later hb) hg
 have hino := fun w => Mk.inodes_ok G B Q w
 rw [Mk.Gm.num_pos hg.may] at hino
 have e2 : (G : Int) * (Q : Int) = ((G * Q : Nat) : Int) := by push_cast; rfl
 rw [e2] at hino
 obtain ⟨K, hK⟩ : ∃ K, G * Q = K := ⟨_, rfl⟩
 rw [hK] at hino hn
 have hn1 : ¬ (n : Int) < (m : Int) := by omega
 have hn2 : ¬ (K : Int) ≤ (n : Int) := by omega
 clear hx hK e2
 go_enter Tryz.func75, Tryz.ntmps75
 go_wp2_with fail
 refine Mk.grew_at hr ?_
 intro w1 hb1
 have c0' := Mk.cell_kept c0 hb1
 have c1' := Mk.cell_kept c1 hb1
 have c2' := Mk.cell_kept c2 hb1
 dsimp only
 go_wp2_with fail
 refine Mk.grew_at (hino _) ?_
 intro w2 hb2
 dsimp only
 go_wp2_with fail
 go_ret
 exact ⟨rfl, hb.trans ((hb1.mono hb.size).trans (hb2.mono (by have := hb.size; have := hb1.size; omega)))⟩
end
end Go.Proofs.YthdlpeejmmobmaaGreat

namespace Go.Proofs.YthdlpeejmmobmaaGreat
open Go.RowKit Go.Maps
set_option linter.unusedVariables false
set_option maxRecDepth 100000
def iP (B Q n : Nat) : Nat := n / Q * B + 2 + n % Q / 4
def iA (Q n : Nat) : Nat := n % Q % 4 * 32
def iB (I : Nat → List Int) (B Q n : Nat) : List Int := ((I (iP B Q n)).drop (iA Q n)).take 32
theorem iP_lt {N G B Q : Nat} (hg : Geo G B Q N) {n : Nat} (hn : n < G * Q) : iP B Q n < N := by
 have hfit := hg.fit
 have h1 : n / Q < G := Nat.div_lt_of_lt_mul (by rw [Nat.mul_comm]; exact hn)
 have h2 : n % Q < Q := Nat.mod_lt _ (by omega)
 have := hg.hd h1 (k := 2 + n % Q / 4) (by omega)
 unfold iP
 omega
theorem ddV_cells (ys : List Int) : ∃ C : Array Value, Mk.ddV 32 ys = .agg C ∧ C.size = 9 ∧ C.all (·.oneCell') = true := by
 unfold Mk.ddV
 split
 ·exact ⟨_, rfl, rfl, by simp [Value.oneCell']⟩
 ·exact ⟨_, rfl, rfl, by simp [Value.oneCell']⟩
section
variable [Inhabited Past] {w w' : World} {v : Nat} {F : Nat → Prop} {N : Nat} {I : Nat → List Int} {l c G B Q : Nat}
set_option maxHeartbeats 4000000 in
theorem iget_ok (h : Vol w v F N I l c) (hg : Geo G B Q N) {n : Nat} (hn : n < G * Q) (hc : c < 4611686018427387904) :
  Calls Tryz.prog 29 #[.pointer (some ⟨v, 0, none⟩), Mk.geomV G B Q, .int .i64 (n : Int)] w fun e w' => e = .returned (.tuple #[Mk.ddV 32 (iB I B Q n), .int .i64 (Mk.ddE 32 (iB I B Q n))]) ∧ ∃ F', Vol w' v F' N I l (c + 1) ∧ Pt.Stp F F' w w' := by
 have hfit := hg.fit
 have hP := iP_lt hg hn
 have hA : iA Q n + 32 ≤ 128 := by unfold iA; omega
 obtain ⟨W, hW⟩ : ∃ W, (w.alloc (Mk.geomO G B Q)).alloc (.cells #[.int .i64 0, .int .i64 0, .int .i64 0, .int .i64 0, .int .i64 0, .int .i64 0, .int .i64 0, .int .i64 0, .int .i64 0] 75) = W := ⟨_, rfl⟩
 have hb : Below w.heap.size w W := by rw [← hW]; exact ((Below.refl _ _).alloc (Nat.le_refl _) _).alloc (by simp) _
 have hx : W.heap[w.heap.size]? = some (Mk.geomO G B Q) := by rw [← hW]; exact at_old (at_new rfl)
 have hd : W.heap[w.heap.size + 1]? = some (.cells #[.int .i64 0, .int .i64 0, .int .i64 0, .int .i64 0, .int .i64 0, .int .i64 0, .int .i64 0, .int .i64 0, .int .i64 0] 75 (0, 0)) := by rw [← hW]; exact at_new (by simp)
 have hsz : W.heap.size = w.heap.size + 2 := by rw [← hW]; simp
 have c0 := (g3_of hx).c0
 have c1 := (g3_of hx).c1
 have c2 := (g3_of hx).c2
 have hlt := h.lt
 have hv := h.later hb
 have hrf := irefusalInode_ok hv hg hn 0 (by omega)
 have hio := fun w => Mk.inode_in (G := (G : Int)) (B := B) (I := Q) (n := (n : Int)) ⟨hg.may, by omega, by exact_mod_cast hn⟩ w
 have e1 : (n : Int) / (Q : Int) * (B : Int) + 2 + (n : Int) % (Q : Int) / 4 = ((iP B Q n : Nat) : Int) := by unfold iP; push_cast; rfl
 have e2 : (n : Int) % (Q : Int) % 4 * 32 = ((iA Q n : Nat) : Int) := by unfold iA; push_cast; rfl
 rw [e1, e2] at hio
 obtain ⟨P, hPe⟩ : ∃ P, iP B Q n = P := ⟨_, rfl⟩
 obtain ⟨A, hAe⟩ : ∃ A, iA Q n = A := ⟨_, rfl⟩
 have HI : Hid (iB I B Q n = ((I P).drop A).take 32) := by show _ = _; unfold iB; rw [hPe, hAe]
 rw [hPe] at hP hio
 rw [hAe] at hA hio
 have HV : Hid (Vol W v F N I l c ∧ Below w.heap.size w W ∧ (∀ k, F k → k < w.heap.size)) := ⟨hv, hb, hlt⟩
 clear hv h hlt hb e1 e2 hPe hAe
 go_enter Tryz.func29, Tryz.ntmps29
 go_wp2_with (first
  | (go_at_call 75; refine Mk.grew_at hrf ?_; intro w1 hb1; have hx1 := (hb1.block _ (Array.getElem?_eq_some_iff.1 hx).1).trans hx; have hd1 := (hb1.block _ (Array.getElem?_eq_some_iff.1 hd).1).trans hd; have c0 := (g3_of hx1).c0; have c1 := (g3_of hx1).c1; have c2 := (g3_of hx1).c2)
  | (go_at_call 76; refine Mk.grew_at (hio _) ?_; intro w2 hb2; have hd2 := (hb2.block _ (Array.getElem?_eq_some_iff.1 hd1).1).trans hd1))
 have hb3 : Below W.heap.size W w2 := hb1.trans (hb2.mono hb1.size)
 have hrd := vol_read (HV.out.1.later hb3) P hP hc
 refine Calls.mono hrd ?_
 rintro e w3 ⟨q, cap, F2, rfl, hO, hq, hv3, hst3⟩
 have hsz3 : w.heap.size + 2 ≤ w2.heap.size := by have := hb3.size; omega
 have hd3 : w3.heap[w.heap.size + 1]? = _ := (hst3.fr.block _ (by omega) (fun hf => by have := HV.out.2.2 _ hf; omega)).trans hd2
 have hbq := hO.bi (by omega) (HV.out.1.sect P).2
 obtain ⟨hcap, hcap2⟩ : 128 ≤ cap ∧ cap ≤ 9223372036854775807 := by
  rcases hO.2 with ⟨h9, _⟩ | ⟨g9, cap9, cur9, h9, _, _, h10, h11, _⟩
  ·cases h9
  ·cases h9; exact ⟨h10, h11⟩
 have hA4 : ¬ (A : Int) < 0 := by omega
 dsimp only
 go_wp2_with fail
 have hbA : Mk.BI w3 (some ⟨q, A, none⟩) 32 (((I P).drop A).take 32) := by
  have h1 := (bi_mk hbq).drop A (by omega)
  rw [Nat.zero_add] at h1
  exact ⟨by rw [List.length_take, h1.len]; omega, by omega, byt_take h1.byt _, fun _ => ⟨q, A, rfl, fun i hi => by
   obtain ⟨b9, o9, e9, hc9⟩ := h1.cells (by omega)
   cases e9
   rw [getD_take _ _ _ hi]
   exact hc9 i (by omega)⟩⟩
 obtain ⟨ys, hys⟩ : ∃ ys, ((I P).drop A).take 32 = ys := ⟨_, rfl⟩
 rw [hys] at hbA
 have hdd := Mk.decodeDinode_ok _ 32 (cap - A) ys w3 hbA (by omega)
 refine Calls.mono hdd ?_
 rintro e w4 ⟨rfl, hb4⟩
 have hd4 := (hb4.block _ (Array.getElem?_eq_some_iff.1 hd3).1).trans hd3
 obtain ⟨C, hC, hC9, hC1⟩ := ddV_cells ys
 rw [hC]
 have hi75 : (Tryz.prog.info? 75).map (·.size) = some C.size := by rw [hC9]; kernel_rfl
 have hs9 : (#[.int .i64 0, .int .i64 0, .int .i64 0, .int .i64 0, .int .i64 0, .int .i64 0, .int .i64 0, .int .i64 0, .int .i64 0] : Array Value).size = C.size := hC9.symm
 dsimp only
 go_wp2_with (first
  | (refine wpList_store_row rfl 75 _ _ rfl (w.heap.size + 1) C rfl rfl 75 _ hd4 hi75 hs9 hC1 ?_))
 refine bodyPost_ret (v := .tuple #[.agg C, .int .i64 (Mk.ddE 32 ys)]) (Mk.results_cell_tmp_row (p := 6) (u := 7) (ty := 75) Tryz.results29 _ _ (w.heap.size + 1) 75 _ (0, 0) _ rfl (setRow_heap _ _ _ _ _ _ hd4) Tryz.underlying75 rfl hi75) rfl ?_
 have hlow : Below w.heap.size w4 (w4.setRow (w.heap.size + 1) C) := below_setRow (Below.refl _ _) (by omega) _
 obtain ⟨hvW, hbW, hltF⟩ := HV.out
 have hst4 : Pt.Stp F F2 w w4 := stp_grown (stp_after (hbW.trans (hb3.mono hbW.size)) hst3) hb4
 have hq2 : ∀ k, F2 k → k ≠ w.heap.size + 1 := fun k hk e => (hst3.new k hk).elim (fun h9 => by have := hltF k h9; omega) (fun h9 => by have : w2.heap.size ≤ k := h9; omega)
 exact ⟨by rw [HI.out, hys, hC], F2, (hv3.later hb4).else hlow.size (fun k hk => setRow_other _ _ _ _ (hq2 k hk)), stp_low hst4 hlow⟩
end
end Go.Proofs.YthdlpeejmmobmaaGreat

namespace Go.Proofs.YthdlpeejmmobmaaGreat
open Go.RowKit Go.Maps
set_option linter.unusedVariables false
set_option maxRecDepth 100000
section
variable [Inhabited Past] {w w' : World} {v : Nat} {F : Nat → Prop} {N : Nat} {I : Nat → List Int} {l c G B Q : Nat}
set_option maxHeartbeats 4000000 in
theorem iput_ok (h : Vol w v F N I l c) (hg : Geo G B Q N) {n : Nat} (hn : n < G * Q) (hl1 : l + 1 ≤ 10000) (m s1 s2 a1 a2 a3 a4 i1 i2 : Int) (hd : Mk.DMay m s1 s2 a1 a2 a3 a4 i1 i2)
  (q : Option Addr) (mm d : Nat) (zs : List Int) (hz : Pt.II w q mm zs) (hqv : ∀ k, Pt.blkOf q = some k → k ≠ v) (hk : zs.all (Pt.kn l) = true) (hm : mm ≤ 100000) :
  Calls Tryz.prog 32 #[.pointer (some ⟨v, 0, none⟩), Mk.geomV G B Q, .int .i64 (n : Int), Mk.dinV m s1 s2 a1 a2 a3 a4 i1 i2, .slice q mm d] w fun e w' => e = .returned (.tuple #[.int .i64 ((l + 1 : Nat) : Int), .int .i64 0]) ∧ ∃ F', Vol w' v F' N (updI I (iP B Q n) (iA Q n) (Mk.dinB m s1 s2 a1 a2 a3 a4 i1 i2)) (l + 1) c ∧ Pt.Stp F F' w w' := by
 have hfit := hg.fit
 have hP := iP_lt hg hn
 have hA : iA Q n + 32 ≤ 128 := by unfold iA; omega
 obtain ⟨W, hW⟩ : ∃ W, (w.alloc (Mk.geomO G B Q)).alloc (.cells #[.int .i64 m, .int .i64 s1, .int .i64 s2, .int .i64 a1, .int .i64 a2, .int .i64 a3, .int .i64 a4, .int .i64 i1, .int .i64 i2] 75) = W := ⟨_, rfl⟩
 have hb : Below w.heap.size w W := by rw [← hW]; exact ((Below.refl _ _).alloc (Nat.le_refl _) _).alloc (by simp) _
 have hx : W.heap[w.heap.size]? = some (Mk.geomO G B Q) := by rw [← hW]; exact at_old (at_new rfl)
 have hd0 : W.heap[w.heap.size + 1]? = some (.cells #[.int .i64 m, .int .i64 s1, .int .i64 s2, .int .i64 a1, .int .i64 a2, .int .i64 a3, .int .i64 a4, .int .i64 i1, .int .i64 i2] 75 (0, 0)) := by rw [← hW]; exact at_new (by simp)
 have hsz : W.heap.size = w.heap.size + 2 := by rw [← hW]; simp
 have hi75 : (Tryz.prog.info? 75).map (·.size) = some (#[.int .i64 m, .int .i64 s1, .int .i64 s2, .int .i64 a1, .int .i64 a2, .int .i64 a3, .int .i64 a4, .int .i64 i1, .int .i64 i2] : Array Value).size := by kernel_rfl
 have c0 := (g3_of hx).c0
 have c1 := (g3_of hx).c1
 have c2 := (g3_of hx).c2
 have hlt := h.lt
 have hv := h.later hb
 have hzW := hz.kept hb
 have hrf := irefusalInode_ok hv hg hn 0 (by omega)
 have hio := fun w => Mk.inode_in (G := (G : Int)) (B := B) (I := Q) (n := (n : Int)) ⟨hg.may, by omega, by exact_mod_cast hn⟩ w
 have e1 : (n : Int) / (Q : Int) * (B : Int) + 2 + (n : Int) % (Q : Int) / 4 = ((iP B Q n : Nat) : Int) := by unfold iP; push_cast; rfl
 have e2 : (n : Int) % (Q : Int) % 4 * 32 = ((iA Q n : Nat) : Int) := by unfold iA; push_cast; rfl
 rw [e1, e2] at hio
 obtain ⟨P, hPe⟩ : ∃ P, iP B Q n = P := ⟨_, rfl⟩
 obtain ⟨A, hAe⟩ : ∃ A, iA Q n = A := ⟨_, rfl⟩
 rw [hPe] at hP hio ⊢
 rw [hAe] at hA hio ⊢
 have hen := fun w => Mk.encodeDinode_yes m s1 s2 a1 a2 a3 a4 i1 i2 hd w
 have HV : Hid (Vol W v F N I l c ∧ Below w.heap.size w W ∧ (∀ k, F k → k < w.heap.size) ∧ Pt.II W q mm zs) := ⟨hv, hb, hlt, hzW⟩
 clear hv h hlt hb e1 e2 hPe hAe hz hzW
 go_enter Tryz.func32, Tryz.ntmps32
 go_wp2_with (first
  | (go_at_call 75; refine Mk.grew_at hrf ?_; intro w1 hb1; have hx1 := (hb1.block _ (Array.getElem?_eq_some_iff.1 hx).1).trans hx; have c0 := (g3_of hx1).c0; have c1 := (g3_of hx1).c1; have c2 := (g3_of hx1).c2; have hd1 := (hb1.block _ (Array.getElem?_eq_some_iff.1 hd0).1).trans hd0)
  | (refine wpList_load_row rfl 75 _ rfl (w.heap.size + 1) rfl 75 _ (0, 0) _ hd1 Tryz.underlying75 rfl hi75 ?_))
 refine Calls.mono (hen _) ?_
 rintro e w2 ⟨g, cap, rfl, hO, hb2⟩
 have hx2 := (hb2.block _ (Array.getElem?_eq_some_iff.1 hx1).1).trans hx1
 have c0 := (g3_of hx2).c0
 have c1 := (g3_of hx2).c1
 have c2 := (g3_of hx2).c2
 dsimp only
 go_wp2_with fail
 refine Mk.grew_at (hio _) ?_
 intro w3 hb3
 dsimp only
 go_wp2_with fail
 have hbW3 : Below W.heap.size W w3 := hb1.trans ((hb2.mono hb1.size).trans (hb3.mono (by have := hb1.size; have := hb2.size; omega)))
 have hO3 := hO.kept hb3
 have hby : Mk.Num.Byt (Mk.dinB m s1 s2 a1 a2 a3 a4 i1 i2) := Mk.dinB_byt m s1 s2 a1 a2 a3 a4 i1 i2
 have hbi := mk_bi (hO3.bi (by omega) hby)
 have hgl := hO.base_le
 have hch := vol_change (HV.out.1.later hbW3) hl1 P A hP (some ⟨g, 0, none⟩) 32 cap _ hbi (fun k hk e => by
  simp [Pt.blkOf] at hk
  have h1 := HV.out.2.2.1 v HV.out.1.mem
  have h2 := hb1.size
  omega) (by omega) hA q mm d zs (HV.out.2.2.2.kept hbW3) hqv hk hm
 refine Calls.mono hch ?_
 rintro e w4 ⟨rfl, F4, hv4, hst4⟩
 dsimp only
 go_wp2_with fail
 go_ret2
 exact ⟨rfl, F4, hv4, stp_after (HV.out.2.1.trans (hbW3.mono (by omega))) hst4⟩
end
end Go.Proofs.YthdlpeejmmobmaaGreat

namespace Go.Proofs.YthdlpeejmmobmaaGreat
open Go.RowKit Go.Maps
set_option linter.unusedVariables false
set_option maxRecDepth 100000
theorem mayHave_ok (i : Nat) (h : i < 4164) (w : World) : Calls Tryz.prog 78 #[.int .i64 (i : Int)] w fun e w' => e = .returned (.bool true) ∧ w' = w := by
 have h1 : (0 : Int) ≤ (i : Int) := by omega
 have h2 : (i : Int) < 4164 := by omega
 go_enter Tryz.func78, Tryz.ntmps78
 go_wp2_with fail
 go_ret
 exact ⟨rfl, rfl⟩
end Go.Proofs.YthdlpeejmmobmaaGreat

namespace Go.Proofs.YthdlpeejmmobmaaGreat.Mk
open Go.RowKit
set_option maxRecDepth 100000
set_option linter.unusedVariables false
def fanL (zs : List Int) : List Int := putsTo (zers 128) 0 2 zs 64
theorem fanL_len (zs : List Int) : (fanL zs).length = 128 := by unfold fanL; rw [putsTo_len, zers_len]
theorem ads_at {zs : List Int} (h : Ads zs) (j : Nat) : 0 ≤ zs.getD j 0 ∧ zs.getD j 0 ≤ 2047 := by
 rw [List.getD_eq_getElem?_getD]
 cases e : zs[j]? with
 | none => simp
 | some z => simpa using h z (List.mem_of_getElem? e)
end Go.Proofs.YthdlpeejmmobmaaGreat.Mk

namespace Go.Proofs.YthdlpeejmmobmaaGreat.Mk
open Go.RowKit
set_option maxRecDepth 100000
set_option linter.unusedVariables false
def fanZ (xs : List Int) : List Int := (List.range 64).map (fun j => Num.numD xs (2 * j) 2)
theorem fanZ_len (xs : List Int) : (fanZ xs).length = 64 := by simp [fanZ]
theorem fanZ_at (xs : List Int) (i : Nat) (h : i < 64) : (fanZ xs)[i]? = some (Num.numD xs (2 * i) 2) := by simp [fanZ, List.getElem?_range h]
theorem fill_at (cs : Array Value) (o : Nat) (f : Nat → Int) : ∀ (n i : Nat), i < n → o + n ≤ cs.size → (fill cs o f n)[o + i]? = some (.int .i64 (f i))
 | n + 1, i, hi, hs => by
  rw [fill]
  by_cases e : i = n
  ·subst e
   rw [Array.getElem?_setIfInBounds_self_of_lt (by rw [fill_size]; omega)]
  ·rw [Array.getElem?_setIfInBounds_ne (by omega)]
   exact fill_at cs o f n i (by omega) (by omega)
def znum (N : Nat) : List Value := List.replicate N (Value.int .i64 0)
theorem znum_at (N i : Nat) (h : i < N) : (znum N).toArray[i]? = some (Value.int .i64 0) := by simp [znum, h]
theorem znum_no (N : Nat) (x : Int) (i : Nat) : (znum N).toArray[i]? ≠ some (Value.int .u8 x) := by
 by_cases h : i < N
 ·rw [znum_at N i h]; simp
 ·simp [znum, h]
theorem znum_size (N : Nat) : (znum N).toArray.size = N := by simp [znum]
theorem made_nums (N : Nat) : (madeCells (Value.int .i64 0).cells (N * 1)).toList = znum N := by
 unfold znum
 rw [Nat.mul_one]
 apply List.ext_getElem
 ·simp [madeCells]
 ·intro i h1 h2
  simp [madeCells, Value.cells, Nat.mod_one]
def FanRead (xs : List Int) (w : World) (e : Ending) (w' : World) : Prop :=
 (Ads (fanZ xs) ∧ ∃ q d, e = .returned (.tuple #[.slice q 64 d, .int .i64 0]) ∧ II w' q 64 (fanZ xs) ∧ Below w.heap.size w w') ∨ (¬ Ads (fanZ xs) ∧ e = .returned (.tuple #[.slice none 0 0, .int .i64 6]) ∧ Below w.heap.size w w')
theorem own_row3 {w : World} {B g n : Nat} {L : List Value} (h : w.ownsRow B 3 1 (.slice (some ⟨g, 0, none⟩) n n) n L) : w.heap[g]? = some (.cells L.toArray 3 (0, 0)) := by
 rcases h.2 with ⟨h', _⟩ | ⟨g', cap', cur, h', _, hg, _, _, hcs, ht⟩
 ·simp at h'
 ·simp only [Value.slice.injEq, Option.some.injEq, Addr.mk.injEq, and_true, true_and] at h'
  obtain ⟨rfl, rfl⟩ := h'
  rw [List.take_of_length_le (by simp; omega)] at ht
  subst ht
  simpa using hg
theorem filled {p : Option Addr} (w w1 : World) (xs : List Int) (h : BI w1 p 128 xs) (c : Nat) (hown : w1.heap[w.heap.size]? = some (.cells (znum 64).toArray 3 (0, 0))) (hb : Below w.heap.size w w1) :
  Calls Tryz.prog 226 #[.slice p 128 c] w1 fun e w2 => ∃ rb, e = .returned (.pointer (some ⟨rb, 0, none⟩)) ∧ Calls Tryz.prog 235 #[.pointer (some ⟨rb, 0, none⟩), .int .i64 2, .slice (some ⟨w.heap.size, 0, none⟩) 64 64] w2 fun e w3 => e = .returned (.tuple #[]) ∧ II w3 (some ⟨w.heap.size, 0, none⟩) 64 (fanZ xs) ∧ Below w.heap.size w w3 := by
 have hlt : w.heap.size < w1.heap.size := (Array.getElem?_eq_some_iff.1 hown).1
 refine (over_ok w1 p 128 c xs h).mono ?_
 rintro e w2 ⟨rb, rfl, hlo, hr, hb2⟩
 refine ⟨rb, rfl, ?_⟩
 have hc2 : w2.heap[w.heap.size]? = some (.cells (znum 64).toArray 3 (0, 0)) := (hb2.block _ hlt).trans hown
 refine (takeAll_ok w2 rb w.heap.size 0 64 2 128 64 xs _ 3 hr hc2 ?_ (by omega) (by omega) (by omega) (by omega) (by omega) ?_).mono ?_
 ·exact fun x j => znum_no 64 x j
 ·intro j hj
  exact ⟨0, by rw [Nat.zero_add]; exact znum_at 64 j hj⟩
 ·rintro e w3 ⟨rfl, h3, _, h2⟩
  refine ⟨rfl, ⟨fanZ_len xs, by omega, fun _ => ⟨_, _, rfl, fun i hi => ?_⟩⟩, ?_⟩
  ·have := fill_at (znum 64).toArray 0 (fun j => Num.numD xs (2 * j) 2) 64 i hi (by rw [znum_size]; omega)
   rw [Nat.zero_add] at this ⊢
   rw [cell_row h3 i _ this, List.getD_eq_getElem?_getD, fanZ_at xs i hi]
   rfl
  ·have hbb := h2.below (B := w.heap.size) (by omega) (Nat.le_refl _) (Nat.le_trans hb.size hb2.size)
   exact (hb.trans (hb2.mono hb.size)).trans hbb
set_option maxRecDepth 10000 in
set_option maxHeartbeats 400000 in
theorem decodeFan_ok (p : Option Addr) (c : Nat) (xs : List Int) (w : World) (h : BI w p 128 xs) :
  Calls Tryz.prog 243 #[.slice p 128 c] w (FanRead xs w) := by
 obtain ⟨i0, hi, hz0, hz1, hz2⟩ := info_parts info3
 go_enter Tryz.func243, Tryz.ntmps243
 go_wp2_with (first
  | (at_make; (refine wpList_make_full _ rfl _ _ 49 rfl w.heap.size 3 i0 (.int .i64 0) 1 Tryz.underlying49 hi hz0 hz1 .i64 .i64 _ _ 64 rfl rfl rfl rfl (by rw [hz2]; omega) (by unfold maxLen; omega) (Nat.le_refl _) ?_; intro w1 hown1 hgrow1; have hb1 := (Below.refl _ w).grown hgrow1 (Nat.le_refl _) (by intro k hk; cases hk); have hrow := own_row3 hown1; rw [made_nums 64] at hrow; have hf := filled w w1 xs (h.kept hb1) c hrow hb1; clear hown1 hgrow1 hrow))
  | (go_at_call 226; refine Calls.mono hf ?_; rintro e w2 ⟨rb, rfl, hf2⟩)
  | (go_at_call 235; refine Calls.mono hf2 ?_; rintro e w3 ⟨rfl, hii, hb3⟩; have ha := areAd_ok _ 64 64 _ w3 hii))
 by_cases hA : Ads (fanZ xs)
 ·rw [decide_eq_true hA] at ha
  refine same_at ha ?_
  go_wp2_with fail
  go_ret2
  exact Or.inl ⟨hA, _, _, rfl, hii, hb3⟩
 ·rw [decide_eq_false hA] at ha
  refine same_at ha ?_
  go_wp2_with fail
  go_ret2
  exact Or.inr ⟨hA, rfl, hb3⟩
end Go.Proofs.YthdlpeejmmobmaaGreat.Mk

namespace Go.Proofs.YthdlpeejmmobmaaGreat
open Go.RowKit Go.Maps
set_option linter.unusedVariables false
set_option maxRecDepth 100000
section
variable [Inhabited Past] {w w' : World} {v : Nat} {F : Nat → Prop} {N : Nat} {I : Nat → List Int} {l c G B Q : Nat}
set_option maxHeartbeats 2000000 in
theorem readFan_ok (h : Vol w v F N I l c) (b : Nat) (hb : b < N) (hc : c < 4611686018427387904) :
  Calls Tryz.prog 161 #[.pointer (some ⟨v, 0, none⟩), .int .i64 (b : Int)] w fun e w' => ∃ F', Vol w' v F' N I l (c + 1) ∧ Pt.Stp F F' w w' ∧
   ((Mk.Ads (Mk.fanZ (I b)) ∧ ∃ q d, e = .returned (.tuple #[.slice q 64 d, .int .i64 0]) ∧ Mk.II w' q 64 (Mk.fanZ (I b))) ∨ (¬ Mk.Ads (Mk.fanZ (I b)) ∧ e = .returned (.tuple #[.slice none 0 0, .int .i64 6]))) := by
 have hrd := vol_read h b hb hc
 have hsec := (h.sect b).2
 clear h
 go_enter Tryz.func161, Tryz.ntmps161
 go_wp2_with fail
 refine Calls.mono hrd ?_
 rintro e w1 ⟨q, cap, F2, rfl, hO, hq, hv1, hst1⟩
 dsimp only
 go_wp2_with fail
 refine Calls.mono (Mk.decodeFan_ok _ cap _ w1 (bi_mk (hO.bi (by omega) hsec))) ?_
 intro e w2 hf
 rcases hf with ⟨hA, q2, d2, rfl, hII, hb2⟩ | ⟨hA, rfl, hb2⟩
 ·dsimp only
  go_wp2_with fail
  go_ret2
  exact ⟨F2, hv1.later hb2, stp_grown hst1 hb2, .inl ⟨hA, q2, d2, rfl, hII⟩⟩
 ·dsimp only
  go_wp2_with fail
  go_ret2
  exact ⟨F2, hv1.later hb2, stp_grown hst1 hb2, .inr ⟨hA, rfl⟩⟩
end
end Go.Proofs.YthdlpeejmmobmaaGreat

namespace Go.Proofs.YthdlpeejmmobmaaGreat
open Go.RowKit Go.Maps
set_option linter.unusedVariables false
set_option maxRecDepth 100000
theorem fieldAddr_ok (x o : Nat) (a : Int) (u : Value) (w : World) (h : w.cell? ⟨x, o, none⟩ = some (.int .i64 a)) : Calls Tryz.prog 336 #[.agg #[.pointer (some ⟨x, o, none⟩)], u] w fun e w' => e = .returned (.tuple #[.int .i64 a, .int .i64 0]) ∧ Below w.heap.size w w' := by
 have hb := Mk.grew_alloc w (.cells #[.pointer (some ⟨x, o, none⟩)] 239)
 have h2 := Mk.cell_kept h hb
 go_enter Tryz.func336, Tryz.ntmps336
 go_wp2_with fail
 go_ret2
 exact ⟨rfl, hb⟩
section
variable [Inhabited Past] {w w' : World} {v : Nat} {F : Nat → Prop} {N : Nat} {I : Nat → List Int} {l c G B Q : Nat}
set_option maxHeartbeats 2000000 in
theorem leafAddr_ok (h : Vol w v F N I l c) (b k : Nat) (hb : b < N) (hk : k < 64) (hA : Mk.Ads (Mk.fanZ (I b))) (hc : c < 4611686018427387904) :
  Calls Tryz.prog 341 #[.agg #[.int .i64 (b : Int), .int .i64 (k : Int)], .pointer (some ⟨v, 0, none⟩)] w fun e w' => e = .returned (.tuple #[.int .i64 ((Mk.fanZ (I b)).getD k 0), .int .i64 0]) ∧ ∃ F', Vol w' v F' N I l (c + 1) ∧ Pt.Stp F F' w w' := by
 obtain ⟨W, hW⟩ : ∃ W, w.alloc (.cells #[.int .i64 (b : Int), .int .i64 (k : Int)] 346) = W := ⟨_, rfl⟩
 have hbW : Below w.heap.size w W := by rw [← hW]; exact Mk.grew_alloc _ _
 have hr : W.heap[w.heap.size]? = some (.cells #[.int .i64 (b : Int), .int .i64 (k : Int)] 346 (0, 0)) := by rw [← hW]; exact at_new rfl
 have c0 := cell_of_row _ _ 0 _ _ _ hr
 have c1 := cell_of_row _ _ 1 _ _ _ hr
 have hrd := readFan_ok (h.later hbW) b hb hc
 have hlt := h.lt
 clear h
 go_enter Tryz.func341, Tryz.ntmps341
 go_wp2_with fail
 refine Calls.mono hrd ?_
 rintro e w1 ⟨F2, hv1, hst1, ⟨_, q, d, rfl, hII⟩ | ⟨hn, rfl⟩⟩
 ·have hr1 := (hst1.fr.block _ (Array.getElem?_eq_some_iff.1 hr).1 (fun hf => by have := hlt _ hf; omega)).trans hr
  have c0' := cell_of_row _ _ 0 _ _ _ hr1
  have c1' := cell_of_row _ _ 1 _ _ _ hr1
  obtain ⟨qb, qo, rfl, hcl⟩ := hII.cells (by omega)
  have hck := hcl k hk
  have hkI : (k : Int) < 64 := by omega
  dsimp only
  go_wp2_with fail
  go_ret2
  exact ⟨rfl, F2, hv1, stp_after hbW hst1⟩
 ·exact absurd hA hn
end
end Go.Proofs.YthdlpeejmmobmaaGreat

namespace Go.Proofs.YthdlpeejmmobmaaGreat
open Go.RowKit Go.Maps
set_option linter.unusedVariables false
set_option maxRecDepth 100000
theorem isLast_ok (x : Value) (hx : x.oneCell' = true) (q : Option Addr) (n d : Nat) (w : World) : Calls Tryz.prog 148 #[.agg #[x, .slice q n d]] w fun e w' => e = .returned (.bool (decide (n = 0))) ∧ Below w.heap.size w w' := by
 have hb := Mk.grew_alloc w (.cells #[x, .slice q n d] 154)
 have c1 : (w.alloc (.cells #[x, .slice q n d] 154)).cell? ⟨w.heap.size, 1, none⟩ = some (.slice q n d) := cell_of_row _ _ 1 _ _ _ (at_new rfl)
 go_enter Tryz.func148, Tryz.ntmps148
 go_wp2_with fail
 have e : ((n : Int) == 0) = decide (n = 0) := by
  by_cases h : n = 0
  ·subst h; rfl
  ·rw [decide_eq_false h, beq_eq_false_iff_ne]; omega
 rw [e]
 go_ret
 exact ⟨rfl, hb⟩
end Go.Proofs.YthdlpeejmmobmaaGreat

namespace Go.Proofs.YthdlpeejmmobmaaGreat
open Go.RowKit Go.Maps
set_option linter.unusedVariables false
set_option maxRecDepth 100000
structure Full (P : List Pt.Pv) (L : Nat) : Prop where
 srt : P.Pairwise (fun p q => p.id < q.id)
 ids : ∀ p ∈ P, 1 ≤ p.id ∧ p.id ≤ L
 len : P.length = L
theorem Full.ge {P : List Pt.Pv} {L : Nat} (h : Full P L) : ∀ (i : Nat) (hi : i < P.length), i + 1 ≤ P[i].id
 | 0, hi => (h.ids _ (List.getElem_mem hi)).1
 | i + 1, hi => by
  have h1 := h.ge i (by omega)
  have h2 := List.pairwise_iff_getElem.1 h.srt i (i + 1) (by omega) hi (by omega)
  omega
theorem Full.le {P : List Pt.Pv} {L : Nat} (h : Full P L) : ∀ (j i : Nat) (hi : i < P.length), i + j + 1 = L → P[i].id + j ≤ L
 | 0, i, hi, _ => (h.ids _ (List.getElem_mem hi)).2
 | j + 1, i, hi, e => by
  have hl := h.len
  have h1 := h.le j (i + 1) (by omega) (by omega)
  have h2 := List.pairwise_iff_getElem.1 h.srt i (i + 1) (by omega) (by omega) (by omega)
  omega
theorem Full.at_ {P : List Pt.Pv} {L : Nat} (h : Full P L) (i : Nat) (hi : i < P.length) : P[i].id = i + 1 := by
 have h1 := h.ge i hi
 have hl := h.len
 have h2 := h.le (L - 1 - i) i hi (by omega)
 omega
theorem Full.some {P : List Pt.Pv} {L : Nat} (h : Full P L) (k : Int) (h0 : 0 < k) (h1 : k ≤ (L : Int)) : (Pt.fP P k).isSome = true := by
 have hl := h.len
 have hi : (k - 1).toNat < P.length := by omega
 unfold Pt.fP
 rw [List.find?_isSome]
 refine ⟨_, List.getElem_mem hi, ?_⟩
 rw [h.at_ _ hi]
 simp; omega
theorem Full.up {P : List Pt.Pv} {L : Nat} (h : Full P L) (m : Nat) : Pt.upP P m = P.take m := by
 unfold Pt.upP
 rw [← List.take_append_drop m P, List.filter_append, List.filter_eq_self.2, List.filter_eq_nil_iff.2, List.append_nil, List.take_append_drop]
 ·intro p hp
  obtain ⟨i, hi, e⟩ := List.getElem_of_mem hp
  rw [List.getElem_drop] at e
  rw [← e, h.at_]
  simp; omega
 ·intro p hp
  obtain ⟨i, hi, e⟩ := List.getElem_of_mem hp
  rw [List.length_take] at hi
  rw [List.getElem_take] at e
  rw [← e, h.at_]
  simp; omega
theorem full_of {g : Int} {B : Nat} {w : World} {A : At} {T : Vs} (h : VI g B w A T) (hl : T.P.length = T.last) : Full T.P T.last :=
 ⟨h.ps.srt, fun p hp => ⟨(h.ps.ids p hp).1, (h.ps.ids p hp).2.1⟩, hl⟩
def markOf (l : Nat) (I : Nat → List Int) : Past := ⟨some (l, I)⟩
section
variable {w w' : World} {v : Nat} {F : Nat → Prop} {N : Nat} {I J : Nat → List Int} {l m c : Nat}
theorem vol_mark (h : Vol w v F N I l c) : @Vol ⟨markOf l I⟩ w v F N I l c := by
 obtain ⟨B, A, T, hv, e1, e2, e3, hx, hY, e4, rfl, hP, e5, _⟩ := h.ex
 refine @Vol.mk ⟨markOf T.last I⟩ _ _ _ _ _ _ _ ⟨B, A, T, hv, e1, e2, e3, hx, hY, e4, rfl, hP, e5, ?_⟩
 intro m J hp
 have hp' : some (T.last, I) = some (m, J) := hp
 cases hp'
 refine ⟨Nat.le_refl _, ?_⟩
 rw [(full_of hv hP).up, List.take_of_length_le (by omega), e4]
theorem vol_plain {U : Inhabited Past} (h : @Vol U w v F N I l c) : @Vol noPast w v F N I l c := by
 obtain ⟨B, A, T, hv, e1, e2, e3, hx, hY, e4, rfl, hP, e5, _⟩ := @Vol.ex U _ _ _ _ _ _ _ h
 exact @Vol.mk noPast _ _ _ _ _ _ _ ⟨B, A, T, hv, e1, e2, e3, hx, hY, e4, rfl, hP, e5, fun m J h => by cases h⟩
theorem vol_undo (h : @Vol ⟨markOf m J⟩ w v F N I l c) :
  Calls Tryz.prog 84 #[.pointer (some ⟨v, 0, none⟩), .int .i64 (m : Int)] w fun e w' => e = .returned (.int .i64 0) ∧ ∃ F', Vol w' v F' N J m c ∧ Pt.Stp F F' w w' := by
 obtain ⟨B, A, T, hv, rfl, rfl, rfl, hx, hY, rfl, rfl, hP, rfl, hM⟩ := @Vol.ex ⟨markOf m J⟩ _ _ _ _ _ _ _ h
 obtain ⟨hm, hJ⟩ := hM m J rfl
 have hf := full_of hv hP
 refine (vUndo_ok hv hY m hm (fun k h1 h2 => hf.some k (by omega) h2)).mono ?_
 rintro e w1 ⟨rfl, K', hv1, hst⟩
 refine ⟨rfl, _, ⟨B, A, _, hv1, rfl, rfl, rfl, hx, hY, hJ.symm, rfl, ?_, rfl, fun m J h => by cases h⟩, hst⟩
 show (Pt.upP T.P m).length = m
 rw [hf.up, List.length_take]
 omega
end
end Go.Proofs.YthdlpeejmmobmaaGreat

namespace Go.Proofs.YthdlpeejmmobmaaGreat
set_option linter.unusedVariables false
def kid (j p : Nat) : Nat := if j = 4 then 6 + p else if j = 5 then 70 + p else 134 + 64 * (j - 70) + p
def inner (j : Nat) : Prop := j = 4 ∨ j = 5 ∨ (70 ≤ j ∧ j < 134)
theorem kid_lt {j p : Nat} (hj : inner j) (hp : p < 64) : 6 ≤ kid j p ∧ kid j p < 4230 ∧ kid j p ≠ j := by
 unfold kid
 rcases hj with rfl | rfl | hj
 ·simp; omega
 ·simp; omega
 ·rw [if_neg (by omega), if_neg (by omega)]; omega
def updV (val : Nat → Nat) (s b : Nat) : Nat → Nat := fun i => if i = s then b else val i
theorem updV_same (val : Nat → Nat) (s b : Nat) : updV val s b s = b := if_pos rfl
theorem updV_ne (val : Nat → Nat) {s i : Nat} (b : Nat) (h : i ≠ s) : updV val s b i = val i := if_neg h
structure Tre (A : Nat → Nat → Int) (val : Nat → Nat) : Prop where
 live : ∀ j, inner j → val j ≠ 0 → ∀ p, p < 64 → A (val j) p = (val (kid j p) : Int)
 dead : ∀ j, inner j → val j = 0 → ∀ p, p < 64 → val (kid j p) = 0
 inj : ∀ i j, i < 4230 → j < 4230 → val i ≠ 0 → val i = val j → i = j
theorem inner_lt {j : Nat} (h : inner j) : j < 4230 := by unfold inner at h; omega
theorem Tre.step {A A' : Nat → Nat → Int} {val : Nat → Nat} (h : Tre A val) {s b : Nat} (hs : s < 4230) (h0 : val s = 0) (hb : b ≠ 0) (hf : ∀ i, i < 4230 → val i ≠ b)
  (hp : ∀ j p, inner j → p < 64 → kid j p = s → val j ≠ 0) (hz : ∀ p, p < 64 → A' b p = 0) (hl : ∀ j p, inner j → p < 64 → kid j p = s → A' (val j) p = (b : Int))
  (he : ∀ j p, inner j → val j ≠ 0 → p < 64 → kid j p ≠ s → A' (val j) p = A (val j) p) : Tre A' (updV val s b) := by
 refine ⟨fun j hj hv p hp6 => ?_, fun j hj hv p hp6 => ?_, fun i j hi hj hv e => ?_⟩
 ·have hk := kid_lt hj hp6
  by_cases hjs : j = s
  ·subst hjs
   rw [updV_same, updV_ne _ _ hk.2.2, hz p hp6, h.dead j hj h0 p hp6]; rfl
  ·rw [updV_ne _ _ hjs] at hv ⊢
   by_cases hks : kid j p = s
   ·rw [hks, updV_same]; exact hl j p hj hp6 hks
   ·rw [updV_ne _ _ hks, he j p hj hv hp6 hks]; exact h.live j hj hv p hp6
 ·by_cases hjs : j = s
  ·subst hjs
   rw [updV_same] at hv; exact absurd hv hb
  ·rw [updV_ne _ _ hjs] at hv
   have hks : kid j p ≠ s := fun e => hp j p hj hp6 e hv
   rw [updV_ne _ _ hks]; exact h.dead j hj hv p hp6
 ·by_cases his : i = s
  ·subst his
   by_cases hjs : j = i
   ·exact hjs.symm
   ·rw [updV_same, updV_ne _ _ hjs] at e
    exact absurd e.symm (hf j hj)
  ·rw [updV_ne _ _ his] at hv e
   by_cases hjs : j = s
   ·subst hjs
    rw [updV_same] at e
    exact absurd e (hf i hi)
   ·rw [updV_ne _ _ hjs] at e
    exact h.inj i j hi hj hv e
def slotOf (n : Nat) : Nat := if n < 4 then n else if n < 68 then n + 2 else n + 66
theorem slotOf_lt {n : Nat} (h : n < 4164) : slotOf n < 4230 := by
 unfold slotOf
 split
 ·omega
 ·split <;> omega
theorem slotOf_inj {n m : Nat} (h : slotOf n = slotOf m) : n = m := by
 unfold slotOf at h
 split at h <;> split at h <;> (try split at h) <;> (try split at h) <;> omega
end Go.Proofs.YthdlpeejmmobmaaGreat
