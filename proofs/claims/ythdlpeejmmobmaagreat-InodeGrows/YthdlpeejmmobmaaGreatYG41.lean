/- J11 -/
import Derived.Test.YthdlpeejmmobmaaGreatYG40
import Derived.Test.YthdlpeejmmobmaaGreatYG01

namespace Go.Proofs.YthdlpeejmmobmaaGreat
open Go.RowKit Go.Maps
set_option linter.unusedVariables false
set_option maxRecDepth 100000
theorem results_tctt {P : Program} {fn : Func} {a p u z : Tmp} {ty : TypeId} (h : fn.results = #[.tmp a, .cell p ty, .tmp u, .tmp z]) (tmps : Array Value) (w : World) (g : Nat) (t : TypeId) (cs : Array Value) (fr : Nat × Nat) (d : TypeDesc)
  (hp : tmps.getD p undef = .pointer (some ⟨g, 0, none⟩)) (hg : w.heap[g]? = some (.cells cs t fr))
  (hu : P.underlying ty = some d) (hd : (match d with | .struct _ | .array _ _ => true | _ => false) = true) (hi : (P.info? ty).map (·.size) = some cs.size) :
  (results fn tmps).run P w = .ok (.tuple #[tmps.getD a undef, .agg cs, tmps.getD u undef, tmps.getD z undef]) w := by
 have e : (results fn tmps).run P w = ((asAddr (tmps.getD p undef)).run P w).andThen fun x w₁ => ((loadVar ty x).run P w₁).andThen fun v w₂ => .ok (.tuple #[tmps.getD a undef, v, tmps.getD u undef, tmps.getD z undef]) w₂ := by
  simp only [results, h]
  simp [Sem.run_bind, Result.andThen]
 rw [e, hp]
 simp [asAddr, run_loadVar_row w g t ty cs fr d hg hu hd hi]
section
variable {w w' : World} {v : Nat} {F : Nat → Prop} {N : Nat} {I : Nat → List Int} {l c G B Q : Nat}
theorem paveM_ok (h : Vol w v F N I l c) (hg : Geo G B Q N) {H H0 : Nat → List Int} {val : Nat → Nat} (hW0 : Inw I G B Q N H H0 val) {near : Nat} (hn : near < G) {m ln sz : Int} {x : Nat} (hx : w.heap[x]? = some (dinX m ln sz val)) (hxF : ¬ F x) {s : Nat} {ps : List Nat} (hs : Chn s ps) (hz : val s = 0) (h6 : 6 ≤ s → val (par s) ≠ 0)
  (q : Option Addr) (hq : Plc w q ps) (hqF : ∀ k, Pt.blkOf q = some k → ¬ F k ∧ k < w.heap.size ∧ k ≠ x) (hc : c + 40 < 4611686018427387904) (hl : l + 20 ≤ 10000) :
  Calls Tryz.prog 83 #[.pointer (some ⟨v, 0, none⟩), Mk.geomV G B Q, .int .i64 (near : Int), .agg #[slotV x val s, .slice q ps.length ps.length]] w fun e w' =>
   (e = .returned (.tuple #[.int .i64 0, .slice none 0 0, .int .i64 5]) ∧ ∃ F' I' l' c', c' ≤ c + 24 ∧ @Vol ⟨markOf l I⟩ w' v F' N I' l' c' ∧ Pt.Stp (FX F x) (FX F' x) w w') ∨
   (∃ (b : Nat) (u : Value) (zs : List Int) (F' : Nat → Prop) (I' H' : Nat → List Int) (val' : Nat → Nat) (l' c' : Nat), e = .returned (.tuple #[.int .i64 (b : Int), u, .int .i64 0]) ∧ Nrw w.heap.size w' u zs F' x ∧ zs.all (Pt.kn l') = true ∧ zs.length ≤ 6 ∧ Vol w' v F' N I' l' c' ∧ Inw I' G B Q N H' H0 val' ∧ val' (endS s ps) = b ∧ b ≠ 0 ∧
    (∀ i, i < 4230 → val i ≠ 0 → val' i = val i) ∧ w'.heap[x]? = some (dinX m ln sz val') ∧ ¬ F' x ∧ l' ≤ l + 9 ∧ c' ≤ c + 24 ∧ (∀ k, k % B ≠ 1 → k % B < 2 + Q / 4 → I' k = I k) ∧ Pt.Stp (FX F x) (FX F' x) w w') := by
 have hm := vol_mark h
 letI : Inhabited Past := ⟨markOf l I⟩
 refine (pave_ok hm hg hW0 hn hx hxF hs hz h6 q hq hqF hc hl).mono ?_
 rintro e w1 (⟨rfl, F', I', l', c', h1, h2, h3⟩ | ⟨b, u, zs, F', I', H', val', l', c', rfl, r1, r2, r3, r4, r⟩)
 ·exact .inl ⟨rfl, F', I', l', c', h1, h2, h3⟩
 ·exact .inr ⟨b, u, zs, F', I', H', val', l', c', rfl, r1, r2, r3, vol_plain r4, r⟩
theorem Nrw.ii {B0 : Nat} {u : Value} {zs : List Int} {x : Nat} (h : Nrw B0 w u zs F x) (hk : zs.all (Pt.kn l) = true) (hl : l ≤ 10000) (hz : zs.length ≤ 100000) : ∃ q cp, u = .slice q zs.length cp ∧ Pt.II w q zs.length zs ∧ ∀ k, Pt.blkOf q = some k → B0 ≤ k ∧ k < w.heap.size ∧ ¬ F k := by
 obtain ⟨p, cp, rfl, hii, hlo⟩ := Mk.row_ii h.row (by omega)
 refine ⟨p, cp, rfl, ⟨hii.len, hii.big, fun z hm => ?_, hii.cells⟩, fun k hk => ?_⟩
 ·rw [List.all_eq_true] at hk
  have := Pt.kn_true.1 (hk z hm)
  exact ⟨by omega, by omega⟩
 ·cases p with
  | none => cases hk
  | some a =>
   have e : a.block = k := Option.some.inj hk
   have := h.row.lt k (by rw [← e]; rfl)
   exact ⟨this.1, this.2, (h.off k (by rw [← e]; rfl)).1⟩
theorem stp_unfx {F F' : Nat → Prop} {x : Nat} {w w' : World} (h : Pt.Stp (FX F x) (FX F' x) w w') (hx : w.heap.size ≤ x) : Pt.Stp F F' w w' :=
 ⟨⟨h.fr.os, h.fr.tape, h.fr.output, h.fr.size, fun k hk hn => h.fr.block k hk (fun hf => hf.elim hn (fun e => by omega))⟩, fun k hk => (h.new k (.inl hk)).elim (fun h9 => h9.elim .inl (fun e => .inr (by show w.heap.size ≤ k; omega))) .inr⟩
def dinW (m ln sz : Int) (val : Nat → Nat) : Value := Mk.dinV m ln sz (val 0 : Int) (val 1 : Int) (val 2 : Int) (val 3 : Int) (val 4 : Int) (val 5 : Int)
def GrowR (w : World) (v : Nat) (F : Nat → Prop) (N : Nat) (I : Nat → List Int) (l c G B Q : Nat) (H0 : Nat → List Int) (val : Nat → Nat) (n : Nat) (m ln sz : Int) (e : Ending) (w' : World) : Prop :=
   (val (slotOf n) ≠ 0 ∧ e = .returned (.tuple #[.int .i64 (val (slotOf n) : Int), dinW m ln sz val, .slice none 0 0, .int .i64 0]) ∧ ∃ F' c', c' ≤ c + 30 ∧ Vol w' v F' N I l c' ∧ Pt.Stp F F' w w') ∨
   (e = .returned (.tuple #[.int .i64 0, Mk.dinV 0 0 0 0 0 0 0 0 0, .slice none 0 0, .int .i64 5]) ∧ ∃ F' c', c' ≤ c + 30 ∧ Vol w' v F' N I l c' ∧ Pt.Stp F F' w w') ∨
   (val (slotOf n) = 0 ∧ ∃ (b : Nat) (q : Option Addr) (cp : Nat) (zs : List Int) (F' : Nat → Prop) (I' H' : Nat → List Int) (val' : Nat → Nat) (l' c' : Nat), e = .returned (.tuple #[.int .i64 (b : Int), dinW m ln sz val', .slice q zs.length cp, .int .i64 0]) ∧ Pt.II w' q zs.length zs ∧ (∀ k, Pt.blkOf q = some k → w.heap.size ≤ k ∧ ¬ F' k) ∧ zs.all (Pt.kn l') = true ∧ zs.length ≤ 6 ∧ Vol w' v F' N I' l' c' ∧ Inw I' G B Q N H' H0 val' ∧ val' (slotOf n) = b ∧ b ≠ 0 ∧
    (∀ i, i < 4230 → val i ≠ 0 → val' i = val i) ∧ l' ≤ l + 9 ∧ c' ≤ c + 30 ∧ (∀ k, k % B ≠ 1 → k % B < 2 + Q / 4 → I' k = I k) ∧ Pt.Stp F F' w w')
set_option maxHeartbeats 8000000 in
theorem grow_ok (h : Vol w v F N I l c) (hg : Geo G B Q N) {H H0 : Nat → List Int} {val : Nat → Nat} (hW0 : Inw I G B Q N H H0 val) {ino : Nat} (hi : ino < G * Q) {n : Nat} (hn : n < 4164) (m ln sz : Int) (hc : c + 60 < 4611686018427387904) (hl : l + 20 ≤ 10000) :
  Calls Tryz.prog 30 #[.pointer (some ⟨v, 0, none⟩), Mk.geomV G B Q, .int .i64 (ino : Int), dinW m ln sz val, .int .i64 (n : Int)] w (GrowR w v F N I l c G B Q H0 val n m ln sz) := by
 have hfit := hg.fit
 obtain ⟨W, hW⟩ : ∃ W, ((w.alloc (Mk.geomO G B Q)).alloc (dinX m ln sz val)).alloc (Mk.dinO 0 0 0 0 0 0 0 0 0) = W := ⟨_, rfl⟩
 have hb : Below w.heap.size w W := by rw [← hW]; exact (((Below.refl _ _).alloc (Nat.le_refl _) _).alloc (by simp) _).alloc (by simp only [World.size_alloc]; omega) _
 have hgr : W.heap[w.heap.size]? = some (Mk.geomO G B Q) := by rw [← hW]; exact at_old (at_old (at_new rfl))
 have hdx : W.heap[w.heap.size + 1]? = some (dinX m ln sz val) := by rw [← hW]; exact at_old (at_new (by simp))
 have hrs : W.heap[w.heap.size + 2]? = some (Mk.dinO 0 0 0 0 0 0 0 0 0) := by rw [← hW]; exact at_new (by simp)
 have hsz : W.heap.size = w.heap.size + 3 := by rw [← hW]; simp
 have hlt := h.lt
 have hv := h.later hb
 have hrf := irefusalInode_ok hv hg hi 0 (by omega)
 have hmh := mayHave_ok n hn
 have hwt := wayTo_ok (w.heap.size + 1) n hn
 have how := fun w => Mk.owner_in (G := (G : Int)) (B := B) (I := Q) (n := (ino : Int)) ⟨hg.may, by omega, by exact_mod_cast hi⟩ w
 rw [show (ino : Int) / (Q : Int) = ((ino / Q : Nat) : Int) from rfl] at how
 obtain ⟨hch, hen, hs6, hp2⟩ := way_chn hn
 have c0 := (g3_of hgr).c0
 have c1 := (g3_of hgr).c1
 have c2 := (g3_of hgr).c2
 have hwu : dinX m ln sz val = .cells #[.int .i64 m, .int .i64 ln, .int .i64 sz, .int .i64 (val 0 : Int), .int .i64 (val 1 : Int), .int .i64 (val 2 : Int), .int .i64 (val 3 : Int), .int .i64 (val 4 : Int), .int .i64 (val 5 : Int)] 75 (0, 0) := rfl
 have HV : Hid (Vol W v F N I l c ∧ Below w.heap.size w W ∧ (∀ k, F k → k < w.heap.size) ∧ Inw I G B Q N H H0 val) := ⟨hv, hb, hlt, hW0⟩
 rw [hwu] at hW
 have edw : dinW m ln sz val = Mk.dinV m ln sz (val 0 : Int) (val 1 : Int) (val 2 : Int) (val 3 : Int) (val 4 : Int) (val 5 : Int) := rfl
 rw [edw]
 clear edw
 clear hv h hb hlt hW0
 go_enter Tryz.func30, Tryz.ntmps30
 go_wp2_with fail
 refine Mk.grew_at hrf ?_
 intro w1 hb1
 have hgr1 := (hb1.block _ (by omega)).trans hgr
 have hdx1 := (hb1.block _ (by omega)).trans hdx
 have hrs1 := (hb1.block _ (by omega)).trans hrs
 have hs1 := hb1.size
 dsimp only
 go_wp2_with (first
  | (go_at_call 78; refine same_at (hmh _) ?_))
 refine Calls.mono (hwt _) ?_
 rintro e w2 ⟨q, rfl, hq, hqw, hb2⟩
 have hs2 := hb2.size
 have hb12 : Below W.heap.size W w2 := hb1.trans (hb2.mono hs1)
 have hdx2 := (hb12.block _ (by omega)).trans hdx
 have hrs2 := (hb12.block _ (by omega)).trans hrs
 have hgr2 := (hb12.block _ (by omega)).trans hgr
 obtain ⟨hvW, hbW, hltF, hinw⟩ := HV.out
 have hv2 := hvW.later hb12
 have hfo := follow_ok hv2 hinw.tre (fun i hi hv => (hinw.rng i hi hv).1) (dino_of hdx2) (fun hf => by have := hltF _ hf; omega) hch (fun h9 => by omega) q hq (fun k hk => ⟨fun hf => by have := hltF _ hf; have := (hqw k hk).1; omega, (hqw k hk).2⟩) (by omega)
 have es : slotV (w.heap.size + 1) val (wayS n) = .iface 239 (.agg #[.pointer (some ⟨w.heap.size + 1, 3 + wayS n, none⟩)]) := if_pos hs6
 rw [es] at hfo
 have hval := hinw.tre.fol_end hch
 have hends := fol_ends val (wayP n) (wayS n)
 have hlen := fol_len val (wayP n) (wayS n)
 rw [hen] at hval hends
 obtain ⟨s3, ps3, hfe⟩ : ∃ s3 ps3, fol val (wayS n) (wayP n) = (s3, ps3) := ⟨_, _, rfl⟩
 rw [hfe] at hfo hval hends hlen
 clear hch hen hwt hq es hfe
 dsimp only at hfo hval hends hlen
 dsimp only
 go_wp2_with fail
 refine Calls.mono hfo ?_
 rintro e w3 ⟨q3, rfl, hq3, hqq3, hch3, hup3, hnil3, F3, c3, hc3, hv3, hst3⟩
 have hstw : Pt.Stp F F3 w w3 := stp_after hbW (stp_after hb12 hst3)
 have hF3 : ∀ k, F3 k → F k ∨ w2.heap.size ≤ k := fun k hk => hst3.new k hk
 have hof : ∀ k, w.heap.size ≤ k → k < w.heap.size + 3 → w3.heap[k]? = w2.heap[k]? := fun k hk hk3 => hst3.fr.block k (by omega) (fun hf => by have := hltF _ hf; omega)
 have hdx3 := (hof _ (by omega) (by omega)).trans hdx2
 have hrs3 : w3.heap[w.heap.size + 1 + 1]? = some (Mk.dinO 0 0 0 0 0 0 0 0 0) := (hof _ (by omega) (by omega)).trans hrs2
 have hgr3 := (hof _ (by omega) (by omega)).trans hgr2
 have hi75 : (Tryz.prog.info? 75).map (·.size) = some (#[.int .i64 m, .int .i64 ln, .int .i64 sz, .int .i64 (val 0 : Int), .int .i64 (val 1 : Int), .int .i64 (val 2 : Int), .int .i64 (val 3 : Int), .int .i64 (val 4 : Int), .int .i64 (val 5 : Int)] : Array Value).size := by kernel_rfl
 have hs3 := hst3.fr.size
 have HS : Hid (Pt.Stp F F3 w w3 ∧ (∀ k, F3 k → F k ∨ w2.heap.size ≤ k) ∧ (∀ k, F k → k < w.heap.size) ∧ Inw I G B Q N H H0 val ∧ endS s3 ps3 = slotOf n ∧ val s3 = val (slotOf n) ∧ (val s3 ≠ 0 → ps3 = [])) := ⟨hstw, hF3, hltF, hinw, hends, hval, hnil3⟩
 clear hstw hF3 hltF hinw hst3 hfo hof hv2 hvW hbW hdx2 hrs2 hgr2 hdx1 hrs1 hgr1 hdx hrs hgr hends hval hnil3 c0 c1 c2 hmh hrf
 have d2 := cell_of_row _ _ 0 _ _ _ (show w3.heap[w.heap.size]? = some (.cells #[.int .i64 (G : Int), .int .i64 (B : Int), .int .i64 (Q : Int)] 23 (0, 0)) from hgr3)
 have hsv : (slotV (w.heap.size + 1) val s3).oneCell' = true := by unfold slotV; split <;> simp [Value.oneCell']
 obtain ⟨W4, hW4⟩ : ∃ W4, w3.alloc (Obj.cells #[.nilIface, .slice none 0 0, .int .i64 0] 156) = W4 := ⟨_, rfl⟩
 have hb4 : Below w3.heap.size w3 W4 := by rw [← hW4]; exact Mk.grew_alloc _ _
 have hn4 : W4.heap[w3.heap.size]? = some (.cells #[.nilIface, .slice none 0 0, .int .i64 0] 156 (0, 0)) := by rw [← hW4]; exact at_new rfl
 obtain ⟨W5, hW5⟩ : ∃ W5, W4.setRow w3.heap.size #[slotV (w.heap.size + 1) val s3, .slice q3 ps3.length ps3.length, .int .i64 (val s3 : Int)] = W5 := ⟨_, rfl⟩
 have hn5 : W5.heap[w3.heap.size]? = some (.cells #[slotV (w.heap.size + 1) val s3, .slice q3 ps3.length ps3.length, .int .i64 (val s3 : Int)] 156 (0, 0)) := by rw [← hW5]; exact setRow_heap _ _ _ _ _ _ hn4
 have hb5 : Below w3.heap.size w3 W5 := by rw [← hW5]; exact below_setRow hb4 (Nat.le_refl _) _
 have hdx5 := (hb5.block _ (by omega)).trans hdx3
 have hrs5 := (hb5.block _ (by omega)).trans hrs3
 have hgr5 := (hb5.block _ (by omega)).trans hgr3
 have hv5 := hv3.later hb5
 have hq5 := hq3.kept hb5
 have hs5 := hb5.size
 have g0 := (g3_of hgr5).c0
 have g1 := (g3_of hgr5).c1
 have g2 := (g3_of hgr5).c2
 have e0 := cell_of_row _ _ 0 _ _ _ hn5
 have e1 := cell_of_row _ _ 1 _ _ _ hn5
 have e2 := cell_of_row _ _ 2 _ _ _ hn5
 have HB5 : Hid (Below w3.heap.size w3 W5) := hb5
 clear hb4 hb5 hdx3 hrs3 hgr3 d2 hv3 hq3
 by_cases hv0 : val s3 = 0
 ·have hvb : ((val s3 : Int) == 0) = true := by rw [hv0]; rfl
  have HV0 : Hid (val s3 = 0) := hv0
  clear hv0
  dsimp only
  go_wp2_with (first
   | (refine wpList_store_row rfl 156 _ _ rfl w3.heap.size #[slotV (w.heap.size + 1) val s3, .slice q3 ps3.length ps3.length, .int .i64 (val s3 : Int)] rfl rfl 156 _ hn4 info156 rfl (one3 hsv rfl rfl) ?_; rw [hW5]))
  refine same_at (vol_last hv5) ?_
  dsimp only
  go_wp2_with fail
  refine Mk.grew_at (how _) ?_
  intro w6 hb6
  have hs6' := hb6.size
  have hdx6 := (hb6.block _ (by omega)).trans hdx5
  have hrs6 := (hb6.block _ (by omega)).trans hrs5
  have hn6 := (hb6.block _ (Array.getElem?_eq_some_iff.1 hn5).1).trans hn5
  have f0 := cell_of_row _ _ 0 _ _ _ hn6
  have f1 := cell_of_row _ _ 1 _ _ _ hn6
  have g0 := Mk.cell_kept g0 hb6
  have g1 := Mk.cell_kept g1 hb6
  have g2 := Mk.cell_kept g2 hb6
  have hpv := paveM_ok (hv5.later hb6) hg HS.out.2.2.2.1 (Nat.div_lt_of_lt_mul (show ino < Q * G by rw [Nat.mul_comm]; exact hi)) (x := w.heap.size + 1) hdx6 (fun hf => by
   rcases HS.out.2.1 _ hf with h9 | h9
   ·have := HS.out.2.2.1 _ h9; omega
   ·omega) hch3 HV0.out hup3 q3 (hq5.kept hb6) (fun k hk => by
   have hk2 := hqw k (hqq3 k hk)
   refine ⟨fun hf => ?_, by omega, by omega⟩
   rcases HS.out.2.1 _ hf with h9 | h9
   ·have := HS.out.2.2.1 _ h9; omega
   ·omega) (by omega) hl
  have hF6 : ∀ (F7 : Nat → Prop) (w7 : World), Pt.Stp (FX F3 (w.heap.size + 1)) (FX F7 (w.heap.size + 1)) w6 w7 → ∀ k, F7 k → k ≠ w.heap.size + 1 + 1 := fun F7 w7 h7 k hk e => (h7.new k (.inl hk)).elim (fun h9 => h9.elim (fun h8 => (HS.out.2.1 k h8).elim (fun h5 => by have := HS.out.2.2.1 k h5; omega) (fun h5 => by omega)) (fun h8 => by omega)) (fun h9 => by have h9 : w6.heap.size ≤ k := h9; omega)
  have hn36 : ¬ FX F3 (w.heap.size + 1) (w.heap.size + 1 + 1) := fun hf => hf.elim (fun h8 => (HS.out.2.1 _ h8).elim (fun h5 => by have := HS.out.2.2.1 _ h5; omega) (fun h5 => by omega)) (fun h8 => by omega)
  have ha6 : Pt.Stp (FX F (w.heap.size + 1)) (FX F3 (w.heap.size + 1)) w w6 := stp_fx (stp_grown (stp_grown HS.out.1 HB5.out) hb6)
  have HA : Hid (Pt.Stp (FX F (w.heap.size + 1)) (FX F3 (w.heap.size + 1)) w w6 ∧ (∀ (F7 : Nat → Prop) (w7 : World), Pt.Stp (FX F3 (w.heap.size + 1)) (FX F7 (w.heap.size + 1)) w6 w7 → ∀ k, F7 k → k ≠ w.heap.size + 1 + 1)) := ⟨ha6, hF6⟩
  clear ha6 hF6
  dsimp only
  go_wp2_with fail
  refine Calls.mono hpv ?_
  rintro e w7 (⟨rfl, F7, I7, l7, c7, hc7, hv7, hst7⟩ | ⟨b, u, zs, F7, I7, H7, val7, l7, c7, rfl, hrow7, hkn7, hz7, hv7, hinw7, hend7, hb0, hkeep7, hdx7, hxF7, hl7, hc7, hino7, hst7⟩)
  ·dsimp only
   go_wp2_with fail
   refine Calls.mono (vol_undo hv7) ?_
   rintro e w8 ⟨rfl, F8, hv8, hst8⟩
   have hs7 := hst7.fr.size
   have hs8 := hst8.fr.size
   have hF7 := HA.out.2 F7 w7 hst7
   have hrs8 : w8.heap[w.heap.size + 1 + 1]? = some (Mk.dinO 0 0 0 0 0 0 0 0 0) := (hst8.fr.block _ (by omega) (fun hf => hF7 _ hf rfl)).trans ((hst7.fr.block _ (by omega) hn36).trans hrs6)
   have hi0 : (Tryz.prog.info? 75).map (·.size) = some (#[.int .i64 0, .int .i64 0, .int .i64 0, .int .i64 0, .int .i64 0, .int .i64 0, .int .i64 0, .int .i64 0, .int .i64 0] : Array Value).size := by kernel_rfl
   have hone0 : (#[.int .i64 0, .int .i64 0, .int .i64 0, .int .i64 0, .int .i64 0, .int .i64 0, .int .i64 0, .int .i64 0, .int .i64 0] : Array Value).all (·.oneCell') = true := by simp [Value.oneCell']
   dsimp only
   go_wp2_with (first
    | (refine wpList_store_row rfl 75 _ _ rfl (w.heap.size + 1 + 1) #[.int .i64 0, .int .i64 0, .int .i64 0, .int .i64 0, .int .i64 0, .int .i64 0, .int .i64 0, .int .i64 0, .int .i64 0] rfl rfl 75 _ hrs8 hi0 rfl hone0 ?_))
   refine bodyPost_ret (v := .tuple #[.int .i64 0, .agg #[.int .i64 0, .int .i64 0, .int .i64 0, .int .i64 0, .int .i64 0, .int .i64 0, .int .i64 0, .int .i64 0, .int .i64 0], .slice none 0 0, .int .i64 5]) (results_tctt (a := 10) (p := 11) (u := 12) (z := 13) (ty := 75) Tryz.results30 _ _ (w.heap.size + 1 + 1) 75 _ (0, 0) _ rfl (setRow_heap _ _ _ _ 75 _ hrs8) Tryz.underlying75 rfl hi0) rfl ?_
   have hlow : Below w.heap.size w8 (w8.setRow (w.heap.size + 1 + 1) #[.int .i64 0, .int .i64 0, .int .i64 0, .int .i64 0, .int .i64 0, .int .i64 0, .int .i64 0, .int .i64 0, .int .i64 0]) := below_setRow (Below.refl _ _) (by omega) _
   have hF8 : ∀ k, F8 k → k ≠ w.heap.size + 1 + 1 := fun k hk => (hst8.new k hk).elim (hF7 k) (fun h9 => by have h9 : w7.heap.size ≤ k := h9; omega)
   unfold GrowR
   exact .inr (.inl ⟨rfl, F8, c7, by omega, hv8.else hlow.size (fun k hk => setRow_other _ _ _ _ (hF8 k hk)), stp_low (stp_unfx (stp_trans (stp_trans HA.out.1 hst7) (stp_fx hst8)) (Nat.le_succ _)) hlow⟩)
  ·dsimp only
   go_wp2_with fail
   have hi7 : (Tryz.prog.info? 75).map (·.size) = some (#[.int .i64 m, .int .i64 ln, .int .i64 sz, .int .i64 (val7 0 : Int), .int .i64 (val7 1 : Int), .int .i64 (val7 2 : Int), .int .i64 (val7 3 : Int), .int .i64 (val7 4 : Int), .int .i64 (val7 5 : Int)] : Array Value).toList.length := by kernel_rfl
   have hi7a : (Tryz.prog.info? 75).map (·.size) = some (#[.int .i64 m, .int .i64 ln, .int .i64 sz, .int .i64 (val7 0 : Int), .int .i64 (val7 1 : Int), .int .i64 (val7 2 : Int), .int .i64 (val7 3 : Int), .int .i64 (val7 4 : Int), .int .i64 (val7 5 : Int)] : Array Value).size := by kernel_rfl
   have hone7 : (#[.int .i64 m, .int .i64 ln, .int .i64 sz, .int .i64 (val7 0 : Int), .int .i64 (val7 1 : Int), .int .i64 (val7 2 : Int), .int .i64 (val7 3 : Int), .int .i64 (val7 4 : Int), .int .i64 (val7 5 : Int)] : Array Value).all (·.oneCell') = true := by simp [Value.oneCell']
   have hs7 := hst7.fr.size
   have hrs7 : w7.heap[w.heap.size + 1 + 1]? = some (Mk.dinO 0 0 0 0 0 0 0 0 0) := (hst7.fr.block _ (by omega) (fun hf => hf.elim (fun h9 => by
    rcases HS.out.2.1 _ h9 with h8 | h8
    ·have := HS.out.2.2.1 _ h8; omega
    ·omega) (fun h9 => by omega))).trans hrs6
   have hrg7 : w7.rangeAt (w.heap.size + 1) 0 (#[.int .i64 m, .int .i64 ln, .int .i64 sz, .int .i64 (val7 0 : Int), .int .i64 (val7 1 : Int), .int .i64 (val7 2 : Int), .int .i64 (val7 3 : Int), .int .i64 (val7 4 : Int), .int .i64 (val7 5 : Int)] : Array Value).toList := range_row hdx7
   have hu75 := Tryz.underlying75
   have hset7 : (w7.drew.setRow (w.heap.size + 1 + 1) #[.int .i64 m, .int .i64 ln, .int .i64 sz, .int .i64 (val7 0 : Int), .int .i64 (val7 1 : Int), .int .i64 (val7 2 : Int), .int .i64 (val7 3 : Int), .int .i64 (val7 4 : Int), .int .i64 (val7 5 : Int)]).rangeAt (w.heap.size + 1) 0 (#[.int .i64 m, .int .i64 ln, .int .i64 sz, .int .i64 (val7 0 : Int), .int .i64 (val7 1 : Int), .int .i64 (val7 2 : Int), .int .i64 (val7 3 : Int), .int .i64 (val7 4 : Int), .int .i64 (val7 5 : Int)] : Array Value).toList := range_row ((setRow_other _ _ _ _ (by omega)).trans hdx7)
   refine wp_region_held_drew (S := (fun w' => w'.rangeAt (w.heap.size + 1) 0 (#[.int .i64 m, .int .i64 ln, .int .i64 sz, .int .i64 (val7 0 : Int), .int .i64 (val7 1 : Int), .int .i64 (val7 2 : Int), .int .i64 (val7 3 : Int), .int .i64 (val7 4 : Int), .int .i64 (val7 5 : Int)] : Array Value).toList)) (by kernel_rfl) hrg7 (fun hHeld => ?_)
   refine tk 0 ⟨some 81, .move (.tmp 20), 3, "inode.go:98", #[], none⟩ ?_ ?_ hHeld ?_
   rotate_left
   ·(intro w hSw; (try dsimp only at hSw); go_simp; try (with_reducible rfl))
   simp only [Act.put, sA, sZ, sS]
   refine wpAnyH_take (i := 1) (oi := ⟨some 82, .load 75 (.tmp 8), 75, "inode.go:98", #[⟨3, .gcOnly .lateStores⟩], none⟩) (v := .agg #[.int .i64 m, .int .i64 ln, .int .i64 sz, .int .i64 (val7 0 : Int), .int .i64 (val7 1 : Int), .int .i64 (val7 2 : Int), .int .i64 (val7 3 : Int), .int .i64 (val7 4 : Int), .int .i64 (val7 5 : Int)]) rfl (by kernel_rfl) (by kernel_rfl) (by kernel_rfl) (fun _ _ _ h => h) (yieldsIf_load_mid (by rfl) 75 _ rfl (w.heap.size + 1) 0 rfl (#[.int .i64 m, .int .i64 ln, .int .i64 sz, .int .i64 (val7 0 : Int), .int .i64 (val7 1 : Int), .int .i64 (val7 2 : Int), .int .i64 (val7 3 : Int), .int .i64 (val7 4 : Int), .int .i64 (val7 5 : Int)] : Array Value).toList _ (fun _ hS => hS) Tryz.underlying75 rfl hi7) hHeld ?_
   simp only [Act.put, sA, sZ, sS]
   refine tk 2 ⟨some 83, .move (.tmp 21), 49, "inode.go:98", #[⟨4, .gcOnly .lateStores⟩], none⟩ ?_ ?_ hHeld ?_
   rotate_left
   ·(intro w hSw; (try dsimp only at hSw); go_simp; try (with_reducible rfl))
   simp only [Act.put, sA, sZ, sS]
   refine tk 3 ⟨some 10, .assign (.tmp 81), 3, "inode.go:98", #[⟨0, .data⟩, ⟨0, .phase⟩, { on := 1, ground := Ground.textOnly Departure.lateStores }, { on := 2, ground := Ground.textOnly Departure.lateStores }], none⟩ ?_ ?_ hHeld ?_
   rotate_left
   ·(intro w hSw; (try dsimp only at hSw); go_simp; try (with_reducible rfl))
   simp only [Act.put, sA, sZ, sS]
   refine wpAnyH_ready (rs := [4]) (by kernel_rfl) (by simp) ?_
   refine AllReadyH.cons (o := ⟨none, .store 75 (.tmp 11) (.tmp 82), 0, "inode.go:98", #[⟨1, .data⟩, ⟨3, .chain⟩, ⟨0, .phase⟩, ⟨1, .phase⟩, { on := 2, ground := Ground.textOnly Departure.lateStores }, ⟨3, .phase⟩], none⟩) rfl (fun K hK => ?_) AllReadyH.nil
   rw [if_pos (by rfl)]
   refine wp_store_row 75 _ _ rfl (w.heap.size + 1 + 1) #[.int .i64 m, .int .i64 ln, .int .i64 sz, .int .i64 (val7 0 : Int), .int .i64 (val7 1 : Int), .int .i64 (val7 2 : Int), .int .i64 (val7 3 : Int), .int .i64 (val7 4 : Int), .int .i64 (val7 5 : Int)] rfl rfl 75 _ hrs7 hi7a rfl hone7 ?_
   refine hK.out _ _ hset7 (fun hHeld => ?_)
   clear hK K
   simp only [Act.put]
   refine tk 5 ⟨some 12, .assign (.tmp 83), 49, "inode.go:98", #[⟨2, .data⟩, ⟨4, .chain⟩, ⟨0, .phase⟩, ⟨1, .phase⟩, ⟨2, .phase⟩, ⟨3, .phase⟩, ⟨4, .phase⟩], none⟩ ?_ ?_ hHeld ?_
   rotate_left
   ·(intro w hSw; (try dsimp only at hSw); go_simp; try (with_reducible rfl))
   simp only [Act.put, sA, sZ, sS]
   refine tk 6 ⟨some 13, .assign (.const (.int .i64 0)), 36, "inode.go:98", #[⟨5, .chain⟩, ⟨0, .phase⟩, ⟨1, .phase⟩, ⟨2, .phase⟩, ⟨3, .phase⟩, ⟨4, .phase⟩, ⟨5, .phase⟩], none⟩ ?_ ?_ hHeld ?_
   rotate_left
   ·(intro w hSw; (try dsimp only at hSw); go_simp; try (with_reducible rfl))
   simp only [Act.put, sA, sZ, sS]
   refine wpAnyH_done (by kernel_rfl) ?_ _
   go_wp2_with fail
   refine bodyPost_ret (v := .tuple #[.int .i64 (b : Int), .agg #[.int .i64 m, .int .i64 ln, .int .i64 sz, .int .i64 (val7 0 : Int), .int .i64 (val7 1 : Int), .int .i64 (val7 2 : Int), .int .i64 (val7 3 : Int), .int .i64 (val7 4 : Int), .int .i64 (val7 5 : Int)], u, .int .i64 0]) (results_tctt (a := 10) (p := 11) (u := 12) (z := 13) (ty := 75) Tryz.results30 _ _ (w.heap.size + 1 + 1) 75 _ (0, 0) _ rfl (setRow_heap _ _ _ _ 75 _ (show w7.drew.heap[w.heap.size + 1 + 1]? = _ from hrs7)) Tryz.underlying75 rfl hi7a) rfl ?_
   have hF7 := HA.out.2 F7 w7 hst7
   have hlow : Below w.heap.size w7 (w7.drew.setRow (w.heap.size + 1 + 1) #[.int .i64 m, .int .i64 ln, .int .i64 sz, .int .i64 (val7 0 : Int), .int .i64 (val7 1 : Int), .int .i64 (val7 2 : Int), .int .i64 (val7 3 : Int), .int .i64 (val7 4 : Int), .int .i64 (val7 5 : Int)]) := below_setRow (Below.refl _ _).drew (by omega) _
   have hoth : ∀ k, k ≠ w.heap.size + 1 + 1 → (w7.drew.setRow (w.heap.size + 1 + 1) #[.int .i64 m, .int .i64 ln, .int .i64 sz, .int .i64 (val7 0 : Int), .int .i64 (val7 1 : Int), .int .i64 (val7 2 : Int), .int .i64 (val7 3 : Int), .int .i64 (val7 4 : Int), .int .i64 (val7 5 : Int)]).heap[k]? = w7.heap[k]? := fun k hk => setRow_other _ _ _ _ hk
   have hrow8 := hrow7.keptIf (w' := w7.drew.setRow (w.heap.size + 1 + 1) #[.int .i64 m, .int .i64 ln, .int .i64 sz, .int .i64 (val7 0 : Int), .int .i64 (val7 1 : Int), .int .i64 (val7 2 : Int), .int .i64 (val7 3 : Int), .int .i64 (val7 4 : Int), .int .i64 (val7 5 : Int)]) (fun k hk => hoth k (fun e => hrow7.ne hrs7 (by decide) (e ▸ hk)))
   obtain ⟨qz, cz, rfl, hiz, hbz⟩ := hrow8.ii hkn7 (by omega) (by omega)
   unfold GrowR
   refine .inr (.inr ⟨by rw [← HS.out.2.2.2.2.2.1]; exact HV0.out, b, qz, cz, zs, F7, I7, H7, val7, l7, c7, rfl, hiz, fun k hk => ⟨by have := (hbz k hk).1; omega, (hbz k hk).2.2⟩, hkn7, hz7, hv7.else hlow.size (fun k hk => hoth k (hF7 k hk)), hinw7, by rw [← HS.out.2.2.2.2.1]; exact hend7, hb0, hkeep7, by omega, by omega, hino7, stp_low (stp_unfx (stp_trans HA.out.1 hst7) (Nat.le_succ _)) hlow⟩)
 ·have hvb : ((val s3 : Int) == 0) = false := by rw [beq_eq_false_iff_ne]; omega
  have HV0 : Hid (¬ val s3 = 0) := hv0
  clear hv0
  dsimp only
  go_wp2_with (first
   | (refine wpList_store_row rfl 156 _ _ rfl w3.heap.size #[slotV (w.heap.size + 1) val s3, .slice q3 ps3.length ps3.length, .int .i64 (val s3 : Int)] rfl rfl 156 _ hn4 info156 rfl (one3 hsv rfl rfl) ?_; rw [hW5])
   | (refine wpList_load_row rfl 75 _ rfl (w.heap.size + 1) rfl 75 _ (0, 0) _ hdx5 Tryz.underlying75 rfl hi75 ?_))
  have hiL : (Tryz.prog.info? 75).map (·.size) = some (#[.int .i64 m, .int .i64 ln, .int .i64 sz, .int .i64 (val 0 : Int), .int .i64 (val 1 : Int), .int .i64 (val 2 : Int), .int .i64 (val 3 : Int), .int .i64 (val 4 : Int), .int .i64 (val 5 : Int)] : Array Value).toList.length := by kernel_rfl
  have hone : (#[.int .i64 m, .int .i64 ln, .int .i64 sz, .int .i64 (val 0 : Int), .int .i64 (val 1 : Int), .int .i64 (val 2 : Int), .int .i64 (val 3 : Int), .int .i64 (val 4 : Int), .int .i64 (val 5 : Int)] : Array Value).all (·.oneCell') = true := by simp [Value.oneCell']
  have hrg : W5.rangeAt (w.heap.size + 1) 0 (#[.int .i64 m, .int .i64 ln, .int .i64 sz, .int .i64 (val 0 : Int), .int .i64 (val 1 : Int), .int .i64 (val 2 : Int), .int .i64 (val 3 : Int), .int .i64 (val 4 : Int), .int .i64 (val 5 : Int)] : Array Value).toList := range_row hdx5
  have hrgs : (W5.drew.setRow (w.heap.size + 1 + 1) #[.int .i64 m, .int .i64 ln, .int .i64 sz, .int .i64 (val 0 : Int), .int .i64 (val 1 : Int), .int .i64 (val 2 : Int), .int .i64 (val 3 : Int), .int .i64 (val 4 : Int), .int .i64 (val 5 : Int)]).rangeAt (w.heap.size + 1) 0 (#[.int .i64 m, .int .i64 ln, .int .i64 sz, .int .i64 (val 0 : Int), .int .i64 (val 1 : Int), .int .i64 (val 2 : Int), .int .i64 (val 3 : Int), .int .i64 (val 4 : Int), .int .i64 (val 5 : Int)] : Array Value).toList := range_row ((setRow_other _ _ _ _ (by omega)).trans hdx5)
  have hcs : (W5.drew.setRow (w.heap.size + 1 + 1) #[.int .i64 m, .int .i64 ln, .int .i64 sz, .int .i64 (val 0 : Int), .int .i64 (val 1 : Int), .int .i64 (val 2 : Int), .int .i64 (val 3 : Int), .int .i64 (val 4 : Int), .int .i64 (val 5 : Int)]).cell? ⟨w3.heap.size, 2, none⟩ = some (.int .i64 (val s3 : Int)) := (cell_keq (setRow_other _ _ _ _ (by omega))).trans e2
  refine wp_region_held_drew (S := (fun w' => w'.cell? ⟨w3.heap.size, 2, none⟩ = some (.int .i64 (val s3 : Int)) ∧ w'.rangeAt (w.heap.size + 1) 0 (#[.int .i64 m, .int .i64 ln, .int .i64 sz, .int .i64 (val 0 : Int), .int .i64 (val 1 : Int), .int .i64 (val 2 : Int), .int .i64 (val 3 : Int), .int .i64 (val 4 : Int), .int .i64 (val 5 : Int)] : Array Value).toList)) (by kernel_rfl) ⟨e2, hrg⟩ (fun hHeld => ?_)
  refine tk 0 ⟨some 52, .fieldAddr 156 (.tmp 15) 1, 0, "inode.go:89", #[], none⟩ ?_ ?_ hHeld ?_
  rotate_left
  ·(intro w hSw; (try dsimp only at hSw); go_simp; try (with_reducible rfl))
  simp only [Act.put, sA, sZ, sS]
  refine tk 1 ⟨some 53, .load 3 (.tmp 52), 3, "inode.go:89", #[⟨0, .data⟩], none⟩ ?_ ?_ hHeld ?_
  rotate_left
  ·(intro w hSw; (try dsimp only at hSw); go_simp; try (with_reducible rfl))
  simp only [Act.put, sA, sZ, sS]
  refine wpAnyH_take (i := 2) (oi := ⟨some 54, .load 75 (.tmp 8), 75, "inode.go:89", #[⟨3, .gcOnly .lateStores⟩], none⟩) (v := .agg #[.int .i64 m, .int .i64 ln, .int .i64 sz, .int .i64 (val 0 : Int), .int .i64 (val 1 : Int), .int .i64 (val 2 : Int), .int .i64 (val 3 : Int), .int .i64 (val 4 : Int), .int .i64 (val 5 : Int)]) rfl (by kernel_rfl) (by kernel_rfl) (by kernel_rfl) (fun _ _ _ h => h) (yieldsIf_load_mid (by rfl) 75 _ rfl (w.heap.size + 1) 0 rfl (#[.int .i64 m, .int .i64 ln, .int .i64 sz, .int .i64 (val 0 : Int), .int .i64 (val 1 : Int), .int .i64 (val 2 : Int), .int .i64 (val 3 : Int), .int .i64 (val 4 : Int), .int .i64 (val 5 : Int)] : Array Value).toList _ (fun _ hS => hS.2) Tryz.underlying75 rfl hiL) hHeld ?_
  simp only [Act.put, sA, sZ, sS]
  refine tk 3 ⟨some 10, .assign (.tmp 53), 3, "inode.go:89", #[⟨1, .data⟩, ⟨0, .phase⟩, ⟨1, .phase⟩, { on := 2, ground := Ground.textOnly Departure.lateStores }], none⟩ ?_ ?_ hHeld ?_
  rotate_left
  ·(intro w hSw; (try dsimp only at hSw); go_simp; try (with_reducible rfl))
  simp only [Act.put, sA, sZ, sS]
  refine wpAnyH_ready (rs := [4]) (by kernel_rfl) (by simp) ?_
  refine AllReadyH.cons (o := ⟨none, .store 75 (.tmp 11) (.tmp 54), 0, "inode.go:89", #[⟨2, .data⟩, ⟨3, .chain⟩, ⟨0, .phase⟩, ⟨1, .phase⟩, ⟨2, .phase⟩, ⟨3, .phase⟩], none⟩) rfl (fun K hK => ?_) AllReadyH.nil
  rw [if_pos (by rfl)]
  refine wp_store_row 75 _ _ rfl (w.heap.size + 1 + 1) #[.int .i64 m, .int .i64 ln, .int .i64 sz, .int .i64 (val 0 : Int), .int .i64 (val 1 : Int), .int .i64 (val 2 : Int), .int .i64 (val 3 : Int), .int .i64 (val 4 : Int), .int .i64 (val 5 : Int)] rfl rfl 75 _ hrs5 hi75 rfl hone ?_
  refine hK.out _ _ ⟨hcs, hrgs⟩ (fun hHeld => ?_)
  clear hK K
  simp only [Act.put]
  refine tk 5 ⟨some 12, .assign (.const (.slice none 0 0)), 49, "inode.go:89", #[⟨4, .chain⟩, ⟨0, .phase⟩, ⟨1, .phase⟩, ⟨2, .phase⟩, ⟨3, .phase⟩, ⟨4, .phase⟩], none⟩ ?_ ?_ hHeld ?_
  rotate_left
  ·(intro w hSw; (try dsimp only at hSw); go_simp; try (with_reducible rfl))
  simp only [Act.put, sA, sZ, sS]
  refine tk 6 ⟨some 13, .assign (.const (.int .i64 0)), 36, "inode.go:89", #[⟨5, .chain⟩, ⟨0, .phase⟩, ⟨1, .phase⟩, ⟨2, .phase⟩, ⟨3, .phase⟩, ⟨4, .phase⟩, ⟨5, .phase⟩], none⟩ ?_ ?_ hHeld ?_
  rotate_left
  ·(intro w hSw; (try dsimp only at hSw); go_simp; try (with_reducible rfl))
  simp only [Act.put, sA, sZ, sS]
  refine wpAnyH_done (by kernel_rfl) ?_ _
  go_wp2_with fail
  refine bodyPost_ret (v := .tuple #[.int .i64 (val s3 : Int), .agg #[.int .i64 m, .int .i64 ln, .int .i64 sz, .int .i64 (val 0 : Int), .int .i64 (val 1 : Int), .int .i64 (val 2 : Int), .int .i64 (val 3 : Int), .int .i64 (val 4 : Int), .int .i64 (val 5 : Int)], .slice none 0 0, .int .i64 0]) (results_tctt (a := 10) (p := 11) (u := 12) (z := 13) (ty := 75) Tryz.results30 _ _ (w.heap.size + 1 + 1) 75 _ (0, 0) _ rfl (setRow_heap _ _ _ _ 75 _ (show W5.drew.heap[w.heap.size + 1 + 1]? = _ from hrs5)) Tryz.underlying75 rfl hi75) rfl ?_
  have hlow : Below w.heap.size W5 (W5.drew.setRow (w.heap.size + 1 + 1) #[.int .i64 m, .int .i64 ln, .int .i64 sz, .int .i64 (val 0 : Int), .int .i64 (val 1 : Int), .int .i64 (val 2 : Int), .int .i64 (val 3 : Int), .int .i64 (val 4 : Int), .int .i64 (val 5 : Int)]) := below_setRow (Below.refl _ _).drew (by omega) _
  have hoth : ∀ k, k ≠ w.heap.size + 1 + 1 → (W5.drew.setRow (w.heap.size + 1 + 1) #[.int .i64 m, .int .i64 ln, .int .i64 sz, .int .i64 (val 0 : Int), .int .i64 (val 1 : Int), .int .i64 (val 2 : Int), .int .i64 (val 3 : Int), .int .i64 (val 4 : Int), .int .i64 (val 5 : Int)]).heap[k]? = W5.heap[k]? := fun k hk => setRow_other _ _ _ _ hk
  have hF5 : ∀ k, F3 k → k ≠ w.heap.size + 1 + 1 := fun k hk => (HS.out.2.1 k hk).elim (fun h5 => by have := HS.out.2.2.1 k h5; omega) (fun h5 => by omega)
  have hee := HS.out.2.2.2.2.2.1
  unfold GrowR
  refine .inl ⟨by rw [← hee]; exact HV0.out, by rw [← hee]; rfl, F3, c3, by omega, hv5.else hlow.size (fun k hk => hoth k (hF5 k hk)), stp_low (stp_grown HS.out.1 HB5.out) hlow⟩
end
end Go.Proofs.YthdlpeejmmobmaaGreat
