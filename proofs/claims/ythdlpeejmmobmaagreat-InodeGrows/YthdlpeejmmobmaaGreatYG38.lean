/- J6 J7 -/
import Derived.Test.YthdlpeejmmobmaaGreatYG37

namespace Go.Proofs.YthdlpeejmmobmaaGreat
open Go.RowKit Go.Maps
set_option linter.unusedVariables false
set_option maxRecDepth 100000
def slotV (x : Nat) (val : Nat → Nat) (s : Nat) : Value := if s < 6 then .iface 239 (.agg #[.pointer (some ⟨x, 3 + s, none⟩)]) else .iface 346 (.agg #[.int .i64 (val (par s) : Int), .int .i64 (plc s : Int)])
def fol (val : Nat → Nat) : Nat → List Nat → Nat × List Nat
 | s, [] => (s, [])
 | s, p :: ps => if val s = 0 then (s, p :: ps) else fol val (kid s p) ps
def Chn : Nat → List Nat → Prop
 | s, [] => s < 4230
 | s, p :: ps => inner s ∧ p < 64 ∧ Chn (kid s p) ps
theorem Chn.lt : ∀ {s : Nat} {ps : List Nat}, Chn s ps → s < 4230
 | _, [], h => h
 | _, _ :: _, h => inner_lt h.1
def Dino (w : World) (x : Nat) (val : Nat → Nat) : Prop := ∀ s, s < 6 → w.cell? ⟨x, 3 + s, none⟩ = some (.int .i64 (val s : Int))
theorem Dino.lt {w : World} {x : Nat} {val : Nat → Nat} (h : Dino w x val) : x < w.heap.size := Mk.lt_of_cell (h 0 (by omega))
theorem Dino.keq {w w' : World} {x : Nat} {val : Nat → Nat} (h : Dino w x val) (e : w'.heap[x]? = w.heap[x]?) : Dino w' x val := fun s hs => (cell_keq e).trans (h s hs)
theorem addrF (x u : Value) (w : World) : ((method 564 239 x "bollard/inode.address").run Tryz.prog w).andThen (fun a w' => (callFunc a.fst #[a.snd, u]).run Tryz.prog w') = .ok (.enter 336 #[x, u]) w := by kernel_rfl
theorem addrL (x u : Value) (w : World) : ((method 564 346 x "bollard/inode.address").run Tryz.prog w).andThen (fun a w' => (callFunc a.fst #[a.snd, u]).run Tryz.prog w') = .ok (.enter 341 #[x, u]) w := by kernel_rfl
theorem info156 : (Tryz.prog.info? 156).map (·.size) = some 3 := by kernel_rfl
theorem fol_go (val : Nat → Nat) (s p : Nat) (ps : List Nat) (h : val s ≠ 0) : fol val s (p :: ps) = fol val (kid s p) ps := if_neg h
theorem fol_stop (val : Nat → Nat) (s : Nat) (ps : List Nat) (h : val s = 0 ∨ ps = []) : fol val s ps = (s, ps) := by
 rcases h with h | rfl
 ·cases ps with
  | nil => rfl
  | cons p ps => exact if_pos h
 ·rfl
def endS : Nat → List Nat → Nat
 | s, [] => s
 | s, p :: ps => endS (kid s p) ps
theorem Tre.dead_end {A : Nat → Nat → Int} {val : Nat → Nat} (h : Tre A val) : ∀ {ps : List Nat} {s : Nat}, Chn s ps → val s = 0 → val (endS s ps) = 0
 | [], s, _, h0 => h0
 | p :: ps, s, hc, h0 => Tre.dead_end h (ps := ps) (s := kid s p) hc.2.2 (h.dead s hc.1 h0 p hc.2.1)
theorem Tre.fol_end {A : Nat → Nat → Int} {val : Nat → Nat} (h : Tre A val) : ∀ {ps : List Nat} {s : Nat}, Chn s ps → val (fol val s ps).1 = val (endS s ps)
 | [], s, _ => rfl
 | p :: ps, s, hc => by
  by_cases h0 : val s = 0
  ·rw [fol_stop _ _ _ (.inl h0), h.dead_end hc h0]; exact h0
  ·rw [fol_go _ _ _ _ h0, h.fol_end hc.2.2]; rfl
theorem fol_len (val : Nat → Nat) : ∀ (ps : List Nat) (s : Nat), (fol val s ps).2.length ≤ ps.length
 | [], s => Nat.le_refl _
 | p :: ps, s => by
  by_cases h0 : val s = 0
  ·rw [fol_stop _ _ _ (.inl h0)]; exact Nat.le_refl _
  ·rw [fol_go _ _ _ _ h0]; exact Nat.le_succ_of_le (fol_len val ps _)
theorem fol_ends (val : Nat → Nat) : ∀ (ps : List Nat) (s : Nat), endS (fol val s ps).1 (fol val s ps).2 = endS s ps
 | [], s => rfl
 | p :: ps, s => by
  by_cases h0 : val s = 0
  ·rw [fol_stop _ _ _ (.inl h0)]
  ·rw [fol_go _ _ _ _ h0]; exact fol_ends val ps _
theorem way_chn {n : Nat} (hn : n < 4164) : Chn (wayS n) (wayP n) ∧ endS (wayS n) (wayP n) = slotOf n ∧ wayS n < 6 ∧ (wayP n).length ≤ 2 := by
 unfold wayS wayP slotOf
 by_cases h4 : n < 4
 ·rw [if_pos h4, if_pos h4, if_pos h4]
  exact ⟨show n < 4230 by omega, rfl, by omega, by simp⟩
 ·rw [if_neg h4, if_neg h4, if_neg h4]
  by_cases h68 : n < 68
  ·rw [if_pos h68, if_pos h68, if_pos h68]
   have e : kid 4 (n - 4) = n + 2 := by unfold kid; rw [if_pos rfl]; omega
   refine ⟨⟨.inl rfl, by omega, ?_⟩, ?_, by omega, by simp⟩
   ·show kid 4 (n - 4) < 4230; omega
   ·show kid 4 (n - 4) = n + 2; exact e
  ·rw [if_neg h68, if_neg h68, if_neg h68]
   have e : kid 5 ((n - 68) / 64) = 70 + (n - 68) / 64 := by unfold kid; rw [if_neg (by omega), if_pos rfl]
   have e2 : kid (70 + (n - 68) / 64) ((n - 68) % 64) = n + 66 := by unfold kid; rw [if_neg (by omega), if_neg (by omega)]; omega
   refine ⟨⟨.inr (.inl rfl), by omega, ?_⟩, ?_, by omega, by simp⟩
   ·rw [e]
    refine ⟨.inr (.inr (by omega)), by omega, ?_⟩
    show kid (70 + (n - 68) / 64) ((n - 68) % 64) < 4230
    omega
   ·show kid (kid 5 ((n - 68) / 64)) ((n - 68) % 64) = n + 66
    rw [e, e2]
theorem one3 {a b c : Value} (ha : a.oneCell' = true) (hb : b.oneCell' = true) (hc : c.oneCell' = true) : (#[a, b, c] : Array Value).all (·.oneCell') = true := by simp [ha, hb, hc]
theorem one2 {a b : Value} (ha : a.oneCell' = true) (hb : b.oneCell' = true) : (#[a, b] : Array Value).all (·.oneCell') = true := by simp [ha, hb]
def plcN (w : World) (x : Nat) : Nat := match w.cell? ⟨x, 1, none⟩ with | some (.slice _ l _) => l | _ => 0
theorem ads_of_tre {I : Nat → List Int} {N : Nat} {val : Nat → Nat} (hT : Tre (adI I) val) (hR : ∀ i, i < 4230 → val i ≠ 0 → val i < N) (hN : N ≤ 2048) {j : Nat} (hj : inner j) (hv : val j ≠ 0) : Mk.Ads (Mk.fanZ (I (val j))) := by
 intro z hz
 obtain ⟨k, hk, e⟩ := List.getElem_of_mem hz
 rw [Mk.fanZ_len] at hk
 have h1 := hT.live j hj hv k hk
 rw [← fan_adI I (val j) hk, List.getD_eq_getElem?_getD, List.getElem?_eq_getElem (by rw [Mk.fanZ_len]; exact hk), e] at h1
 have h1 : z = _ := h1
 rw [h1]
 have hk := kid_lt hj hk
 by_cases e0 : val (kid j k) = 0
 ·rw [e0]; omega
 ·have := hR _ hk.2.1 e0; omega
section
variable [Inhabited Past] {w w' : World} {v : Nat} {F : Nat → Prop} {N : Nat} {I : Nat → List Int} {l c G B Q : Nat}
set_option maxHeartbeats 4000000 in
theorem follow_ok (h : Vol w v F N I l c) {val : Nat → Nat} (hT : Tre (adI I) val) (hR : ∀ i, i < 4230 → val i ≠ 0 → val i < N) {x : Nat} (hx : Dino w x val) (hxF : ¬ F x) {s : Nat} {ps : List Nat} (hs : Chn s ps) (h6 : 6 ≤ s → val (par s) ≠ 0) (q : Option Addr) (hq : Plc w q ps) (hqF : ∀ k, Pt.blkOf q = some k → ¬ F k ∧ k < w.heap.size) (hc : c + 4 < 4611686018427387904) :
  Calls Tryz.prog 79 #[.pointer (some ⟨v, 0, none⟩), .agg #[slotV x val s, .slice q ps.length ps.length]] w fun e w' => ∃ q', e = .returned (.tuple #[.agg #[slotV x val (fol val s ps).1, .slice q' (fol val s ps).2.length (fol val s ps).2.length, .int .i64 (val (fol val s ps).1 : Int)], .int .i64 0]) ∧ Plc w' q' (fol val s ps).2 ∧ (∀ k, Pt.blkOf q' = some k → Pt.blkOf q = some k) ∧
   Chn (fol val s ps).1 (fol val s ps).2 ∧ (6 ≤ (fol val s ps).1 → val (par (fol val s ps).1) ≠ 0) ∧ (val (fol val s ps).1 ≠ 0 → (fol val s ps).2 = []) ∧ ∃ F' c', c' ≤ c + 3 ∧ Vol w' v F' N I l c' ∧ Pt.Stp F F' w w' := by
 obtain ⟨W, hW⟩ : ∃ W, (w.alloc (Obj.cells #[slotV x val s, .slice q ps.length ps.length] 154)).alloc (Obj.cells #[.nilIface, .slice none 0 0, .int .i64 0] 156) = W := ⟨_, rfl⟩
 have hbW : Below w.heap.size w W := by rw [← hW]; exact ((Below.refl _ _).alloc (Nat.le_refl _) _).alloc (by simp) _
 have hxr : W.heap[w.heap.size]? = some (.cells #[slotV x val s, .slice q ps.length ps.length] 154 (0, 0)) := by rw [← hW]; exact at_old (at_new rfl)
 have hrr : W.heap[w.heap.size + 1]? = some (.cells #[.nilIface, .slice none 0 0, .int .i64 0] 156 (0, 0)) := by rw [← hW]; exact at_new (by simp)
 have hsz : W.heap.size = w.heap.size + 2 := by rw [← hW]; simp
 have hN := h.N1.2
 have hlt := h.lt
 have hxl := hx.lt
 have hl2 := hq.1
 have hsv : ∀ s, (slotV x val s).oneCell' = true := fun s => by unfold slotV; split <;> simp [Value.oneCell']
 have hI0 : ∃ (s1 : Nat) (ps1 : List Nat) (q1 : Option Addr) (F1 : Nat → Prop) (c1 : Nat), fol val s1 ps1 = fol val s ps ∧ Chn s1 ps1 ∧ (6 ≤ s1 → val (par s1) ≠ 0) ∧ Plc W q1 ps1 ∧ (∀ k, Pt.blkOf q1 = some k → Pt.blkOf q = some k) ∧ W.heap[w.heap.size]? = some (.cells #[slotV x val s1, .slice q1 ps1.length ps1.length] 154 (0, 0)) ∧
   W.heap[w.heap.size + 1]? = some (.cells #[.nilIface, .slice none 0 0, .int .i64 0] 156 (0, 0)) ∧ c1 + ps1.length ≤ c + ps.length ∧ Vol W v F1 N I l c1 ∧ Pt.Stp F F1 w W ∧ (∀ k, F1 k → F k ∨ w.heap.size + 2 ≤ k) := ⟨s, ps, q, F, c, rfl, hs, h6, hq.kept hbW, fun k hk => hk, hxr, hrr, by omega, h.later hbW, stp_grown (Pt.Stp.refl F w) hbW, fun k hk => .inl hk⟩
 have HQ : Hid ((∀ k, Pt.blkOf q = some k → ¬ F k ∧ k < w.heap.size) ∧ Below w.heap.size w W) := ⟨hqF, hbW⟩
 clear h hs h6 hq hqF hbW hxr hrr
 go_enter Tryz.func79, Tryz.ntmps79
 go_wp2_with fail
 go_loopw [5] (fun _ wr => ∃ (s1 : Nat) (ps1 : List Nat) (q1 : Option Addr) (F1 : Nat → Prop) (c1 : Nat), fol val s1 ps1 = fol val s ps ∧ Chn s1 ps1 ∧ (6 ≤ s1 → val (par s1) ≠ 0) ∧ Plc wr q1 ps1 ∧ (∀ k, Pt.blkOf q1 = some k → Pt.blkOf q = some k) ∧ wr.heap[w.heap.size]? = some (.cells #[slotV x val s1, .slice q1 ps1.length ps1.length] 154 (0, 0)) ∧
   wr.heap[w.heap.size + 1]? = some (.cells #[.nilIface, .slice none 0 0, .int .i64 0] 156 (0, 0)) ∧ c1 + ps1.length ≤ c + ps.length ∧ Vol wr v F1 N I l c1 ∧ Pt.Stp F F1 w wr ∧ (∀ k, F1 k → F k ∨ w.heap.size + 2 ≤ k)) (fun _ wr => plcN wr w.heap.size)
 case atStart => exact hI0
 case round =>
  clear hI0 hW
  obtain ⟨s1, ps1, q1, F1, c1, hf, hs1, h61, hq1, hqq, hr1, hr2, hcc, hv, hst, hnw⟩ := hrel
  have hs4 := hs1.lt
  have hw2 := (Array.getElem?_eq_some_iff.1 hr2).1
  have hF2 : ∀ k, k < w.heap.size + 2 → ¬ F k → ¬ F1 k := fun k hk hf hF => by
   rcases hnw k hF with h9 | h9
   ·exact hf h9
   ·omega
  have hFa : ∀ k, w.heap.size ≤ k → ¬ F k := fun k hk hf => by have := hlt k hf; omega
  have d0 := cell_of_row _ _ 0 _ _ _ hr1
  have hpl : plcN wr w.heap.size = ps1.length := by unfold plcN; rw [cell_of_row _ _ 1 _ _ _ hr1]; rfl
  have hx1 : Dino wr x val := hx.keq (hst.fr.block x hxl hxF)
  go_upto_region 1 with fail
  go_cut [6, 7] (fun v6 v7 wx => v6 = .int .i64 (val s1 : Int) ∧ v7 = .int .i64 0 ∧ ∃ F2 c2, c2 ≤ c1 + 1 ∧ Vol wx v F2 N I l c2 ∧ Pt.Stp F1 F2 wr wx)
  case first =>
   by_cases hs6 : s1 < 6
   ·have e1 : slotV x val s1 = .iface 239 (.agg #[.pointer (some ⟨x, 3 + s1, none⟩)]) := if_pos hs6
    rw [e1] at d0
    have had := fieldAddr_ok x (3 + s1) (val s1 : Int) (.pointer (some ⟨v, 0, none⟩)) wr (hx1 s1 hs6)
    go_wp2_with (first
     | (rw [addrF, Oper.upon_enter]; refine Calls.mono had ?_; rintro e wx ⟨rfl, hbx⟩; dsimp only))
    go_meet
    exact ⟨rfl, rfl, F1, c1, by omega, hv.later hbx, stp_grown (Pt.Stp.refl F1 wr) hbx⟩
   ·have e1 : slotV x val s1 = .iface 346 (.agg #[.int .i64 (val (par s1) : Int), .int .i64 (plc s1 : Int)]) := if_neg hs6
    rw [e1] at d0
    obtain ⟨a1, a2, a3⟩ := par_in (show 6 ≤ s1 by omega) hs4
    have hp0 := h61 (by omega)
    have had := leafAddr_ok hv (val (par s1)) (plc s1) (hR _ (inner_lt a1) hp0) a2 (ads_of_tre hT hR hN a1 hp0) (by omega)
    rw [fan_adI I _ a2, hT.live _ a1 hp0 _ a2, a3] at had
    go_wp2_with (first
     | (rw [addrL, Oper.upon_enter]; refine Calls.mono had ?_; rintro e wx ⟨rfl, F2, hv2, hst2⟩; dsimp only))
    go_meet
    exact ⟨rfl, rfl, F2, c1 + 1, by omega, hv2, hst2⟩
  case rest =>
   obtain ⟨rfl, rfl, F2, c2, hc2, hv2, hst2⟩ := hcut
   rename World => wx
   have hlt1 : ∀ k, k < w.heap.size + 2 → ¬ F k → wx.heap[k]? = wr.heap[k]? := fun k hk hf => hst2.fr.block k (by omega) (hF2 k hk hf)
   have hr1' := (hlt1 _ (by omega) (hFa _ (Nat.le_refl _))).trans hr1
   have hr2' := (hlt1 _ (by omega) (hFa _ (by omega))).trans hr2
   have hq1' : Plc wx q1 ps1 := hq1.keptIf (fun k hk => hlt1 k (by have := (HQ.out.1 k (hqq k hk)).2; omega) (HQ.out.1 k (hqq k hk)).1)
   have hil := isLast_ok (slotV x val s1) (hsv s1) q1 ps1.length ps1.length wx
   have hst3 : Pt.Stp F F2 w wx := stp_trans hst hst2
   have hnw2 : ∀ k, F2 k → F k ∨ w.heap.size + 2 ≤ k := fun k hk => (hst2.new k hk).elim (hnw k) (fun h9 => .inr (by have : wr.heap.size ≤ k := h9; omega))
   have hi154 : (Tryz.prog.info? 154).map (·.size) = some (#[slotV x val s1, .slice q1 ps1.length ps1.length] : Array Value).size := info154
   have hF2b : ∀ k, F2 k → k ≠ w.heap.size ∧ k ≠ w.heap.size + 1 := fun k hk => by
    rcases hnw2 k hk with h9 | h9
    ·have := hlt k h9; omega
    ·omega
   have hsz3 : w.heap.size + 2 ≤ wx.heap.size := by have := (Array.getElem?_eq_some_iff.1 hr2').1; omega
   have hend : ∀ (w4 : World), Below wx.heap.size wx w4 → (val s1 = 0 ∨ ps1 = []) → ∃ q', (Ending.returned (.tuple #[.agg #[slotV x val s1, .slice q1 ps1.length ps1.length, .int .i64 (val s1 : Int)], .int .i64 0])) = .returned (.tuple #[.agg #[slotV x val (fol val s ps).1, .slice q' (fol val s ps).2.length (fol val s ps).2.length, .int .i64 (val (fol val s ps).1 : Int)], .int .i64 0]) ∧ Plc (w4.setRow (w.heap.size + 1) #[slotV x val s1, .slice q1 ps1.length ps1.length, .int .i64 (val s1 : Int)]) q' (fol val s ps).2 ∧ (∀ k, Pt.blkOf q' = some k → Pt.blkOf q = some k) ∧
     Chn (fol val s ps).1 (fol val s ps).2 ∧ (6 ≤ (fol val s ps).1 → val (par (fol val s ps).1) ≠ 0) ∧ (val (fol val s ps).1 ≠ 0 → (fol val s ps).2 = []) ∧ ∃ F' c', c' ≤ c + 3 ∧ Vol (w4.setRow (w.heap.size + 1) #[slotV x val s1, .slice q1 ps1.length ps1.length, .int .i64 (val s1 : Int)]) v F' N I l c' ∧ Pt.Stp F F' w (w4.setRow (w.heap.size + 1) #[slotV x val s1, .slice q1 ps1.length ps1.length, .int .i64 (val s1 : Int)]) := by
    intro w4 hb4 hz
    have e : fol val s ps = (s1, ps1) := hf.symm.trans (fol_stop val s1 ps1 hz)
    have hs4z := hb4.size
    have hlow : Below w.heap.size w4 (w4.setRow (w.heap.size + 1) #[slotV x val s1, .slice q1 ps1.length ps1.length, .int .i64 (val s1 : Int)]) := below_setRow (Below.refl _ _) (by omega) _
    rw [e]
    refine ⟨q1, rfl, (hq1'.kept hb4).keptIf (fun k hk => setRow_other _ _ _ _ (by have := (HQ.out.1 k (hqq k hk)).2; omega)), hqq, hs1, h61, fun hv0 => hz.elim (fun h9 => absurd h9 hv0) id, F2, c2, by omega, (hv2.later hb4).else hlow.size (fun k hk => setRow_other _ _ _ _ (hF2b k hk).2), stp_low (stp_grown hst3 hb4) hlow⟩
   have HE := (show Hid _ from hend)
   clear hst hst2 hq1 hr1 hr2 hv hx1 d0 hend
   by_cases hv0 : val s1 = 0
   ·have hone : (#[slotV x val s1, .slice q1 ps1.length ps1.length, .int .i64 (val s1 : Int)] : Array Value).all (·.oneCell') = true := one3 (hsv s1) rfl rfl
    rw [hv0] at hone
    go_wp2_with (first
     | (refine wpList_load_row rfl 154 _ rfl w.heap.size rfl 154 _ (0, 0) _ hr1' Tryz.underlying154 rfl hi154 ?_)
     | (refine wpList_store_row rfl 156 _ _ rfl (w.heap.size + 1) #[slotV x val s1, .slice q1 ps1.length ps1.length, .int .i64 0] rfl rfl 156 _ hr2' info156 rfl hone ?_))
    refine bodyPost_ret (v := .tuple #[.agg #[slotV x val s1, .slice q1 ps1.length ps1.length, .int .i64 0], .int .i64 0]) (Mk.results_cell_tmp_row (p := 4) (u := 5) (ty := 156) Tryz.results79 _ _ (w.heap.size + 1) 156 _ (0, 0) _ rfl (setRow_heap _ _ _ _ _ _ hr2') Tryz.underlying156 rfl info156) rfl ?_
    have := HE.out wx (Below.refl _ _) (.inl hv0)
    rw [hv0] at this
    exact this
   ·cases ps1 with
    | nil =>
     have hone : (#[slotV x val s1, .slice q1 0 0, .int .i64 (val s1 : Int)] : Array Value).all (·.oneCell') = true := one3 (hsv s1) rfl rfl
     have hr1' : wx.heap[w.heap.size]? = some (.cells #[slotV x val s1, .slice q1 0 0] 154 (0, 0)) := hr1'
     have d0 := cell_of_row _ _ 0 _ _ _ hr1'
     have d1 := cell_of_row _ _ 1 _ _ _ hr1'
     have hvb : ((val s1 : Int) == 0) = false := by rw [beq_eq_false_iff_ne]; omega
     have hi2 : (Tryz.prog.info? 154).map (·.size) = some (#[slotV x val s1, .slice q1 0 0] : Array Value).size := info154
     have hil : Calls Tryz.prog 148 #[.agg #[slotV x val s1, .slice q1 0 0]] wx fun e w' => e = .returned (.bool true) ∧ Below wx.heap.size wx w' := hil
     go_wp2_with (first
      | (refine wpList_load_row rfl 154 _ rfl w.heap.size rfl 154 _ (0, 0) _ hr1' Tryz.underlying154 rfl hi2 ?_)
      | (refine Calls.mono hil ?_; rintro e w3 ⟨rfl, hb3⟩; have hr13 := (hb3.block _ (by omega)).trans hr1'; have hr23 := (hb3.block _ (by omega)).trans hr2'; dsimp only)
      | (refine wpList_load_row rfl 154 _ rfl w.heap.size rfl 154 _ (0, 0) _ hr13 Tryz.underlying154 rfl hi2 ?_)
      | (refine wpList_store_row rfl 156 _ _ rfl (w.heap.size + 1) #[slotV x val s1, .slice q1 0 0, .int .i64 (val s1 : Int)] rfl rfl 156 _ hr23 info156 rfl hone ?_))
     refine bodyPost_ret (v := .tuple #[.agg #[slotV x val s1, .slice q1 0 0, .int .i64 (val s1 : Int)], .int .i64 0]) (Mk.results_cell_tmp_row (p := 4) (u := 5) (ty := 156) Tryz.results79 _ _ (w.heap.size + 1) 156 _ (0, 0) _ rfl (setRow_heap _ _ _ _ _ _ hr23) Tryz.underlying156 rfl info156) rfl ?_
     exact HE.out w3 hb3 (.inr (by trivial))
    | cons p ps2 =>
     have hr1' : wx.heap[w.heap.size]? = some (.cells #[slotV x val s1, .slice q1 (ps2.length + 1) (ps2.length + 1)] 154 (0, 0)) := hr1'
     have d0 := cell_of_row _ _ 0 _ _ _ hr1'
     have d1 := cell_of_row _ _ 1 _ _ _ hr1'
     have hvb : ((val s1 : Int) == 0) = false := by rw [beq_eq_false_iff_ne]; omega
     have hi2 : (Tryz.prog.info? 154).map (·.size) = some (#[slotV x val s1, .slice q1 (ps2.length + 1) (ps2.length + 1)] : Array Value).size := info154
     have hil : Calls Tryz.prog 148 #[.agg #[slotV x val s1, .slice q1 (ps2.length + 1) (ps2.length + 1)]] wx fun e w' => e = .returned (.bool false) ∧ Below wx.heap.size wx w' := hil
     have hnx := fun (w3 : World) (hb3 : Below wx.heap.size wx w3) => next_ok (slotV x val s1) (hsv s1) q1 (val s1) p ps2 w3 (hq1'.kept hb3)
     clear HE
     go_wp2_with (first
      | (refine wpList_load_row rfl 154 _ rfl w.heap.size rfl 154 _ (0, 0) _ hr1' Tryz.underlying154 rfl hi2 ?_)
      | (refine Calls.mono hil ?_; rintro e w3 ⟨rfl, hb3⟩; have hr13 := (hb3.block _ (by omega)).trans hr1'; have hr23 := (hb3.block _ (by omega)).trans hr2'; dsimp only)
      | (refine wpList_load_row rfl 154 _ rfl w.heap.size rfl 154 _ (0, 0) _ hr13 Tryz.underlying154 rfl hi2 ?_)
      | (refine Calls.mono (hnx _ hb3) ?_; rintro e w4 ⟨q', rfl, hq', hqb, hb4⟩; have hr14 := (hb4.block _ (by have := hb3.size; omega)).trans hr13; have hr24 := (hb4.block _ (by have := hb3.size; omega)).trans hr23; dsimp only)
      | (refine wpList_store_row rfl 154 _ _ rfl w.heap.size #[.iface 346 (.agg #[.int .i64 (val s1 : Int), .int .i64 (p : Int)]), .slice q' ps2.length ps2.length] rfl rfl 154 _ hr14 info154 rfl (one2 rfl rfl) ?_))
     have hs3z := hb3.size
     have hs4z := hb4.size
     obtain ⟨a1, a2, a3⟩ := hs1
     obtain ⟨k1, k2⟩ := par_kid a1 a2
     have hk6 := (kid_lt a1 a2).1
     have esv : slotV x val (kid s1 p) = .iface 346 (.agg #[.int .i64 (val s1 : Int), .int .i64 (p : Int)]) := by unfold slotV; rw [if_neg (by omega), k1, k2]
     have hrn := setRow_heap w4 w.heap.size _ #[.iface 346 (.agg #[.int .i64 (val s1 : Int), .int .i64 (p : Int)]), .slice q' ps2.length ps2.length] 154 (0, 0) hr14
     have hlow : Below w.heap.size w4 (w4.setRow w.heap.size #[.iface 346 (.agg #[.int .i64 (val s1 : Int), .int .i64 (p : Int)]), .slice q' ps2.length ps2.length]) := below_setRow (Below.refl _ _) (Nat.le_refl _) _
     have hb34 : Below wx.heap.size wx w4 := hb3.trans (hb4.mono hb3.size)
     go_roundw
     case rel =>
      refine ⟨_, _, _, _, _, _, _, _, _, _, _, _, _, _, _, _, _, _, _, _, _, _, _, _, _, _, _, _, ?_, rfl⟩
      refine ⟨kid s1 p, ps2, q', F2, c2, (fol_go val s1 p ps2 hv0).symm.trans hf, a3, fun _ => by rw [k1]; exact hv0, hq'.keptIf (fun k hk => setRow_other _ _ _ _ (by have := (HQ.out.1 k (hqq k (hqb k hk))).2; omega)), fun k hk => hqq k (hqb k hk), ?_, ?_, ?_, ?_, ?_, ?_⟩
      ·rw [esv]; exact hrn
      ·exact (setRow_other _ _ _ _ (by omega)).trans hr24
      ·simp only [List.length_cons] at hcc; omega
      ·exact (hv2.later hb34).else hlow.size (fun k hk => setRow_other _ _ _ _ (hF2b k hk).1)
      ·exact stp_low (stp_grown hst3 hb34) hlow
      ·exact hnw2
     case measure =>
      rw [hpl]
      unfold plcN
      rw [cell_of_row _ _ 1 _ _ _ hrn]
      exact Nat.lt_succ_self _
end
end Go.Proofs.YthdlpeejmmobmaaGreat

namespace Go.Proofs.YthdlpeejmmobmaaGreat
open Go.RowKit Go.Maps
open Mk.Al (putY rowOf)
set_option linter.unusedVariables false
set_option maxRecDepth 100000
theorem info242 : (Tryz.prog.info? 242).map (·.size) = some 3 := by kernel_rfl
section
variable [Inhabited Past] {w w' : World} {v : Nat} {F : Nat → Prop} {N : Nat} {I : Nat → List Int} {l c G B Q : Nat}
set_option maxHeartbeats 4000000 in
theorem gives_ok (h : Vol w v F N I l c) (hg : Geo G B Q N) {H : Nat → List Int} (hH : Hds I G B H) {near : Nat} (hn : near < G) (hc : c + 8 < 4611686018427387904) (hl1 : l + 2 ≤ 10000) :
  Calls Tryz.prog 152 #[.pointer (some ⟨v, 0, none⟩), Mk.geomV G B Q, .int .i64 (near : Int)] w fun e w' => ∃ F' c', c' ≤ c + 8 ∧ Pt.Stp F F' w w' ∧
   ((e = .returned (.tuple #[.agg #[.int .i64 0, .int .i64 0, .int .i64 0], .int .i64 5]) ∧ Vol w' v F' N I l c') ∨
    (∃ (b : Nat) (I2 H2 : Nat → List Int), e = .returned (.tuple #[.agg #[.int .i64 (b : Int), .int .i64 ((l + 1 : Nat) : Int), .int .i64 ((l + 2 : Nat) : Int)], .int .i64 0]) ∧ Gvn1 I I2 G B Q N H H2 b ∧ Vol w' v F' N I2 (l + 2) c')) := by
 obtain ⟨W, hW⟩ : ∃ W, (w.alloc (Mk.geomO G B Q)).alloc (.cells #[.int .i64 0, .int .i64 0, .int .i64 0] 242) = W := ⟨_, rfl⟩
 have hb : Below w.heap.size w W := by rw [← hW]; exact ((Below.refl _ _).alloc (Nat.le_refl _) _).alloc (by simp) _
 have hx : W.heap[w.heap.size]? = some (Mk.geomO G B Q) := by rw [← hW]; exact at_old (at_new rfl)
 have hr : W.heap[w.heap.size + 1]? = some (.cells #[.int .i64 0, .int .i64 0, .int .i64 0] 242 (0, 0)) := by rw [← hW]; exact at_new (by simp)
 have hsz : W.heap.size = w.heap.size + 2 := by rw [← hW]; simp
 have c0 := (g3_of hx).c0
 have c1 := (g3_of hx).c1
 have c2 := (g3_of hx).c2
 have hlt := h.lt
 have hsec := fun b => (h.sect b).1
 have hbk := block_ok (h.later hb) hg hH hn hc (by omega) none 0 0 [] (ii_nil W) (fun k hk => by cases hk) rfl (by omega)
 have HB : Hid (Below w.heap.size w W ∧ (∀ k, F k → k < w.heap.size)) := ⟨hb, hlt⟩
 clear h hb hlt
 go_enter Tryz.func152, Tryz.ntmps152
 go_wp2_with fail
 refine Calls.mono hbk ?_
 rintro e w1 ⟨h1, h2⟩
 cases ho : nst H false G B Q near G with
 | none =>
  obtain ⟨rfl, F', c', hc', hv, hst⟩ := h2 ho
  clear h1 h2
  have hr1 : w1.heap[w.heap.size + 1]? = _ := (hst.fr.block _ (by omega) (fun hf => by have := HB.out.2 _ hf; omega)).trans hr
  dsimp only
  go_wp2_with (first
   | (refine wpList_store_row rfl 242 _ _ rfl (w.heap.size + 1) #[.int .i64 0, .int .i64 0, .int .i64 0] rfl rfl 242 _ hr1 info242 rfl (one3 rfl rfl rfl) ?_))
  have hlow : Below w.heap.size w1 (w1.setRow (w.heap.size + 1) #[.int .i64 0, .int .i64 0, .int .i64 0]) := below_setRow (Below.refl _ _) (by omega) _
  refine bodyPost_ret (v := .tuple #[.agg #[.int .i64 0, .int .i64 0, .int .i64 0], .int .i64 5]) (Mk.results_cell_tmp_row (p := 6) (u := 7) (ty := 242) Tryz.results152 _ _ (w.heap.size + 1) 242 _ (0, 0) _ rfl (setRow_heap _ _ _ _ _ _ hr1) Tryz.underlying242 rfl info242) rfl ?_
  have hF2 : ∀ k, F' k → k ≠ w.heap.size + 1 := fun k hk => (hst.new k hk).elim (fun h9 => by have := HB.out.2 k h9; omega) (fun h9 => by have : W.heap.size ≤ k := h9; omega)
  exact ⟨F', c', hc', stp_low (stp_after HB.out.1 hst) hlow, .inl ⟨rfl, hv.else hlow.size (fun k hk => setRow_other _ _ _ _ (hF2 k hk))⟩⟩
 | some ni =>
  obtain ⟨n, i⟩ := ni
  obtain ⟨rfl, F', c', hc', hv, hst⟩ := h1 n i ho
  clear h1 h2
  have hgv := gvn1_mk hg hH hsec ho
  have hr1 : w1.heap[w.heap.size + 1]? = _ := (hst.fr.block _ (by omega) (fun hf => by have := HB.out.2 _ hf; omega)).trans hr
  obtain ⟨b, hbe⟩ : ∃ b, n * B + i = b := ⟨_, rfl⟩
  rw [hbe] at hgv ⊢
  obtain ⟨i0, hi, hz0, hz1, hz2⟩ := info_parts Mk.info5
  have hF2 : ∀ k, F' k → k ≠ w.heap.size + 1 ∧ k < w1.heap.size := fun k hk => ⟨(hst.new k hk).elim (fun h9 => by have := HB.out.2 k h9; omega) (fun h9 => by have : W.heap.size ≤ k := h9; omega), hv.lt k hk⟩
  have hs1 := hst.fr.size
  have HV : Hid (Vol w1 v F' N (putH I B n (putY false (H n) i true)) (l + 1) c' ∧ Pt.Stp F F' W w1) := ⟨hv, hst⟩
  clear hv hst
  dsimp only
  go_wp2_with (first
   | (at_make; (refine wpList_make_full _ rfl _ _ 42 rfl w1.heap.size 5 i0 (.int .u8 0) 1 Tryz.underlying42 hi hz0 hz1 .i64 .i64 _ _ 128 rfl rfl rfl rfl (by rw [hz2]; omega) (by unfold maxLen; omega) (Nat.le_refl _) ?_; intro w2 hown hgrow)))
  have hb2 : Below w1.heap.size w1 w2 := (Below.refl _ w1).grown hgrow (Nat.le_refl _) (by intro k hk; cases hk)
  rw [made_list _ 128 rfl] at hown
  have hO : Own w1.heap.size w2 w1.heap.size 128 128 (Mk.zers 128) := by
   unfold Own
   have e : (Mk.zers 128).map (Value.int .u8) = List.replicate 128 (Value.int .u8 0) := by unfold Mk.zers; rw [List.map_replicate]
   rw [e]; exact hown
  obtain ⟨W5, hW5⟩ : ∃ W5, w2.alloc (Obj.cells #[.int .i64 ((l : Int) + 1)] 3) = W5 := ⟨_, rfl⟩
  have hb5 : Below w2.heap.size w2 W5 := by rw [← hW5]; exact Mk.grew_alloc _ _
  have h5 : W5.heap[w2.heap.size]? = some (.cells #[.int .i64 ((l : Int) + 1)] 3 (0, 0)) := by rw [← hW5]; exact at_new rfl
  rw [hW5]
  have hs2 : w1.heap.size < w2.heap.size := (hO.lt _ rfl).2
  have hb15 : Below w1.heap.size w1 W5 := hb2.trans (hb5.mono (by omega))
  have hii : Pt.II W5 (some ⟨w2.heap.size, 0, none⟩) 1 [((l : Int) + 1)] := ⟨rfl, by omega, fun x hx => by rw [List.mem_singleton] at hx; rw [hx]; exact ⟨by omega, by omega⟩, fun _ => ⟨_, 0, rfl, fun k hk => by
   obtain rfl : k = 0 := by omega
   exact cell_of_row _ _ 0 _ _ _ h5⟩⟩
  have hbi : BI W5 (some ⟨w1.heap.size, 0, none⟩) 128 (Mk.zers 128) := (hO.kept hb5).bi (by omega) (Mk.zers_byt 128)
  have hvF := (HV.out.1).mem
  have hch : Calls Tryz.prog 17 #[.pointer (some ⟨v, 0, none⟩), .int .i64 (b : Int), .int .i64 0, .slice (some ⟨w1.heap.size, 0, none⟩) 128 128, .slice (some ⟨w2.heap.size, 0, none⟩) 1 1] W5 fun e w' => e = .returned (.tuple #[.int .i64 ((l + 1 + 1 : Nat) : Int), .int .i64 0]) ∧ ∃ F2, Vol w' v F2 N (updI (putH I B n (putY false (H n) i true)) b 0 (Mk.zers 128)) (l + 1 + 1) c' ∧ Pt.Stp F' F2 W5 w' :=
   vol_change (HV.out.1.later hb15) (by omega) b 0 hgv.lt (some ⟨w1.heap.size, 0, none⟩) 128 128 (Mk.zers 128) hbi (fun k hk e => by
    have h9 : w1.heap.size = k := Option.some.inj hk
    have := (hF2 v hvF).2; omega) (by omega) (by omega) (some ⟨w2.heap.size, 0, none⟩) 1 1 [((l : Int) + 1)] hii (fun k hk e => by
    have h9 : w2.heap.size = k := Option.some.inj hk
    have := (hF2 v hvF).2; omega) (by simp [Pt.kn]; omega) (by omega)
  refine Calls.mono hch ?_
  rintro e w6 ⟨rfl, F6, hv6, hst6⟩
  have hr5 := (hb15.block _ (by omega)).trans hr1
  have hr6 : w6.heap[w.heap.size + 1]? = _ := (hst6.fr.block _ (by have := hb15.size; omega) (fun hf => (hF2 _ hf).1 rfl)).trans hr5
  have e2 : (((l + 1 + 1 : Nat)) : Int) = (l : Int) + 1 + 1 := by omega
  dsimp only
  go_wp2_with (first
   | (refine wpList_store_row rfl 242 _ _ rfl (w.heap.size + 1) #[.int .i64 (b : Int), .int .i64 ((l : Int) + 1), .int .i64 ((l : Int) + 1 + 1)] rfl rfl 242 _ hr6 info242 rfl (one3 rfl rfl rfl) ?_))
  have hs5 := hb15.size
  have hs6 := hst6.fr.size
  have hF6 : ∀ k, F6 k → k ≠ w.heap.size + 1 := fun k hk => (hst6.new k hk).elim (fun h9 => (hF2 k h9).1) (fun h9 => by have : W5.heap.size ≤ k := h9; omega)
  have hlow : Below w.heap.size w6 (w6.setRow (w.heap.size + 1) #[.int .i64 (b : Int), .int .i64 ((l : Int) + 1), .int .i64 ((l : Int) + 1 + 1)]) := below_setRow (Below.refl _ _) (by omega) _
  refine bodyPost_ret (v := .tuple #[.agg #[.int .i64 (b : Int), .int .i64 ((l : Int) + 1), .int .i64 ((l : Int) + 1 + 1)], .int .i64 0]) (Mk.results_cell_tmp_row (p := 6) (u := 7) (ty := 242) Tryz.results152 _ _ (w.heap.size + 1) 242 _ (0, 0) _ rfl (setRow_heap _ _ _ _ _ _ hr6) Tryz.underlying242 rfl info242) rfl ?_
  exact ⟨F6, c', hc', stp_low (stp_trans (stp_grown (stp_after HB.out.1 HV.out.2) hb15) hst6) hlow, .inr ⟨b, _, _, rfl, hgv, hv6.else hlow.size (fun k hk => setRow_other _ _ _ _ (hF6 k hk))⟩⟩
end
end Go.Proofs.YthdlpeejmmobmaaGreat
