/- PUpp PGet -/
import Derived.Test.YthdlpeejmmobmaaGreatYG10
import Derived.Deep.RegionHeld3

namespace Go.Proofs.YthdlpeejmmobmaaGreat.Pt
open Go.RowKit Go.Maps
set_option maxRecDepth 100000
set_option linter.unusedVariables false
def endP (p : Pv) : Nat := p.off + p.bs.length
theorem end_ok (p : Pv) (w : World) (h : p.off + p.bs.length ≤ 128) : Calls Tryz.prog 217 #[p.v] w fun e w' => e = .returned (.int .i64 (endP p : Int)) ∧ Below w.heap.size w w' := by
 have hb := (Below.refl w.heap.size w).alloc (Nat.le_refl _) (Obj.cells p.cells 218)
 obtain ⟨W, hW⟩ : ∃ W, w.alloc (.cells p.cells 218) = W := ⟨_, rfl⟩
 rw [hW] at hb
 have c2 : W.cell? ⟨w.heap.size, 2, none⟩ = some (.int .i64 (p.off : Int)) := by rw [← hW, cell_of_row _ _ 2 _ 218 _ (at_new rfl)]; rfl
 have c3 : W.cell? ⟨w.heap.size, 3, none⟩ = some (.slice p.bp p.bs.length p.bc) := by rw [← hW, cell_of_row _ _ 3 _ 218 _ (at_new rfl)]; rfl
 have hv : p.v = .agg p.cells := rfl
 have HE : Hid ((endP p : Int) = (p.off : Int) + (p.bs.length : Int)) := by show _ = _; unfold endP; omega
 go_enter Tryz.func217, Tryz.ntmps217
 go_wp2
 go_ret
 exact ⟨by rw [HE.out]; rfl, hb⟩
def covA (cov : List Bool) : Array Value := (cov.map Value.bool).toArray
def trs : List Bool → Nat
 | [] => 0
 | b :: l => b.toNat + trs l
theorem trs_le : ∀ l : List Bool, trs l ≤ l.length
 | [] => Nat.le_refl _
 | b :: l => by have := trs_le l; cases b <;> simp [trs] <;> omega
theorem trs_set : ∀ (l : List Bool) (i : Nat), l.getD i true = false → trs (l.set i true) = trs l + 1
 | [], i, h => by simp at h
 | b :: l, 0, h => by
  simp at h; subst h
  simp [trs]; omega
 | b :: l, i + 1, h => by
  have := trs_set l i (by simpa using h)
  simp only [List.set_cons_succ, trs, this]
  omega
def cvs (s : List Bool × Int) (i : Nat) : List Bool × Int := if s.1.getD i true then s else (s.1.set i true, s.2 - 1)
def cvr (s : List Bool × Int) (lo : Nat) : Nat → List Bool × Int
 | 0 => s
 | k + 1 => cvs (cvr s lo k) (lo + k)
def Oth (gi : Nat) (w w' : World) : Prop := w.heap.size ≤ w'.heap.size ∧ ∀ k o, w.heap[k]? = some o → k ≠ gi → (∀ cs, o ≠ .cells cs 3 (0, 0)) → (∀ cs, o ≠ .cells cs 330 (0, 0)) → w'.heap[k]? = some o
theorem Oth.refl (gi : Nat) (w : World) : Oth gi w w := ⟨Nat.le_refl _, fun _ _ h _ _ _ => h⟩
theorem Oth.trans {gi : Nat} {a b c : World} (h : Oth gi a b) (k : Oth gi b c) : Oth gi a c := ⟨Nat.le_trans h.1 k.1, fun i o hi hn h3 h1 => k.2 i o (h.2 i o hi hn h3 h1) hn h3 h1⟩
theorem oth_below {gi : Nat} {w w' : World} (hb : Below w.heap.size w w') : Oth gi w w' := ⟨hb.size, fun k o hk _ _ _ => by rw [hb.block k (Array.getElem?_eq_some_iff.1 hk).1]; exact hk⟩
theorem oth_set {gi : Nat} {w : World} {p : Addr} {u : Value} (h : ∀ o, w.heap[p.block]? = some o → p.block ≠ gi → (∀ cs, o ≠ .cells cs 3 (0, 0)) → (∀ cs, o ≠ .cells cs 330 (0, 0)) → False) : Oth gi w (w.setCell p u) :=
 ⟨by simp, fun k o hk hn h3 h1 => by
  by_cases e : k = p.block
  ·subst e; exact (h o hk hn h3 h1).elim
  ·rw [Below.heap_setCell _ _ _ _ e]; exact hk⟩
structure UP (T : Nat) (w0 w : World) (p : Pv) (gb gp gv gi : Nat) (iv : Value) (cov : List Bool) (bare : Int) (I : List Int) : Prop where
 bel : Below T w0 w
 sz : T ≤ w0.heap.size
 oth : Oth gi w0 w
 rb : w.heap[gb]? = some (.cells #[.int .i64 bare] 3 (0, 0))
 rp : w.heap[gp]? = some (.cells p.cells 218 (0, 0))
 rv : w.heap[gv]? = some (.cells (covA cov) 330 (0, 0))
 ri : w.heap[gi]? = some (.cells #[iv] 49 (0, 0))
 cl : cov.length = 128
 br : bare + (trs cov : Int) = (p.bs.length : Int)
 ids : Nums (gb + 1) w iv I
 lo : T ≤ gb ∧ T ≤ gp ∧ T ≤ gv ∧ T ≤ gi
section
variable {T : Nat} {w0 w w' : World} {p : Pv} {gb gp gv gi : Nat} {iv : Value} {cov : List Bool} {bare : Int} {I : List Int}
theorem UP.hT (h : UP T w0 w p gb gp gv gi iv cov bare I) : T ≤ w.heap.size := Nat.le_trans h.sz h.bel.size
theorem UP.ne (h : UP T w0 w p gb gp gv gi iv cov bare I) : iv.ownBlock ≠ some gb := fun e => by
 have := (World.ownsRow.lt h.ids gb e).1
 omega
theorem UP.kept (h : UP T w0 w p gb gp gv gi iv cov bare I) (hb : Below w.heap.size w w') : UP T w0 w' p gb gp gv gi iv cov bare I := by
 have lt : ∀ {g : Nat} {o : Obj}, w.heap[g]? = some o → g < w.heap.size := fun e => (Array.getElem?_eq_some_iff.1 e).1
 exact ⟨h.bel.trans (hb.mono h.hT), h.sz, h.oth.trans (oth_below hb), by rw [hb.block _ (lt h.rb)]; exact h.rb, by rw [hb.block _ (lt h.rp)]; exact h.rp, by rw [hb.block _ (lt h.rv)]; exact h.rv, by rw [hb.block _ (lt h.ri)]; exact h.ri, h.cl, h.br, h.ids.kept hb, h.lo⟩
theorem covA_set (cov : List Bool) (i : Nat) : (covA cov).setIfInBounds i (.bool true) = covA (cov.set i true) := by
 unfold covA
 rw [List.setIfInBounds_toArray, List.map_set]
theorem UP.mark (h : UP T w0 w p gb gp gv gi iv cov bare I) (i : Nat) (hi : cov.getD i true = false) :
  UP T w0 ((w.setCell ⟨gv, i, none⟩ (.bool true)).setCell ⟨gb, 0, none⟩ (.int .i64 (bare - 1))) p gb gp gv gi iv (cov.set i true) (bare - 1) I := by
 have nbv : gb ≠ gv := own_ne h.rb h.rv (by decide)
 have npv : gp ≠ gv := own_ne h.rp h.rv (by decide)
 have niv : gi ≠ gv := own_ne h.ri h.rv (by decide)
 have npb : gp ≠ gb := own_ne h.rp h.rb (by decide)
 have nib : gi ≠ gb := own_ne h.ri h.rb (by decide)
 have b1 : (w.setCell ⟨gv, i, none⟩ (.bool true)).heap[gb]? = some (.cells #[.int .i64 bare] 3 (0, 0)) := by rw [Below.heap_setCell _ _ _ _ nbv]; exact h.rb
 refine ⟨(h.bel.setCell (p := ⟨gv, i, none⟩) h.lo.2.2.1 _).setCell (p := ⟨gb, 0, none⟩) h.lo.1 _, h.sz, h.oth.trans ((oth_set (p := ⟨gv, i, none⟩) (fun o ho _ _ h1 => h1 _ (Option.some.inj (ho.symm.trans h.rv)))).trans (oth_set (p := ⟨gb, 0, none⟩) (fun o ho _ h3 _ => h3 _ (Option.some.inj (ho.symm.trans b1))))), one_setCell b1, ?_, ?_, ?_, by simp [h.cl], by have := h.br; have := trs_set cov i hi; omega, ?_, h.lo⟩
 ·rw [Below.heap_setCell _ _ _ _ npb, Below.heap_setCell _ _ _ _ npv]; exact h.rp
 ·rw [Below.heap_setCell _ _ _ _ nbv.symm, heap_setCell_same _ _ _ _ _ _ h.rv, covA_set]
 ·rw [Below.heap_setCell _ _ _ _ nib, Below.heap_setCell _ _ _ _ niv]; exact h.ri
 ·refine h.ids.keptAt (fun g hg => ?_)
  obtain ⟨ds, h3⟩ := nums_row h.ids hg
  rw [Below.heap_setCell _ _ _ _ (fun e => h.ne (by rw [hg, e])), Below.heap_setCell _ _ _ _ (own_ne h3 h.rv (by decide))]
theorem UP.store {o : Obj} {w5 : World} {v' : Value} {I' : List Int} (h : UP T w0 w p gb gp gv gi iv cov bare I)
  (hg : (w.alloc o).grownBy w5 iv.ownBlock) (hn : Nums (gb + 1) w5 v' I') : UP T w0 (w5.setCell ⟨gi, 0, none⟩ v') p gb gp gv gi v' cov bare I' := by
 have hT := h.hT
 have hbl : gb < w.heap.size := (Array.getElem?_eq_some_iff.1 h.rb).1
 have r1 : w5.heap[gb]? = some (.cells #[.int .i64 bare] 3 (0, 0)) := by
  rw [hg.block gb (by simp; omega) (fun e => h.ne e.symm)]
  exact at_old h.rb
 have r2 := grown_at h.ids hg h.rp (fun cs e => by simp at e)
 have r3 := grown_at h.ids hg h.rv (fun cs e => by simp at e)
 have r4 := grown_at h.ids hg h.ri (fun cs e => by simp at e)
 have hb5 : Below T w0 w5 := (h.bel.alloc hT o).grown hg (by simp; omega) (fun k hk => by have := (World.ownsRow.lt h.ids k hk).1; have := h.lo.1; omega)
 have other : ∀ k, k ≠ gi → (w5.setCell ⟨gi, 0, none⟩ v').heap[k]? = w5.heap[k]? := fun k hk => Below.heap_setCell w5 ⟨gi, 0, none⟩ v' k hk
 have ho5 : Oth gi w w5 := ⟨by have := hg.size; simp at this; omega, fun k o hk hn h3 _ => by
  rw [hg.block k (by have := (Array.getElem?_eq_some_iff.1 hk).1; simp; omega) (fun e => by
   obtain ⟨cs, hc⟩ := nums_row h.ids e.symm
   exact h3 cs (Option.some.inj (hk.symm.trans hc)))]
  exact at_old hk⟩
 refine ⟨hb5.setCell (p := ⟨gi, 0, none⟩) h.lo.2.2.2 v', h.sz, h.oth.trans (ho5.trans (oth_set (p := ⟨gi, 0, none⟩) (fun o ho hn _ _ => hn rfl))), ?_, ?_, ?_, one_setCell r4, h.cl, h.br, ?_, h.lo⟩
 ·rw [other gb (own_ne r1 r4 (by decide))]; exact r1
 ·rw [other gp (own_ne r2 r4 (by decide))]; exact r2
 ·rw [other gv (own_ne r3 r4 (by decide))]; exact r3
 ·refine hn.keptAt (fun g hg => ?_)
  obtain ⟨ds, h3⟩ := nums_row hn hg
  exact other g (own_ne h3 r4 (by decide))
end
def loP (p u : Pv) : Nat := max p.off u.off
def kP (p u : Pv) : Nat := min (endP p) (endP u) - loP p u
def upS (p u : Pv) (s : List Bool × Int) : List Bool × Int := cvr s (loP p u) (kP p u)
def upI (p u : Pv) (s : List Bool × Int) (I : List Int) : List Int := if (upS p u s).2 < s.2 then I ++ [(u.id : Int)] else I
theorem cov_cell {w : World} {gv : Nat} {cov : List Bool} (h : w.heap[gv]? = some (.cells (covA cov) 330 (0, 0))) (i : Nat) (hi : i < cov.length) : w.cell? ⟨gv, i, none⟩ = some (.bool (cov.getD i true)) := by
 rw [cell_of_row _ _ i _ 330 _ h]
 unfold covA
 rw [List.getElem?_toArray, List.getElem?_map, List.getElem?_eq_getElem hi, List.getD_eq_getElem?_getD, List.getElem?_eq_getElem hi]
 rfl
structure UQ (T : Nat) (w0 w : World) (p u : Pv) (gb gp gv gi gu : Nat) (iv : Value) (cov : List Bool) (bare : Int) (I : List Int) : Prop where
 up : UP T w0 w p gb gp gv gi iv cov bare I
 ru : w.heap[gu]? = some (.cells u.cells 218 (0, 0))
theorem UQ.kept {T : Nat} {w0 w w' : World} {p u : Pv} {gb gp gv gi gu : Nat} {iv : Value} {cov : List Bool} {bare : Int} {I : List Int} (h : UQ T w0 w p u gb gp gv gi gu iv cov bare I) (hb : Below w.heap.size w w') : UQ T w0 w' p u gb gp gv gi gu iv cov bare I :=
 ⟨h.up.kept hb, by rw [hb.block _ (Array.getElem?_eq_some_iff.1 h.ru).1]; exact h.ru⟩
theorem cells5 {w : World} {g : Nat} {p : Pv} (h : w.heap[g]? = some (.cells p.cells 218 (0, 0))) : w.cell? ⟨g, 0, none⟩ = some (.int .i64 (p.id : Int)) ∧ w.cell? ⟨g, 1, none⟩ = some (.int .i64 (p.blk : Int)) ∧ w.cell? ⟨g, 2, none⟩ = some (.int .i64 (p.off : Int)) ∧ w.cell? ⟨g, 3, none⟩ = some (.slice p.bp p.bs.length p.bc) ∧ w.cell? ⟨g, 4, none⟩ = some (.slice p.np p.nd.length p.nc) := by
 refine ⟨?_, ?_, ?_, ?_, ?_⟩
 ·rw [cell_of_row _ _ 0 _ 218 _ h]; rfl
 ·rw [cell_of_row _ _ 1 _ 218 _ h]; rfl
 ·rw [cell_of_row _ _ 2 _ 218 _ h]; rfl
 ·rw [cell_of_row _ _ 3 _ 218 _ h]; rfl
 ·rw [cell_of_row _ _ 4 _ 218 _ h]; rfl
abbrev T10 (w : World) (gp gu : Nat) (p u : Pv) : Prop :=
 w.cell? ⟨gp, 0, none⟩ = some (.int .i64 (p.id : Int)) ∧ w.cell? ⟨gp, 1, none⟩ = some (.int .i64 (p.blk : Int)) ∧ w.cell? ⟨gp, 2, none⟩ = some (.int .i64 (p.off : Int)) ∧ w.cell? ⟨gp, 3, none⟩ = some (.slice p.bp p.bs.length p.bc) ∧ w.cell? ⟨gp, 4, none⟩ = some (.slice p.np p.nd.length p.nc) ∧
 w.cell? ⟨gu, 0, none⟩ = some (.int .i64 (u.id : Int)) ∧ w.cell? ⟨gu, 1, none⟩ = some (.int .i64 (u.blk : Int)) ∧ w.cell? ⟨gu, 2, none⟩ = some (.int .i64 (u.off : Int)) ∧ w.cell? ⟨gu, 3, none⟩ = some (.slice u.bp u.bs.length u.bc) ∧ w.cell? ⟨gu, 4, none⟩ = some (.slice u.np u.nd.length u.nc)
theorem UQ.rds {T : Nat} {w0 w : World} {p u : Pv} {gb gp gv gi gu : Nat} {iv : Value} {cov : List Bool} {bare : Int} {I : List Int} (h : UQ T w0 w p u gb gp gv gi gu iv cov bare I) : T10 w gp gu p u := by
 obtain ⟨a0, a1, a2, a3, a4⟩ := cells5 h.up.rp
 exact ⟨a0, a1, a2, a3, a4, cells5 h.ru⟩
set_option maxRecDepth 100000 in
set_option maxHeartbeats 4000000 in
theorem upp1_ok {T : Nat} {w0 w : World} {p : Pv} {gb gp gv gi : Nat} {iv : Value} {cov : List Bool} {bare : Int} {I : List Int} (h : UP T w0 w p gb gp gv gi iv cov bare I) (u : Pv) (hu : u.off + u.bs.length ≤ 128) (hui : u.id ≤ 10000) (hp : p.off + p.bs.length ≤ 128) (hI : I.length ≤ 10000) :
  Calls Tryz.prog 216 #[u.v, .pointer (some ⟨gb, 0, none⟩), .pointer (some ⟨gp, 0, none⟩), .pointer (some ⟨gv, 0, none⟩), .pointer (some ⟨gi, 0, none⟩)] w
   fun e w' => e = .returned (.bool (decide (0 < (upS p u (cov, bare)).2))) ∧ ∃ iv', UP T w0 w' p gb gp gv gi iv' (upS p u (cov, bare)).1 (upS p u (cov, bare)).2 (upI p u (cov, bare) I) := by
 obtain ⟨W, hW⟩ : ∃ W, w.alloc (.cells u.cells 218) = W := ⟨_, rfl⟩
 have hbW : Below w.heap.size w W := by rw [← hW]; exact (Below.refl _ w).alloc (Nat.le_refl _) _
 have hU0 := h.kept hbW
 have hru : W.heap[w.heap.size]? = some (.cells u.cells 218 (0, 0)) := by rw [← hW]; exact at_new rfl
 have cb : W.cell? ⟨gb, 0, none⟩ = some (.int .i64 bare) := by rw [cell_of_row _ _ 0 _ 3 _ hU0.rb]; rfl
 have cp : W.cell? ⟨gp, 2, none⟩ = some (.int .i64 (p.off : Int)) := by rw [cell_of_row _ _ 2 _ 218 _ hU0.rp]; rfl
 have cu : W.cell? ⟨w.heap.size, 2, none⟩ = some (.int .i64 (u.off : Int)) := by rw [cell_of_row _ _ 2 _ 218 _ hru]; rfl
 have hv : u.v = .agg u.cells := rfl
 have HL : Hid ((loP p u : Int) = max (p.off : Int) (u.off : Int)) := by show _ = _; unfold loP; omega
 go_enter Tryz.func216, Tryz.ntmps216
 go_wp2_with fail
 rw [← HL.out]
 clear hv
 go_loopw [8] (fun i wr => ∃ j : Nat, j ≤ kP p u ∧ i = .int .i64 ((loP p u + j : Nat) : Int) ∧ UP T w0 wr p gb gp gv gi iv (cvr (cov, bare) (loP p u) j).1 (cvr (cov, bare) (loP p u) j).2 I ∧ wr.heap[w.heap.size]? = some (.cells u.cells 218 (0, 0))) (fun i _ => (loP p u + kP p u) - (intOf i).toNat)
 case atStart => exact ⟨0, by omega, rfl, hU0, hru⟩
 case round =>
  clear hU0 hru cb cp cu
  obtain ⟨j, hj, rfl, hU, hru⟩ := hrel
  have hen := fun (q : Pv) (hq : q.off + q.bs.length ≤ 128) w => end_ok q w hq
  have hX : UQ T w0 wr.drew p u gb gp gv gi w.heap.size iv (cvr (cov, bare) (loP p u) j).1 (cvr (cov, bare) (loP p u) j).2 I := (UQ.mk hU hru).kept ((Below.refl _ _).drew)
  have hr := hX.rds
  have hu44 := Tryz.underlying218
  clear hU hru
  generalize w.heap.size = gu at *
  go_wp2_with fail
  have hen1 : ∀ w, Calls Tryz.prog 217 #[.agg #[.int .i64 (p.id : Int), .int .i64 (p.blk : Int), .int .i64 (p.off : Int), .slice p.bp p.bs.length p.bc, .slice p.np p.nd.length p.nc]] w fun e w' => e = .returned (.int .i64 (endP p : Int)) ∧ Below w.heap.size w w' := fun w => end_ok p w hp
  have hen2 : ∀ w, Calls Tryz.prog 217 #[.agg #[.int .i64 (u.id : Int), .int .i64 (u.blk : Int), .int .i64 (u.off : Int), .slice u.bp u.bs.length u.bc, .slice u.np u.nd.length u.nc]] w fun e w' => e = .returned (.int .i64 (endP u : Int)) ∧ Below w.heap.size w w' := fun w => end_ok u w hu
  obtain ⟨r0, r1, r2, r3, r4, r5, r6, r7, r8, r9⟩ := hr
  go_region_held3 (fun w' => w'.cell? ⟨gp, 0, none⟩ = some (.int .i64 (p.id : Int)) ∧ w'.cell? ⟨gp, 1, none⟩ = some (.int .i64 (p.blk : Int)) ∧ w'.cell? ⟨gp, 2, none⟩ = some (.int .i64 (p.off : Int)) ∧ w'.cell? ⟨gp, 3, none⟩ = some (.slice p.bp p.bs.length p.bc) ∧ w'.cell? ⟨gp, 4, none⟩ = some (.slice p.np p.nd.length p.nc) ∧
 w'.cell? ⟨gu, 0, none⟩ = some (.int .i64 (u.id : Int)) ∧ w'.cell? ⟨gu, 1, none⟩ = some (.int .i64 (u.blk : Int)) ∧ w'.cell? ⟨gu, 2, none⟩ = some (.int .i64 (u.off : Int)) ∧ w'.cell? ⟨gu, 3, none⟩ = some (.slice u.bp u.bs.length u.bc) ∧ w'.cell? ⟨gu, 4, none⟩ = some (.slice u.np u.nd.length u.nc)) (first | exact ⟨r0, r1, r2, r3, r4, r5, r6, r7, r8, r9⟩ | exact hX.rds) (first | (go_at_call 217; refine below_at (hen1 _) ?_; intro wn hbn; have hX := hX.kept hbn) | (go_at_call 217; refine below_at (hen2 _) ?_; intro wn hbn; have hX := hX.kept hbn))
  all_goals
   have HK : Hid ((decide (((loP p u : Nat) : Int) + (j : Int) < min (endP p : Int) (endP u : Int))) = decide (j < kP p u)) := by
    show _ = _; unfold kP; rw [decide_eq_decide]; omega
   rw [HK.out]
   have he : endP p ≤ 128 := hp
   clear r0 r1 r2 r3 r4 r5 r6 r7 r8 r9 hen hen1 hen2
   have hcb : wn.cell? ⟨gb, 0, none⟩ = some (.int .i64 (cvr (cov, bare) (loP p u) j).2) := by rw [cell_of_row _ _ 0 _ 3 _ hX.up.rb]; rfl
   have hfb : wn.frozen? ⟨gb, 0, none⟩ = false := by simp [World.frozen?, hX.up.rb]
   by_cases hjk : j < kP p u
   ·have hlj : loP p u + j < 128 := by unfold kP at hjk; omega
    have hcv := cov_cell hX.up.rv (loP p u + j) (by rw [hX.up.cl]; exact hlj)
    have hbr := hX.up.br
    have htl := trs_le (cvr (cov, bare) (loP p u) j).1
    rw [hX.up.cl] at htl
    simp only [hjk, decide_true]
    cases hcov : (cvr (cov, bare) (loP p u) j).1.getD (loP p u + j) true with
    | true =>
     rw [hcov] at hcv
     have hn : cvr (cov, bare) (loP p u) (j + 1) = cvr (cov, bare) (loP p u) j := by
      show cvs _ _ = _; unfold cvs; rw [hcov]; rfl
     go_wp2_with fail
     go_roundw
     case rel => exact ⟨j + 1, hjk, by go_num, by rw [hn]; exact hX.up, hX.ru⟩
     case measure => simp [intOf]; omega
    | false =>
     rw [hcov] at hcv
     have hn : cvr (cov, bare) (loP p u) (j + 1) = ((cvr (cov, bare) (loP p u) j).1.set (loP p u + j) true, (cvr (cov, bare) (loP p u) j).2 - 1) := by
      show cvs _ _ = _; unfold cvs; rw [hcov]; rfl
     have hfv : wn.frozen? ⟨gv, loP p u + j, none⟩ = false := by simp [World.frozen?, hX.up.rv]
     have hne : gb ≠ gv := own_ne hX.up.rb hX.up.rv (by decide)
     have hrb1 : (wn.setCell ⟨gv, loP p u + j, none⟩ (.bool true)).heap[gb]? = some (.cells #[.int .i64 (cvr (cov, bare) (loP p u) j).2] 3 (0, 0)) := by rw [Below.heap_setCell _ _ _ _ hne]; exact hX.up.rb
     have hcb1 : (wn.setCell ⟨gv, loP p u + j, none⟩ (.bool true)).cell? ⟨gb, 0, none⟩ = some (.int .i64 (cvr (cov, bare) (loP p u) j).2) := by rw [cell_of_row _ _ 0 _ 3 _ hrb1]; rfl
     have hfb1 : (wn.setCell ⟨gv, loP p u + j, none⟩ (.bool true)).frozen? ⟨gb, 0, none⟩ = false := by simp [World.frozen?, hrb1]
     have hM := hX.up.mark (loP p u + j) hcov
     have hru1 : (wn.setCell ⟨gv, loP p u + j, none⟩ (.bool true)).heap[gu]? = some (.cells u.cells 218 (0, 0)) := by rw [Below.heap_setCell _ _ _ _ (own_ne hX.ru hX.up.rv (by decide))]; exact hX.ru
     go_wp2_with fail
     go_roundw
     case rel => exact ⟨j + 1, hjk, by go_num, by rw [hn]; exact hM, by rw [Below.heap_setCell _ _ _ _ (own_ne hru1 hrb1 (by decide))]; exact hru1⟩
     case measure => simp [intOf]; omega
   ·simp only [hjk, decide_false]
    obtain rfl : j = kP p u := by omega
    have HU : Hid (upS p u (cov, bare) = cvr (cov, bare) (loP p u) (kP p u)) := rfl
    have HI : Hid (upI p u (cov, bare) I = if (upS p u (cov, bare)).2 < bare then I ++ [(u.id : Int)] else I) := rfl
    rw [← HU.out] at hX hcb
    have hcg : wn.cell? ⟨gi, 0, none⟩ = some iv := by rw [cell_of_row _ _ 0 _ 49 _ hX.up.ri]; rfl
    have hfg : wn.frozen? ⟨gi, 0, none⟩ = false := by simp [World.frozen?, hX.up.ri]
    have hcu : wn.cell? ⟨gu, 0, none⟩ = some (.int .i64 (u.id : Int)) := (cells5 hX.ru).1
    have hN := hX.up.ids
    have hbl : gb < wn.heap.size := (Array.getElem?_eq_some_iff.1 hX.up.rb).1
    have hUX := hX.up
    clear hX
    obtain ⟨sc, sb, hs⟩ : ∃ sc sb, upS p u (cov, bare) = (sc, sb) := ⟨_, _, rfl⟩
    rw [hs] at hUX hcb
    have HS : Hid (upS p u (cov, bare) = (sc, sb)) := hs
    clear hs
    simp only at hUX hcb
    by_cases hlt : sb < bare
    ·obtain ⟨i0, hi, hz0, hz1, hz2⟩ := info_parts info3
     go_wp2_with (first
      | (at_builtin; refine wpList_append_own _ rfl _ _ 49 rfl (gb + 1) 3 i0 (.int .i64 0) 1 8 Tryz.underlying49 hi hz0 hz1 hz2 rfl (by decide) _ _ _ rfl (World.ownsRow.alloc hN _) ⟨wn.heap.size, 0, none⟩ 1 1 [.int .i64 (u.id : Int)] rfl rfl (cell_one_new _ _ _) (by simp [Value.oneCell']) (by unfold maxLen; omega) (by omega) (by simp; omega) ?_; intro v' w5 hown hgrow _; have hown := Nums.snoc hown; obtain ⟨g', cap', rfl⟩ := Nums.succ hown; have hgrow' : (wn.alloc (.cells #[.int .i64 (u.id : Int)] 3)).grownBy w5 iv.ownBlock := hgrow; have r5 := grown_at hN hgrow' hUX.ri (fun cs e => by simp at e); have c5 : w5.cell? ⟨gi, 0, none⟩ = some iv := (by rw [cell_of_row _ _ 0 _ 49 _ r5]; rfl); have f5 : w5.frozen? ⟨gi, 0, none⟩ = false := (by simp [World.frozen?, r5]); have hU5 := hUX.store hgrow' hown; have c6 : (w5.setCell ⟨gi, 0, none⟩ (.slice (some ⟨g', 0, none⟩) (I.length + 1) cap')).cell? ⟨gb, 0, none⟩ = some (.int .i64 sb) := (by rw [cell_of_row _ _ 0 _ 3 _ hU5.rb]; rfl)))
     go_ret
     rw [HI.out, HS.out]
     refine ⟨by simp, .slice (some ⟨g', 0, none⟩) (I.length + 1) cap', ?_⟩
     rw [if_pos hlt]
     exact hU5
    ·go_wp2_with fail
     go_ret
     rw [HI.out, HS.out]
     refine ⟨by simp, iv, ?_⟩
     rw [if_neg (by omega)]
     exact hUX
end Go.Proofs.YthdlpeejmmobmaaGreat.Pt

namespace Go.Proofs.YthdlpeejmmobmaaGreat.Pt
open Go.RowKit Go.Maps
set_option maxRecDepth 100000
set_option linter.unusedVariables false
theorem Nums.base {B B' : Nat} {w : World} {v : Value} {zs : List Int} (h : Nums B w v zs) (hB : B' ≤ B) : Nums B' w v zs := by
 refine ⟨h.1, ?_⟩
 rcases h.2 with h' | ⟨g', cap', cur, h', hbg, rest⟩
 ·exact .inl h'
 ·exact .inr ⟨g', cap', cur, h', by omega, rest⟩
def zc : Array Value := #[.int .i64 0, .int .i64 0, .int .i64 0, .slice none 0 0, .slice none 0 0]
end Go.Proofs.YthdlpeejmmobmaaGreat.Pt
