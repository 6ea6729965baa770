/- PLay PPlan1 PPlan PPlan2 PAsk PEach -/
import Derived.Test.YthdlpeejmmobmaaGreatAn12
import Derived.Laws.CopyRow
import Derived.OneCell

/- A patch laid over a block's bytes. -/
namespace Go.Proofs.YthdlpeejmmobmaaGreat.Pt
open Go.RowKit Go.Maps
set_option maxRecDepth 100000
set_option linter.unusedVariables false

/-- Bytes with a patch over them. -/
def ovr (xs : List Int) (p : Pv) : List Int := xs.take p.off ++ p.bs ++ xs.drop (p.off + p.bs.length)
theorem ovr_len {xs : List Int} {p : Pv} (h : p.off + p.bs.length ≤ xs.length) : (ovr xs p).length = xs.length := by
  unfold ovr; simp; omega

theorem byt_append {xs ys : List Int} (hx : Num.Byt xs) (hy : Num.Byt ys) : Num.Byt (xs ++ ys) := by
  intro i
  rw [List.getD_eq_getElem?_getD]
  rcases Nat.lt_or_ge i xs.length with h | h
  · rw [List.getElem?_append_left h, ← List.getD_eq_getElem?_getD]; exact hx i
  · rw [List.getElem?_append_right h, ← List.getD_eq_getElem?_getD]; exact hy _
theorem ovr_byt {xs : List Int} {p : Pv} (hx : Num.Byt xs) (hp : Num.Byt p.bs) : Num.Byt (ovr xs p) := byt_append (byt_append (byt_take hx _) hp) (byt_drop hx _)

theorem splice_take (cur X bs : List Value) (o : Nat) (h : cur.take 128 = X) (hX : X.length = 128) (hl : o + bs.length ≤ 128) : (cur.take o ++ bs ++ cur.drop (o + bs.length)).take 128 = X.take o ++ bs ++ X.drop (o + bs.length) := by
  have hc : 128 ≤ cur.length := by
    have := congrArg List.length h
    rw [List.length_take, hX] at this
    omega
  have e1 : (cur.take o).length = o := by rw [List.length_take]; omega
  rw [List.append_assoc, List.append_assoc, List.take_append, List.take_append, e1]
  have e2 : (cur.take o).take 128 = X.take o := by rw [← h, List.take_take, List.take_take]; congr 1; omega
  have e3 : bs.take (128 - o) = bs := List.take_of_length_le (by omega)
  have e4 : (cur.drop (o + bs.length)).take (128 - o - bs.length) = X.drop (o + bs.length) := by
    rw [← h, List.drop_take]; congr 1; omega
  rw [e2, e3, e4]

set_option maxRecDepth 100000 in
set_option maxHeartbeats 1000000 in
theorem lay_ok {B : Nat} {w : World} {g cap : Nat} {xs : List Int} (h : Own B w g 128 cap xs) (p : Pv) (hp : BI w p.bp p.bs.length p.bs) (hl : 1 ≤ p.bs.length) (ho : p.off + p.bs.length ≤ 128) :
    Calls Tryz.prog 210 #[.slice (some ⟨g, 0, none⟩) 128 cap, p.v] w fun e w' => e = .returned (.tuple #[]) ∧ Own B w' g 128 cap (ovr xs p) ∧ Frame (fun k => k = g) w w' := by
  obtain ⟨pb, po, hpe, hpc⟩ := hp.cells (by omega)
  have hxl : xs.length = 128 := h.len
  rcases h.2 with ⟨e, _⟩ | ⟨g', cap', cur, e, hbg, hgc, hnc, hcm, hcs, htk⟩
  · cases e
  cases e
  have hglt : g < w.heap.size := (Array.getElem?_eq_some_iff.1 hgc).1
  obtain ⟨W, hW⟩ : ∃ W, w.alloc (.cells p.cells 218) = W := ⟨_, rfl⟩
  have hbW : Below w.heap.size w W := by rw [← hW]; exact (Below.refl _ w).alloc (Nat.le_refl _) _
  have hrow : ∀ k, (W.drewN k).heap[g]? = some (.cells cur 5 (0, 0)) := fun k => by
    show W.heap[g]? = _
    rw [hbW.block g hglt]; exact hgc
  have c2 : W.cell? ⟨w.heap.size, 2, none⟩ = some (.int .i64 (p.off : Int)) := by rw [← hW, cell_of_row _ _ 2 _ 218 _ (at_new rfl)]; rfl
  have c3 : W.cell? ⟨w.heap.size, 3, none⟩ = some (.slice p.bp p.bs.length p.bc) := by rw [← hW, cell_of_row _ _ 3 _ 218 _ (at_new rfl)]; rfl
  obtain ⟨NEW, hNEW⟩ : ∃ NEW, (cur.toList.take p.off ++ p.bs.map (Value.int .u8) ++ cur.toList.drop (p.off + (p.bs.map (Value.int .u8)).length)).toArray = NEW := ⟨_, rfl⟩
  have hmin : Nat.min p.bs.length (128 - p.off) = p.bs.length := Nat.min_eq_left (by omega)
  have hcp : ∀ k ty, (Builtin.copy_ #[42, 42] ty #[.slice (some ⟨g, p.off, none⟩) (128 - p.off) (cap - p.off), .slice p.bp p.bs.length p.bc]).run Tryz.prog (W.drewN k) = .ok (.int .i64 (p.bs.length : Int)) ((W.drewN k).setRow g NEW) := fun k ty => by
    have hsrc : ∀ j v, (p.bs.map (Value.int .u8))[j]? = some v → (W.drewN k).cell? ((⟨pb, po, none⟩ : Addr).add j) = some v := by
      have hk := hp.kept hbW
      rw [hpe] at hk
      exact hk.src'
    rw [hpe]
    have := run_copy_row (P := Tryz.prog) (W.drewN k) 42 42 ty 5 g p.off (128 - p.off) (cap - p.off) ⟨pb, po, none⟩ p.bs.length p.bc cur 5 (p.bs.map (Value.int .u8)) Tryz.underlying42 size5 (hrow k) (by rw [hmin]; simp) hsrc (by simp; omega) (one_cells _)
    rw [this, hNEW]
    simp [goInt]
  have hfin : ∀ k, Own B ((W.drewN k).setRow g NEW) g 128 cap (ovr xs p) ∧ Frame (fun k => k = g) w ((W.drewN k).setRow g NEW) := fun k => by
    refine ⟨⟨by simp [ovr_len (xs := xs) (p := p) (by omega), hxl], .inr ⟨g, cap, NEW, rfl, hbg, setRow_heap _ _ _ _ _ _ (hrow k), hnc, hcm, ?_, ?_⟩⟩, ?_⟩
    · rw [← hNEW]; simp; omega
    · rw [← hNEW]
      have := splice_take cur.toList (xs.map (Value.int .u8)) (p.bs.map (Value.int .u8)) p.off (by simpa using htk) (by simp [hxl]) (by simp; omega)
      simp only [Nat.mul_one]
      show (_ : List Value).take 128 = _
      rw [List.toList_toArray, this]
      simp [ovr, List.map_take, List.map_drop]
    · refine ⟨hbW.os, hbW.tape, hbW.output, by simp; exact hbW.size, fun i hi hne => ?_⟩
      rw [setRow_other _ _ _ _ hne]
      exact hbW.block i hi
  have hcd : ∀ ty, (Builtin.copy_ #[42, 42] ty #[.slice (some ⟨g, p.off, none⟩) (128 - p.off) (cap - p.off), .slice p.bp p.bs.length p.bc]).run Tryz.prog W.drew = .ok (.int .i64 (p.bs.length : Int)) (W.drew.setRow g NEW) := fun ty => hcp 1 ty
  have hfd : Own B (W.drew.setRow g NEW) g 128 cap (ovr xs p) ∧ Frame (fun k => k = g) w (W.drew.setRow g NEW) := hfin 1
  have HF : Hid _ := hfd
  have hv : p.v = .agg p.cells := rfl
  clear hcp hfin hfd
  clear h hp hpc hpe htk hgc hcm hcs hrow hNEW hbW hxl hmin
  have ho1 : (p.off : Int) ≤ 128 := by omega
  have ho2 : p.off ≤ 128 := by omega
  go_enter Tryz.func210, Tryz.ntmps210
  go_wp2_with fail
  clear hW hv
  generalize p.off = off at *
  generalize p.bs.length = n at *
  generalize p.bp = bp at *
  generalize p.v = pv at *
  go_region_with (fail)
  all_goals go_end0
  all_goals exact ⟨rfl, HF.out⟩
end Go.Proofs.YthdlpeejmmobmaaGreat.Pt

/- Plan's closure: one patch of a block held against what is chosen. -/
namespace Go.Proofs.YthdlpeejmmobmaaGreat.Pt
open Go.RowKit Go.Maps
set_option maxRecDepth 100000
set_option linter.unusedVariables false

/-- What Plan's closure stands in: the set, what is chosen, the bytes so far. -/
structure PI (B T : Nat) (w0 w : World) (a mp mb last : Nat) (P : List Pv) (K : Int → Option Value) (gs gc go gi nb ob cap : Nat) (iv : Value) (U C I : List Int) (out : List Int) : Prop where
  ps : PS B w0 a mp mb last P K
  bel : Below T w0 w
  sz : w0.heap.size = T
  rs : w.heap[gs]? = some (.cells #[.pointer (some ⟨a, 0, none⟩)] 94 (0, 0))
  rc : w.heap[gc]? = some (.cells #[.map (some nb)] 391 (0, 0))
  ro : w.heap[go]? = some (.cells #[.slice (some ⟨ob, 0, none⟩) 128 cap] 42 (0, 0))
  ri : w.heap[gi]? = some (.cells #[iv] 49 (0, 0))
  ns : Ns w nb U C
  own : Own T w ob 128 cap out
  byt : Num.Byt out
  ids : Nums T w iv I
  lo : T ≤ gs ∧ T ≤ gc ∧ T ≤ go ∧ T ≤ gi ∧ T ≤ nb

theorem PI.psn {B T : Nat} {w0 w : World} {a mp mb last : Nat} {P : List Pv} {K : Int → Option Value} {gs gc go gi nb ob cap : Nat} {iv : Value} {U C I : List Int} {out : List Int} (h : PI B T w0 w a mp mb last P K gs gc go gi nb ob cap iv U C I out) : PS B w a mp mb last P K :=
  h.ps.kept (by rw [h.sz]; exact h.bel)

theorem PI.kept {B T : Nat} {w0 w w' : World} {a mp mb last : Nat} {P : List Pv} {K : Int → Option Value} {gs gc go gi nb ob cap : Nat} {iv : Value} {U C I : List Int} {out : List Int} (h : PI B T w0 w a mp mb last P K gs gc go gi nb ob cap iv U C I out) (hb : Below w.heap.size w w') : PI B T w0 w' a mp mb last P K gs gc go gi nb ob cap iv U C I out := by
  have hT : T ≤ w.heap.size := by have := h.bel.size; rw [h.sz] at this; exact this
  have lt : ∀ {g : Nat} {o : Obj}, w.heap[g]? = some o → g < w.heap.size := fun e => (Array.getElem?_eq_some_iff.1 e).1
  exact ⟨h.ps, h.bel.trans (hb.mono hT), h.sz, by rw [hb.block _ (lt h.rs)]; exact h.rs, by rw [hb.block _ (lt h.rc)]; exact h.rc, by rw [hb.block _ (lt h.ro)]; exact h.ro, by rw [hb.block _ (lt h.ri)]; exact h.ri, h.ns.kept hb, h.own.kept hb, h.byt, h.ids.kept hb, h.lo⟩


theorem own_ne {w : World} {g k : Nat} {cs ds : Array Value} {t u : TypeId} {fr fs : Nat × Nat} (h : w.heap[g]? = some (.cells cs t fr)) (h' : w.heap[k]? = some (.cells ds u fs)) (ht : t ≠ u) : g ≠ k := by
  rintro rfl
  rw [h] at h'
  simp only [Option.some.injEq, Obj.cells.injEq] at h'
  exact ht h'.2.1
theorem map_ne {w : World} {g k : Nat} {cs : Array Value} {t : TypeId} {fr : Nat × Nat} {es : Array MapEntry} {c : Nat} (h : w.heap[g]? = some (.cells cs t fr)) (h' : w.heap[k]? = some (.map es c)) : g ≠ k := by
  rintro rfl
  rw [h] at h'
  cases h'
theorem own_row5 {B : Nat} {w : World} {g n cap : Nat} {xs : List Int} (h : Own B w g n cap xs) : ∃ cs, w.heap[g]? = some (.cells cs 5 (0, 0)) := by
  rcases h.2 with ⟨e, _⟩ | ⟨g', cap', cur, e, _, hg, _⟩
  · cases e
  · cases e; exact ⟨_, hg⟩
theorem nums_row {B : Nat} {w : World} {v : Value} {zs : List Int} (h : Nums B w v zs) {g : Nat} (hg : v.ownBlock = some g) : ∃ cs, w.heap[g]? = some (.cells cs 3 (0, 0)) := by
  rcases h.2 with ⟨e, _⟩ | ⟨g', cap', cur, e, _, hgc, _⟩
  · rw [e] at hg; cases hg
  · rw [e] at hg; cases hg; exact ⟨_, hgc⟩
theorem Nums.keptAt {B : Nat} {w w' : World} {v : Value} {zs : List Int} (h : Nums B w v zs) (hb : ∀ g, v.ownBlock = some g → w'.heap[g]? = w.heap[g]?) : Nums B w' v zs := by
  refine ⟨h.1, ?_⟩
  rcases h.2 with h' | ⟨g', cap', cur, h', hbg, hg, rest⟩
  · exact .inl h'
  · exact .inr ⟨g', cap', cur, h', hbg, by rw [hb g' (by rw [h']; rfl)]; exact hg, rest⟩
theorem Own.keptAt {B : Nat} {w w' : World} {g n cap : Nat} {xs : List Int} (h : Own B w g n cap xs) (hb : w'.heap[g]? = w.heap[g]?) : Own B w' g n cap xs := by
  refine ⟨h.1, ?_⟩
  rcases h.2 with h' | ⟨g', cap', cur, h', hbg, hg, rest⟩
  · exact .inl h'
  · cases h'
    exact .inr ⟨g, cap, cur, rfl, hbg, by rw [hb]; exact hg, rest⟩

theorem frame_below {T : Nat} {x : Nat} {w0 w w' : World} (h : Below T w0 w) (hT : T ≤ w.heap.size) (F : Frame (fun k => k = x) w w') (hx : T ≤ x) : Below T w0 w' :=
  h.trans (F.below hT (fun k e => by rw [e]; exact hx))

section
variable {B T : Nat} {w0 w w' : World} {a mp mb last : Nat} {P : List Pv} {K : Int → Option Value} {gs gc go gi nb ob cap : Nat} {iv : Value} {U C I : List Int} {out : List Int}
theorem PI.hT (h : PI B T w0 w a mp mb last P K gs gc go gi nb ob cap iv U C I out) : T ≤ w.heap.size := by have := h.bel.size; rw [h.sz] at this; exact this

/-- The bytes have turned. -/
theorem PI.lay (h : PI B T w0 w a mp mb last P K gs gc go gi nb ob cap iv U C I out) {out' : List Int} (ho : Own T w' ob 128 cap out') (hby : Num.Byt out') (F : Frame (fun k => k = ob) w w') : PI B T w0 w' a mp mb last P K gs gc go gi nb ob cap iv U C I out' := by
  obtain ⟨cs, h5⟩ := own_row5 h.own
  have lt : ∀ {g : Nat} {o : Obj}, w.heap[g]? = some o → g < w.heap.size := fun e => (Array.getElem?_eq_some_iff.1 e).1
  obtain ⟨es, c, hm⟩ := Mf.isMap h.ns
  refine ⟨h.ps, frame_below h.bel h.hT F h.own.spot.1, h.sz, ?_, ?_, ?_, ?_, ?_, ho, hby, ?_, h.lo⟩
  · rw [F.block gs (lt h.rs) (own_ne h.rs h5 (by decide))]; exact h.rs
  · rw [F.block gc (lt h.rc) (own_ne h.rc h5 (by decide))]; exact h.rc
  · rw [F.block go (lt h.ro) (own_ne h.ro h5 (by decide))]; exact h.ro
  · rw [F.block gi (lt h.ri) (own_ne h.ri h5 (by decide))]; exact h.ri
  · exact Mf.kept h.ns (F.block nb (lt hm) (fun e => map_ne h5 hm e.symm))
  · refine h.ids.keptAt (fun g hg => ?_)
    obtain ⟨ds, h3⟩ := nums_row h.ids hg
    exact F.block g (lt h3) (own_ne h3 h5 (by decide))

/-- What is chosen has turned. -/
theorem PI.add (h : PI B T w0 w a mp mb last P K gs gc go gi nb ob cap iv U C I out) {C' : List Int} (hn : Ns w' nb U C') (F : Frame (fun k => k = nb) w w') : PI B T w0 w' a mp mb last P K gs gc go gi nb ob cap iv U C' I out := by
  have lt : ∀ {g : Nat} {o : Obj}, w.heap[g]? = some o → g < w.heap.size := fun e => (Array.getElem?_eq_some_iff.1 e).1
  obtain ⟨es, c, hm⟩ := Mf.isMap h.ns
  obtain ⟨cs, h5⟩ := own_row5 h.own
  refine ⟨h.ps, frame_below h.bel h.hT F h.lo.2.2.2.2, h.sz, ?_, ?_, ?_, ?_, hn, ?_, h.byt, ?_, h.lo⟩
  · rw [F.block gs (lt h.rs) (map_ne h.rs hm)]; exact h.rs
  · rw [F.block gc (lt h.rc) (map_ne h.rc hm)]; exact h.rc
  · rw [F.block go (lt h.ro) (map_ne h.ro hm)]; exact h.ro
  · rw [F.block gi (lt h.ri) (map_ne h.ri hm)]; exact h.ri
  · exact h.own.keptAt (F.block ob (lt h5) (map_ne h5 hm))
  · refine h.ids.keptAt (fun g hg => ?_)
    obtain ⟨ds, h3⟩ := nums_row h.ids hg
    exact F.block g (lt h3) (map_ne h3 hm)
end

theorem grown_at {w w5 : World} {o : Obj} {B : Nat} {iv : Value} {I : List Int} {g : Nat} {u : Obj} (hN : Nums B w iv I) (hg : (w.alloc o).grownBy w5 iv.ownBlock) (hu : w.heap[g]? = some u) (hne : ∀ cs, u ≠ .cells cs 3 (0, 0)) : w5.heap[g]? = some u := by
  have hlt : g < w.heap.size := (Array.getElem?_eq_some_iff.1 hu).1
  rw [hg.block g (by simp; omega) (fun e => by
    obtain ⟨ds, h3⟩ := nums_row hN e.symm
    rw [hu] at h3
    exact hne ds (Option.some.inj h3))]
  exact at_old hu

theorem PI.store {B T : Nat} {w0 w w5 : World} {a mp mb last : Nat} {P : List Pv} {K : Int → Option Value} {gs gc go gi nb ob cap : Nat} {iv v' : Value} {U C I I' : List Int} {out : List Int} {o : Obj} (h : PI B T w0 w a mp mb last P K gs gc go gi nb ob cap iv U C I out)
    (hg : (w.alloc o).grownBy w5 iv.ownBlock) (hn : Nums T w5 v' I') : PI B T w0 (w5.setCell ⟨gi, 0, none⟩ v') a mp mb last P K gs gc go gi nb ob cap v' U C I' out := by
  have hT := h.hT
  obtain ⟨es, c, hm⟩ := Mf.isMap h.ns
  obtain ⟨cs, h5⟩ := own_row5 h.own
  have r1 := grown_at h.ids hg h.rs (fun cs e => by simp at e)
  have r2 := grown_at h.ids hg h.rc (fun cs e => by simp at e)
  have r3 := grown_at h.ids hg h.ro (fun cs e => by simp at e)
  have r4 := grown_at h.ids hg h.ri (fun cs e => by simp at e)
  have r5 := grown_at h.ids hg hm (fun cs e => by cases e)
  have r6 := grown_at h.ids hg h5 (fun cs e => by simp at e)
  have hb5 : Below T w0 w5 := (h.bel.alloc hT o).grown hg (by simp; omega) (fun k hk => (World.ownsRow.lt h.ids k hk).1)
  have other : ∀ k, k ≠ gi → (w5.setCell ⟨gi, 0, none⟩ v').heap[k]? = w5.heap[k]? := fun k hk => Below.heap_setCell w5 ⟨gi, 0, none⟩ v' k hk
  refine ⟨h.ps, hb5.setCell (p := ⟨gi, 0, none⟩) h.lo.2.2.2.1 v', h.sz, ?_, ?_, ?_, ?_, ?_, ?_, h.byt, ?_, h.lo⟩
  · rw [other gs (own_ne r1 r4 (by decide))]; exact r1
  · rw [other gc (own_ne r2 r4 (by decide))]; exact r2
  · rw [other go (own_ne r3 r4 (by decide))]; exact r3
  · exact one_setCell r4
  · exact Mf.kept h.ns ((other nb (fun e => map_ne r4 r5 e.symm)).trans (r5.trans hm.symm))
  · exact h.own.keptAt ((other ob (own_ne r6 r4 (by decide))).trans (r6.trans h5.symm))
  · refine hn.keptAt (fun g hg => ?_)
    obtain ⟨ds, h3⟩ := nums_row hn hg
    exact other g (own_ne h3 r4 (by decide))

/-- Behind a patch that is chosen. -/
def nextC (P : List Pv) (C : List Int) (p : Pv) : List Int := if lk P C p then C else C ++ [(p.id : Int)]
def nextO (P : List Pv) (C out : List Int) (p : Pv) : List Int := if lk P C p then out else ovr out p

end Go.Proofs.YthdlpeejmmobmaaGreat.Pt

/- Plan. -/
namespace Go.Proofs.YthdlpeejmmobmaaGreat.Pt
open Go.RowKit Go.Maps
set_option maxRecDepth 100000
set_option linter.unusedVariables false

/-- A block's patches. -/
def ofB (P : List Pv) (b : Int) : List Pv := P.filter (fun p => decide ((p.blk : Int) = b))
theorem idsOf_eq (P : List Pv) (b : Int) : idsOf P b = (ofB P b).map (fun p => (p.id : Int)) := rfl

/-- What is chosen and laid, patch by patch. -/
def pst (P : List Pv) : List Pv → List Int × List Int → List Int × List Int
  | [], s => s
  | p :: l, s => pst P l (nextC P s.1 p, nextO P s.1 s.2 p)
theorem pst_snoc (P : List Pv) : ∀ (l : List Pv) (p : Pv) (s : List Int × List Int), pst P (l ++ [p]) s = (nextC P (pst P l s).1 p, nextO P (pst P l s).1 (pst P l s).2 p)
  | [], p, s => rfl
  | q :: l, p, s => by rw [List.cons_append]; exact pst_snoc P l p _
theorem pst_len (P : List Pv) : ∀ (l : List Pv) (s : List Int × List Int), (pst P l s).1.length ≤ s.1.length + l.length
  | [], s => Nat.le_refl _
  | p :: l, s => by
    have := pst_len P l (nextC P s.1 p, nextO P s.1 s.2 p)
    have h2 : (nextC P s.1 p).length ≤ s.1.length + 1 := by unfold nextC; split <;> simp
    show (pst P l _).1.length ≤ _
    simp only [List.length_cons] at *
    omega

theorem fP_mem {P : List Pv} (hs : P.Pairwise (fun p q => p.id < q.id)) {p : Pv} (hp : p ∈ P) : fP P (p.id : Int) = some p := by
  induction P with
  | nil => cases hp
  | cons q P ih =>
    unfold fP at *
    rw [List.find?_cons]
    rcases List.mem_cons.1 hp with rfl | h
    · simp
    · have := (List.pairwise_cons.1 hs).1 p h
      have hne : decide ((q.id : Int) = (p.id : Int)) = false := decide_eq_false (by omega)
      rw [hne]
      exact ih (List.pairwise_cons.1 hs).2 h
theorem fP_some {P : List Pv} {k : Int} {p : Pv} (h : fP P k = some p) : p ∈ P ∧ (p.id : Int) = k := by
  unfold fP at h
  exact ⟨List.mem_of_find?_eq_some h, by simpa using List.find?_some h⟩

theorem len_ids : ∀ {P : List Pv} {m last : Nat}, P.Pairwise (fun p q => p.id < q.id) → (∀ p ∈ P, m < p.id ∧ p.id ≤ last) → P.length ≤ last - m
  | [], _, _, _, _ => Nat.zero_le _
  | p :: P, m, last, hs, h => by
    have h1 := h p (List.mem_cons.2 (.inl rfl))
    have := len_ids (P := P) (m := p.id) (last := last) (List.pairwise_cons.1 hs).2 (fun q hq => ⟨(List.pairwise_cons.1 hs).1 q hq, (h q (List.mem_cons.2 (.inr hq))).2⟩)
    simp only [List.length_cons]
    omega
theorem PS.len {B : Nat} {w : World} {a mp mb last : Nat} {P : List Pv} {K : Int → Option Value} (h : PS B w a mp mb last P K) : P.length ≤ last := by
  have := len_ids (m := 0) (last := last) h.srt (fun p hp => by have := h.ids p hp; omega)
  omega

theorem PS.row_ii {B : Nat} {w : World} {a mp mb last : Nat} {P : List Pv} {K : Int → Option Value} (h : PS B w a mp mb last P K) (b : Int) (hb : I64 b) : ∃ p c, (K b).getD (.slice none 0 0) = .slice p (idsOf P b).length c ∧ II w p (idsOf P b).length (idsOf P b) ∧ Plain p := by
  have hf : ∀ x ∈ idsOf P b, I64 x := by
    intro x hx
    rw [idsOf_eq] at hx
    obtain ⟨p, hp, rfl⟩ := List.mem_map.1 hx
    have := h.ids p (List.mem_filter.1 hp).1
    have := h.sml
    exact ⟨by omega, by omega⟩
  have hlen : (idsOf P b).length ≤ 1000 := by
    have h1 := h.len
    have h2 := h.sml
    have h3 : (ofB P b).length ≤ P.length := List.length_filter_le _ _
    rw [idsOf_eq, List.length_map]
    omega
  cases e : K b with
  | none =>
    rw [h.away b hb e]
    exact ⟨none, 0, rfl, ⟨rfl, by simp, fun x hx => (by cases hx), fun h => (by simp at h)⟩, .inl rfl⟩
  | some v =>
    obtain ⟨_, hr, _⟩ := h.rows b v e
    exact Nums.ii hr (by omega) hf

/-- The numbers from 1 to last. -/
def upto (last : Nat) : List Int := (List.range (last + 1)).map (fun i : Nat => (i : Int))
theorem mem_upto {last : Nat} {k : Int} (h : 1 ≤ k ∧ k ≤ (last : Int)) : k ∈ upto last := by
  refine List.mem_map.2 ⟨k.toNat, List.mem_range.2 (by omega), by omega⟩
theorem upto_len (last : Nat) : (upto last).length = last + 1 := by simp [upto]

theorem getD_map_ids (l : List Pv) (j : Nat) (h : j < l.length) : (l.map (fun p => (p.id : Int))).getD j 0 = (l[j].id : Int) := by
  rw [List.getD_eq_getElem?_getD, List.getElem?_map, List.getElem?_eq_getElem h]; rfl

end Go.Proofs.YthdlpeejmmobmaaGreat.Pt

/- Plan and Now. -/
namespace Go.Proofs.YthdlpeejmmobmaaGreat.Pt
open Go.RowKit Go.Maps
set_option maxRecDepth 100000
set_option linter.unusedVariables false

set_option maxHeartbeats 400000 in
theorem bclone_ok (p : Option Addr) (n c : Nat) (xs : List Int) (w : World) (h : BI w p n xs) (h1 : 1 ≤ n) :
    Calls Tryz.prog 124 #[.slice p n c] w fun e w' => ∃ g cap, e = .returned (.slice (some ⟨g, 0, none⟩) n cap) ∧ Own w.heap.size w' g n cap xs ∧ Below w.heap.size w w' := by
  obtain ⟨i0, hi, hz0, hz1, hz2⟩ := info_parts info5
  have hbig := h.big
  have hlen := h.len
  have q22 := eqlNil
  cases p with
  | none =>
    obtain ⟨b, o, e, _⟩ := h.cells (by omega)
    cases e
  | some a =>
    have hb0 := (Below.refl w.heap.size w).alloc (Nat.le_refl _) (Obj.cells #[] 5)
    have hsrc := (h.kept hb0).src'
    have hone := one_cells xs
    have hll : (xs.map (Value.int .u8)).length = n * 1 := by simp [hlen]
    obtain ⟨LL, HLL⟩ : ∃ LL, Hid (xs.map (Value.int .u8) = LL) := ⟨_, rfl⟩
    rw [HLL.out] at hsrc hone hll
    go_enter Tryz.func124, Tryz.ntmps124
    go_wp2_with (at_builtin; refine wpList_append_own _ rfl _ _ 42 rfl w.heap.size 5 i0 (.int .u8 0) 1 1 Tryz.underlying42 hi hz0 hz1 hz2 rfl (by decide) _ _ _ rfl (World.ownsRow_made w #[] 0 (Nat.le_refl _) (Nat.zero_le _) rfl) a n c LL rfl hll hsrc hone (by unfold maxLen; omega) (by omega) (by simp) ?_)
    intro v' w1 hown hgrow _
    have hb1 := hb0.grown hgrow (by simp) (by intro k hk; simp [Value.ownBlock] at hk; omega)
    have hown : w1.ownsRow w.heap.size 5 1 v' n LL := by simpa using hown
    rw [← HLL.out] at hown
    have hv : v' ≠ .slice none 0 0 := by
      intro e
      rcases hown.2 with ⟨_, e0⟩ | ⟨g, cap, cur, e', _⟩
      · omega
      · rw [e] at e'; cases e'
    obtain ⟨g, cap, rfl, ho⟩ := own_shape hown hv
    clear hown hgrow hv
    go_wp2
    go_ret
    exact ⟨g, cap, rfl, ho, hb1⟩

theorem refusal_ok {B : Nat} {w : World} {a mp mb last : Nat} {P : List Pv} {K : Int → Option Value} (h : PS B w a mp mb last P K) (p : Option Addr) (n c : Nat) :
    Calls Tryz.prog 207 #[.pointer (some ⟨a, 0, none⟩), .slice p n c] w fun e w' => e = .returned (.int .i64 (if n = 128 then 0 else 1)) ∧ w' = w := by
  have hm := made_ok h
  clear h
  by_cases hn : n = 128
  · subst hn
    go_enter Tryz.func207, Tryz.ntmps207
    go_wp2_with (first | (go_at_call 122; refine same_at hm ?_))
    go_ret
    exact ⟨rfl, rfl⟩
  · have hnI : ¬ (n : Int) = 128 := by omega
    rw [if_neg hn]
    go_enter Tryz.func207, Tryz.ntmps207
    go_wp2_with (first | (go_at_call 122; refine same_at hm ?_))
    go_ret
    exact ⟨rfl, rfl⟩

/-- What Plan answers: nothing, or what is laid and which numbers that has. -/
def PRes (T : Nat) (w : World) (s : List Int × List Int) (ov iv : Value) (er : Int) : Prop :=
  (s.1 = [] ∧ ov = .slice none 0 0 ∧ iv = .slice none 0 0 ∧ er = 71) ∨
  (s.1 ≠ [] ∧ er = 0 ∧ (∃ g cap, ov = .slice (some ⟨g, 0, none⟩) 128 cap ∧ Own T w g 128 cap s.2) ∧ Nums T w iv s.1)

end Go.Proofs.YthdlpeejmmobmaaGreat.Pt

/- The set's small calls: New, Last, IsDone, Of. -/
namespace Go.Proofs.YthdlpeejmmobmaaGreat.Pt
open Go.RowKit Go.Maps
set_option maxRecDepth 100000
set_option linter.unusedVariables false

theorem ps_none (w : World) (a mp mb : Nat) (hr : w.heap[a]? = some (.cells #[.int .i64 0, .map (some mp), .map (some mb)] 215 (0, 0))) (hp : Mf w mp 0 (fun _ => none)) (hb : Mf w mb 0 (fun _ => none)) (B : Nat) (hB : (B ≤ a ∧ B ≤ mp ∧ B ≤ mb) ∧ mp ≠ mb) :
    PS B w a mp mb 0 [] (fun _ => none) :=
  ⟨hr, hp.congr (fun k _ => rfl), hb, (fun p hp => by cases hp), (fun p hp => by cases hp), (fun b v h => by cases h), fun b _ _ => rfl, (fun b b' v v' h => by cases h), (fun p hp => by cases hp), (fun p hp => by cases hp), List.Pairwise.nil, (fun p hp => by cases hp), by omega, hB⟩

set_option maxHeartbeats 1000000 in
theorem new_ok (w : World) : Calls Tryz.prog 193 #[] w fun e w' => ∃ a mp mb, e = .returned (.pointer (some ⟨a, 0, none⟩)) ∧ PS w.heap.size w' a mp mb 0 [] (fun _ => none) ∧ Below w.heap.size w w' := by
  have hmm := @run_makeMap Tryz.prog
  go_enter Tryz.func193, Tryz.ntmps193
  go_wp2_with fail
  go_ret
  refine ⟨w.heap.size + 1 + 1, w.heap.size, w.heap.size + 1, rfl, ps_none _ _ _ _ (at_new (by simp)) ?_ ?_ _ ⟨⟨by omega, by omega, by omega⟩, by omega⟩, ?_⟩
  · refine Mf.kept (mf_made w 0) ?_
    exact (at_old (at_old (at_new rfl))).trans (at_new (w := w) rfl).symm
  · have h2 : Mf ((w.alloc (Obj.map #[] 0)).alloc (Obj.map #[] 0)) (w.heap.size + 1) 0 (fun _ => none) := by
      have := mf_made (w.alloc (Obj.map #[] 0)) 0
      simpa using this
    refine Mf.kept h2 ?_
    exact (at_old (at_new (by simp))).trans (at_new (w := w.alloc (Obj.map #[] 0)) (by simp)).symm
  · exact (((Below.refl _ w).alloc (Nat.le_refl _) _).alloc (by simp) _).alloc (by simp; omega) _

theorem last_ok {B : Nat} {w : World} {a mp mb last : Nat} {P : List Pv} {K : Int → Option Value} (h : PS B w a mp mb last P K) : Calls Tryz.prog 150 #[.pointer (some ⟨a, 0, none⟩)] w fun e w' => e = .returned (.int .i64 (last : Int)) ∧ w' = w := by
  have c0 := h.c0
  have hm := made_ok h
  clear h
  go_enter Tryz.func150, Tryz.ntmps150
  go_wp2_with (first | (go_at_call 122; refine same_at hm ?_))
  go_ret
  exact ⟨rfl, rfl⟩

/-- Is it on the disk. -/
def dn (last : Nat) (P : List Pv) (k : Int) : Bool := kn last k && !(fP P k).isSome
set_option maxHeartbeats 1000000 in
theorem of_ok {B : Nat} {w : World} {a mp mb last : Nat} {P : List Pv} {K : Int → Option Value} (h : PS B w a mp mb last P K) (b : Int) (hb : I64 b) : Calls Tryz.prog 251 #[.pointer (some ⟨a, 0, none⟩), .int .i64 b] w fun e w' => ∃ v, e = .returned v ∧ Nums w.heap.size w' v (idsOf P b) ∧ Below w.heap.size w w' := by
  have hm := made_ok h
  have c2 := h.c2
  have hl := h.list b hb
  obtain ⟨q, c, e, hii, hpl⟩ := h.row_ii b hb
  rw [e] at hl
  have hlen : (idsOf P b).length ≤ last := by
    have := h.len
    unfold idsOf
    rw [List.length_map]
    exact Nat.le_trans (List.length_filter_le _ _) this
  have hsm := h.sml
  have hcl : Calls Tryz.prog 239 #[.slice q (idsOf P b).length c] w fun e w' => ∃ v, e = .returned v ∧ Nums w.heap.size w' v (idsOf P b) ∧ Below w.heap.size w w' := by
    by_cases h0 : (idsOf P b).length = 0
    · rw [h0]
      have hz : idsOf P b = [] := List.length_eq_zero_iff.1 h0
      rw [hz]
      cases q with
      | none =>
        refine (sh_slices_Clone_int_nil 0 c w).mono ?_
        rintro e w' ⟨rfl, rfl⟩
        exact ⟨_, rfl, Nums.nil _ _, Below.refl _ _⟩
      | some ad =>
        refine (sh_slices_Clone_int_zero ad c w).mono ?_
        rintro e w' ⟨v, rfl, ho, _, hbl⟩
        exact ⟨v, rfl, ho, hbl⟩
    · obtain ⟨b1, o1, rfl, hc⟩ := hii.cells (by omega)
      refine (sh_slices_Clone_int b1 o1 _ c (idsOf P b) w (Nat.le_refl _) (by omega) hc).mono ?_
      rintro e w' ⟨v, rfl, ho, _, hbl⟩
      rw [List.take_length] at ho
      exact ⟨v, rfl, ho, hbl⟩
  clear h hii e
  go_enter Tryz.func251, Tryz.ntmps251
  go_wp2_with (first | (go_at_call 122; refine same_at hm ?_) | (go_at_call 239; refine hcl.mono ?_; rintro _ wn ⟨v, rfl, hN, hbn⟩))
  go_ret
  exact ⟨_, rfl, hN, hbn⟩
end Go.Proofs.YthdlpeejmmobmaaGreat.Pt

/- A block's patches gone through, whatever is done with each. -/
namespace Go.Proofs.YthdlpeejmmobmaaGreat.Pt
open Go.RowKit Go.Maps
set_option maxRecDepth 100000
set_option linter.unusedVariables false

set_option maxRecDepth 100000 in
set_option maxHeartbeats 2000000 in
theorem each52_ok {B : Nat} {w0 w : World} {a mp mb last : Nat} {P : List Pv} {K : Int → Option Value} (h0 : PS B w0 a mp mb last P K) (g : Nat) (J : List Pv → World → Prop) (b : Int) (hb : I64 b)
    (hJ : ∀ pre w', J pre w' → Below w0.heap.size w0 w')
    (hS : ∀ pre p w', J pre w' → p ∈ P → Calls Tryz.prog 209 #[p.v, .pointer (some ⟨g, 0, none⟩)] w' fun e w2 => e = .returned (.tuple #[]) ∧ J (pre ++ [p]) w2)
    (h : J [] w) :
    Calls Tryz.prog 208 #[.pointer (some ⟨a, 0, none⟩), .int .i64 b, .func (.func 209) #[] #[.pointer (some ⟨g, 0, none⟩)]] w
      fun e w' => e = .returned (.tuple #[]) ∧ J (ofB P b) w' := by
  have hps := h0.kept (hJ _ _ h)
  have c2 := hps.c2
  have hl := hps.list b hb
  obtain ⟨q, c, e, hii, hpl⟩ := h0.row_ii b hb
  rw [e] at hl
  have hsml := hps.sml
  have hlen : (idsOf P b).length ≤ 1000 := by
    have h1 := hps.len
    have h3 : (ofB P b).length ≤ P.length := List.length_filter_le _ _
    rw [idsOf_eq, List.length_map]
    omega
  obtain ⟨L, hL⟩ : ∃ L, L = ofB P b := ⟨_, rfl⟩
  have hn : (idsOf P b).length = L.length := by rw [hL, idsOf_eq, List.length_map]
  have hmem : ∀ p ∈ L, p ∈ P := fun p hp => by rw [hL] at hp; exact (List.mem_filter.1 hp).1
  rw [idsOf_eq, ← hL] at hii
  rw [hn] at hl hlen
  rw [List.length_map] at hii
  rw [← hL]
  obtain ⟨n, hnL⟩ : ∃ n, n = L.length := ⟨_, rfl⟩
  rw [← hnL] at hl hlen hii
  have HNL : Hid _ := hnL
  have HII := fun pre w' (hj : J pre w') => hii.kept (hJ pre w' hj)
  clear e hn hnL hL
  go_enter Tryz.func208, Tryz.ntmps208
  go_wp2_with fail
  go_loopw [15] (fun i wr => ∃ (j : Nat), j ≤ n ∧ i = .int .i64 (j : Int) ∧ J (L.take j) wr) (fun i _ => n - (intOf i).toNat)
  case atStart => exact ⟨0, by omega, rfl, h⟩
  case round =>
    clear h hps c2 hl hii
    obtain ⟨j, hj, rfl, hI⟩ := hrel
    have hps := h0.kept (hJ _ _ hI)
    by_cases hlt : j < n
    · have hjL : j < L.length := by rw [← HNL.out]; exact hlt
      obtain ⟨b1, o1, rfl, hc1⟩ := (HII _ _ hI).cells (by omega)
      have e1 := hc1 j hlt
      rw [getD_map_ids L j hjL] at e1
      obtain ⟨p, hp⟩ : ∃ p, p = L[j] := ⟨_, rfl⟩
      rw [← hp] at e1
      have hpP : p ∈ P := hmem p (by rw [hp]; exact List.getElem_mem hjL)
      have hid := hps.ids p hpP
      have c1 := hps.c1
      have hg := hps.get (p.id : Int) ⟨by omega, by omega⟩
      rw [fP_mem hps.srt hpP] at hg
      have hg' : (Instr.lookup 212 (.map (some mp)) (.int .i64 (p.id : Int)) false).run Tryz.prog wr = .ok p.v wr := hg
      have hplan := hS _ p wr hI hpP
      have HT : Hid (L.take (j + 1) = L.take j ++ [p]) := by show _ = _; rw [List.take_add_one, List.getElem?_eq_getElem hjL, hp]; rfl
      have hjI : (j : Int) < (n : Int) := by omega
      have hj0 : (0 : Int) ≤ (j : Int) := by omega
      clear hc1 hg hp hps hI hid HII hS hJ h0
      generalize p.v = pv at *
      go_wp2_with (first | (go_at_call 209; refine hplan.mono ?_; rintro e w2 ⟨rfl, hI3⟩))
      go_roundw
      case rel =>
        refine ⟨j + 1, by omega, by go_num, ?_⟩
        rw [HT.out]
        exact hI3
      case measure => simp [intOf]; omega
    · obtain rfl : j = n := by omega
      rw [List.take_of_length_le (by rw [← HNL.out]; exact Nat.le_refl _)] at hI
      clear HII hS hJ h0 hps
      go_wp2
      go_end0
      exact ⟨rfl, hI⟩

/-- What Now's closure stands in. -/
structure NI (B T : Nat) (w0 w : World) (a mp mb last : Nat) (P : List Pv) (K : Int → Option Value) (go ob cap : Nat) (out : List Int) : Prop where
  ps : PS B w0 a mp mb last P K
  bel : Below T w0 w
  sz : w0.heap.size = T
  ro : w.heap[go]? = some (.cells #[.slice (some ⟨ob, 0, none⟩) 128 cap] 42 (0, 0))
  own : Own T w ob 128 cap out
  byt : Num.Byt out
theorem NI.hT {B T : Nat} {w0 w : World} {a mp mb last : Nat} {P : List Pv} {K : Int → Option Value} {go ob cap : Nat} {out : List Int} (h : NI B T w0 w a mp mb last P K go ob cap out) : T ≤ w.heap.size := by have := h.bel.size; rw [h.sz] at this; exact this

/-- The bytes of a block with patches over them. -/
def ovrs : List Pv → List Int → List Int
  | [], xs => xs
  | p :: l, xs => ovrs l (ovr xs p)
theorem ovrs_snoc : ∀ (l : List Pv) (p : Pv) (xs : List Int), ovrs (l ++ [p]) xs = ovr (ovrs l xs) p
  | [], _, _ => rfl
  | q :: l, p, xs => by rw [List.cons_append]; exact ovrs_snoc l p _

theorem NI.kept {B T : Nat} {w0 w w' : World} {a mp mb last : Nat} {P : List Pv} {K : Int → Option Value} {go ob cap : Nat} {out : List Int} (h : NI B T w0 w a mp mb last P K go ob cap out) (hb : Below w.heap.size w w') : NI B T w0 w' a mp mb last P K go ob cap out :=
  ⟨h.ps, h.bel.trans (hb.mono h.hT), h.sz, by rw [hb.block _ ((Array.getElem?_eq_some_iff.1 h.ro).1)]; exact h.ro, h.own.kept hb, h.byt⟩

theorem now1_ok {B T : Nat} {w0 w : World} {a mp mb last : Nat} {P : List Pv} {K : Int → Option Value} {go ob cap : Nat} {out : List Int} (h : NI B T w0 w a mp mb last P K go ob cap out) (p : Pv) (hp : p ∈ P) :
    Calls Tryz.prog 209 #[p.v, .pointer (some ⟨go, 0, none⟩)] w fun e w' => e = .returned (.tuple #[]) ∧ NI B T w0 w' a mp mb last P K go ob cap (ovr out p) := by
  obtain ⟨W, hW⟩ : ∃ W, w.alloc (.cells p.cells 218) = W := ⟨_, rfl⟩
  have hbW : Below w.heap.size w W := by rw [← hW]; exact (Below.refl _ w).alloc (Nat.le_refl _) _
  have hI := h.kept hbW
  have hb := hI.bel
  rw [← h.sz] at hb
  have hps := h.ps.kept hb
  have hid := hps.ids p hp
  have hlay := lay_ok hI.own p (hps.byt p hp).1 hid.2.2.2.1 hid.2.2.2.2
  have co : W.cell? ⟨go, 0, none⟩ = some (.slice (some ⟨ob, 0, none⟩) 128 cap) := by rw [cell_of_row _ _ 0 _ 42 _ hI.ro]; rfl
  have hrow : W.heap[w.heap.size]? = some (.cells p.cells 218 (0, 0)) := by rw [← hW]; exact at_new rfl
  have HB : Hid (Num.Byt p.bs) := (hps.byt p hp).1.byt
  have hv : p.v = .agg p.cells := rfl
  clear hid hps hb
  go_enter Tryz.func209, Tryz.ntmps209
  go_wp2_with (first
    | (refine wpList_load_row rfl 218 (.tmp 2) rfl w.heap.size rfl 218 p.cells (0, 0) _ hrow Tryz.underlying218 rfl info44 ?_)
    | (go_at_call 210; refine hlay.mono ?_; rintro e w2 ⟨rfl, ho, hF⟩))
  go_end0
  obtain ⟨cs, h5⟩ := own_row5 hI.own
  exact ⟨rfl, h.ps, frame_below hI.bel hI.hT hF hI.own.spot.1, h.sz, by rw [hF.block go ((Array.getElem?_eq_some_iff.1 hI.ro).1) (own_ne hI.ro h5 (by decide))]; exact hI.ro, ho, ovr_byt h.byt HB.out⟩

set_option maxRecDepth 100000 in
set_option maxHeartbeats 2000000 in
theorem now_ok {B : Nat} {w : World} {a mp mb last : Nat} {P : List Pv} {K : Int → Option Value} (h : PS B w a mp mb last P K) (b : Int) (hb : I64 b) (p : Option Addr) (c : Nat) (xs : List Int) (hx : BI w p 128 xs) :
    Calls Tryz.prog 121 #[.pointer (some ⟨a, 0, none⟩), .int .i64 b, .slice p 128 c] w fun e w' => ∃ g cap, e = .returned (.tuple #[.slice (some ⟨g, 0, none⟩) 128 cap, .int .i64 0]) ∧ Own w.heap.size w' g 128 cap (ovrs (ofB P b) xs) ∧ Below w.heap.size w w' := by
  have hr := refusal_ok h p 128 c
  rw [if_pos rfl] at hr
  have hcl := bclone_ok p 128 c xs w hx (by omega)
  go_enter Tryz.func121, Tryz.ntmps121
  go_wp2_with (first | (go_at_call 207; refine same_at hr ?_))
  refine hcl.mono ?_
  rintro e w1 ⟨ob, cap, rfl, hown, hb1⟩
  obtain ⟨W2, hW2⟩ : ∃ W2, w1.alloc (Obj.cells #[.slice (some ⟨ob, 0, none⟩) 128 cap] 42) = W2 := ⟨_, rfl⟩
  have hs1 := hb1.size
  have hb2 : Below w1.heap.size w1 W2 := by rw [← hW2]; exact (Below.refl _ w1).alloc (Nat.le_refl _) _
  have hNI : NI B w.heap.size w W2 a mp mb last P K w1.heap.size ob cap xs := ⟨h, hb1.trans (hb2.mono hs1), rfl, by rw [← hW2]; exact at_new rfl, hown.kept hb2, hx.byt⟩
  have hea := each52_ok h w1.heap.size (fun pre w' => NI B w.heap.size w w' a mp mb last P K w1.heap.size ob cap (ovrs pre xs)) b hb (fun pre w' hj => hj.bel) (fun pre p w' hj hp => (now1_ok hj p hp).mono (fun e w2 hh => by rw [ovrs_snoc]; exact hh)) hNI
  clear hNI hb2 hown hb1 hcl hr hx h
  go_wp2_with fail
  refine hea.mono ?_
  rintro e w3 ⟨rfl, hI⟩
  have co : w3.cell? ⟨w1.heap.size, 0, none⟩ = some (.slice (some ⟨ob, 0, none⟩) 128 cap) := by rw [cell_of_row _ _ 0 _ 42 _ hI.ro]; rfl
  have HI : Hid _ := hI
  clear hI hea
  go_wp2_with fail
  go_ret2
  have hI := HI.out
  exact ⟨ob, cap, rfl, hI.own, hI.bel⟩

theorem now_arg {B : Nat} {w : World} {a mp mb last : Nat} {P : List Pv} {K : Int → Option Value} (h : PS B w a mp mb last P K) (b : Int) (p : Option Addr) (n c : Nat) (hn : n ≠ 128) (hn2 : n ≤ 9223372036854775807) :
    Calls Tryz.prog 121 #[.pointer (some ⟨a, 0, none⟩), .int .i64 b, .slice p n c] w fun e w' => e = .returned (.tuple #[.slice none 0 0, .int .i64 1]) ∧ w' = w := by
  have hr := refusal_ok h p n c
  rw [if_neg hn] at hr
  clear h
  go_enter Tryz.func121, Tryz.ntmps121
  go_wp2_with (first | (go_at_call 207; refine same_at hr ?_))
  go_ret2
  exact ⟨rfl, rfl⟩
end Go.Proofs.YthdlpeejmmobmaaGreat.Pt
