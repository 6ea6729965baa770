/- PMf PSet -/
import Derived.Test.YthdlpeejmmobmaaGreatYG07

namespace Go.Proofs.YthdlpeejmmobmaaGreat.Pt
open Go.RowKit Go.Maps
set_option maxRecDepth 100000
set_option linter.unusedVariables false
def cellD : Value → Option (DataW Unit)
 | .int .i64 x => some (.lit (.int .i64 x))
 | .slice none n c => some (.agg [.lit (.int .i64 n), .lit (.int .i64 c)])
 | .slice (some ⟨b, o, none⟩) n c => some (.agg [.lit (.int .i64 b), .lit (.int .i64 o), .lit (.int .i64 n), .lit (.int .i64 c)])
 | _ => none
theorem cellD_inj {v v' : Value} {d : DataW Unit} (h : cellD v = some d) (h' : cellD v' = some d) : v = v' := by
 unfold cellD at h h'
 split at h <;> split at h' <;> first | (cases h; done) | (cases h'; done) | skip
 all_goals
  cases h
  simp only [Option.some.injEq, DataW.lit.injEq, Lit.int.injEq, DataW.agg.injEq, List.cons.injEq, reduceCtorEq, true_and, and_true, and_false] at h'
 all_goals first | exact h'.elim | skip
 ·rw [h']
 ·obtain ⟨h1, h2⟩ := h'
  have e1 := Int.ofNat.inj h1
  have e2 := Int.ofNat.inj h2
  rw [e1, e2]
 ·obtain ⟨h1, h2, h3, h4⟩ := h'
  have e1 := Int.ofNat.inj h1
  have e2 := Int.ofNat.inj h2
  have e3 := Int.ofNat.inj h3
  have e4 := Int.ofNat.inj h4
  rw [e1, e2, e3, e4]
def cellsD : List Value → Option (List (DataW Unit))
 | [] => some []
 | v :: r => match cellD v, cellsD r with
  | some d, some l => some (d :: l)
  | _, _ => none
theorem cellsD_inj : ∀ {l l' : List Value} {d : List (DataW Unit)}, cellsD l = some d → cellsD l' = some d → l = l'
 | [], [], _, _, _ => rfl
 | [], v :: r, d, h, h' => by
  cases h
  unfold cellsD at h'
  split at h' <;> cases h'
 | v :: r, [], d, h, h' => by
  cases h'
  unfold cellsD at h
  split at h <;> cases h
 | v :: r, v' :: r', d, h, h' => by
  unfold cellsD at h h'
  split at h
  ·rename_i d1 l1 e1 e2
   cases h
   split at h'
   ·rename_i d2 l2 e3 e4
    simp only [Option.some.injEq, List.cons.injEq] at h'
    obtain ⟨rfl, rfl⟩ := h'
    rw [cellD_inj e1 e3, cellsD_inj e2 e4]
   ·cases h'
  ·cases h
def vR : Value → Option (DataW Unit × List MemPlace)
 | .agg vs => (cellsD vs.toList).map fun l => (.ptr (.agg l), [])
 | v => (cellD v).map fun d => (d, [])
theorem cellD_noptr {v : Value} {d : DataW Unit} (h : cellD v = some d) : ∀ x, d ≠ .ptr x := by
 unfold cellD at h
 intro x
 split at h
 ·cases h; intro e; cases e
 ·cases h; intro e; cases e
 ·cases h; intro e; cases e
 ·cases h
theorem vR_inj {v v' : Value} {d : DataW Unit} {ps ps' : List MemPlace} (h : vR v = some (d, ps)) (h' : vR v' = some (d, ps')) : v = v' := by
 unfold vR at h h'
 split at h
 ·rename_i vs
  simp only [Option.map_eq_some_iff, Prod.mk.injEq] at h
  obtain ⟨l, hl, rfl, _⟩ := h
  split at h'
  ·rename_i vs'
   simp only [Option.map_eq_some_iff, Prod.mk.injEq, DataW.ptr.injEq, DataW.agg.injEq] at h'
   obtain ⟨l', hl', rfl, _⟩ := h'
   have := cellsD_inj hl hl'
   rw [show vs = vs' from by cases vs; cases vs'; simpa using this]
  ·simp only [Option.map_eq_some_iff, Prod.mk.injEq] at h'
   obtain ⟨d', hd', e, _⟩ := h'
   exact absurd e (cellD_noptr hd' _)
 ·simp only [Option.map_eq_some_iff, Prod.mk.injEq] at h
  obtain ⟨d1, hd1, rfl, _⟩ := h
  split at h'
  ·simp only [Option.map_eq_some_iff, Prod.mk.injEq] at h'
   obtain ⟨l', hl', e, _⟩ := h'
   exact absurd e.symm (cellD_noptr hd1 _)
  ·simp only [Option.map_eq_some_iff, Prod.mk.injEq] at h'
   obtain ⟨d2, hd2, rfl, _⟩ := h'
   exact cellD_inj hd1 hd2
def I64 (k : Int) : Prop := -9223372036854775808 ≤ k ∧ k ≤ 9223372036854775807
def ikey (k : Int) : Lit := .int .i64 k
theorem ikey_inj {a b : Int} (h : ikey a = ikey b) : a = b := by simpa [ikey] using h
theorem ikey_ne {a b : Int} (h : a ≠ b) : ikey a ≠ ikey b := fun e => h (ikey_inj e)
theorem ikey_is (k : Int) : WideAt.IsKeyLit (ikey k) := trivial
theorem ikey_of {k : Int} (h : I64 k) : keyOf Tryz.prog 3 (.int .i64 k) = some (ikey k) := keyOf_int_mk Tryz.underlying3 (by
 have h1 : IntKind.i64.min = -9223372036854775808 := by decide
 have h2 : IntKind.i64.max = 9223372036854775807 := by decide
 simp only [Lit.wf, h1, h2]; simpa [I64] using h)
theorem keyed3 : Keyed Tryz.prog 3 := int_keyed Tryz.underlying3
theorem tight {P : Program} {k : TypeId} {R : Value → Option (DataW Unit × List MemPlace)} {w : World} {b n : Nat} {D : DataW Unit} (h : w.ownsMap P k R b n D) : w.ownsMap P k R b (size D) D := by
 obtain ⟨es, clock, hb, F, hs, rfl⟩ := h
 refine ⟨es, clock, hb, F, ?_, rfl⟩
 rw [size_eq, length_sorted]; simp
def Mf (w : World) (mb N : Nat) (f : Int → Option Value) : Prop :=
 ∃ D, w.ownsMap Tryz.prog 3 vR mb (size D) D ∧ size D ≤ N ∧ ∀ k, I64 k → (f k = none → has D (ikey k) = false) ∧ ∀ v, f k = some v → has D (ikey k) = true ∧ ∃ d, vR v = some (d, []) ∧ ∀ z, D.atKey (ikey k) z = d
theorem mf_made (w : World) (N : Nat) : Mf (w.alloc (.map #[] 0)) w.heap.size N (fun _ => none) :=
 ⟨.map [], w.ownsMap_made _ _ _, Nat.zero_le _, fun k _ => ⟨fun _ => rfl, fun v h => by cases h⟩⟩
theorem Mf.lt {w : World} {mb N : Nat} {f : Int → Option Value} (h : Mf w mb N f) : mb < w.heap.size := by
 obtain ⟨D, ho, _⟩ := h
 exact ho.lt
theorem Mf.kept {w w' : World} {mb N : Nat} {f : Int → Option Value} (h : Mf w mb N f) (hb : w'.heap[mb]? = w.heap[mb]?) : Mf w' mb N f := by
 obtain ⟨D, ⟨es, c, ho, r⟩, k⟩ := h
 exact ⟨D, ⟨es, c, hb.trans ho, r⟩, k⟩
theorem Mf.isMap {w : World} {mb N : Nat} {f : Int → Option Value} (h : Mf w mb N f) : ∃ es c, w.heap[mb]? = some (.map es c) := by
 obtain ⟨D, ⟨es, c, ho, r⟩, k⟩ := h
 exact ⟨es, c, ho⟩
theorem Mf.congr {w : World} {mb N : Nat} {f g : Int → Option Value} (h : Mf w mb N f) (e : ∀ k, I64 k → g k = f k) : Mf w mb N g := by
 obtain ⟨D, ho, hs, hp⟩ := h
 exact ⟨D, ho, hs, fun k hk => by rw [e k hk]; exact hp k hk⟩
theorem Mf.look {w : World} {mb N : Nat} {f : Int → Option Value} (h : Mf w mb N f) {t e : TypeId} (ht : Tryz.prog.underlying t = some (.map 3 e)) {z : Value} (hz : (zeroValue e).run Tryz.prog w = .ok z w) {zd : DataW Unit} (hzd : vR z = some (zd, [])) (k : Int) (hk : I64 k) :
  (Instr.lookup t (.map (some mb)) (.int .i64 k) true).run Tryz.prog w = .ok (.tuple #[(f k).getD z, .bool (f k).isSome]) w := by
 obtain ⟨D, ho, _, hp⟩ := h
 obtain ⟨v, ps, hr, hv⟩ := ho.look_ok keyed3 ht hz hzd (ikey_of hk)
 rw [hr]
 cases e : f k with
 | none =>
  have hn := (hp k hk).1 e
  rw [atKey_of_not_has hn] at hv
  rw [vR_inj hv hzd, hn]
  rfl
 | some u =>
  obtain ⟨h1, d, hd, h2⟩ := (hp k hk).2 u e
  rw [h2] at hv
  rw [vR_inj hv hd, h1]
  rfl
theorem Mf.get {w : World} {mb N : Nat} {f : Int → Option Value} (h : Mf w mb N f) {t e : TypeId} (ht : Tryz.prog.underlying t = some (.map 3 e)) {z : Value} (hz : (zeroValue e).run Tryz.prog w = .ok z w) {zd : DataW Unit} (hzd : vR z = some (zd, [])) (k : Int) (hk : I64 k) :
  (Instr.lookup t (.map (some mb)) (.int .i64 k) false).run Tryz.prog w = .ok ((f k).getD z) w := by
 obtain ⟨D, ho, _, hp⟩ := h
 obtain ⟨v, ps, hr, hv⟩ := ho.lookup keyed3 ht hz hzd (ikey_of hk)
 rw [hr]
 cases e : f k with
 | none =>
  have hn := (hp k hk).1 e
  rw [atKey_of_not_has hn] at hv
  rw [vR_inj hv hzd]
  rfl
 | some u =>
  obtain ⟨h1, d, hd, h2⟩ := (hp k hk).2 u e
  rw [h2] at hv
  rw [vR_inj hv hd]
  rfl
def fput {α : Type} (f : Int → Option α) (k : Int) (v : Option α) : Int → Option α := fun x => if x = k then v else f x
theorem fput_same {α : Type} (f : Int → Option α) (k : Int) (v : Option α) : fput f k v k = v := by unfold fput; rw [if_pos rfl]
theorem fput_other {α : Type} (f : Int → Option α) {k x : Int} (h : x ≠ k) (v : Option α) : fput f k v x = f x := by unfold fput; rw [if_neg h]
theorem Mf.put {w : World} {mb N : Nat} {f : Int → Option Value} (h : Mf w mb N f) (hN : N < 100000) {t e : TypeId} (ht : Tryz.prog.underlying t = some (.map 3 e)) (k : Int) (hk : I64 k) (v : Value) {d : DataW Unit} (hd : vR v = some (d, [])) :
  ∃ w', (Instr.mapUpdate t (.map (some mb)) (.int .i64 k) v).run Tryz.prog w = .ok () w' ∧ Mf w' mb (if (f k).isSome then N else N + 1) (fput f k (some v)) ∧ w.grownBy w' (some mb) := by
 obtain ⟨D, ho, hs, hp⟩ := h
 obtain ⟨w', hr, ho', hg⟩ := ho.update keyed3 ht (show size D < maxLen by unfold maxLen; omega) (ikey_of hk) hd
 refine ⟨w', hr, ⟨_, tight ho', ?_, ?_⟩, hg⟩
 ·rw [size_put (ho.tidy keyed3)]
  cases e : f k with
  | none => rw [(hp k hk).1 e]; simp; omega
  | some u => rw [((hp k hk).2 u e).1]; simp; omega
 ·intro x hx
  by_cases e : x = k
  ·subst e
   rw [fput_same]
   refine ⟨fun h => (by cases h), fun u hu => ?_⟩
   cases hu
   exact ⟨has_put_same ho.isMap (ikey_is _) _, d, hd, fun z => atKey_put_same ho.isMap (ikey_is _) _ _⟩
  ·rw [fput_other f e, has_put_other (ikey_ne e)]
   refine ⟨(hp x hx).1, fun u hu => ?_⟩
   obtain ⟨h1, d1, h2, h3⟩ := (hp x hx).2 u hu
   exact ⟨h1, d1, h2, fun z => by rw [atKey_put_other (ikey_ne e)]; exact h3 z⟩
open Classical in
theorem Mf.del {w : World} {mb N : Nat} {f : Int → Option Value} (h : Mf w mb N f) {t e : TypeId} (ht : Tryz.prog.underlying t = some (.map 3 e)) (k : Int) (hk : I64 k) (ty : TypeId) :
  ∃ w', (Builtin.delete_ #[t, 3] ty #[.map (some mb), .int .i64 k]).run Tryz.prog w = .ok (.tuple #[]) w' ∧ Mf w' mb N (fput f k none) ∧ w.grownBy w' (some mb) := by
 obtain ⟨D, ho, hs, hp⟩ := h
 obtain ⟨w', hr, ho', hg⟩ := ho.drop keyed3 ht (ikey_of hk) ty
 refine ⟨w', hr, ⟨_, tight ho', ?_, ?_⟩, hg.grown⟩
 ·have hsz := size_del (k := ikey k) (ho.tidy keyed3)
  split at hsz <;> omega
 ·intro x hx
  by_cases e : x = k
  ·subst e
   rw [fput_same]
   exact ⟨fun _ => has_del_same, fun u hu => (by cases hu)⟩
  ·rw [fput_other f e, has_del_other (ikey_ne e)]
   refine ⟨(hp x hx).1, fun u hu => ?_⟩
   obtain ⟨h1, d1, h2, h3⟩ := (hp x hx).2 u hu
   exact ⟨h1, d1, h2, fun z => by rw [atKey_del_other (ikey_ne e)]; exact h3 z⟩
end Go.Proofs.YthdlpeejmmobmaaGreat.Pt

namespace Go.Proofs.YthdlpeejmmobmaaGreat.Pt
open Go.RowKit Go.Maps
set_option maxRecDepth 100000
set_option linter.unusedVariables false
structure II (w : World) (p : Option Addr) (n : Nat) (zs : List Int) : Prop where
 len : zs.length = n
 big : n ≤ 140737488355328
 fit : ∀ x ∈ zs, I64 x
 cells : 0 < n → ∃ b o, p = some ⟨b, o, none⟩ ∧ ∀ i, i < n → w.cell? ⟨b, o + i, none⟩ = some (.int .i64 (zs.getD i 0))
theorem II.kept {w w' : World} {p : Option Addr} {n : Nat} {xs : List Int} (h : II w p n xs) (hb : Below w.heap.size w w') : II w' p n xs := by
 refine ⟨h.len, h.big, h.fit, fun hn => ?_⟩
 obtain ⟨b, o, rfl, hc⟩ := h.cells hn
 refine ⟨b, o, rfl, fun i hi => ?_⟩
 rw [hb.cell (p := ⟨b, o + i, none⟩) (lt_of_cell (hc i hi))]
 exact hc i hi
theorem II.fitAt {w : World} {p : Option Addr} {n : Nat} {xs : List Int} (h : II w p n xs) (i : Nat) : I64 (xs.getD i 0) := by
 rw [List.getD_eq_getElem?_getD]
 cases e : xs[i]? with
 | none => exact ⟨by decide, by decide⟩
 | some y => exact h.fit y (List.mem_of_getElem? e)
structure Pv where
 id : Nat
 blk : Nat
 off : Nat
 bs : List Int
 nd : List Int
 bp : Option Addr
 bc : Nat
 np : Option Addr
 nc : Nat
def Pv.cells (p : Pv) : Array Value := #[.int .i64 (p.id : Int), .int .i64 (p.blk : Int), .int .i64 (p.off : Int), .slice p.bp p.bs.length p.bc, .slice p.np p.nd.length p.nc]
def Pv.v (p : Pv) : Value := .agg p.cells
def Plain (p : Option Addr) : Prop := p = none ∨ ∃ b o, p = some ⟨b, o, none⟩
theorem slice_D {p : Option Addr} (h : Plain p) (n c : Nat) : ∃ d, cellD (.slice p n c) = some d := by
 rcases h with rfl | ⟨b, o, rfl⟩
 ·exact ⟨_, rfl⟩
 ·exact ⟨_, rfl⟩
theorem pv_D (p : Pv) (h1 : Plain p.bp) (h2 : Plain p.np) : ∃ d, vR p.v = some (d, []) := by
 obtain ⟨d1, e1⟩ := slice_D h1 p.bs.length p.bc
 obtain ⟨d2, e2⟩ := slice_D h2 p.nd.length p.nc
 refine ⟨.ptr (.agg [.lit (.int .i64 p.id), .lit (.int .i64 p.blk), .lit (.int .i64 p.off), d1, d2]), ?_⟩
 have hi : ∀ x : Int, cellD (.int .i64 x) = some (.lit (.int .i64 x)) := fun _ => rfl
 simp only [Pv.v, vR, Pv.cells, cellsD, e1, e2, hi]
 rfl
def fP (P : List Pv) (k : Int) : Option Pv := P.find? (fun p => decide ((p.id : Int) = k))
def idsOf (P : List Pv) (b : Int) : List Int := (P.filter (fun p => decide ((p.blk : Int) = b))).map (fun p => (p.id : Int))
def blkOf : Option Addr → Option Nat
 | none => none
 | some a => some a.block
structure PS (B : Nat) (w : World) (a mp mb last : Nat) (P : List Pv) (K : Int → Option Value) : Prop where
 row : w.heap[a]? = some (.cells #[.int .i64 (last : Int), .map (some mp), .map (some mb)] 215 (0, 0))
 pm : Mf w mp last (fun k => (fP P k).map Pv.v)
 bm : Mf w mb P.length K
 byt : ∀ p ∈ P, BI w p.bp p.bs.length p.bs ∧ Plain p.bp
 nee : ∀ p ∈ P, II w p.np p.nd.length p.nd ∧ Plain p.np
 rows : ∀ b v, K b = some v → I64 b ∧ w.ownsRow B 3 1 v (idsOf P b).length ((idsOf P b).map (Value.int .i64)) ∧ idsOf P b ≠ []
 away : ∀ b, I64 b → K b = none → idsOf P b = []
 two : ∀ b b' v v', K b = some v → K b' = some v' → v.ownBlock = v'.ownBlock → b = b'
 apart : ∀ p ∈ P, ∀ k, (blkOf p.np = some k ∨ blkOf p.bp = some k) → k < w.heap.size ∧ k ≠ a ∧ k ≠ mp ∧ k ≠ mb ∧ ∀ b v, K b = some v → v.ownBlock ≠ some k
 ids : ∀ p ∈ P, 1 ≤ p.id ∧ p.id ≤ last ∧ p.blk ≤ 9223372036854775807 ∧ 1 ≤ p.bs.length ∧ p.off + p.bs.length ≤ 128
 srt : P.Pairwise (fun p q => p.id < q.id)
 low : ∀ p ∈ P, ∀ x ∈ p.nd, 1 ≤ x ∧ x < (p.id : Int)
 sml : last ≤ 10000
 base : (B ≤ a ∧ B ≤ mp ∧ B ≤ mb) ∧ mp ≠ mb
theorem zero44 (w : World) : (zeroValue 218).run Tryz.prog w = .ok (.agg #[.int .i64 0, .int .i64 0, .int .i64 0, .slice none 0 0, .slice none 0 0]) w := by kernel_rfl
theorem zero44_D : ∃ d, vR (.agg #[.int .i64 0, .int .i64 0, .int .i64 0, .slice none 0 0, .slice none 0 0]) = some (d, []) := ⟨_, rfl⟩
theorem zero30 (w : World) : (zeroValue 49).run Tryz.prog w = .ok (.slice none 0 0) w := by kernel_rfl
theorem zero30_D : ∃ d, vR (.slice none 0 0) = some (d, []) := ⟨_, rfl⟩
theorem zero97_D : ∃ d, vR (.agg #[]) = some (d, []) := ⟨_, rfl⟩
def zp : Value := .agg #[.int .i64 0, .int .i64 0, .int .i64 0, .slice none 0 0, .slice none 0 0]
section
variable {B : Nat} {w : World} {a mp mb last : Nat} {P : List Pv} {K : Int → Option Value}
theorem PS.c0 (h : PS B w a mp mb last P K) : w.cell? ⟨a, 0, none⟩ = some (.int .i64 (last : Int)) := by rw [cell_of_row _ _ 0 _ 215 _ h.row]; rfl
theorem PS.c1 (h : PS B w a mp mb last P K) : w.cell? ⟨a, 1, none⟩ = some (.map (some mp)) := by rw [cell_of_row _ _ 1 _ 215 _ h.row]; rfl
theorem PS.c2 (h : PS B w a mp mb last P K) : w.cell? ⟨a, 2, none⟩ = some (.map (some mb)) := by rw [cell_of_row _ _ 2 _ 215 _ h.row]; rfl
theorem PS.lt (h : PS B w a mp mb last P K) : a < w.heap.size := (Array.getElem?_eq_some_iff.1 h.row).1
theorem PS.kept {w' : World} (h : PS B w a mp mb last P K) (hb : Below w.heap.size w w') : PS B w' a mp mb last P K := by
 refine ⟨?_, h.pm.kept (hb.block _ h.pm.lt), h.bm.kept (hb.block _ h.bm.lt), fun p hp => ⟨(h.byt p hp).1.kept hb, (h.byt p hp).2⟩, fun p hp => ⟨(h.nee p hp).1.kept hb, (h.nee p hp).2⟩, fun b v hv => ?_, h.away, h.two, fun p hp k hk => ⟨Nat.lt_of_lt_of_le (h.apart p hp k hk).1 hb.size, (h.apart p hp k hk).2⟩, h.ids, h.srt, h.low, h.sml, h.base⟩
 ·rw [hb.block a h.lt]; exact h.row
 ·obtain ⟨h1, h2, h3⟩ := h.rows b v hv
  refine ⟨h1, ⟨h2.1, ?_⟩, h3⟩
  rcases h2.2 with h' | ⟨g', cap', cur, h', hbg, hg, rest⟩
  ·exact .inl h'
  ·have hlt : g' < w.heap.size := (Array.getElem?_eq_some_iff.1 hg).1
   exact .inr ⟨g', cap', cur, h', hbg, by rw [hb.block g' hlt]; exact hg, rest⟩
theorem PS.look (h : PS B w a mp mb last P K) (k : Int) (hk : I64 k) :
  (Instr.lookup 212 (.map (some mp)) (.int .i64 k) true).run Tryz.prog w = .ok (.tuple #[((fP P k).map Pv.v).getD zp, .bool (fP P k).isSome]) w := by
 obtain ⟨d, hd⟩ := zero44_D
 have := h.pm.look Tryz.underlying212 (zero44 w) hd k hk
 rw [this]
 simp [zp]
theorem PS.get (h : PS B w a mp mb last P K) (k : Int) (hk : I64 k) :
  (Instr.lookup 212 (.map (some mp)) (.int .i64 k) false).run Tryz.prog w = .ok (((fP P k).map Pv.v).getD zp) w := by
 obtain ⟨d, hd⟩ := zero44_D
 exact h.pm.get Tryz.underlying212 (zero44 w) hd k hk
theorem PS.list (h : PS B w a mp mb last P K) (b : Int) (hb : I64 b) :
  (Instr.lookup 213 (.map (some mb)) (.int .i64 b) false).run Tryz.prog w = .ok ((K b).getD (.slice none 0 0)) w := by
 obtain ⟨d, hd⟩ := zero30_D
 exact h.bm.get Tryz.underlying213 (zero30 w) hd b hb
end
theorem mapIsNil {P : Program} {t k e : TypeId} (h : P.underlying t = some (.map k e)) (n : Nat) (p : Option Nat) (w : World) : (Op.equalIn (n + 1) t (.map p) (.map none)).run P w = .ok p.isNone w := by
 cases p <;> simp [Op.equalIn, run_underlying h]
theorem mapNeqNil {P : Program} {t k e : TypeId} (h : P.underlying t = some (.map k e)) (p : Option Nat) (w : World) : (binOp .neq t (.map p) (.map none)).run P w = .ok (.bool p.isSome) w := by
 have h1 := mapIsNil h 9999 p w
 have h2 : Op.equal t (.map p) (.map none) = Op.equalIn (9999 + 1) t (.map p) (.map none) := rfl
 simp only [binOp, h2]
 generalize Op.equalIn (9999 + 1) t (.map p) (.map none) = s at h1
 cases p <;> simp [h1]
theorem made_ok {B : Nat} {w : World} {a mp mb last : Nat} {P : List Pv} {K : Int → Option Value} (h : PS B w a mp mb last P K) : Calls Tryz.prog 122 #[.pointer (some ⟨a, 0, none⟩)] w fun e w' => e = .returned (.bool true) ∧ w' = w := by
 have c1 := h.c1
 have hq := fun w => mapNeqNil (P := Tryz.prog) Tryz.underlying212 (some mp) w
 clear h
 go_enter Tryz.func122, Tryz.ntmps122
 go_wp2
 go_ret
 exact ⟨rfl, rfl⟩
def kn (last : Nat) (k : Int) : Bool := decide (1 ≤ k ∧ k ≤ (last : Int))
theorem kn_true {last : Nat} {k : Int} : kn last k = true ↔ 1 ≤ k ∧ k ≤ (last : Int) := by unfold kn; exact decide_eq_true_iff
theorem kn_false {last : Nat} {k : Int} : kn last k = false ↔ ¬ (1 ≤ k ∧ k ≤ (last : Int)) := by unfold kn; exact decide_eq_false_iff_not
theorem has_ok {B : Nat} {w : World} {a mp mb last : Nat} {P : List Pv} {K : Int → Option Value} (h : PS B w a mp mb last P K) (k : Int) : Calls Tryz.prog 211 #[.pointer (some ⟨a, 0, none⟩), .int .i64 k] w fun e w' => e = .returned (.bool (kn last k)) ∧ w' = w := by
 have c0 := h.c0
 clear h
 by_cases h1 : 1 ≤ k
 ·by_cases h2 : k ≤ (last : Int)
  ·have e : Hid (kn last k = true) := kn_true.2 ⟨h1, h2⟩
   go_enter Tryz.func211, Tryz.ntmps211
   go_wp2
   go_ret
   exact ⟨by rw [e.out]; rfl, rfl⟩
  ·have e : Hid (kn last k = false) := kn_false.2 (fun h => h2 h.2)
   go_enter Tryz.func211, Tryz.ntmps211
   go_wp2
   go_ret
   exact ⟨by rw [e.out]; rfl, rfl⟩
 ·have e : Hid (kn last k = false) := kn_false.2 (fun h => h1 h.1)
  go_enter Tryz.func211, Tryz.ntmps211
  go_wp2
  go_ret
  exact ⟨by rw [e.out]; rfl, rfl⟩
theorem below_setRow {B : Nat} {a w : World} (h : Below B a w) (g : Nat) (hg : B ≤ g) (cs : Array Value) : Below B a (w.setRow g cs) :=
 h.trans ⟨rfl, rfl, rfl, by simp, fun k hk => setRow_other _ _ _ _ (by omega)⟩
theorem zp_one : (#[.int .i64 0, .int .i64 0, .int .i64 0, .slice none 0 0, .slice none 0 0] : Array Value).all (·.oneCell') = true := by simp [Value.oneCell']
theorem pv_one (p : Pv) : p.cells.all (·.oneCell') = true := by simp [Pv.cells, Value.oneCell']
theorem info44 : (Tryz.prog.info? 218).map (·.size) = some 5 := by kernel_rfl
set_option maxHeartbeats 400000 in
theorem isPending_ok {B : Nat} {w : World} {a mp mb last : Nat} {P : List Pv} {K : Int → Option Value} (h : PS B w a mp mb last P K) (k : Int) (hk : I64 k) : Calls Tryz.prog 214 #[.pointer (some ⟨a, 0, none⟩), .int .i64 k] w fun e w' => e = .returned (.bool (fP P k).isSome) ∧ Below w.heap.size w w' := by
 have c1 := h.c1
 have hl := h.look k hk
 obtain ⟨cs, hcs, h1, h5⟩ : ∃ cs : Array Value, ((fP P k).map Pv.v).getD zp = .agg cs ∧ cs.all (·.oneCell') = true ∧ cs.size = 5 := by
  cases e : fP P k with
  | none => exact ⟨_, rfl, zp_one, rfl⟩
  | some p => exact ⟨p.cells, rfl, pv_one p, rfl⟩
 rw [hcs] at hl
 have hb := (Below.refl w.heap.size w).alloc (Nat.le_refl _) (Obj.cells #[.int .i64 0, .int .i64 0, .int .i64 0, .slice none 0 0, .slice none 0 0] 218)
 have hr0 : (w.alloc (Obj.cells #[.int .i64 0, .int .i64 0, .int .i64 0, .slice none 0 0, .slice none 0 0] 218)).heap[w.heap.size]? = some (.cells #[.int .i64 0, .int .i64 0, .int .i64 0, .slice none 0 0, .slice none 0 0] 218 (0, 0)) := World.alloc_heap_new w _
 clear h hcs
 go_enter Tryz.func214, Tryz.ntmps214
 go_wp2_with (refine wpList_store_row rfl 218 _ _ rfl w.heap.size cs rfl rfl 218 _ hr0 (by rw [h5]; exact info44) (by rw [h5]; rfl) h1 ?_)
 go_ret
 exact ⟨rfl, below_setRow hb _ (Nat.le_refl _) _⟩
theorem below_at {P : Program} {f : FuncId} {args : Array Value} {w : World} {v : Value} {Q : Ending → World → Prop} (h : Calls P f args w fun e w' => e = .returned v ∧ Below w.heap.size w w') (hq : ∀ w', Below w.heap.size w w' → Q (.returned v) w') : Calls P f args w Q :=
 h.mono fun _ _ ⟨he, hb⟩ => by rw [he]; exact hq _ hb
theorem below_on {a b c : World} (h : Below a.heap.size a b) (k : Below b.heap.size b c) : Below a.heap.size a c := h.trans (k.mono h.size)
theorem getD_mem' {zs : List Int} {j : Nat} (h : j < zs.length) : zs.getD j 0 ∈ zs := by
 rw [List.getD_eq_getElem?_getD, List.getElem?_eq_getElem h]; exact List.getElem_mem _
theorem take_one {zs : List Int} {j : Nat} (h : j < zs.length) : zs.take (j + 1) = zs.take j ++ [zs.getD j 0] := by
 rw [List.take_add_one, List.getD_eq_getElem?_getD, List.getElem?_eq_getElem h]; rfl
set_option maxHeartbeats 400000 in
theorem known_ok {B : Nat} {w : World} {a mp mb last : Nat} {P : List Pv} {K : Int → Option Value} (h : PS B w a mp mb last P K) (p : Option Addr) (n c : Nat) (zs : List Int) (hz : II w p n zs) :
  Calls Tryz.prog 123 #[.pointer (some ⟨a, 0, none⟩), .slice p n c] w fun e w' => e = .returned (.bool (zs.all (kn last))) ∧ w' = w := by
 have hl := hz.len
 have hg := hz.big
 go_enter Tryz.func123, Tryz.ntmps123
 go_wp2_with fail
 go_loopw [9] (fun i wr => ∃ j : Nat, j ≤ n ∧ i = .int .i64 (j : Int) ∧ Hid ((zs.take j).all (kn last) = true) ∧ wr = w) (fun i _ => n - (intOf i).toNat)
 case atStart => exact ⟨0, by omega, rfl, rfl, rfl⟩
 case round =>
  obtain ⟨j, hj, rfl, HA, rfl⟩ := hrel
  by_cases hlt : j < n
  ·obtain ⟨b1, o1, rfl, hc1⟩ := hz.cells (by omega)
   have e1 := hc1 j hlt
   have hh := has_ok h (zs.getD j 0)
   have hjI : (j : Int) < (n : Int) := by omega
   have hj0 : (0 : Int) ≤ (j : Int) := by omega
   have HT : Hid _ := take_one (zs := zs) (j := j) (by omega)
   have HM : Hid _ := getD_mem' (zs := zs) (j := j) (by omega)
   clear hc1
   generalize zs.getD j 0 = y at e1 hh HT HM
   cases hy : kn last y with
   | true =>
    rw [hy] at hh
    have HY : Hid _ := hy
    clear hy
    go_wp2_with (first | (go_at_call 211; refine same_at hh ?_))
    go_roundw
    case rel => exact ⟨j + 1, by omega, by go_num, (by
     show (zs.take (j + 1)).all _ = true
     rw [HT.out, List.all_append, HA.out]
     simp [HY.out]), trivial⟩
    case measure => simp [intOf]; omega
   | false =>
    rw [hy] at hh
    have HR : Hid (zs.all (kn last) = false) := by
     show _ = false
     rw [List.all_eq_false]
     exact ⟨y, HM.out, by simp [hy]⟩
    clear hy
    go_wp2_with (first | (go_at_call 211; refine same_at hh ?_))
    go_ret
    exact ⟨by rw [HR.out]; rfl, rfl⟩
  ·obtain rfl : j = n := by omega
   have HR : Hid (zs.all (kn last) = true) := by
    show _ = true
    rw [← HA.out, List.take_of_length_le (by omega)]
   go_wp2
   go_ret
   exact ⟨by rw [HR.out]; rfl, rfl⟩
theorem info3 : (Tryz.prog.info? 3).map (fun i => (i.zero, i.size, i.bytes)) = some (some (.int .i64 0), 1, 8) := by kernel_rfl
def Nums (B : Nat) (w : World) (v : Value) (zs : List Int) : Prop := w.ownsRow B 3 1 v zs.length (zs.map (Value.int .i64))
theorem Nums.kept {B : Nat} {w w' : World} {v : Value} {zs : List Int} (h : Nums B w v zs) (hb : Below w.heap.size w w') : Nums B w' v zs := by
 refine ⟨h.1, ?_⟩
 rcases h.2 with h' | ⟨g', cap', cur, h', hbg, hg, rest⟩
 ·exact .inl h'
 ·have hlt : g' < w.heap.size := (Array.getElem?_eq_some_iff.1 hg).1
  exact .inr ⟨g', cap', cur, h', hbg, by rw [hb.block g' hlt]; exact hg, rest⟩
theorem Nums.nil (B : Nat) (w : World) : Nums B w (.slice none 0 0) [] := World.ownsRow_nil _ _ _ _
theorem Nums.ii {w : World} {B : Nat} {v : Value} {zs : List Int} (h : Nums B w v zs) (hn : zs.length ≤ 140737488355328) (hf : ∀ x ∈ zs, I64 x) : ∃ p c, v = .slice p zs.length c ∧ II w p zs.length zs ∧ Plain p := by
 rcases h.2 with ⟨e, e0⟩ | ⟨g, cap, cur, e, k⟩
 ·rw [e0]
  exact ⟨_, _, e, ⟨e0, by omega, hf, fun h => by omega⟩, .inl rfl⟩
 ·refine ⟨_, _, e, ⟨rfl, hn, hf, fun h0 => ⟨g, 0, rfl, fun i hi => ?_⟩⟩, .inr ⟨g, 0, rfl⟩⟩
  have h' : w.ownsRow B 3 1 (.slice (some ⟨g, 0, none⟩) zs.length cap) zs.length (zs.map (Value.int .i64)) := by rw [← e]; exact h
  rw [Nat.zero_add, h'.cellAt i (by omega), List.getElem?_map, List.getD_eq_getElem?_getD, List.getElem?_eq_getElem (by omega)]
  rfl
theorem Nums.snoc {B : Nat} {w : World} {v : Value} {zs : List Int} {y : Int} (h : w.ownsRow B 3 1 v (zs.length + 1) (zs.map (Value.int .i64) ++ [.int .i64 y])) : Nums B w v (zs ++ [y]) := by
 unfold Nums
 rw [List.length_append, List.map_append]
 exact h
theorem Nums.succ {B : Nat} {w : World} {v : Value} {zs : List Int} {y : Int} (h : Nums B w v (zs ++ [y])) : ∃ g cap, v = .slice (some ⟨g, 0, none⟩) (zs.length + 1) cap := by
 rcases h.2 with ⟨_, e⟩ | ⟨g, cap, cur, e, _⟩
 ·simp at e
 ·exact ⟨g, cap, by rw [e]; simp⟩
def still (P : List Pv) (zs : List Int) : List Int := zs.filter (fun k => (fP P k).isSome)
set_option maxHeartbeats 1000000 in
theorem stillPending_ok {B : Nat} {w : World} {a mp mb last : Nat} {P : List Pv} {K : Int → Option Value} (h : PS B w a mp mb last P K) (p : Option Addr) (n c : Nat) (zs : List Int) (hz : II w p n zs) (h8 : n * 8 ≤ 140737488355328) :
  Calls Tryz.prog 126 #[.pointer (some ⟨a, 0, none⟩), .slice p n c] w fun e w' => ∃ v, e = .returned v ∧ Nums w.heap.size w' v (still P zs) ∧ Below w.heap.size w w' := by
 obtain ⟨i0, hi, hz0, hz1, hz2⟩ := info_parts info3
 have hl := hz.len
 have hg := hz.big
 go_enter Tryz.func126, Tryz.ntmps126
 go_wp2_with fail
 go_loopw [5, 10] (fun s i wr => ∃ j : Nat, j ≤ n ∧ i = .int .i64 (j : Int) ∧ Nums w.heap.size wr s (still P (zs.take j)) ∧ Below w.heap.size w wr) (fun s i _ => n - (intOf i).toNat)
 case atStart => exact ⟨0, by omega, rfl, Nums.nil _ _, Below.refl _ _⟩
 case round =>
  obtain ⟨j, hj, rfl, hN, hb⟩ := hrel
  by_cases hlt : j < n
  ·obtain ⟨b1, o1, rfl, hc1⟩ := (hz.kept hb).cells (by omega)
   have e1 := hc1 j hlt
   have hp := isPending_ok (h.kept hb) (zs.getD j 0) (hz.fitAt j)
   have hjI : (j : Int) < (n : Int) := by omega
   have hj0 : (0 : Int) ≤ (j : Int) := by omega
   have HT : Hid _ := take_one (zs := zs) (j := j) (by omega)
   have hlen : (still P (zs.take j)).length ≤ j := Nat.le_trans (List.length_filter_le _ _) (by simp; omega)
   clear hc1
   generalize zs.getD j 0 = y at e1 hp HT
   cases hy : (fP P y).isSome with
   | true =>
    rw [hy] at hp
    have HS : Hid (still P (zs.take (j + 1)) = still P (zs.take j) ++ [y]) := by
     show _ = _
     unfold still
     rw [HT.out, List.filter_append]
     simp [hy]
    clear hy
    go_wp2_with (first
     | (go_at_call 214; refine below_at hp ?_; intro w1 hb1; have hN2 := hN.kept hb1; have hb2 := below_on hb hb1)
     | (at_builtin; refine wpList_append_own _ rfl _ _ 49 rfl w.heap.size 3 i0 (.int .i64 0) 1 8 Tryz.underlying49 hi hz0 hz1 hz2 rfl (by decide) _ _ _ rfl (World.ownsRow.alloc hN2 _) ⟨w1.heap.size, 0, none⟩ 1 1 [.int .i64 y] rfl rfl (cell_one_new _ _ _) (by simp [Value.oneCell']) (by unfold maxLen; omega) (by omega) (by have := hb2.size; simp; omega) ?_; intro v' w3 hown hgrow _; have hown := Nums.snoc hown; obtain ⟨g', cap', rfl⟩ := Nums.succ hown))
    have hb3 := (hb2.alloc (by have := hb2.size; omega) _).grown hgrow (by have := hb2.size; simp; omega) (by intro k hk; exact (World.ownsRow.lt hN2 k hk).1)
    go_roundw
    case rel => exact ⟨j + 1, by omega, by go_num, by rw [HS.out]; exact hown, hb3⟩
    case measure => simp [intOf]; omega
   | false =>
    rw [hy] at hp
    have HS : Hid (still P (zs.take (j + 1)) = still P (zs.take j)) := by
     show _ = _
     unfold still
     rw [HT.out, List.filter_append]
     simp [hy]
    clear hy
    go_wp2_with (first | (go_at_call 214; refine below_at hp ?_; intro w1 hb1))
    go_roundw
    case rel => exact ⟨j + 1, by omega, by go_num, by rw [HS.out]; exact hN.kept hb1, below_on hb hb1⟩
    case measure => simp [intOf]; omega
  ·obtain rfl : j = n := by omega
   rw [List.take_of_length_le (by omega)] at hN
   go_wp2
   go_ret
   exact ⟨_, rfl, hN, hb⟩
end Go.Proofs.YthdlpeejmmobmaaGreat.Pt
