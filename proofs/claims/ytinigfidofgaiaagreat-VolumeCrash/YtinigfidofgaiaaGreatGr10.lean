/- PSet -/
import Derived.Test.YtinigfidofgaiaaGreatGr09

/- A set of patches in memory; what is asked of one patch's number. -/
namespace Go.Proofs.YtinigfidofgaiaaGreat.Pt
open Go.RowKit Go.Maps
set_option maxRecDepth 100000
set_option linter.unusedVariables false

/-- The slice at p, of n numbers, holds zs. -/
structure II (w : World) (p : Option Addr) (n : Nat) (zs : List Int) : Prop where
  len : zs.length = n
  big : n ≤ 140737488355328
  fit : ∀ x ∈ zs, I64 x
  cells : 0 < n → ∃ b o, p = some ⟨b, o, none⟩ ∧ ∀ i, i < n → w.cell? ⟨b, o + i, none⟩ = some (.int .i64 (zs.getD i 0))

theorem II.kept {w w' : World} {p : Option Addr} {n : Nat} {xs : List Int} (h : II w p n xs) (hb : Below w.heap.size w w') : II w' p n xs := by
  refine ⟨h.len, h.big, h.fit, fun hn => ?_⟩
  obtain ⟨b, o, rfl, hc⟩ := h.cells hn
  refine ⟨b, o, rfl, fun i hi => ?_⟩
  rw [hb.cell (p := ⟨b, o + i, none⟩) (lt_of_cell (hc i hi))]
  exact hc i hi
theorem II.fitAt {w : World} {p : Option Addr} {n : Nat} {xs : List Int} (h : II w p n xs) (i : Nat) : I64 (xs.getD i 0) := by
  rw [List.getD_eq_getElem?_getD]
  cases e : xs[i]? with
  | none => exact ⟨by decide, by decide⟩
  | some y => exact h.fit y (List.mem_of_getElem? e)

/-- A patch, and where its bytes and its needs lie. -/
structure Pv where
  id : Nat
  blk : Nat
  off : Nat
  bs : List Int
  nd : List Int
  bp : Option Addr
  bc : Nat
  np : Option Addr
  nc : Nat

def Pv.cells (p : Pv) : Array Value := #[.int .i64 (p.id : Int), .int .i64 (p.blk : Int), .int .i64 (p.off : Int), .slice p.bp p.bs.length p.bc, .slice p.np p.nd.length p.nc]
def Pv.v (p : Pv) : Value := .agg p.cells

/-- A slice's address lies at the beginning of a part of memory, or nowhere. -/
def Plain (p : Option Addr) : Prop := p = none ∨ ∃ b o, p = some ⟨b, o, none⟩

theorem slice_D {p : Option Addr} (h : Plain p) (n c : Nat) : ∃ d, cellD (.slice p n c) = some d := by
  rcases h with rfl | ⟨b, o, rfl⟩
  · exact ⟨_, rfl⟩
  · exact ⟨_, rfl⟩

theorem pv_D (p : Pv) (h1 : Plain p.bp) (h2 : Plain p.np) : ∃ d, vR p.v = some (d, []) := by
  obtain ⟨d1, e1⟩ := slice_D h1 p.bs.length p.bc
  obtain ⟨d2, e2⟩ := slice_D h2 p.nd.length p.nc
  refine ⟨.ptr (.agg [.lit (.int .i64 p.id), .lit (.int .i64 p.blk), .lit (.int .i64 p.off), d1, d2]), ?_⟩
  have hi : ∀ x : Int, cellD (.int .i64 x) = some (.lit (.int .i64 x)) := fun _ => rfl
  simp only [Pv.v, vR, Pv.cells, cellsD, e1, e2, hi]
  rfl

def fP (P : List Pv) (k : Int) : Option Pv := P.find? (fun p => decide ((p.id : Int) = k))
def idsOf (P : List Pv) (b : Int) : List Int := (P.filter (fun p => decide ((p.blk : Int) = b))).map (fun p => (p.id : Int))

/-- The blocks that a slice of numbers lies in. -/
def blkOf : Option Addr → Option Nat
  | none => none
  | some a => some a.block

/-- Block a is a set that has the patches of P, behind the number last. K: where each block's numbers lie. -/
structure PS (B : Nat) (w : World) (a mp mb last : Nat) (P : List Pv) (K : Int → Option Value) : Prop where
  row : w.heap[a]? = some (.cells #[.int .i64 (last : Int), .map (some mp), .map (some mb)] 121 (0, 0))
  pm : Mf w mp last (fun k => (fP P k).map Pv.v)
  bm : Mf w mb P.length K
  byt : ∀ p ∈ P, BI w p.bp p.bs.length p.bs ∧ Plain p.bp
  nee : ∀ p ∈ P, II w p.np p.nd.length p.nd ∧ Plain p.np
  rows : ∀ b v, K b = some v → I64 b ∧ w.ownsRow B 3 1 v (idsOf P b).length ((idsOf P b).map (Value.int .i64)) ∧ idsOf P b ≠ []
  away : ∀ b, I64 b → K b = none → idsOf P b = []
  two : ∀ b b' v v', K b = some v → K b' = some v' → v.ownBlock = v'.ownBlock → b = b'
  apart : ∀ p ∈ P, ∀ k, (blkOf p.np = some k ∨ blkOf p.bp = some k) → k < w.heap.size ∧ k ≠ a ∧ k ≠ mp ∧ k ≠ mb ∧ ∀ b v, K b = some v → v.ownBlock ≠ some k
  ids : ∀ p ∈ P, 1 ≤ p.id ∧ p.id ≤ last ∧ p.blk ≤ 9223372036854775807 ∧ 1 ≤ p.bs.length ∧ p.off + p.bs.length ≤ 128
  srt : P.Pairwise (fun p q => p.id < q.id)
  low : ∀ p ∈ P, ∀ x ∈ p.nd, 1 ≤ x ∧ x < (p.id : Int)
  sml : last ≤ 1000
  base : (B ≤ a ∧ B ≤ mp ∧ B ≤ mb) ∧ mp ≠ mb

theorem zero44 (w : World) : (zeroValue 134).run Tryz.prog w = .ok (.agg #[.int .i64 0, .int .i64 0, .int .i64 0, .slice none 0 0, .slice none 0 0]) w := by kernel_rfl
theorem zero44_D : ∃ d, vR (.agg #[.int .i64 0, .int .i64 0, .int .i64 0, .slice none 0 0, .slice none 0 0]) = some (d, []) := ⟨_, rfl⟩
theorem zero30 (w : World) : (zeroValue 23).run Tryz.prog w = .ok (.slice none 0 0) w := by kernel_rfl
theorem zero30_D : ∃ d, vR (.slice none 0 0) = some (d, []) := ⟨_, rfl⟩
theorem zero97 (w : World) : (zeroValue 64).run Tryz.prog w = .ok (.agg #[]) w := by kernel_rfl
theorem zero97_D : ∃ d, vR (.agg #[]) = some (d, []) := ⟨_, rfl⟩
def zp : Value := .agg #[.int .i64 0, .int .i64 0, .int .i64 0, .slice none 0 0, .slice none 0 0]

section
variable {B : Nat} {w : World} {a mp mb last : Nat} {P : List Pv} {K : Int → Option Value}

theorem PS.c0 (h : PS B w a mp mb last P K) : w.cell? ⟨a, 0, none⟩ = some (.int .i64 (last : Int)) := by rw [cell_of_row _ _ 0 _ 121 _ h.row]; rfl
theorem PS.c1 (h : PS B w a mp mb last P K) : w.cell? ⟨a, 1, none⟩ = some (.map (some mp)) := by rw [cell_of_row _ _ 1 _ 121 _ h.row]; rfl
theorem PS.c2 (h : PS B w a mp mb last P K) : w.cell? ⟨a, 2, none⟩ = some (.map (some mb)) := by rw [cell_of_row _ _ 2 _ 121 _ h.row]; rfl
theorem PS.lt (h : PS B w a mp mb last P K) : a < w.heap.size := (Array.getElem?_eq_some_iff.1 h.row).1

theorem PS.kept {w' : World} (h : PS B w a mp mb last P K) (hb : Below w.heap.size w w') : PS B w' a mp mb last P K := by
  refine ⟨?_, h.pm.kept (hb.block _ h.pm.lt), h.bm.kept (hb.block _ h.bm.lt), fun p hp => ⟨(h.byt p hp).1.kept hb, (h.byt p hp).2⟩, fun p hp => ⟨(h.nee p hp).1.kept hb, (h.nee p hp).2⟩, fun b v hv => ?_, h.away, h.two, fun p hp k hk => ⟨Nat.lt_of_lt_of_le (h.apart p hp k hk).1 hb.size, (h.apart p hp k hk).2⟩, h.ids, h.srt, h.low, h.sml, h.base⟩
  · rw [hb.block a h.lt]; exact h.row
  · obtain ⟨h1, h2, h3⟩ := h.rows b v hv
    refine ⟨h1, ⟨h2.1, ?_⟩, h3⟩
    rcases h2.2 with h' | ⟨g', cap', cur, h', hbg, hg, rest⟩
    · exact .inl h'
    · have hlt : g' < w.heap.size := (Array.getElem?_eq_some_iff.1 hg).1
      exact .inr ⟨g', cap', cur, h', hbg, by rw [hb.block g' hlt]; exact hg, rest⟩

theorem PS.look (h : PS B w a mp mb last P K) (k : Int) (hk : I64 k) :
    (Instr.lookup 119 (.map (some mp)) (.int .i64 k) true).run Tryz.prog w = .ok (.tuple #[((fP P k).map Pv.v).getD zp, .bool (fP P k).isSome]) w := by
  obtain ⟨d, hd⟩ := zero44_D
  have := h.pm.look Tryz.underlying119 (zero44 w) hd k hk
  rw [this]
  simp [zp]
theorem PS.get (h : PS B w a mp mb last P K) (k : Int) (hk : I64 k) :
    (Instr.lookup 119 (.map (some mp)) (.int .i64 k) false).run Tryz.prog w = .ok (((fP P k).map Pv.v).getD zp) w := by
  obtain ⟨d, hd⟩ := zero44_D
  exact h.pm.get Tryz.underlying119 (zero44 w) hd k hk
theorem PS.list (h : PS B w a mp mb last P K) (b : Int) (hb : I64 b) :
    (Instr.lookup 118 (.map (some mb)) (.int .i64 b) false).run Tryz.prog w = .ok ((K b).getD (.slice none 0 0)) w := by
  obtain ⟨d, hd⟩ := zero30_D
  exact h.bm.get Tryz.underlying118 (zero30 w) hd b hb
end

theorem mapIsNil {P : Program} {t k e : TypeId} (h : P.underlying t = some (.map k e)) (n : Nat) (p : Option Nat) (w : World) : (Op.equalIn (n + 1) t (.map p) (.map none)).run P w = .ok p.isNone w := by
  cases p <;> simp [Op.equalIn, run_underlying h]
theorem mapNeqNil {P : Program} {t k e : TypeId} (h : P.underlying t = some (.map k e)) (p : Option Nat) (w : World) : (binOp .neq t (.map p) (.map none)).run P w = .ok (.bool p.isSome) w := by
  have h1 := mapIsNil h 9999 p w
  have h2 : Op.equal t (.map p) (.map none) = Op.equalIn (9999 + 1) t (.map p) (.map none) := rfl
  simp only [binOp, h2]
  generalize Op.equalIn (9999 + 1) t (.map p) (.map none) = s at h1
  cases p <;> simp [h1]

theorem made_ok {B : Nat} {w : World} {a mp mb last : Nat} {P : List Pv} {K : Int → Option Value} (h : PS B w a mp mb last P K) : Calls Tryz.prog 75 #[.pointer (some ⟨a, 0, none⟩)] w fun e w' => e = .returned (.bool true) ∧ w' = w := by
  have c1 := h.c1
  have hq := fun w => mapNeqNil (P := Tryz.prog) Tryz.underlying119 (some mp) w
  clear h
  go_enter Tryz.func75, Tryz.ntmps75
  go_wp2
  go_ret
  exact ⟨rfl, rfl⟩

/-- Whether a number is one that was given. -/
def kn (last : Nat) (k : Int) : Bool := decide (1 ≤ k ∧ k ≤ (last : Int))
theorem kn_true {last : Nat} {k : Int} : kn last k = true ↔ 1 ≤ k ∧ k ≤ (last : Int) := by unfold kn; exact decide_eq_true_iff
theorem kn_false {last : Nat} {k : Int} : kn last k = false ↔ ¬ (1 ≤ k ∧ k ≤ (last : Int)) := by unfold kn; exact decide_eq_false_iff_not

theorem has_ok {B : Nat} {w : World} {a mp mb last : Nat} {P : List Pv} {K : Int → Option Value} (h : PS B w a mp mb last P K) (k : Int) : Calls Tryz.prog 95 #[.pointer (some ⟨a, 0, none⟩), .int .i64 k] w fun e w' => e = .returned (.bool (kn last k)) ∧ w' = w := by
  have c0 := h.c0
  clear h
  by_cases h1 : 1 ≤ k
  · by_cases h2 : k ≤ (last : Int)
    · have e : Hid (kn last k = true) := kn_true.2 ⟨h1, h2⟩
      go_enter Tryz.func95, Tryz.ntmps95
      go_wp2
      go_ret
      exact ⟨by rw [e.out]; rfl, rfl⟩
    · have e : Hid (kn last k = false) := kn_false.2 (fun h => h2 h.2)
      go_enter Tryz.func95, Tryz.ntmps95
      go_wp2
      go_ret
      exact ⟨by rw [e.out]; rfl, rfl⟩
  · have e : Hid (kn last k = false) := kn_false.2 (fun h => h1 h.1)
    go_enter Tryz.func95, Tryz.ntmps95
    go_wp2
    go_ret
    exact ⟨by rw [e.out]; rfl, rfl⟩

theorem below_setRow {B : Nat} {a w : World} (h : Below B a w) (g : Nat) (hg : B ≤ g) (cs : Array Value) : Below B a (w.setRow g cs) :=
  h.trans ⟨rfl, rfl, rfl, by simp, fun k hk => setRow_other _ _ _ _ (by omega)⟩

theorem zp_one : (#[.int .i64 0, .int .i64 0, .int .i64 0, .slice none 0 0, .slice none 0 0] : Array Value).all (·.oneCell') = true := by simp [Value.oneCell']
theorem pv_one (p : Pv) : p.cells.all (·.oneCell') = true := by simp [Pv.cells, Value.oneCell']
theorem info44 : (Tryz.prog.info? 134).map (·.size) = some 5 := by kernel_rfl

set_option maxHeartbeats 400000 in
theorem isPending_ok {B : Nat} {w : World} {a mp mb last : Nat} {P : List Pv} {K : Int → Option Value} (h : PS B w a mp mb last P K) (k : Int) (hk : I64 k) : Calls Tryz.prog 89 #[.pointer (some ⟨a, 0, none⟩), .int .i64 k] w fun e w' => e = .returned (.bool (fP P k).isSome) ∧ Below w.heap.size w w' := by
  have c1 := h.c1
  have hl := h.look k hk
  obtain ⟨cs, hcs, h1, h5⟩ : ∃ cs : Array Value, ((fP P k).map Pv.v).getD zp = .agg cs ∧ cs.all (·.oneCell') = true ∧ cs.size = 5 := by
    cases e : fP P k with
    | none => exact ⟨_, rfl, zp_one, rfl⟩
    | some p => exact ⟨p.cells, rfl, pv_one p, rfl⟩
  rw [hcs] at hl
  have hb := (Below.refl w.heap.size w).alloc (Nat.le_refl _) (Obj.cells #[.int .i64 0, .int .i64 0, .int .i64 0, .slice none 0 0, .slice none 0 0] 134)
  have hr0 : (w.alloc (Obj.cells #[.int .i64 0, .int .i64 0, .int .i64 0, .slice none 0 0, .slice none 0 0] 134)).heap[w.heap.size]? = some (.cells #[.int .i64 0, .int .i64 0, .int .i64 0, .slice none 0 0, .slice none 0 0] 134 (0, 0)) := World.alloc_heap_new w _
  clear h hcs
  go_enter Tryz.func89, Tryz.ntmps89
  go_wp2_with (refine wpList_store_row rfl 134 _ _ rfl w.heap.size cs rfl rfl 134 _ hr0 (by rw [h5]; exact info44) (by rw [h5]; rfl) h1 ?_)
  go_ret
  exact ⟨rfl, below_setRow hb _ (Nat.le_refl _) _⟩

theorem below_at {P : Program} {f : FuncId} {args : Array Value} {w : World} {v : Value} {Q : Ending → World → Prop} (h : Calls P f args w fun e w' => e = .returned v ∧ Below w.heap.size w w') (hq : ∀ w', Below w.heap.size w w' → Q (.returned v) w') : Calls P f args w Q :=
  h.mono fun _ _ ⟨he, hb⟩ => by rw [he]; exact hq _ hb
theorem below_on {a b c : World} (h : Below a.heap.size a b) (k : Below b.heap.size b c) : Below a.heap.size a c := h.trans (k.mono h.size)

theorem getD_mem' {zs : List Int} {j : Nat} (h : j < zs.length) : zs.getD j 0 ∈ zs := by
  rw [List.getD_eq_getElem?_getD, List.getElem?_eq_getElem h]; exact List.getElem_mem _
theorem take_one {zs : List Int} {j : Nat} (h : j < zs.length) : zs.take (j + 1) = zs.take j ++ [zs.getD j 0] := by
  rw [List.take_add_one, List.getD_eq_getElem?_getD, List.getElem?_eq_getElem h]; rfl

set_option maxHeartbeats 400000 in
theorem known_ok {B : Nat} {w : World} {a mp mb last : Nat} {P : List Pv} {K : Int → Option Value} (h : PS B w a mp mb last P K) (p : Option Addr) (n c : Nat) (zs : List Int) (hz : II w p n zs) :
    Calls Tryz.prog 101 #[.pointer (some ⟨a, 0, none⟩), .slice p n c] w fun e w' => e = .returned (.bool (zs.all (kn last))) ∧ w' = w := by
  have hl := hz.len
  have hg := hz.big
  go_enter Tryz.func101, Tryz.ntmps101
  go_wp2_with fail
  go_loopw [9] (fun i wr => ∃ j : Nat, j ≤ n ∧ i = .int .i64 (j : Int) ∧ Hid ((zs.take j).all (kn last) = true) ∧ wr = w) (fun i _ => n - (intOf i).toNat)
  case atStart => exact ⟨0, by omega, rfl, rfl, rfl⟩
  case round =>
    obtain ⟨j, hj, rfl, HA, rfl⟩ := hrel
    by_cases hlt : j < n
    · obtain ⟨b1, o1, rfl, hc1⟩ := hz.cells (by omega)
      have e1 := hc1 j hlt
      have hh := has_ok h (zs.getD j 0)
      have hjI : (j : Int) < (n : Int) := by omega
      have hj0 : (0 : Int) ≤ (j : Int) := by omega
      have HT : Hid _ := take_one (zs := zs) (j := j) (by omega)
      have HM : Hid _ := getD_mem' (zs := zs) (j := j) (by omega)
      clear hc1
      generalize zs.getD j 0 = y at e1 hh HT HM
      cases hy : kn last y with
      | true =>
        rw [hy] at hh
        have HY : Hid _ := hy
        clear hy
        go_wp2_with (first | (go_at_call 95; refine same_at hh ?_))
        go_roundw
        case rel => exact ⟨j + 1, by omega, by go_num, (by
          show (zs.take (j + 1)).all _ = true
          rw [HT.out, List.all_append, HA.out]
          simp [HY.out]), trivial⟩
        case measure => simp [intOf]; omega
      | false =>
        rw [hy] at hh
        have HR : Hid (zs.all (kn last) = false) := by
          show _ = false
          rw [List.all_eq_false]
          exact ⟨y, HM.out, by simp [hy]⟩
        clear hy
        go_wp2_with (first | (go_at_call 95; refine same_at hh ?_))
        go_ret
        exact ⟨by rw [HR.out]; rfl, rfl⟩
    · obtain rfl : j = n := by omega
      have HR : Hid (zs.all (kn last) = true) := by
        show _ = true
        rw [← HA.out, List.take_of_length_le (by omega)]
      go_wp2
      go_ret
      exact ⟨by rw [HR.out]; rfl, rfl⟩

theorem info3 : (Tryz.prog.info? 3).map (fun i => (i.zero, i.size, i.bytes)) = some (some (.int .i64 0), 1, 8) := by kernel_rfl

/-- The call's own row of numbers. -/
def Nums (B : Nat) (w : World) (v : Value) (zs : List Int) : Prop := w.ownsRow B 3 1 v zs.length (zs.map (Value.int .i64))
theorem Nums.kept {B : Nat} {w w' : World} {v : Value} {zs : List Int} (h : Nums B w v zs) (hb : Below w.heap.size w w') : Nums B w' v zs := by
  refine ⟨h.1, ?_⟩
  rcases h.2 with h' | ⟨g', cap', cur, h', hbg, hg, rest⟩
  · exact .inl h'
  · have hlt : g' < w.heap.size := (Array.getElem?_eq_some_iff.1 hg).1
    exact .inr ⟨g', cap', cur, h', hbg, by rw [hb.block g' hlt]; exact hg, rest⟩
theorem Nums.nil (B : Nat) (w : World) : Nums B w (.slice none 0 0) [] := World.ownsRow_nil _ _ _ _
theorem Nums.ii {w : World} {B : Nat} {v : Value} {zs : List Int} (h : Nums B w v zs) (hn : zs.length ≤ 140737488355328) (hf : ∀ x ∈ zs, I64 x) : ∃ p c, v = .slice p zs.length c ∧ II w p zs.length zs ∧ Plain p := by
  rcases h.2 with ⟨e, e0⟩ | ⟨g, cap, cur, e, k⟩
  · rw [e0]
    exact ⟨_, _, e, ⟨e0, by omega, hf, fun h => by omega⟩, .inl rfl⟩
  · refine ⟨_, _, e, ⟨rfl, hn, hf, fun h0 => ⟨g, 0, rfl, fun i hi => ?_⟩⟩, .inr ⟨g, 0, rfl⟩⟩
    have h' : w.ownsRow B 3 1 (.slice (some ⟨g, 0, none⟩) zs.length cap) zs.length (zs.map (Value.int .i64)) := by rw [← e]; exact h
    rw [Nat.zero_add, h'.cellAt i (by omega), List.getElem?_map, List.getD_eq_getElem?_getD, List.getElem?_eq_getElem (by omega)]
    rfl

theorem Nums.snoc {B : Nat} {w : World} {v : Value} {zs : List Int} {y : Int} (h : w.ownsRow B 3 1 v (zs.length + 1) (zs.map (Value.int .i64) ++ [.int .i64 y])) : Nums B w v (zs ++ [y]) := by
  unfold Nums
  rw [List.length_append, List.map_append]
  exact h
theorem Nums.succ {B : Nat} {w : World} {v : Value} {zs : List Int} {y : Int} (h : Nums B w v (zs ++ [y])) : ∃ g cap, v = .slice (some ⟨g, 0, none⟩) (zs.length + 1) cap := by
  rcases h.2 with ⟨_, e⟩ | ⟨g, cap, cur, e, _⟩
  · simp at e
  · exact ⟨g, cap, by rw [e]; simp⟩

/-- Those that are pending. -/
def still (P : List Pv) (zs : List Int) : List Int := zs.filter (fun k => (fP P k).isSome)

set_option maxHeartbeats 1000000 in
theorem stillPending_ok {B : Nat} {w : World} {a mp mb last : Nat} {P : List Pv} {K : Int → Option Value} (h : PS B w a mp mb last P K) (p : Option Addr) (n c : Nat) (zs : List Int) (hz : II w p n zs) (h8 : n * 8 ≤ 140737488355328) :
    Calls Tryz.prog 102 #[.pointer (some ⟨a, 0, none⟩), .slice p n c] w fun e w' => ∃ v, e = .returned v ∧ Nums w.heap.size w' v (still P zs) ∧ Below w.heap.size w w' := by
  obtain ⟨i0, hi, hz0, hz1, hz2⟩ := info_parts info3
  have hl := hz.len
  have hg := hz.big
  go_enter Tryz.func102, Tryz.ntmps102
  go_wp2_with fail
  go_loopw [5, 10] (fun s i wr => ∃ j : Nat, j ≤ n ∧ i = .int .i64 (j : Int) ∧ Nums w.heap.size wr s (still P (zs.take j)) ∧ Below w.heap.size w wr) (fun s i _ => n - (intOf i).toNat)
  case atStart => exact ⟨0, by omega, rfl, Nums.nil _ _, Below.refl _ _⟩
  case round =>
    obtain ⟨j, hj, rfl, hN, hb⟩ := hrel
    by_cases hlt : j < n
    · obtain ⟨b1, o1, rfl, hc1⟩ := (hz.kept hb).cells (by omega)
      have e1 := hc1 j hlt
      have hp := isPending_ok (h.kept hb) (zs.getD j 0) (hz.fitAt j)
      have hjI : (j : Int) < (n : Int) := by omega
      have hj0 : (0 : Int) ≤ (j : Int) := by omega
      have HT : Hid _ := take_one (zs := zs) (j := j) (by omega)
      have hlen : (still P (zs.take j)).length ≤ j := Nat.le_trans (List.length_filter_le _ _) (by simp; omega)
      clear hc1
      generalize zs.getD j 0 = y at e1 hp HT
      cases hy : (fP P y).isSome with
      | true =>
        rw [hy] at hp
        have HS : Hid (still P (zs.take (j + 1)) = still P (zs.take j) ++ [y]) := by
          show _ = _
          unfold still
          rw [HT.out, List.filter_append]
          simp [hy]
        clear hy
        go_wp2_with (first
          | (go_at_call 89; refine below_at hp ?_; intro w1 hb1; have hN2 := hN.kept hb1; have hb2 := below_on hb hb1)
          | (at_builtin; refine wpList_append_own _ rfl _ _ 23 rfl w.heap.size 3 i0 (.int .i64 0) 1 8 Tryz.underlying23 hi hz0 hz1 hz2 rfl (by decide) _ _ _ rfl (World.ownsRow.alloc hN2 _) ⟨w1.heap.size, 0, none⟩ 1 1 [.int .i64 y] rfl rfl (cell_one_new _ _ _) (by simp [Value.oneCell']) (by unfold maxLen; omega) (by omega) (by have := hb2.size; simp; omega) ?_; intro v' w3 hown hgrow _; have hown := Nums.snoc hown; obtain ⟨g', cap', rfl⟩ := Nums.succ hown))
        have hb3 := (hb2.alloc (by have := hb2.size; omega) _).grown hgrow (by have := hb2.size; simp; omega) (by intro k hk; exact (World.ownsRow.lt hN2 k hk).1)
        go_roundw
        case rel => exact ⟨j + 1, by omega, by go_num, by rw [HS.out]; exact hown, hb3⟩
        case measure => simp [intOf]; omega
      | false =>
        rw [hy] at hp
        have HS : Hid (still P (zs.take (j + 1)) = still P (zs.take j)) := by
          show _ = _
          unfold still
          rw [HT.out, List.filter_append]
          simp [hy]
        clear hy
        go_wp2_with (first | (go_at_call 89; refine below_at hp ?_; intro w1 hb1))
        go_roundw
        case rel => exact ⟨j + 1, by omega, by go_num, by rw [HS.out]; exact hN.kept hb1, below_on hb hb1⟩
        case measure => simp [intOf]; omega
    · obtain rfl : j = n := by omega
      rw [List.take_of_length_le (by omega)] at hN
      go_wp2
      go_ret
      exact ⟨_, rfl, hN, hb⟩
end Go.Proofs.YtinigfidofgaiaaGreat.Pt
