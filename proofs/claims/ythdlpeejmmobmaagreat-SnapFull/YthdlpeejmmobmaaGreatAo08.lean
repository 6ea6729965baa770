/- PMem PMf -/
import Derived.Test.YthdlpeejmmobmaaGreatProg
import Derived.WalkKit
import Derived.WalkSpells
import Derived.WalkLawsBesides
import Derived.BigQuiet
import Derived.Deep.QuietTactic
import Derived.Laws.CopyOwn
import Derived.Laws.EntriesVeiled
import Derived.Lib.Bytes
import Derived.Deep.MidRow
import Derived.Deep.WholeRow
import Derived.Maps.OwnSet
import Derived.Maps.Views
import Derived.Maps.OwnOps
import Derived.Maps.AppendAt
import Derived.RangeFuncRecord

namespace Go.Proofs.YthdlpeejmmobmaaGreat.Pt
open Go.RowKit Go.Maps
set_option maxRecDepth 100000
set_option linter.unusedVariables false

theorem same_at {P : Program} {f : FuncId} {args : Array Value} {w : World} {v : Value} {Q : Ending → World → Prop} (h : Calls P f args w fun e w' => e = .returned v ∧ w' = w) (hq : Q (.returned v) w) : Calls P f args w Q :=
  h.mono (by rintro e w' ⟨rfl, rfl⟩; exact hq)

theorem at_old {w : World} {k : Nat} {o u : Obj} (h : w.heap[k]? = some u) : (w.alloc o).heap[k]? = some u := by
  rw [Below.heap_alloc _ _ _ (Array.getElem?_eq_some_iff.1 h).1]; exact h

theorem at_new {w : World} {k : Nat} {o : Obj} (h : k = w.heap.size) : (w.alloc o).heap[k]? = some o := by
  subst h; exact heap_alloc_new w o

theorem info5 : (Tryz.prog.info? 5).map (fun i => (i.zero, i.size, i.bytes)) = some (some (.int .u8 0), 1, 1) := by kernel_rfl


namespace Num
def Byt (xs : List Int) : Prop := ∀ i, 0 ≤ xs.getD i 0 ∧ xs.getD i 0 < 256
end Num

/-- The slice at p, of n bytes, holds xs. -/
structure BI (w : World) (p : Option Addr) (n : Nat) (xs : List Int) : Prop where
  len : xs.length = n
  big : n ≤ 140737488355328
  byt : Num.Byt xs
  cells : 0 < n → ∃ b o, p = some ⟨b, o, none⟩ ∧ ∀ i, i < n → w.cell? ⟨b, o + i, none⟩ = some (.int .u8 (xs.getD i 0))

theorem lt_of_cell {w : World} {b o : Nat} {v : Value} (h : w.cell? ⟨b, o, none⟩ = some v) : b < w.heap.size := by
  by_cases hb : b < w.heap.size
  · exact hb
  · have : w.heap[b]? = none := Array.getElem?_eq_none (by omega)
    simp [World.cell?, this] at h

theorem BI.kept {w w' : World} {p : Option Addr} {n : Nat} {xs : List Int} (h : BI w p n xs) (hb : Below w.heap.size w w') : BI w' p n xs := by
  refine ⟨h.len, h.big, h.byt, fun hn => ?_⟩
  obtain ⟨b, o, rfl, hc⟩ := h.cells hn
  refine ⟨b, o, rfl, fun i hi => ?_⟩
  have hlt := lt_of_cell (hc i hi)
  rw [hb.cell (p := ⟨b, o + i, none⟩) hlt]
  exact hc i hi

/-- Block g, from B on, is the call's own row of capacity cap whose first n bytes are xs. -/
def Own (B : Nat) (w : World) (g n cap : Nat) (xs : List Int) : Prop :=
  w.ownsRow B 5 1 (.slice (some ⟨g, 0, none⟩) n cap) n (xs.map (Value.int .u8))

theorem Own.len {B : Nat} {w : World} {g n cap : Nat} {xs : List Int} (h : Own B w g n cap xs) : xs.length = n := by
  have := h.1
  simpa using this

theorem Own.spot {B : Nat} {w : World} {g n cap : Nat} {xs : List Int} (h : Own B w g n cap xs) : B ≤ g ∧ g < w.heap.size := World.ownsRow.lt h g rfl

theorem Own.cell {B : Nat} {w : World} {g n cap : Nat} {xs : List Int} (h : Own B w g n cap xs) (j : Nat) (hj : j < n) : w.cell? ⟨g, j, none⟩ = some (.int .u8 (xs.getD j 0)) := by
  have h1 := World.ownsRow.cellAt h j (by omega)
  rw [h1, List.getElem?_map, List.getD_eq_getElem?_getD, List.getElem?_eq_getElem (show j < xs.length by rw [h.len]; exact hj)]
  rfl

theorem Own.bi {B : Nat} {w : World} {g n cap : Nat} {xs : List Int} (h : Own B w g n cap xs) (hb : n ≤ 140737488355328) (hx : Num.Byt xs) : BI w (some ⟨g, 0, none⟩) n xs :=
  ⟨h.len, hb, hx, fun _ => ⟨g, 0, rfl, fun i hi => by rw [Nat.zero_add]; exact h.cell i hi⟩⟩

theorem Own.kept {B : Nat} {w w' : World} {g n cap : Nat} {xs : List Int} (h : Own B w g n cap xs) (hb : Below w.heap.size w w') : Own B w' g n cap xs := by
  refine ⟨h.1, ?_⟩
  rcases h.2 with ⟨h', _⟩ | ⟨g', cap', cur, h', hbg, hg, rest⟩
  · simp at h'
  · have hlt : g' < w.heap.size := (Array.getElem?_eq_some_iff.1 hg).1
    exact .inr ⟨g', cap', cur, h', hbg, by rw [hb.block g' hlt]; exact hg, rest⟩

theorem Own.base {B B' : Nat} {w : World} {g n cap : Nat} {xs : List Int} (h : Own B w g n cap xs) (hB : B' ≤ B) : Own B' w g n cap xs := by
  refine ⟨h.1, ?_⟩
  rcases h.2 with ⟨h', _⟩ | ⟨g', cap', cur, h', hbg, rest⟩
  · simp at h'
  · exact .inr ⟨g', cap', cur, h', by omega, rest⟩

theorem set_map (xs : List Int) (j : Nat) (y : Int) : (xs.map (Value.int .u8)).set j (.int .u8 y) = (xs.set j y).map (Value.int .u8) := by
  rw [List.map_set]

theorem Own.set {B : Nat} {w : World} {g n cap : Nat} {xs : List Int} (h : Own B w g n cap xs) (j : Nat) (y : Int) : Own B (w.setCell ⟨g, j, none⟩ (.int .u8 y)) g n cap (xs.set j y) := by
  have := (World.ownsRow.stored h j (.int .u8 y)).1
  rw [set_map] at this
  exact this

theorem size5 : (Tryz.prog.info? 5).map (·.size) = some 1 := by kernel_rfl

theorem one_cells (xs : List Int) : ∀ u ∈ xs.map (Value.int .u8), u.oneCell' = true := by
  intro u hu; obtain ⟨x, _, rfl⟩ := List.mem_map.1 hu; rfl

theorem BI.src {w : World} {p : Option Addr} {n : Nat} {xs : List Int} (h : BI w p n xs) : 0 < n → ∃ ad, p = some ad ∧ ∀ j v, (xs.map (Value.int .u8))[j]? = some v → w.cell? (ad.add j) = some v := by
  intro hn
  obtain ⟨b, o, rfl, hc⟩ := h.cells hn
  refine ⟨_, rfl, fun j v hj => ?_⟩
  have hjl : j < xs.length := by
    have := (List.getElem?_eq_some_iff.1 hj).1
    simpa using this
  have e : (⟨b, o, none⟩ : Addr).add j = ⟨b, o + j, none⟩ := by unfold Addr.add; split <;> simp_all
  rw [e, hc j (by rw [← h.len]; exact hjl), ← hj, List.getElem?_map, List.getD_eq_getElem?_getD, List.getElem?_eq_getElem hjl]
  rfl

theorem own_row {w : World} {B g n : Nat} {L : List Value} (h : w.ownsRow B 5 1 (.slice (some ⟨g, 0, none⟩) n n) n L) : w.heap[g]? = some (.cells L.toArray 5 (0, 0)) := by
  rcases h.2 with ⟨h', _⟩ | ⟨g', cap', cur, h', _, hg, _, _, hcs, ht⟩
  · simp at h'
  · simp only [Value.slice.injEq, Option.some.injEq, Addr.mk.injEq, and_true, true_and] at h'
    obtain ⟨rfl, rfl⟩ := h'
    rw [List.take_of_length_le (by simp; omega)] at ht
    subst ht
    simpa using hg

theorem own_of_row {w : World} {B g n : Nat} {xs : List Int} (hB : B ≤ g) (hn : n ≤ maxLen) (hx : xs.length = n) (h : w.heap[g]? = some (.cells (xs.map (Value.int .u8)).toArray 5 (0, 0))) : Own B w g n n xs :=
  ⟨by simpa using hx, .inr ⟨g, n, _, rfl, hB, h, Nat.le_refl _, hn, by simpa using hx, by simp [← hx, List.take_of_length_le]⟩⟩

theorem splice_all (L cs : List Value) (h : L.length = cs.length) : splice L 0 cs = cs := by
  simp [splice, ← h]

theorem BI.src' {w : World} {a : Addr} {n : Nat} {xs : List Int} (h : BI w (some a) n xs) : ∀ j v, (xs.map (Value.int .u8))[j]? = some v → w.cell? (a.add j) = some v := by
  intro j v hj
  have hjl : j < xs.length := by
    have := (List.getElem?_eq_some_iff.1 hj).1
    simpa using this
  obtain ⟨ad, e, hc⟩ := h.src (by rw [← h.len]; omega)
  cases e
  exact hc j v hj

theorem BI.conv {w : World} {p : Option Addr} {n : Nat} {xs : List Int} (h : BI w p n xs) (c : Nat) : (convert 42 9 (.slice p n c)).run Tryz.prog w = .ok (.string (strOfNums xs)) w := by
  rcases Nat.eq_zero_or_pos n with hn | hn
  · subst hn
    obtain rfl : xs = [] := List.eq_nil_of_length_eq_zero h.len
    cases p with
    | none => exact run_convert_bytes_nil (P := Tryz.prog) w 42 5 Tryz.underlying42 Tryz.underlying5 0 c 9 Tryz.underlying9
    | some a =>
      rw [run_convert_bytes_string w 42 9 5 _ _ _ Tryz.underlying42 Tryz.underlying5 Tryz.underlying9]
      exact run_bytesToString w a 0 c [] (by simp [loadCells, loadCellsFrom])
  · obtain ⟨b, o, rfl, hc⟩ := h.cells hn
    exact run_convert_bytes_arg (P := Tryz.prog) w 42 5 Tryz.underlying42 Tryz.underlying5 b o n c xs h.len hc 9 Tryz.underlying9

theorem byt_mem {xs : List Int} (h : Num.Byt xs) : ∀ x ∈ xs, 0 ≤ x ∧ x < 256 := by
  intro x hx
  obtain ⟨i, hi, rfl⟩ := List.getElem_of_mem hx
  have := h i
  rw [List.getD_eq_getElem?_getD, List.getElem?_eq_getElem hi] at this
  exact this

theorem back_bytes {xs : List Int} (h : Num.Byt xs) : (Lib.bytesOf xs).map (fun b => (b.toNat : Int)) = xs := by
  unfold Lib.bytesOf
  rw [List.map_map]
  conv => rhs; rw [← List.map_id xs]
  apply List.map_congr_left
  intro x hx
  have := byt_mem h x hx
  simp
  omega

theorem str_beq {xs ys : List Int} (hx : Num.Byt xs) (hy : Num.Byt ys) : ((strOfNums xs).toList == (strOfNums ys).toList) = (xs == ys) := by
  rw [Lib.strOfNums_toList, Lib.strOfNums_toList]
  rw [Bool.eq_iff_iff, beq_iff_eq, beq_iff_eq]
  constructor
  · intro h
    rw [← back_bytes hx, ← back_bytes hy, h]
  · rintro rfl; rfl

theorem ret_bool {a b : Bool} (h : a = b) : Ending.returned (.bool a) = .returned (.bool b) := by rw [h]

set_option maxHeartbeats 400000 in
theorem equal_any (p q : Option Addr) (n c m d : Nat) (xs ys : List Int) (w : World) (h : BI w p n xs) (k : BI w q m ys) :
    Calls Tryz.prog 86 #[.slice p n c, .slice q m d] w fun e w' => e = .returned (.bool (xs == ys)) ∧ w' = w := by
  have h1 := h.conv c
  have h2 := k.conv d
  go_enter Tryz.func86, Tryz.ntmps86
  go_wp2
  go_ret
  exact ⟨ret_bool (str_beq h.byt k.byt), rfl⟩

theorem eqlNil (w : World) (a : Option Addr) (n c n' c' : Nat) : (binOp .eql 42 (.slice a n c) (.slice none n' c')).run Tryz.prog w = .ok (.bool a.isNone) w := Lib.run_eql_slice_nil w _ _ a n c n' c' Tryz.underlying42

theorem own_shape {w : World} {B n : Nat} {v : Value} {xs : List Int} (h : w.ownsRow B 5 1 v n (xs.map (Value.int .u8))) (hv : v ≠ .slice none 0 0) : ∃ g cap, v = .slice (some ⟨g, 0, none⟩) n cap ∧ Own B w g n cap xs := by
  rcases h.2 with ⟨h', _⟩ | ⟨g', cap', cur, h', r⟩
  · exact absurd h' hv
  · exact ⟨g', cap', h', by subst h'; exact h⟩

theorem Own.room {B : Nat} {w : World} {g n cap : Nat} {xs : List Int} (h : Own B w g n cap xs) : n ≤ cap ∧ cap ≤ 9223372036854775807 := by
  rcases h.2 with ⟨h', _⟩ | ⟨g', cap', cur, h', _, _, h1, h2, _⟩
  · simp at h'
  · simp only [Value.slice.injEq, Option.some.injEq, Addr.mk.injEq, and_true, true_and] at h'
    obtain ⟨rfl, rfl⟩ := h'
    unfold maxLen at h2
    exact ⟨h1, h2⟩

theorem getD_take (xs : List Int) (m i : Nat) (h : i < m) : (xs.take m).getD i 0 = xs.getD i 0 := by
  simp [List.getD_eq_getElem?_getD, h]

theorem getD_drop' (xs : List Int) (m i : Nat) : (xs.drop m).getD i 0 = xs.getD (m + i) 0 := by
  simp [List.getD_eq_getElem?_getD, List.getElem?_drop]

theorem byt_take {xs : List Int} (h : Num.Byt xs) (m : Nat) : Num.Byt (xs.take m) := by
  intro i
  by_cases hi : i < m
  · rw [getD_take xs m i hi]; exact h i
  · rw [List.getD_eq_getElem?_getD, List.getElem?_eq_none (by simp; omega)]; simp

theorem byt_drop {xs : List Int} (h : Num.Byt xs) (m : Nat) : Num.Byt (xs.drop m) := by
  intro i
  rw [getD_drop']; exact h _

theorem BI.take {w : World} {p : Option Addr} {n : Nat} {xs : List Int} (h : BI w p n xs) (m : Nat) (hm : m ≤ n) : BI w p m (xs.take m) := by
  refine ⟨by rw [List.length_take, h.len]; omega, by have := h.big; omega, byt_take h.byt m, fun h0 => ?_⟩
  obtain ⟨b, o, rfl, hc⟩ := h.cells (by omega)
  exact ⟨b, o, rfl, fun i hi => by rw [getD_take xs m i hi]; exact hc i (by omega)⟩

theorem BI.drop {w : World} {b o : Nat} {n : Nat} {xs : List Int} (h : BI w (some ⟨b, o, none⟩) n xs) (m : Nat) (hm : m ≤ n) : BI w (some ⟨b, o + m, none⟩) (n - m) (xs.drop m) := by
  refine ⟨by rw [List.length_drop, h.len], by have := h.big; omega, byt_drop h.byt m, fun h0 => ?_⟩
  obtain ⟨b', o', e, hc⟩ := h.cells (by omega)
  cases e
  exact ⟨b, o + m, rfl, fun i hi => by rw [getD_drop', Nat.add_assoc]; exact hc _ (by omega)⟩

theorem ext_getD {xs ys : List Int} (hl : xs.length = ys.length) (h : ∀ i, i < xs.length → xs.getD i 0 = ys.getD i 0) : xs = ys := by
  apply List.ext_getElem hl
  intro i h1 h2
  have := h i h1
  simpa [List.getD_eq_getElem?_getD, List.getElem?_eq_getElem h1, List.getElem?_eq_getElem h2] using this


structure Frame (X : Nat → Prop) (w w' : World) : Prop where
  os : w'.os = w.os
  tape : w'.tape = w.tape
  output : w'.output = w.output
  size : w.heap.size ≤ w'.heap.size
  block : ∀ k, k < w.heap.size → ¬ X k → w'.heap[k]? = w.heap[k]?

theorem Frame.refl (X : Nat → Prop) (w : World) : Frame X w w := ⟨rfl, rfl, rfl, Nat.le_refl _, fun _ _ _ => rfl⟩
theorem Frame.trans {X : Nat → Prop} {a b c : World} (h : Frame X a b) (k : Frame X b c) : Frame X a c :=
  ⟨k.os.trans h.os, k.tape.trans h.tape, k.output.trans h.output, Nat.le_trans h.size k.size, fun i hi hx => (k.block i (Nat.lt_of_lt_of_le hi h.size) hx).trans (h.block i hi hx)⟩
theorem Frame.mono {X Y : Nat → Prop} {a b : World} (h : Frame X a b) (hxy : ∀ k, k < a.heap.size → X k → Y k) : Frame Y a b :=
  ⟨h.os, h.tape, h.output, h.size, fun i hi hx => h.block i hi (fun x => hx (hxy i hi x))⟩
theorem Frame.below {X : Nat → Prop} {B : Nat} {a b : World} (h : Frame X a b) (hB : B ≤ a.heap.size) (hx : ∀ k, X k → B ≤ k) : Below B a b :=
  ⟨h.os, h.tape, h.output, h.size, fun i hi => h.block i (Nat.lt_of_lt_of_le hi hB) (fun x => by have := hx i x; omega)⟩
theorem frame_of_below {X : Nat → Prop} {a b : World} (h : Below a.heap.size a b) : Frame X a b := ⟨h.os, h.tape, h.output, h.size, fun i hi _ => h.block i hi⟩
theorem Frame.setCell {X : Nat → Prop} (w : World) {p : Addr} (u : Value) (hx : X p.block) : Frame X w (w.setCell p u) :=
  ⟨rfl, rfl, rfl, by simp, fun i _ hn => Below.heap_setCell w p u i (fun e => hn (e ▸ hx))⟩

end Go.Proofs.YthdlpeejmmobmaaGreat.Pt

namespace Go.Proofs.YthdlpeejmmobmaaGreat.Pt
open Go.RowKit Go.Maps
set_option maxRecDepth 100000
set_option linter.unusedVariables false

/-- A cell as data: numbers and slices. -/
def cellD : Value → Option (DataW Unit)
  | .int .i64 x => some (.lit (.int .i64 x))
  | .slice none n c => some (.agg [.lit (.int .i64 n), .lit (.int .i64 c)])
  | .slice (some ⟨b, o, none⟩) n c => some (.agg [.lit (.int .i64 b), .lit (.int .i64 o), .lit (.int .i64 n), .lit (.int .i64 c)])
  | _ => none

theorem cellD_inj {v v' : Value} {d : DataW Unit} (h : cellD v = some d) (h' : cellD v' = some d) : v = v' := by
  unfold cellD at h h'
  split at h <;> split at h' <;> first | (cases h; done) | (cases h'; done) | skip
  all_goals
    cases h
    simp only [Option.some.injEq, DataW.lit.injEq, Lit.int.injEq, DataW.agg.injEq, List.cons.injEq, reduceCtorEq, true_and, and_true, and_false] at h'
  all_goals first | exact h'.elim | skip
  · rw [h']
  · obtain ⟨h1, h2⟩ := h'
    have e1 := Int.ofNat.inj h1
    have e2 := Int.ofNat.inj h2
    rw [e1, e2]
  · obtain ⟨h1, h2, h3, h4⟩ := h'
    have e1 := Int.ofNat.inj h1
    have e2 := Int.ofNat.inj h2
    have e3 := Int.ofNat.inj h3
    have e4 := Int.ofNat.inj h4
    rw [e1, e2, e3, e4]

def cellsD : List Value → Option (List (DataW Unit))
  | [] => some []
  | v :: r => match cellD v, cellsD r with
    | some d, some l => some (d :: l)
    | _, _ => none

theorem cellsD_inj : ∀ {l l' : List Value} {d : List (DataW Unit)}, cellsD l = some d → cellsD l' = some d → l = l'
  | [], [], _, _, _ => rfl
  | [], v :: r, d, h, h' => by
    cases h
    unfold cellsD at h'
    split at h' <;> cases h'
  | v :: r, [], d, h, h' => by
    cases h'
    unfold cellsD at h
    split at h <;> cases h
  | v :: r, v' :: r', d, h, h' => by
    unfold cellsD at h h'
    split at h
    · rename_i d1 l1 e1 e2
      cases h
      split at h'
      · rename_i d2 l2 e3 e4
        simp only [Option.some.injEq, List.cons.injEq] at h'
        obtain ⟨rfl, rfl⟩ := h'
        rw [cellD_inj e1 e3, cellsD_inj e2 e4]
      · cases h'
    · cases h

/-- A map's value as data. -/
def vR : Value → Option (DataW Unit × List MemPlace)
  | .agg vs => (cellsD vs.toList).map fun l => (.ptr (.agg l), [])
  | v => (cellD v).map fun d => (d, [])

theorem cellD_noptr {v : Value} {d : DataW Unit} (h : cellD v = some d) : ∀ x, d ≠ .ptr x := by
  unfold cellD at h
  intro x
  split at h
  · cases h; intro e; cases e
  · cases h; intro e; cases e
  · cases h; intro e; cases e
  · cases h

theorem vR_inj {v v' : Value} {d : DataW Unit} {ps ps' : List MemPlace} (h : vR v = some (d, ps)) (h' : vR v' = some (d, ps')) : v = v' := by
  unfold vR at h h'
  split at h
  · rename_i vs
    simp only [Option.map_eq_some_iff, Prod.mk.injEq] at h
    obtain ⟨l, hl, rfl, _⟩ := h
    split at h'
    · rename_i vs'
      simp only [Option.map_eq_some_iff, Prod.mk.injEq, DataW.ptr.injEq, DataW.agg.injEq] at h'
      obtain ⟨l', hl', rfl, _⟩ := h'
      have := cellsD_inj hl hl'
      rw [show vs = vs' from by cases vs; cases vs'; simpa using this]
    · simp only [Option.map_eq_some_iff, Prod.mk.injEq] at h'
      obtain ⟨d', hd', e, _⟩ := h'
      exact absurd e (cellD_noptr hd' _)
  · simp only [Option.map_eq_some_iff, Prod.mk.injEq] at h
    obtain ⟨d1, hd1, rfl, _⟩ := h
    split at h'
    · simp only [Option.map_eq_some_iff, Prod.mk.injEq] at h'
      obtain ⟨l', hl', e, _⟩ := h'
      exact absurd e.symm (cellD_noptr hd1 _)
    · simp only [Option.map_eq_some_iff, Prod.mk.injEq] at h'
      obtain ⟨d2, hd2, rfl, _⟩ := h'
      exact cellD_inj hd1 hd2

/-- A number that an int holds. -/
def I64 (k : Int) : Prop := -9223372036854775808 ≤ k ∧ k ≤ 9223372036854775807
def ikey (k : Int) : Lit := .int .i64 k
theorem ikey_inj {a b : Int} (h : ikey a = ikey b) : a = b := by simpa [ikey] using h
theorem ikey_ne {a b : Int} (h : a ≠ b) : ikey a ≠ ikey b := fun e => h (ikey_inj e)
theorem ikey_is (k : Int) : WideAt.IsKeyLit (ikey k) := trivial
theorem ikey_of {k : Int} (h : I64 k) : keyOf Tryz.prog 3 (.int .i64 k) = some (ikey k) := keyOf_int_mk Tryz.underlying3 (by
  have h1 : IntKind.i64.min = -9223372036854775808 := by decide
  have h2 : IntKind.i64.max = 9223372036854775807 := by decide
  simp only [Lit.wf, h1, h2]; simpa [I64] using h)
theorem keyed3 : Keyed Tryz.prog 3 := int_keyed Tryz.underlying3

theorem tight {P : Program} {k : TypeId} {R : Value → Option (DataW Unit × List MemPlace)} {w : World} {b n : Nat} {D : DataW Unit} (h : w.ownsMap P k R b n D) : w.ownsMap P k R b (size D) D := by
  obtain ⟨es, clock, hb, F, hs, rfl⟩ := h
  refine ⟨es, clock, hb, F, ?_, rfl⟩
  rw [size_eq, length_sorted]; simp

/-- Block mb is a map that leads from just the keys of f to its values; no more than N keys. -/
def Mf (w : World) (mb N : Nat) (f : Int → Option Value) : Prop :=
  ∃ D, w.ownsMap Tryz.prog 3 vR mb (size D) D ∧ size D ≤ N ∧ ∀ k, I64 k → (f k = none → has D (ikey k) = false) ∧ ∀ v, f k = some v → has D (ikey k) = true ∧ ∃ d, vR v = some (d, []) ∧ ∀ z, D.atKey (ikey k) z = d

theorem mf_made (w : World) (N : Nat) : Mf (w.alloc (.map #[] 0)) w.heap.size N (fun _ => none) :=
  ⟨.map [], w.ownsMap_made _ _ _, Nat.zero_le _, fun k _ => ⟨fun _ => rfl, fun v h => by cases h⟩⟩

theorem Mf.lt {w : World} {mb N : Nat} {f : Int → Option Value} (h : Mf w mb N f) : mb < w.heap.size := by
  obtain ⟨D, ho, _⟩ := h
  exact ho.lt
theorem Mf.kept {w w' : World} {mb N : Nat} {f : Int → Option Value} (h : Mf w mb N f) (hb : w'.heap[mb]? = w.heap[mb]?) : Mf w' mb N f := by
  obtain ⟨D, ⟨es, c, ho, r⟩, k⟩ := h
  exact ⟨D, ⟨es, c, hb.trans ho, r⟩, k⟩
theorem Mf.isMap {w : World} {mb N : Nat} {f : Int → Option Value} (h : Mf w mb N f) : ∃ es c, w.heap[mb]? = some (.map es c) := by
  obtain ⟨D, ⟨es, c, ho, r⟩, k⟩ := h
  exact ⟨es, c, ho⟩
theorem Mf.congr {w : World} {mb N : Nat} {f g : Int → Option Value} (h : Mf w mb N f) (e : ∀ k, I64 k → g k = f k) : Mf w mb N g := by
  obtain ⟨D, ho, hs, hp⟩ := h
  exact ⟨D, ho, hs, fun k hk => by rw [e k hk]; exact hp k hk⟩

/-- What a look-up tells. -/
theorem Mf.look {w : World} {mb N : Nat} {f : Int → Option Value} (h : Mf w mb N f) {t e : TypeId} (ht : Tryz.prog.underlying t = some (.map 3 e)) {z : Value} (hz : (zeroValue e).run Tryz.prog w = .ok z w) {zd : DataW Unit} (hzd : vR z = some (zd, [])) (k : Int) (hk : I64 k) :
    (Instr.lookup t (.map (some mb)) (.int .i64 k) true).run Tryz.prog w = .ok (.tuple #[(f k).getD z, .bool (f k).isSome]) w := by
  obtain ⟨D, ho, _, hp⟩ := h
  obtain ⟨v, ps, hr, hv⟩ := ho.look_ok keyed3 ht hz hzd (ikey_of hk)
  rw [hr]
  cases e : f k with
  | none =>
    have hn := (hp k hk).1 e
    rw [atKey_of_not_has hn] at hv
    rw [vR_inj hv hzd, hn]
    rfl
  | some u =>
    obtain ⟨h1, d, hd, h2⟩ := (hp k hk).2 u e
    rw [h2] at hv
    rw [vR_inj hv hd, h1]
    rfl
theorem Mf.get {w : World} {mb N : Nat} {f : Int → Option Value} (h : Mf w mb N f) {t e : TypeId} (ht : Tryz.prog.underlying t = some (.map 3 e)) {z : Value} (hz : (zeroValue e).run Tryz.prog w = .ok z w) {zd : DataW Unit} (hzd : vR z = some (zd, [])) (k : Int) (hk : I64 k) :
    (Instr.lookup t (.map (some mb)) (.int .i64 k) false).run Tryz.prog w = .ok ((f k).getD z) w := by
  obtain ⟨D, ho, _, hp⟩ := h
  obtain ⟨v, ps, hr, hv⟩ := ho.lookup keyed3 ht hz hzd (ikey_of hk)
  rw [hr]
  cases e : f k with
  | none =>
    have hn := (hp k hk).1 e
    rw [atKey_of_not_has hn] at hv
    rw [vR_inj hv hzd]
    rfl
  | some u =>
    obtain ⟨h1, d, hd, h2⟩ := (hp k hk).2 u e
    rw [h2] at hv
    rw [vR_inj hv hd]
    rfl

def fput {α : Type} (f : Int → Option α) (k : Int) (v : Option α) : Int → Option α := fun x => if x = k then v else f x
theorem fput_same {α : Type} (f : Int → Option α) (k : Int) (v : Option α) : fput f k v k = v := by unfold fput; rw [if_pos rfl]
theorem fput_other {α : Type} (f : Int → Option α) {k x : Int} (h : x ≠ k) (v : Option α) : fput f k v x = f x := by unfold fput; rw [if_neg h]

theorem Mf.put {w : World} {mb N : Nat} {f : Int → Option Value} (h : Mf w mb N f) (hN : N < 100000) {t e : TypeId} (ht : Tryz.prog.underlying t = some (.map 3 e)) (k : Int) (hk : I64 k) (v : Value) {d : DataW Unit} (hd : vR v = some (d, [])) :
    ∃ w', (Instr.mapUpdate t (.map (some mb)) (.int .i64 k) v).run Tryz.prog w = .ok () w' ∧ Mf w' mb (if (f k).isSome then N else N + 1) (fput f k (some v)) ∧ w.grownBy w' (some mb) := by
  obtain ⟨D, ho, hs, hp⟩ := h
  obtain ⟨w', hr, ho', hg⟩ := ho.update keyed3 ht (show size D < maxLen by unfold maxLen; omega) (ikey_of hk) hd
  refine ⟨w', hr, ⟨_, tight ho', ?_, ?_⟩, hg⟩
  · rw [size_put (ho.tidy keyed3)]
    cases e : f k with
    | none => rw [(hp k hk).1 e]; simp; omega
    | some u => rw [((hp k hk).2 u e).1]; simp; omega
  · intro x hx
    by_cases e : x = k
    · subst e
      rw [fput_same]
      refine ⟨fun h => (by cases h), fun u hu => ?_⟩
      cases hu
      exact ⟨has_put_same ho.isMap (ikey_is _) _, d, hd, fun z => atKey_put_same ho.isMap (ikey_is _) _ _⟩
    · rw [fput_other f e, has_put_other (ikey_ne e)]
      refine ⟨(hp x hx).1, fun u hu => ?_⟩
      obtain ⟨h1, d1, h2, h3⟩ := (hp x hx).2 u hu
      exact ⟨h1, d1, h2, fun z => by rw [atKey_put_other (ikey_ne e)]; exact h3 z⟩

open Classical in
theorem Mf.del {w : World} {mb N : Nat} {f : Int → Option Value} (h : Mf w mb N f) {t e : TypeId} (ht : Tryz.prog.underlying t = some (.map 3 e)) (k : Int) (hk : I64 k) (ty : TypeId) :
    ∃ w', (Builtin.delete_ #[t, 3] ty #[.map (some mb), .int .i64 k]).run Tryz.prog w = .ok (.tuple #[]) w' ∧ Mf w' mb N (fput f k none) ∧ w.grownBy w' (some mb) := by
  obtain ⟨D, ho, hs, hp⟩ := h
  obtain ⟨w', hr, ho', hg⟩ := ho.drop keyed3 ht (ikey_of hk) ty
  refine ⟨w', hr, ⟨_, tight ho', ?_, ?_⟩, hg.grown⟩
  · have hsz := size_del (k := ikey k) (ho.tidy keyed3)
    split at hsz <;> omega
  · intro x hx
    by_cases e : x = k
    · subst e
      rw [fput_same]
      exact ⟨fun _ => has_del_same, fun u hu => (by cases hu)⟩
    · rw [fput_other f e, has_del_other (ikey_ne e)]
      refine ⟨(hp x hx).1, fun u hu => ?_⟩
      obtain ⟨h1, d1, h2, h3⟩ := (hp x hx).2 u hu
      exact ⟨h1, d1, h2, fun z => by rw [atKey_del_other (ikey_ne e)]; exact h3 z⟩
end Go.Proofs.YthdlpeejmmobmaaGreat.Pt
