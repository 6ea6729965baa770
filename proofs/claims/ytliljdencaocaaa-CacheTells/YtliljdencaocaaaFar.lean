/- Blocks of other kinds are none of a disk's. -/
import Derived.Test.YtliljdencaocaaaActs
namespace Go.Proofs.Ytliljdencaocaaa
open Go.RowKit Go.Maps
set_option linter.unusedVariables false

theorem DI.notin {B : Nat} {w : World} {a mb fb : Nat} {dq : Value} {S : St} (hd : DI B w a mb fb dq S) {k : Nat} {cs : Array Value} {t : TypeId} (h : w.heap[k]? = some (.cells cs t (0, 0))) (h1 : t ≠ 61) (h2 : t ≠ 109) : ¬ foot a mb fb dq k := by
  rintro (rfl | rfl | rfl | hf)
  · have := hd.row
    rw [h] at this
    simp only [Option.some.injEq, Obj.cells.injEq] at this
    exact h1 this.2.1
  · obtain ⟨D, ⟨es, c, ho, _⟩, _⟩ := hd.secs.ex
    rw [h] at ho
    simp at ho
  · obtain ⟨D, ⟨es, c, ho, _⟩, _⟩ := hd.fls.ex
    rw [h] at ho
    simp at ho
  · obtain ⟨cs', e'⟩ := own_ty hd.que hf
    rw [h] at e'
    simp only [Option.some.injEq, Obj.cells.injEq] at e'
    exact h2 e'.2.1

theorem RI.notin {B : Nat} {w : World} {x : Nat} {bv qv fv : Value} {gB gQ : List (Nat × Nat)} {S : St} (hr : RI B w x bv qv fv gB gQ S) {k : Nat} {cs : Array Value} {t : TypeId} (h : w.heap[k]? = some (.cells cs t (0, 0))) (h1 : t ≠ 105) (h2 : t ≠ 29) (h3 : t ≠ 111) (h4 : t ≠ 3) : ¬ rfoot x bv qv fv k := by
  rintro (rfl | hf | hf | hf)
  · have := hr.row
    rw [h] at this
    simp only [Option.some.injEq, Obj.cells.injEq] at this
    exact h1 this.2.1
  · obtain ⟨cs', e'⟩ := own_ty hr.bs hf
    rw [h] at e'
    simp only [Option.some.injEq, Obj.cells.injEq] at e'
    exact h2 e'.2.1
  · obtain ⟨cs', e'⟩ := own_ty hr.qs hf
    rw [h] at e'
    simp only [Option.some.injEq, Obj.cells.injEq] at e'
    exact h3 e'.2.1
  · obtain ⟨cs', e'⟩ := own_ty hr.fs hf
    rw [h] at e'
    simp only [Option.some.injEq, Obj.cells.injEq] at e'
    exact h4 e'.2.1

theorem RI.base {B B' : Nat} {w : World} {x : Nat} {bv qv fv : Value} {gB gQ : List (Nat × Nat)} {S : St} (h : RI B w x bv qv fv gB gQ S) (hB : B' ≤ B) : RI B' w x bv qv fv gB gQ S :=
  ⟨h.row, ownsRow_base h.bs hB, fun i p hp => ownsRow_base (h.bel i p hp) hB, ownsRow_base h.qs hB, h.qlen, fun i y p hy hp => ownsRow_base (h.qel i y p hy hp) hB, ownsRow_base h.fs hB, Nat.le_trans hB h.lo⟩

theorem row_bi {w : World} {H n c : Nat} {p : Option Addr} {xs : List Int} (h : w.ownsRow H 5 1 (.slice p n c) n (xs.map (Value.int .u8))) (hn : n ≤ 140737488355328) (hx : Num.Byt xs) : BI w p n xs := by
  have hl : xs.length = n := by have := h.1; simpa using this
  refine ⟨hl, hn, hx, fun h0 => ?_⟩
  rcases h.2 with ⟨e, e0⟩ | ⟨g, cap, cur, e, _⟩
  · omega
  · cases e
    exact ⟨g, 0, rfl, fun i hi => by rw [Nat.zero_add]; exact Own.cell (B := H) (cap := c) h i hi⟩

theorem row_ii {w : World} {H n c : Nat} {p : Option Addr} {xs : List Int} (h : w.ownsRow H 3 1 (.slice p n c) n (xs.map (Value.int .i64))) (hn : n * 8 ≤ 140737488355328) (hx : ∀ y ∈ xs, -9223372036854775808 ≤ y ∧ y ≤ 9223372036854775807) : II w p n xs := by
  have hl : xs.length = n := by have := h.1; simpa using this
  refine ⟨hl, hn, hx, fun h0 => ?_⟩
  rcases h.2 with ⟨e, e0⟩ | ⟨g, cap, cur, e, _⟩
  · omega
  · cases e
    refine ⟨g, 0, rfl, fun i hi => ?_⟩
    rw [Nat.zero_add, h.cellAt i (by omega), List.getElem?_map, List.getD_eq_getElem?_getD, List.getElem?_eq_getElem (by omega)]
    rfl

/-- What has turned since lies from the first world's end on. -/
theorem frame_far {K X : Nat → Prop} {a b c : World} (h : Frame K a b) (k : Frame X b c) (hx : ∀ i, X i → a.heap.size ≤ i) : Frame K a c :=
  ⟨k.os.trans h.os, k.tape.trans h.tape, k.output.trans h.output, Nat.le_trans h.size k.size, fun i hi hn => (k.block i (Nat.lt_of_lt_of_le hi h.size) (fun e => by have := hx i e; omega)).trans (h.block i hi hn)⟩


end Go.Proofs.Ytliljdencaocaaa
