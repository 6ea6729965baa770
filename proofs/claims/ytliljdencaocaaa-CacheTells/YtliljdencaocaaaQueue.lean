/- Queue: all writes that are not done yet, as lists of their own. -/
import Derived.Test.YtliljdencaocaaaBuild
import Derived.Deep.RegionHeld3
namespace Go.Proofs.Ytliljdencaocaaa
open Go.RowKit Go.Maps

def sent (g : Nat) (x : Wr) : List Value := [.int .i64 x.id, .int .i64 (x.block : Int), sl g]
def sflat (gs : List Nat) (q : List Wr) : List Value := (gs.zip q).flatMap (fun p => sent p.1 p.2)
theorem info52 : (Try.prog.info? 111).map (fun i => (i.zero, i.size, i.bytes)) = some (some (.agg #[.int .i64 0, .int .i64 0, .slice none 0 0]), 3, 40) := by kernel_rfl
theorem size86 : (Try.prog.info? 109).map (·.size) = some 130 := info86

/-- Block g holds the writes q as Sents, their bytes in the blocks gs. -/
structure Sents (B : Nat) (w : World) (g : Nat) (gs : List Nat) (q : List Wr) : Prop where
  row : w.ownsRow B 111 3 (.slice (some ⟨g, 0, none⟩) q.length q.length) q.length (sflat gs q)
  len : gs.length = q.length
  el : ∀ i x, q[i]? = some x → Own B w (gs.getD i 0) 128 128 x.bytes

theorem zero_wr' (w : World) : (zeroValue 109).run Try.prog w = .ok (.agg zwr.toArray) w := by
  obtain ⟨it, hit, hz⟩ := Option.bind_eq_some_iff.1 zero86
  simp [zeroValue, typeInfo, hit, hz]

theorem wr_one' (x : Wr) : ∀ u ∈ x.cells, u.oneCell' = true := by
  intro u hu
  simp only [Wr.cells, List.mem_cons, List.mem_map] at hu
  rcases hu with rfl | rfl | ⟨y, _, rfl⟩ <;> rfl

theorem range_later {w w' : World} {T o : Nat} {cs : List Value} (hb : Below w.heap.size w w') (hT : T < w.heap.size) (h : w.rangeAt T o cs) : w'.rangeAt T o cs := fun i v hv => (hb.cell (p := ⟨T, o + i, none⟩) hT).trans (h i v hv)

theorem three_cells {w : World} {B g n : Nat} {L : List Value} (h : w.ownsRow B 111 3 (.slice (some ⟨g, 0, none⟩) n n) n L) {j : Nat} (hj : j < n) : ∃ v0 v1 v2, w.cell? ⟨g, j * 3, none⟩ = some v0 ∧ w.cell? ⟨g, j * 3 + 1, none⟩ = some v1 ∧ w.cell? ⟨g, j * 3 + 2, none⟩ = some v2 := by
  have hl := h.1
  refine ⟨L[j * 3]'(by omega), L[j * 3 + 1]'(by omega), L[j * 3 + 2]'(by omega), ?_, ?_, ?_⟩ <;> rw [h.cellAt _ (by omega), List.getElem?_eq_getElem]

theorem range_set {w : World} {R T j o : Nat} {cs : List Value} {u : Value} (hne : R ≠ T) (h : w.rangeAt T o cs) : (w.setCell ⟨R, j, none⟩ u).rangeAt T o cs := fun i v hv =>
  (World.cell?_of_block (w := w) (Below.heap_setCell w ⟨R, j, none⟩ u T (Ne.symm hne))).trans (h i v hv)

theorem take_set3 {α : Type} (L : List α) (k : Nat) (x y z : α) (h : k + 3 ≤ L.length) : (((L.set k x).set (k + 1) y).set (k + 2) z).take (k + 3) = L.take k ++ [x, y, z] := by
  apply List.ext_getElem?
  intro i
  by_cases hi : i < k
  · rw [List.getElem?_take_of_lt (by omega), List.getElem?_set_ne (by omega), List.getElem?_set_ne (by omega), List.getElem?_set_ne (by omega), List.getElem?_append_left (by simp; omega), List.getElem?_take_of_lt hi]
  · rw [List.getElem?_append_right (by simp; omega)]
    have e : (L.take k).length = k := by simp; omega
    rw [e]
    rcases (by omega : i = k ∨ i = k + 1 ∨ i = k + 2 ∨ k + 3 ≤ i) with rfl | rfl | rfl | h3
    · rw [List.getElem?_take_of_lt (by omega), List.getElem?_set_ne (by omega), List.getElem?_set_ne (by omega), List.getElem?_set_self (by omega)]; simp
    · rw [List.getElem?_take_of_lt (by omega), List.getElem?_set_ne (by omega), List.getElem?_set_self (by simp; omega)]; simp
    · rw [List.getElem?_take_of_lt (by omega), List.getElem?_set_self (by simp; omega)]; simp
    · rw [List.getElem?_eq_none (by simp; omega), List.getElem?_eq_none (by simp; omega)]

theorem sflat_snoc (gs : List Nat) (q : List Wr) (g : Nat) (x : Wr) (h : gs.length = q.length) : sflat (gs ++ [g]) (q ++ [x]) = sflat gs q ++ sent g x := by
  simp [sflat, List.zip_append h]

theorem take_snoc {q : List Wr} {j : Nat} {x : Wr} (h : q[j]? = some x) : q.take (j + 1) = q.take j ++ [x] := by
  rw [List.take_add_one, h]; rfl

end Go.Proofs.Ytliljdencaocaaa
