/- Byte slices in memory, for the disk: what it is to hold some bytes, and how they are compared. -/
import Derived.Test.YtemhhgpgpjiijaaNobody
import Derived.Laws.CopyOwn
import Derived.Lib.Bytes
import Derived.Deep.MidRow
import Derived.Deep.WholeRow
namespace Go.Proofs.Ytemhhgpgpjiijaa
open Go.RowKit

namespace Num
def Byt (xs : List Int) : Prop := ∀ i, 0 ≤ xs.getD i 0 ∧ xs.getD i 0 < 256
end Num

/-- The slice at p, of n bytes, holds xs. -/
structure BI (w : World) (p : Option Addr) (n : Nat) (xs : List Int) : Prop where
  len : xs.length = n
  big : n ≤ 140737488355328
  byt : Num.Byt xs
  cells : 0 < n → ∃ b o, p = some ⟨b, o, none⟩ ∧ ∀ i, i < n → w.cell? ⟨b, o + i, none⟩ = some (.int .u8 (xs.getD i 0))

theorem lt_of_cell {w : World} {b o : Nat} {v : Value} (h : w.cell? ⟨b, o, none⟩ = some v) : b < w.heap.size := by
  by_cases hb : b < w.heap.size
  · exact hb
  · have : w.heap[b]? = none := Array.getElem?_eq_none (by omega)
    simp [World.cell?, this] at h

theorem BI.kept {w w' : World} {p : Option Addr} {n : Nat} {xs : List Int} (h : BI w p n xs) (hb : Below w.heap.size w w') : BI w' p n xs := by
  refine ⟨h.len, h.big, h.byt, fun hn => ?_⟩
  obtain ⟨b, o, rfl, hc⟩ := h.cells hn
  refine ⟨b, o, rfl, fun i hi => ?_⟩
  have hlt := lt_of_cell (hc i hi)
  rw [hb.cell (p := ⟨b, o + i, none⟩) hlt]
  exact hc i hi

/-- Block g, from B on, is the call's own row of capacity cap whose first n bytes are xs. -/
def Own (B : Nat) (w : World) (g n cap : Nat) (xs : List Int) : Prop :=
  w.ownsRow B 5 1 (.slice (some ⟨g, 0, none⟩) n cap) n (xs.map (Value.int .u8))

theorem Own.len {B : Nat} {w : World} {g n cap : Nat} {xs : List Int} (h : Own B w g n cap xs) : xs.length = n := by
  have := h.1
  simpa using this

theorem Own.spot {B : Nat} {w : World} {g n cap : Nat} {xs : List Int} (h : Own B w g n cap xs) : B ≤ g ∧ g < w.heap.size := World.ownsRow.lt h g rfl

theorem Own.cell {B : Nat} {w : World} {g n cap : Nat} {xs : List Int} (h : Own B w g n cap xs) (j : Nat) (hj : j < n) : w.cell? ⟨g, j, none⟩ = some (.int .u8 (xs.getD j 0)) := by
  have h1 := World.ownsRow.cellAt h j (by omega)
  rw [h1, List.getElem?_map, List.getD_eq_getElem?_getD, List.getElem?_eq_getElem (show j < xs.length by rw [h.len]; exact hj)]
  rfl

theorem Own.bi {B : Nat} {w : World} {g n cap : Nat} {xs : List Int} (h : Own B w g n cap xs) (hb : n ≤ 140737488355328) (hx : Num.Byt xs) : BI w (some ⟨g, 0, none⟩) n xs :=
  ⟨h.len, hb, hx, fun _ => ⟨g, 0, rfl, fun i hi => by rw [Nat.zero_add]; exact h.cell i hi⟩⟩

theorem Own.kept {B : Nat} {w w' : World} {g n cap : Nat} {xs : List Int} (h : Own B w g n cap xs) (hb : Below w.heap.size w w') : Own B w' g n cap xs := by
  refine ⟨h.1, ?_⟩
  rcases h.2 with ⟨h', _⟩ | ⟨g', cap', cur, h', hbg, hg, rest⟩
  · simp at h'
  · have hlt : g' < w.heap.size := (Array.getElem?_eq_some_iff.1 hg).1
    exact .inr ⟨g', cap', cur, h', hbg, by rw [hb.block g' hlt]; exact hg, rest⟩

theorem Own.base {B B' : Nat} {w : World} {g n cap : Nat} {xs : List Int} (h : Own B w g n cap xs) (hB : B' ≤ B) : Own B' w g n cap xs := by
  refine ⟨h.1, ?_⟩
  rcases h.2 with ⟨h', _⟩ | ⟨g', cap', cur, h', hbg, rest⟩
  · simp at h'
  · exact .inr ⟨g', cap', cur, h', by omega, rest⟩

theorem set_map (xs : List Int) (j : Nat) (y : Int) : (xs.map (Value.int .u8)).set j (.int .u8 y) = (xs.set j y).map (Value.int .u8) := by
  rw [List.map_set]

theorem Own.set {B : Nat} {w : World} {g n cap : Nat} {xs : List Int} (h : Own B w g n cap xs) (j : Nat) (y : Int) : Own B (w.setCell ⟨g, j, none⟩ (.int .u8 y)) g n cap (xs.set j y) := by
  have := (World.ownsRow.stored h j (.int .u8 y)).1
  rw [set_map] at this
  exact this

theorem size5 : (Try.prog.info? 5).map (·.size) = some 1 := by kernel_rfl

theorem one_cells (xs : List Int) : ∀ u ∈ xs.map (Value.int .u8), u.oneCell' = true := by
  intro u hu; obtain ⟨x, _, rfl⟩ := List.mem_map.1 hu; rfl

theorem BI.src {w : World} {p : Option Addr} {n : Nat} {xs : List Int} (h : BI w p n xs) : 0 < n → ∃ ad, p = some ad ∧ ∀ j v, (xs.map (Value.int .u8))[j]? = some v → w.cell? (ad.add j) = some v := by
  intro hn
  obtain ⟨b, o, rfl, hc⟩ := h.cells hn
  refine ⟨_, rfl, fun j v hj => ?_⟩
  have hjl : j < xs.length := by
    have := (List.getElem?_eq_some_iff.1 hj).1
    simpa using this
  have e : (⟨b, o, none⟩ : Addr).add j = ⟨b, o + j, none⟩ := by unfold Addr.add; split <;> simp_all
  rw [e, hc j (by rw [← h.len]; exact hjl), ← hj, List.getElem?_map, List.getD_eq_getElem?_getD, List.getElem?_eq_getElem hjl]
  rfl

theorem own_row {w : World} {B g n : Nat} {L : List Value} (h : w.ownsRow B 5 1 (.slice (some ⟨g, 0, none⟩) n n) n L) : w.heap[g]? = some (.cells L.toArray 5 (0, 0)) := by
  rcases h.2 with ⟨h', _⟩ | ⟨g', cap', cur, h', _, hg, _, _, hcs, ht⟩
  · simp at h'
  · simp only [Value.slice.injEq, Option.some.injEq, Addr.mk.injEq, and_true, true_and] at h'
    obtain ⟨rfl, rfl⟩ := h'
    rw [List.take_of_length_le (by simp; omega)] at ht
    subst ht
    simpa using hg

theorem own_of_row {w : World} {B g n : Nat} {xs : List Int} (hB : B ≤ g) (hn : n ≤ maxLen) (hx : xs.length = n) (h : w.heap[g]? = some (.cells (xs.map (Value.int .u8)).toArray 5 (0, 0))) : Own B w g n n xs :=
  ⟨by simpa using hx, .inr ⟨g, n, _, rfl, hB, h, Nat.le_refl _, hn, by simpa using hx, by simp [← hx, List.take_of_length_le]⟩⟩

theorem splice_all (L cs : List Value) (h : L.length = cs.length) : splice L 0 cs = cs := by
  simp [splice, ← h]

theorem BI.src' {w : World} {a : Addr} {n : Nat} {xs : List Int} (h : BI w (some a) n xs) : ∀ j v, (xs.map (Value.int .u8))[j]? = some v → w.cell? (a.add j) = some v := by
  intro j v hj
  have hjl : j < xs.length := by
    have := (List.getElem?_eq_some_iff.1 hj).1
    simpa using this
  obtain ⟨ad, e, hc⟩ := h.src (by rw [← h.len]; omega)
  cases e
  exact hc j v hj

theorem BI.conv {w : World} {p : Option Addr} {n : Nat} {xs : List Int} (h : BI w p n xs) (c : Nat) : (convert 42 9 (.slice p n c)).run Try.prog w = .ok (.string (strOfNums xs)) w := by
  rcases Nat.eq_zero_or_pos n with hn | hn
  · subst hn
    obtain rfl : xs = [] := List.eq_nil_of_length_eq_zero h.len
    cases p with
    | none => exact run_convert_bytes_nil (P := Try.prog) w 42 5 Try.underlying42 Try.underlying5 0 c 9 Try.underlying9
    | some a =>
      rw [run_convert_bytes_string w 42 9 5 _ _ _ Try.underlying42 Try.underlying5 Try.underlying9]
      exact run_bytesToString w a 0 c [] (by simp [loadCells, loadCellsFrom])
  · obtain ⟨b, o, rfl, hc⟩ := h.cells hn
    exact run_convert_bytes_arg (P := Try.prog) w 42 5 Try.underlying42 Try.underlying5 b o n c xs h.len hc 9 Try.underlying9

theorem byt_mem {xs : List Int} (h : Num.Byt xs) : ∀ x ∈ xs, 0 ≤ x ∧ x < 256 := by
  intro x hx
  obtain ⟨i, hi, rfl⟩ := List.getElem_of_mem hx
  have := h i
  rw [List.getD_eq_getElem?_getD, List.getElem?_eq_getElem hi] at this
  exact this

theorem back_bytes {xs : List Int} (h : Num.Byt xs) : (Lib.bytesOf xs).map (fun b => (b.toNat : Int)) = xs := by
  unfold Lib.bytesOf
  rw [List.map_map]
  conv => rhs; rw [← List.map_id xs]
  apply List.map_congr_left
  intro x hx
  have := byt_mem h x hx
  simp
  omega

theorem str_beq {xs ys : List Int} (hx : Num.Byt xs) (hy : Num.Byt ys) : ((strOfNums xs).toList == (strOfNums ys).toList) = (xs == ys) := by
  rw [Lib.strOfNums_toList, Lib.strOfNums_toList]
  rw [Bool.eq_iff_iff, beq_iff_eq, beq_iff_eq]
  constructor
  · intro h
    rw [← back_bytes hx, ← back_bytes hy, h]
  · rintro rfl; rfl

theorem ret_bool {a b : Bool} (h : a = b) : Ending.returned (.bool a) = .returned (.bool b) := by rw [h]

set_option maxHeartbeats 400000 in
theorem equal_any (p q : Option Addr) (n c m d : Nat) (xs ys : List Int) (w : World) (h : BI w p n xs) (k : BI w q m ys) :
    Calls Try.prog 29 #[.slice p n c, .slice q m d] w fun e w' => e = .returned (.bool (xs == ys)) ∧ w' = w := by
  have h1 := h.conv c
  have h2 := k.conv d
  go_enter Try.func29, Try.ntmps29
  go_wp2
  go_ret
  exact ⟨ret_bool (str_beq h.byt k.byt), rfl⟩

theorem eqlNil (w : World) (a : Option Addr) (n c n' c' : Nat) : (binOp .eql 42 (.slice a n c) (.slice none n' c')).run Try.prog w = .ok (.bool a.isNone) w := Lib.run_eql_slice_nil w _ _ a n c n' c' Try.underlying42

theorem own_shape {w : World} {B n : Nat} {v : Value} {xs : List Int} (h : w.ownsRow B 5 1 v n (xs.map (Value.int .u8))) (hv : v ≠ .slice none 0 0) : ∃ g cap, v = .slice (some ⟨g, 0, none⟩) n cap ∧ Own B w g n cap xs := by
  rcases h.2 with ⟨h', _⟩ | ⟨g', cap', cur, h', r⟩
  · exact absurd h' hv
  · exact ⟨g', cap', h', by subst h'; exact h⟩

theorem Own.room {B : Nat} {w : World} {g n cap : Nat} {xs : List Int} (h : Own B w g n cap xs) : n ≤ cap ∧ cap ≤ 9223372036854775807 := by
  rcases h.2 with ⟨h', _⟩ | ⟨g', cap', cur, h', _, _, h1, h2, _⟩
  · simp at h'
  · simp only [Value.slice.injEq, Option.some.injEq, Addr.mk.injEq, and_true, true_and] at h'
    obtain ⟨rfl, rfl⟩ := h'
    unfold maxLen at h2
    exact ⟨h1, h2⟩

theorem getD_take (xs : List Int) (m i : Nat) (h : i < m) : (xs.take m).getD i 0 = xs.getD i 0 := by
  simp [List.getD_eq_getElem?_getD, h]

theorem getD_drop' (xs : List Int) (m i : Nat) : (xs.drop m).getD i 0 = xs.getD (m + i) 0 := by
  simp [List.getD_eq_getElem?_getD, List.getElem?_drop]

theorem byt_take {xs : List Int} (h : Num.Byt xs) (m : Nat) : Num.Byt (xs.take m) := by
  intro i
  by_cases hi : i < m
  · rw [getD_take xs m i hi]; exact h i
  · rw [List.getD_eq_getElem?_getD, List.getElem?_eq_none (by simp; omega)]; simp

theorem byt_drop {xs : List Int} (h : Num.Byt xs) (m : Nat) : Num.Byt (xs.drop m) := by
  intro i
  rw [getD_drop']; exact h _

theorem BI.take {w : World} {p : Option Addr} {n : Nat} {xs : List Int} (h : BI w p n xs) (m : Nat) (hm : m ≤ n) : BI w p m (xs.take m) := by
  refine ⟨by rw [List.length_take, h.len]; omega, by have := h.big; omega, byt_take h.byt m, fun h0 => ?_⟩
  obtain ⟨b, o, rfl, hc⟩ := h.cells (by omega)
  exact ⟨b, o, rfl, fun i hi => by rw [getD_take xs m i hi]; exact hc i (by omega)⟩

theorem BI.drop {w : World} {b o : Nat} {n : Nat} {xs : List Int} (h : BI w (some ⟨b, o, none⟩) n xs) (m : Nat) (hm : m ≤ n) : BI w (some ⟨b, o + m, none⟩) (n - m) (xs.drop m) := by
  refine ⟨by rw [List.length_drop, h.len], by have := h.big; omega, byt_drop h.byt m, fun h0 => ?_⟩
  obtain ⟨b', o', e, hc⟩ := h.cells (by omega)
  cases e
  exact ⟨b, o + m, rfl, fun i hi => by rw [getD_drop', Nat.add_assoc]; exact hc _ (by omega)⟩

theorem BI.cut {w : World} {b o : Nat} {n : Nat} {xs : List Int} (h : BI w (some ⟨b, o, none⟩) n xs) (m c : Nat) (hm : m ≤ n) (hc : n ≤ c) : BI w (if c = m then some ⟨b, o, none⟩ else some ⟨b, o + m, none⟩) (n - m) (xs.drop m) := by
  have hd := h.drop m hm
  by_cases e : c = m
  · rw [if_pos e]
    exact ⟨hd.len, hd.big, hd.byt, fun h0 => by omega⟩
  · rw [if_neg e]; exact hd

theorem ext_getD {xs ys : List Int} (hl : xs.length = ys.length) (h : ∀ i, i < xs.length → xs.getD i 0 = ys.getD i 0) : xs = ys := by
  apply List.ext_getElem hl
  intro i h1 h2
  have := h i h1
  simpa [List.getD_eq_getElem?_getD, List.getElem?_eq_getElem h1, List.getElem?_eq_getElem h2] using this


end Go.Proofs.Ytemhhgpgpjiijaa
