/- A reader's Text and Skip that begin: what they answer, and what the reader is behind them. -/
import Derived.WalkKit
import Derived.Test.YtfchclpglcogoaaChecked
import Derived.WalkSpells
import Derived.WalkLawsBesides
import Derived.BigQuiet
import Derived.Deep.QuietTactic
import Derived.Laws.CopyOwn
import Derived.Lib.Bytes
import Derived.Test.YtfchclpglcogoaaRows
import Derived.ProofKit
import Derived.OpenShut
import Derived.ShutString
import Derived.ChangeOld
import Derived.SizedLaws
import Derived.Defers
import Derived.Recover

/- Numbers in bytes as plain lists of integers: the number that stands at a place, the list with a number put there, and that the one gives back the other. -/
namespace Go.Proofs.Ytfchclpglcogoaa
namespace Num

def numD (xs : List Int) : Nat → Nat → Int
  | _, 0 => 0
  | a, k + 1 => xs.getD a 0 + 256 * numD xs (a + 1) k

def Byt (xs : List Int) : Prop := ∀ i, 0 ≤ xs.getD i 0 ∧ xs.getD i 0 < 256

theorem numD_snoc (xs : List Int) (k : Nat) : ∀ a, numD xs a (k + 1) = numD xs a k + xs.getD (a + k) 0 * 256 ^ k := by
  induction k with
  | zero => intro a; simp [numD]
  | succ k ih =>
    intro a
    have h1 : numD xs a (k + 1 + 1) = xs.getD a 0 + 256 * numD xs (a + 1) (k + 1) := rfl
    have h2 : numD xs a (k + 1) = xs.getD a 0 + 256 * numD xs (a + 1) k := rfl
    rw [h1, h2, ih (a + 1), Int.pow_succ, show a + 1 + k = a + (k + 1) from by omega]
    generalize xs.getD (a + (k + 1)) 0 = y
    generalize (256 : Int) ^ k = p
    have : y * (p * 256) = 256 * (y * p) := by rw [← Int.mul_assoc, Int.mul_comm]
    rw [this]; omega

theorem numD_bd {xs : List Int} (h : Byt xs) (k : Nat) : ∀ a, 0 ≤ numD xs a k ∧ numD xs a k < 256 ^ k := by
  induction k with
  | zero => intro a; simp [numD]
  | succ k ih =>
    intro a
    have h1 : numD xs a (k + 1) = xs.getD a 0 + 256 * numD xs (a + 1) k := rfl
    have h2 := ih (a + 1)
    have h3 := h a
    rw [h1, Int.pow_succ]
    generalize (256 : Int) ^ k = p at *
    omega

def putTo (xs : List Int) (a : Nat) (v : Int) : Nat → List Int
  | 0 => xs
  | k + 1 => (putTo xs a v k).set (a + k) (v / 256 ^ k % 256)

theorem putTo_length (xs : List Int) (a : Nat) (v : Int) (k : Nat) : (putTo xs a v k).length = xs.length := by
  induction k with
  | zero => rfl
  | succ k ih => simp [putTo, ih]

theorem getD_set (xs : List Int) (j i : Nat) (y : Int) : (xs.set j y).getD i 0 = if i = j ∧ j < xs.length then y else xs.getD i 0 := by
  simp only [List.getD_eq_getElem?_getD, List.getElem?_set]
  by_cases h : j = i
  · subst h
    by_cases hl : j < xs.length
    · simp [hl]
    · simp [hl]
  · have h' : ¬ i = j := fun e => h e.symm
    simp [h, h']

theorem putTo_byt {xs : List Int} (h : Byt xs) (a : Nat) (v : Int) (k : Nat) : Byt (putTo xs a v k) := by
  induction k with
  | zero => exact h
  | succ k ih =>
    intro i
    show 0 ≤ ((putTo xs a v k).set (a + k) (v / 256 ^ k % 256)).getD i 0 ∧ ((putTo xs a v k).set (a + k) (v / 256 ^ k % 256)).getD i 0 < 256
    rw [getD_set]
    split
    · omega
    · exact ih i

theorem putTo_out (xs : List Int) (a : Nat) (v : Int) (k : Nat) (i : Nat) (hi : i < a ∨ a + k ≤ i) : (putTo xs a v k).getD i 0 = xs.getD i 0 := by
  induction k with
  | zero => rfl
  | succ k ih =>
    show ((putTo xs a v k).set (a + k) (v / 256 ^ k % 256)).getD i 0 = _
    rw [getD_set, if_neg (by omega)]
    exact ih (by omega)

theorem putTo_in (xs : List Int) (a : Nat) (v : Int) (k : Nat) (hk : a + k ≤ xs.length) (i : Nat) (hi : i < k) : (putTo xs a v k).getD (a + i) 0 = v / 256 ^ i % 256 := by
  induction k with
  | zero => omega
  | succ k ih =>
    show ((putTo xs a v k).set (a + k) (v / 256 ^ k % 256)).getD (a + i) 0 = _
    rw [getD_set, putTo_length]
    by_cases e : i = k
    · subst e; rw [if_pos ⟨rfl, by omega⟩]
    · rw [if_neg (by omega)]; exact ih (by omega) (by omega)

theorem numD_digits (ys : List Int) (v : Int) (k : Nat) (a : Nat) (h : ∀ i, i < k → ys.getD (a + i) 0 = v / 256 ^ i % 256) : numD ys a k = v % 256 ^ k := by
  induction k with
  | zero => simp [numD]
  | succ k ih =>
    rw [numD_snoc, ih (fun i hi => h i (by omega)), h k (by omega), Int.pow_succ]
    have hp : (0 : Int) < 256 ^ k := Int.pow_pos (by decide)
    generalize (256 : Int) ^ k = p at *
    have e1 := Int.emod_add_mul_ediv v p
    have e2 := Int.emod_add_mul_ediv (v / p) 256
    have e3 : v / (p * 256) = v / p / 256 := (Int.ediv_ediv_of_nonneg (by omega)).symm
    have e4 := Int.emod_add_mul_ediv v (p * 256)
    rw [e3] at e4
    generalize v / p / 256 = q2 at *
    generalize v / p % 256 = r2 at *
    generalize v / p = q1 at *
    generalize v % p = r1 at *
    generalize v % (p * 256) = r4 at *
    subst e2
    rw [Int.mul_add, ← Int.mul_assoc] at e1
    rw [Int.mul_comm r2 p]
    omega

theorem num_put (xs : List Int) (a : Nat) (v : Int) (k : Nat) (hk : a + k ≤ xs.length) (h0 : 0 ≤ v) (h1 : v < 256 ^ k) : numD (putTo xs a v k) a k = v := by
  rw [numD_digits _ v k a (fun i hi => putTo_in xs a v k hk i hi)]
  exact Int.emod_eq_of_lt h0 h1

theorem wraps_i64 (n : Int) (h0 : 0 ≤ n) (h1 : n < 2 ^ 40) : IntKind.i64.wrap n = n := by
  rw [IntKind.wrap_i64]; simp at h1; omega

theorem or_comm' (k : IntKind) (x y : Int) : bits .or k x y = bits .or k y x := by
  simp only [bits]
  rw [BitVec.or_comm]

theorem or_num (t x : Int) (j : Nat) (hj : j ≤ 3) (h0 : 0 ≤ t) (h1 : t < 256 ^ j) (hx0 : 0 ≤ x) (hx1 : x < 256) :
    bits BinOp.or IntKind.i64 t (RowKit.wrap64 (x * 2 ^ (8 * j))) = t + x * 256 ^ j := by
  have e : RowKit.wrap64 (x * 2 ^ (8 * j)) = x * 256 ^ j := by
    unfold RowKit.wrap64
    rcases (by omega : j = 0 ∨ j = 1 ∨ j = 2 ∨ j = 3) with rfl | rfl | rfl | rfl <;> simp <;> omega
  rw [e, or_comm']
  have := bits_join IntKind.i64 40 (by decide) wraps_i64 (8 * j) (x * 256 ^ j) t
    (by rcases (by omega : j = 0 ∨ j = 1 ∨ j = 2 ∨ j = 3) with rfl | rfl | rfl | rfl <;> simp <;> omega)
    (by rcases (by omega : j = 0 ∨ j = 1 ∨ j = 2 ∨ j = 3) with rfl | rfl | rfl | rfl <;> simp <;> omega)
    (by rcases (by omega : j = 0 ∨ j = 1 ∨ j = 2 ∨ j = 3) with rfl | rfl | rfl | rfl <;> simp <;> omega)
    h0
    (by rcases (by omega : j = 0 ∨ j = 1 ∨ j = 2 ∨ j = 3) with rfl | rfl | rfl | rfl <;> simp at h1 ⊢ <;> omega)
    (by rcases (by omega : j = 0 ∨ j = 1 ∨ j = 2 ∨ j = 3) with rfl | rfl | rfl | rfl <;> simp at h1 ⊢ <;> omega)
  rw [this, Int.add_comm]

theorem byt_of_wf {xs : List Int} (h : ∀ n ∈ xs, (Lit.int .u8 n).wf = true) : Byt xs := by
  intro i
  rw [List.getD_eq_getElem?_getD]
  by_cases hi : i < xs.length
  · rw [List.getElem?_eq_getElem hi]
    have := h _ (List.getElem_mem hi)
    simp [Lit.wf, IntKind.min, IntKind.max, IntKind.signed, IntKind.bits] at this
    simp only [Option.getD_some]
    omega
  · rw [List.getElem?_eq_none (by omega)]; simp

end Num
end Go.Proofs.Ytfchclpglcogoaa

/- What word's helpers of places and widths answer. -/
namespace Go.Proofs.Ytfchclpglcogoaa
open Go.RowKit

theorem pow_eq (k : Nat) : (2 : Int) ^ (8 * k) = 256 ^ k := by
  rw [Int.pow_mul]
  rfl

theorem fits_bool_yes (n : Int) (k : Nat) (h0 : 0 ≤ n) (h : n < 256 ^ k) : (n / 2 ^ (8 * k) == 0) = true := by
  rw [pow_eq, Int.ediv_eq_zero_of_lt h0 h]; rfl

theorem numD_step (xs : List Int) (a k j : Nat) (hj : 0 < j) (hk : j ≤ k) : Num.numD xs (a + (j - 1)) (k - (j - 1)) = Num.numD xs (a + j) (k - j) * 256 + xs.getD (a + (j - 1)) 0 := by
  have e : k - (j - 1) = (k - j) + 1 := by omega
  have e2 : a + j = a + (j - 1) + 1 := by omega
  rw [e, e2]
  show xs.getD (a + (j - 1)) 0 + 256 * Num.numD xs (a + (j - 1) + 1) (k - j) = _
  omega

theorem pow_le (m : Nat) (h : m ≤ 4) : (256 : Int) ^ m ≤ 4294967296 := by
  rcases (by omega : m = 0 ∨ m = 1 ∨ m = 2 ∨ m = 3 ∨ m = 4) with rfl | rfl | rfl | rfl | rfl <;> decide

end Go.Proofs.Ytfchclpglcogoaa

/- Byte slices in memory: what it is to hold some bytes, and what word's and the library's copying and comparing calls do. -/
namespace Go.Proofs.Ytfchclpglcogoaa
open Go.RowKit

/-- The slice at p, of n bytes, holds xs. -/
structure BI (w : World) (p : Option Addr) (n : Nat) (xs : List Int) : Prop where
  len : xs.length = n
  big : n ≤ 140737488355328
  byt : Num.Byt xs
  cells : 0 < n → ∃ b o, p = some ⟨b, o, none⟩ ∧ ∀ i, i < n → w.cell? ⟨b, o + i, none⟩ = some (.int .u8 (xs.getD i 0))

theorem lt_of_cell {w : World} {b o : Nat} {v : Value} (h : w.cell? ⟨b, o, none⟩ = some v) : b < w.heap.size := by
  by_cases hb : b < w.heap.size
  · exact hb
  · have : w.heap[b]? = none := Array.getElem?_eq_none (by omega)
    simp [World.cell?, this] at h

theorem BI.kept {w w' : World} {p : Option Addr} {n : Nat} {xs : List Int} (h : BI w p n xs) (hb : Below w.heap.size w w') : BI w' p n xs := by
  refine ⟨h.len, h.big, h.byt, fun hn => ?_⟩
  obtain ⟨b, o, rfl, hc⟩ := h.cells hn
  refine ⟨b, o, rfl, fun i hi => ?_⟩
  have hlt := lt_of_cell (hc i hi)
  rw [hb.cell (p := ⟨b, o + i, none⟩) hlt]
  exact hc i hi

/-- Block g, from B on, is the call's own row of capacity cap whose first n bytes are xs. -/
def Own (B : Nat) (w : World) (g n cap : Nat) (xs : List Int) : Prop :=
  w.ownsRow B 5 1 (.slice (some ⟨g, 0, none⟩) n cap) n (xs.map (Value.int .u8))

theorem Own.len {B : Nat} {w : World} {g n cap : Nat} {xs : List Int} (h : Own B w g n cap xs) : xs.length = n := by
  have := h.1
  simpa using this

theorem Own.spot {B : Nat} {w : World} {g n cap : Nat} {xs : List Int} (h : Own B w g n cap xs) : B ≤ g ∧ g < w.heap.size := World.ownsRow.lt h g rfl

theorem Own.cell {B : Nat} {w : World} {g n cap : Nat} {xs : List Int} (h : Own B w g n cap xs) (j : Nat) (hj : j < n) : w.cell? ⟨g, j, none⟩ = some (.int .u8 (xs.getD j 0)) := by
  have h1 := World.ownsRow.cellAt h j (by omega)
  rw [h1, List.getElem?_map, List.getD_eq_getElem?_getD, List.getElem?_eq_getElem (show j < xs.length by rw [h.len]; exact hj)]
  rfl

theorem Own.bi {B : Nat} {w : World} {g n cap : Nat} {xs : List Int} (h : Own B w g n cap xs) (hb : n ≤ 140737488355328) (hx : Num.Byt xs) : BI w (some ⟨g, 0, none⟩) n xs :=
  ⟨h.len, hb, hx, fun _ => ⟨g, 0, rfl, fun i hi => by rw [Nat.zero_add]; exact h.cell i hi⟩⟩

theorem Own.kept {B : Nat} {w w' : World} {g n cap : Nat} {xs : List Int} (h : Own B w g n cap xs) (hb : Below w.heap.size w w') : Own B w' g n cap xs := by
  refine ⟨h.1, ?_⟩
  rcases h.2 with ⟨h', _⟩ | ⟨g', cap', cur, h', hbg, hg, rest⟩
  · simp at h'
  · have hlt : g' < w.heap.size := (Array.getElem?_eq_some_iff.1 hg).1
    exact .inr ⟨g', cap', cur, h', hbg, by rw [hb.block g' hlt]; exact hg, rest⟩

theorem Own.base {B B' : Nat} {w : World} {g n cap : Nat} {xs : List Int} (h : Own B w g n cap xs) (hB : B' ≤ B) : Own B' w g n cap xs := by
  refine ⟨h.1, ?_⟩
  rcases h.2 with ⟨h', _⟩ | ⟨g', cap', cur, h', hbg, rest⟩
  · simp at h'
  · exact .inr ⟨g', cap', cur, h', by omega, rest⟩

theorem set_map (xs : List Int) (j : Nat) (y : Int) : (xs.map (Value.int .u8)).set j (.int .u8 y) = (xs.set j y).map (Value.int .u8) := by
  rw [List.map_set]

theorem Own.set {B : Nat} {w : World} {g n cap : Nat} {xs : List Int} (h : Own B w g n cap xs) (j : Nat) (y : Int) : Own B (w.setCell ⟨g, j, none⟩ (.int .u8 y)) g n cap (xs.set j y) := by
  have := (World.ownsRow.stored h j (.int .u8 y)).1
  rw [set_map] at this
  exact this

theorem info5 : (Try.prog.info? 5).map (fun i => (i.zero, i.size, i.bytes)) = some (some (.int .u8 0), 1, 1) := by kernel_rfl
theorem size5 : (Try.prog.info? 5).map (·.size) = some 1 := by kernel_rfl

theorem one_cells (xs : List Int) : ∀ u ∈ xs.map (Value.int .u8), u.oneCell' = true := by
  intro u hu; obtain ⟨x, _, rfl⟩ := List.mem_map.1 hu; rfl

theorem BI.src {w : World} {p : Option Addr} {n : Nat} {xs : List Int} (h : BI w p n xs) : 0 < n → ∃ ad, p = some ad ∧ ∀ j v, (xs.map (Value.int .u8))[j]? = some v → w.cell? (ad.add j) = some v := by
  intro hn
  obtain ⟨b, o, rfl, hc⟩ := h.cells hn
  refine ⟨_, rfl, fun j v hj => ?_⟩
  have hjl : j < xs.length := by
    have := (List.getElem?_eq_some_iff.1 hj).1
    simpa using this
  have e : (⟨b, o, none⟩ : Addr).add j = ⟨b, o + j, none⟩ := by unfold Addr.add; split <;> simp_all
  rw [e, hc j (by rw [← h.len]; exact hjl), ← hj, List.getElem?_map, List.getD_eq_getElem?_getD, List.getElem?_eq_getElem hjl]
  rfl

theorem own_row {w : World} {B g n : Nat} {L : List Value} (h : w.ownsRow B 5 1 (.slice (some ⟨g, 0, none⟩) n n) n L) : w.heap[g]? = some (.cells L.toArray 5 (0, 0)) := by
  rcases h.2 with ⟨h', _⟩ | ⟨g', cap', cur, h', _, hg, _, _, hcs, ht⟩
  · simp at h'
  · simp only [Value.slice.injEq, Option.some.injEq, Addr.mk.injEq, and_true, true_and] at h'
    obtain ⟨rfl, rfl⟩ := h'
    rw [List.take_of_length_le (by simp; omega)] at ht
    subst ht
    simpa using hg

theorem own_of_row {w : World} {B g n : Nat} {xs : List Int} (hB : B ≤ g) (hn : n ≤ maxLen) (hx : xs.length = n) (h : w.heap[g]? = some (.cells (xs.map (Value.int .u8)).toArray 5 (0, 0))) : Own B w g n n xs :=
  ⟨by simpa using hx, .inr ⟨g, n, _, rfl, hB, h, Nat.le_refl _, hn, by simpa using hx, by simp [← hx, List.take_of_length_le]⟩⟩

theorem splice_all (L cs : List Value) (h : L.length = cs.length) : splice L 0 cs = cs := by
  simp [splice, ← h]

theorem BI.src' {w : World} {a : Addr} {n : Nat} {xs : List Int} (h : BI w (some a) n xs) : ∀ j v, (xs.map (Value.int .u8))[j]? = some v → w.cell? (a.add j) = some v := by
  intro j v hj
  have hjl : j < xs.length := by
    have := (List.getElem?_eq_some_iff.1 hj).1
    simpa using this
  obtain ⟨ad, e, hc⟩ := h.src (by rw [← h.len]; omega)
  cases e
  exact hc j v hj

theorem BI.conv {w : World} {p : Option Addr} {n : Nat} {xs : List Int} (h : BI w p n xs) (c : Nat) : (convert 22 9 (.slice p n c)).run Try.prog w = .ok (.string (strOfNums xs)) w := by
  rcases Nat.eq_zero_or_pos n with hn | hn
  · subst hn
    obtain rfl : xs = [] := List.eq_nil_of_length_eq_zero h.len
    cases p with
    | none => exact run_convert_bytes_nil (P := Try.prog) w 22 5 Try.underlying22 Try.underlying5 0 c 9 Try.underlying9
    | some a =>
      rw [run_convert_bytes_string w 22 9 5 _ _ _ Try.underlying22 Try.underlying5 Try.underlying9]
      exact run_bytesToString w a 0 c [] (by simp [loadCells, loadCellsFrom])
  · obtain ⟨b, o, rfl, hc⟩ := h.cells hn
    exact run_convert_bytes_arg (P := Try.prog) w 22 5 Try.underlying22 Try.underlying5 b o n c xs h.len hc 9 Try.underlying9

theorem byt_mem {xs : List Int} (h : Num.Byt xs) : ∀ x ∈ xs, 0 ≤ x ∧ x < 256 := by
  intro x hx
  obtain ⟨i, hi, rfl⟩ := List.getElem_of_mem hx
  have := h i
  rw [List.getD_eq_getElem?_getD, List.getElem?_eq_getElem hi] at this
  exact this

theorem back_bytes {xs : List Int} (h : Num.Byt xs) : (Lib.bytesOf xs).map (fun b => (b.toNat : Int)) = xs := by
  unfold Lib.bytesOf
  rw [List.map_map]
  conv => rhs; rw [← List.map_id xs]
  apply List.map_congr_left
  intro x hx
  have := byt_mem h x hx
  simp
  omega

theorem str_beq {xs ys : List Int} (hx : Num.Byt xs) (hy : Num.Byt ys) : ((strOfNums xs).toList == (strOfNums ys).toList) = (xs == ys) := by
  rw [Lib.strOfNums_toList, Lib.strOfNums_toList]
  rw [Bool.eq_iff_iff, beq_iff_eq, beq_iff_eq]
  constructor
  · intro h
    rw [← back_bytes hx, ← back_bytes hy, h]
  · rintro rfl; rfl

theorem ret_bool {a b : Bool} (h : a = b) : Ending.returned (.bool a) = .returned (.bool b) := by rw [h]

theorem own_shape {w : World} {B n : Nat} {v : Value} {xs : List Int} (h : w.ownsRow B 5 1 v n (xs.map (Value.int .u8))) (hv : v ≠ .slice none 0 0) : ∃ g cap, v = .slice (some ⟨g, 0, none⟩) n cap ∧ Own B w g n cap xs := by
  rcases h.2 with ⟨h', _⟩ | ⟨g', cap', cur, h', r⟩
  · exact absurd h' hv
  · exact ⟨g', cap', h', by subst h'; exact h⟩

theorem wrap_pow (k : Nat) (h : k ≤ 4) : wrap64 (2 ^ (8 * k)) = 256 ^ k := by
  unfold wrap64
  rcases (by omega : k = 0 ∨ k = 1 ∨ k = 2 ∨ k = 3 ∨ k = 4) with rfl | rfl | rfl | rfl | rfl <;> rfl

theorem quo_pow (v : Int) (j : Nat) : v / 256 ^ j / 256 = v / 256 ^ (j + 1) := by
  rw [Int.pow_succ, Int.ediv_ediv_of_nonneg (Int.le_of_lt (Int.pow_pos (by decide)))]

end Go.Proofs.Ytfchclpglcogoaa

/- A slice of bytes that came in as an argument holds some bytes, and is no greater than a statement's own reach. -/
namespace Go.Proofs.Ytfchclpglcogoaa
open Go.ChangeShapes Go.WideShapes Go.ChangeAt Go.RowKit

theorem ownKnob_none : ownKnob Try.prog.godebug = none := by kernel_rfl
theorem laid_out : laidOutB Try.prog = true := by kernel_rfl
theorem bytes5 : Try.prog.bytesOf 5 = 1 := by kernel_rfl
theorem cells5 : Try.prog.cellsOf 5 = 1 := by kernel_rfl

theorem byt_sub {xs : List Int} (h : Num.Byt xs) (m : Nat) : Num.Byt (xs.take m) := by
  intro i
  by_cases hi : i < m
  · have := h i
    simpa [List.getD_eq_getElem?_getD, hi] using this
  · rw [List.getD_eq_getElem?_getD, List.getElem?_eq_none (by simp; omega)]; simp

theorem open_bytes {H : Type} {enc : TypeId × Value → H} {W : World} {a0 : Option Addr} {len0 cap0 : Nat} {d0 : DataW H} {p0 : List MemPlace} {ts : List TypeId} {ds : List (DataW H)} {j : Nat}
    (h0 : DataW.Trod enc Try.prog W 0 (fun _ => true) true 22 (.slice a0 len0 cap0) d0 p0)
    (hsz : (DataW.weightsEach Try.prog ts ds).all (· ≤ reachBytes) = true) (ht : ts[j]? = some 22) (hd : ds[j]? = some d0) :
    ∃ xs, BI W a0 len0 xs ∧ len0 ≤ cap0 := by
  obtain ⟨fuel, hf⟩ := h0
  rcases open_ints Try.underlying22 Try.underlying5 cells5 hf with ⟨hcs, _⟩ | ⟨x, l, c, zs, hcs, _, hl, hm, hz, hx, hcell, hwz⟩
  · simp [Value.cells] at hcs
    obtain ⟨rfl, rfl, rfl⟩ := hcs
    exact ⟨[], ⟨rfl, by omega, fun i => by simp, fun h => by omega⟩, Nat.le_refl _⟩
  · simp [Value.cells] at hcs
    obtain ⟨rfl, rfl, rfl⟩ := hcs
    simp only [Prod.mk.injEq] at hx
    obtain ⟨rfl, _⟩ := hx
    simp only [if_true] at hz
    have hw := sized_slice hsz (j := j) (t := 22) (e := 5) ht hd Try.underlying22
    rw [bytes5] at hw
    simp only [lits, List.length_map, List.length_take, List.length_drop, reachBytes] at hw
    refine ⟨zs.take len0, ⟨by rw [List.length_take]; omega, by omega, byt_sub (Num.byt_of_wf hwz) _, fun hn => ?_⟩, hl⟩
    obtain ⟨b, off, spot⟩ := x
    have hc := hcell 0 (by omega)
    have hspot : spot = none := by simpa [Addr.add] using World.cell?_spot hc
    subst hspot
    refine ⟨b, off, rfl, fun i hi => ?_⟩
    have hci := hcell i (by omega)
    have e : (⟨b, off, none⟩ : Addr).add i = ⟨b, off + i, none⟩ := by unfold Addr.add; split <;> simp_all
    rw [e] at hci
    rw [hci]
    simp [List.getD_eq_getElem?_getD, hi]

end Go.Proofs.Ytfchclpglcogoaa

/- WordBack: a number that was put into bytes is read back as it was, and no other byte has turned, whatever the bytes, the place, the width and the number are. -/
namespace Go.Proofs.Ytfchclpglcogoaa
open Go.RowKit

theorem Own.room {B : Nat} {w : World} {g n cap : Nat} {xs : List Int} (h : Own B w g n cap xs) : n ≤ cap ∧ cap ≤ 9223372036854775807 := by
  rcases h.2 with ⟨h', _⟩ | ⟨g', cap', cur, h', _, _, h1, h2, _⟩
  · simp at h'
  · simp only [Value.slice.injEq, Option.some.injEq, Addr.mk.injEq, and_true, true_and] at h'
    obtain ⟨rfl, rfl⟩ := h'
    unfold maxLen at h2
    exact ⟨h1, h2⟩

theorem getD_take (xs : List Int) (m i : Nat) (h : i < m) : (xs.take m).getD i 0 = xs.getD i 0 := by
  simp [List.getD_eq_getElem?_getD, h]

theorem getD_drop' (xs : List Int) (m i : Nat) : (xs.drop m).getD i 0 = xs.getD (m + i) 0 := by
  simp [List.getD_eq_getElem?_getD, List.getElem?_drop]

theorem byt_take {xs : List Int} (h : Num.Byt xs) (m : Nat) : Num.Byt (xs.take m) := by
  intro i
  by_cases hi : i < m
  · rw [getD_take xs m i hi]; exact h i
  · rw [List.getD_eq_getElem?_getD, List.getElem?_eq_none (by simp; omega)]; simp

theorem byt_drop {xs : List Int} (h : Num.Byt xs) (m : Nat) : Num.Byt (xs.drop m) := by
  intro i
  rw [getD_drop']; exact h _

theorem BI.take {w : World} {p : Option Addr} {n : Nat} {xs : List Int} (h : BI w p n xs) (m : Nat) (hm : m ≤ n) : BI w p m (xs.take m) := by
  refine ⟨by rw [List.length_take, h.len]; omega, by have := h.big; omega, byt_take h.byt m, fun h0 => ?_⟩
  obtain ⟨b, o, rfl, hc⟩ := h.cells (by omega)
  exact ⟨b, o, rfl, fun i hi => by rw [getD_take xs m i hi]; exact hc i (by omega)⟩

theorem BI.drop {w : World} {b o : Nat} {n : Nat} {xs : List Int} (h : BI w (some ⟨b, o, none⟩) n xs) (m : Nat) (hm : m ≤ n) : BI w (some ⟨b, o + m, none⟩) (n - m) (xs.drop m) := by
  refine ⟨by rw [List.length_drop, h.len], by have := h.big; omega, byt_drop h.byt m, fun h0 => ?_⟩
  obtain ⟨b', o', e, hc⟩ := h.cells (by omega)
  cases e
  exact ⟨b, o + m, rfl, fun i hi => by rw [getD_drop', Nat.add_assoc]; exact hc _ (by omega)⟩

theorem BI.cut {w : World} {b o : Nat} {n : Nat} {xs : List Int} (h : BI w (some ⟨b, o, none⟩) n xs) (m c : Nat) (hm : m ≤ n) (hc : n ≤ c) : BI w (if c = m then some ⟨b, o, none⟩ else some ⟨b, o + m, none⟩) (n - m) (xs.drop m) := by
  have hd := h.drop m hm
  by_cases e : c = m
  · rw [if_pos e]
    exact ⟨hd.len, hd.big, hd.byt, fun h0 => by omega⟩
  · rw [if_neg e]; exact hd

theorem ext_getD {xs ys : List Int} (hl : xs.length = ys.length) (h : ∀ i, i < xs.length → xs.getD i 0 = ys.getD i 0) : xs = ys := by
  apply List.ext_getElem hl
  intro i h1 h2
  have := h i h1
  simpa [List.getD_eq_getElem?_getD, List.getElem?_eq_getElem h1, List.getElem?_eq_getElem h2] using this

end Go.Proofs.Ytfchclpglcogoaa

/- What word's and the document's Get, Put and Sum answer, each said once for all arguments. -/
namespace Go.Proofs.Ytfchclpglcogoaa
open Go.RowKit

namespace Num
def gE (n : Nat) (at_ wd : Int) : Int := if wd < 1 ∨ 4 < wd ∨ at_ < 0 then 1 else if (n : Int) - wd < at_ then 10 else 0
def gN (n : Nat) (xs : List Int) (at_ wd : Int) : Int := if gE n at_ wd = 0 then numD xs at_.toNat wd.toNat else 0
def pE (n : Nat) (at_ wd v : Int) : Int := if wd < 1 ∨ 4 < wd ∨ at_ < 0 ∨ v < 0 ∨ (256 : Int) ^ wd.toNat ≤ v then 1 else if (n : Int) - wd < at_ then 10 else 0
def lo (xs : List Int) : Nat → Int
  | 0 => 1
  | k + 1 => (lo xs k + xs.getD k 0) % 65521
def hi (xs : List Int) : Nat → Int
  | 0 => 0
  | k + 1 => (hi xs k + lo xs (k + 1)) % 65521
def sum (xs : List Int) (n : Nat) : Int := hi xs n * 65536 + lo xs n

end Num

theorem pE_zero {n : Nat} {at_ wd v : Int} (h : Num.pE n at_ wd v = 0) : 1 ≤ wd ∧ wd ≤ 4 ∧ 0 ≤ at_ ∧ 0 ≤ v ∧ v < 256 ^ wd.toNat ∧ at_ + wd ≤ n := by
  unfold Num.pE at h
  split at h
  · omega
  · split at h <;> omega

end Go.Proofs.Ytfchclpglcogoaa

/- WordSums: the sum of bytes, their sealing, and whether they are sealed are what the document says, whatever the bytes are. -/
namespace Go.Proofs.Ytfchclpglcogoaa
open Go.RowKit

theorem BI.none (w : World) (p : Option Addr) : BI w p 0 [] := ⟨rfl, by omega, fun i => by simp, fun h => by omega⟩

theorem same_at {P : Program} {f : FuncId} {args : Array Value} {w : World} {v : Value} {Q : Ending → World → Prop} (h : Calls P f args w fun e w' => e = .returned v ∧ w' = w) (hq : Q (.returned v) w) : Calls P f args w Q :=
  h.mono (by rintro e w' ⟨rfl, rfl⟩; exact hq)

end Go.Proofs.Ytfchclpglcogoaa

/- What a reader of word is in memory, and what its calls do. -/
namespace Go.Proofs.Ytfchclpglcogoaa
open Go.RowKit

/-- Block rb is a reader: what is left, its error, whether a call made it. -/
def Rd (w : World) (rb : Nat) (v : Value) (E : Int) (made : Bool) : Prop := w.heap[rb]? = some (.cells #[v, .int .i64 E, .bool made] 100 (0, 0))

theorem Rd.c0 {w : World} {rb : Nat} {v : Value} {E : Int} {made : Bool} (h : Rd w rb v E made) : w.cell? ⟨rb, 0, none⟩ = some v := by
  simp [World.cell?, show w.heap[rb]? = _ from h]
theorem Rd.c1 {w : World} {rb : Nat} {v : Value} {E : Int} {made : Bool} (h : Rd w rb v E made) : w.cell? ⟨rb, 1, none⟩ = some (.int .i64 E) := by
  simp [World.cell?, show w.heap[rb]? = _ from h]
theorem Rd.c2 {w : World} {rb : Nat} {v : Value} {E : Int} {made : Bool} (h : Rd w rb v E made) : w.cell? ⟨rb, 2, none⟩ = some (.bool made) := by
  simp [World.cell?, show w.heap[rb]? = _ from h]
theorem Rd.fz {w : World} {rb : Nat} {v : Value} {E : Int} {made : Bool} (h : Rd w rb v E made) (j : Nat) : w.frozen? ⟨rb, j, none⟩ = false := by
  simp [World.frozen?, show w.heap[rb]? = _ from h]
theorem Rd.lt {w : World} {rb : Nat} {v : Value} {E : Int} {made : Bool} (h : Rd w rb v E made) : rb < w.heap.size := (Array.getElem?_eq_some_iff.1 h).1
theorem Rd.set0 {w : World} {rb : Nat} {v : Value} {E : Int} {made : Bool} (h : Rd w rb v E made) (u : Value) : Rd (w.setCell ⟨rb, 0, none⟩ u) rb u E made := by
  have := heap_setCell_same w rb 0 _ 100 u h
  simpa [Rd] using this
theorem Rd.set1 {w : World} {rb : Nat} {v : Value} {E : Int} {made : Bool} (h : Rd w rb v E made) (F : Int) : Rd (w.setCell ⟨rb, 1, none⟩ (.int .i64 F)) rb v F made := by
  have := heap_setCell_same w rb 1 _ 100 (.int .i64 F) h
  simpa [Rd] using this

theorem makes (fn : Fn) (first cap : Array Value) (w : World) : (Instr.makeFunc fn first cap).run Try.prog w = .ok (.func fn first cap) w := rfl

theorem assert_errno (E : Int) (w : World) : (Instr.typeAssert (.iface 34 (.int .i64 E)) 20 34 true).run Try.prog w = .ok (.tuple #[.int .i64 E, .bool true]) w := by kernel_rfl

end Go.Proofs.Ytfchclpglcogoaa

/- What goes on inside a reader's calls: the next number, the next bytes, and giving up. -/
namespace Go.Proofs.Ytfchclpglcogoaa
open Go.RowKit

/-- Something is taken off: what is left is told by an address and a capacity. -/
def Cutoff (w w' : World) (rb n : Nat) (xs : List Int) (k : Nat) : Prop :=
  ∃ b o c, w' = w.setCell ⟨rb, 0, none⟩ (.slice (some ⟨b, o, none⟩) (n - k) c) ∧ n - k ≤ c ∧ BI w (some ⟨b, o, none⟩) (n - k) (xs.drop k)

theorem cutoff_mk {w : World} {rb b o n c k : Nat} {xs : List Int} (hb : BI w (some ⟨b, o, none⟩) n xs) (hnc : n ≤ c) (hk : k ≤ n) :
    Cutoff w (w.setCell ⟨rb, 0, none⟩ (.slice (if c = k then some ⟨b, o, none⟩ else some ⟨b, o + k, none⟩) (n - k) (c - k))) rb n xs k := by
  have hc := hb.cut k c hk hnc
  by_cases e : c = k
  · rw [if_pos e] at hc ⊢
    exact ⟨b, o, _, rfl, by omega, hc⟩
  · rw [if_neg e] at hc ⊢
    exact ⟨b, o + k, _, rfl, by omega, hc⟩

end Go.Proofs.Ytfchclpglcogoaa

/- A reader's three calls, whole: what they answer, and what the reader is behind them. -/
namespace Go.Proofs.Ytfchclpglcogoaa
open Go.RowKit

theorem bi_same {w w' : World} {p : Option Addr} {n : Nat} {xs : List Int} (h : BI w p n xs) (hs : ∀ b o, p = some ⟨b, o, none⟩ → 0 < n → w'.heap[b]? = w.heap[b]?) : BI w' p n xs := by
  refine ⟨h.len, h.big, h.byt, fun hn => ?_⟩
  obtain ⟨b, o, rfl, hc⟩ := h.cells hn
  refine ⟨b, o, rfl, fun i hi => ?_⟩
  rw [World.cell?_of_block (w := w) (a := ⟨b, o + i, none⟩) (hs b o rfl hn)]
  exact hc i hi

/-- A block without a byte in it is none of those that hold the bytes. -/
theorem bi_ne {w : World} {b o n : Nat} {xs : List Int} (h : BI w (some ⟨b, o, none⟩) n xs) (hn : 0 < n) {g : Nat} {cs : Array Value} {t : TypeId} {mk : Nat × Nat} (hg : w.heap[g]? = some (.cells cs t mk)) (hno : ∀ (x : Int) (j : Nat), cs[j]? ≠ some (Value.int .u8 x)) : b ≠ g := by
  obtain ⟨b', o', e, hc⟩ := h.cells hn
  cases e
  rintro rfl
  have := hc 0 hn
  rw [cell_of_row w b (o + 0) cs t mk hg] at this
  exact hno _ _ this

/-- The reader at rb has so much left, an error, and was made by a call. -/
def Rest (w : World) (rb : Nat) (n : Nat) (xs : List Int) (E : Int) : Prop :=
  ∃ b o c, Rd w rb (.slice (some ⟨b, o, none⟩) n c) E true ∧ n ≤ c ∧ BI w (some ⟨b, o, none⟩) n xs

theorem rd_no (v : Value) (E : Int) (m : Bool) (hv : ∀ x, v ≠ Value.int .u8 x) : ∀ (x : Int) (j : Nat), (#[v, .int .i64 E, .bool m] : Array Value)[j]? ≠ some (Value.int .u8 x) := by
  intro x j
  rcases j with _ | _ | _ | j
  · simp; exact hv x
  · simp
  · simp
  · simp

theorem one_no (v : Value) (hv : ∀ x, v ≠ Value.int .u8 x) : ∀ (x : Int) (j : Nat), (#[v] : Array Value)[j]? ≠ some (Value.int .u8 x) := by
  intro x j
  rcases j with _ | j
  · simp; exact hv x
  · simp

/-- Behind a call that took k bytes and laid its answer into block B2 of its own. -/
theorem fin_yes {w W w1 : World} {rb B2 n k : Nat} {xs : List Int} {u v : Value} {t : TypeId} {p : Option Addr} {m c : Nat} (hb : Below w.heap.size w W) (hr : Rd W rb (.slice p m c) 0 true) (hB : w.heap.size ≤ B2) (h2 : W.heap[B2]? = some (.cells #[u] t (0, 0))) (hu : ∀ x, u ≠ Value.int .u8 x) (hlt : rb < w.heap.size)
    (hc : Cutoff W w1 rb n xs k) : (w1.setCell ⟨B2, 0, none⟩ v).cell? ⟨B2, 0, none⟩ = some v ∧ w.grownBy (w1.setCell ⟨B2, 0, none⟩ v) (some rb) ∧ Rest (w1.setCell ⟨B2, 0, none⟩ v) rb (n - k) (xs.drop k) 0 := by
  obtain ⟨b, o, c', rfl, hnc, hbi⟩ := hc
  have hne : rb ≠ B2 := by omega
  have e2 : (W.setCell ⟨rb, 0, none⟩ (.slice (some ⟨b, o, none⟩) (n - k) c')).heap[B2]? = some (.cells #[u] t (0, 0)) := by
    rw [Below.heap_setCell _ _ _ _ (by simp; omega)]; exact h2
  have e3 := heap_setCell_same _ B2 0 _ t v e2
  have er : Rd ((W.setCell ⟨rb, 0, none⟩ (.slice (some ⟨b, o, none⟩) (n - k) c')).setCell ⟨B2, 0, none⟩ v) rb (.slice (some ⟨b, o, none⟩) (n - k) c') 0 true := by
    unfold Rd
    rw [Below.heap_setCell _ _ _ _ (by simpa using hne)]
    exact hr.set0 _
  refine ⟨?_, ⟨?_, ?_, ?_, ?_, ?_⟩, ⟨b, o, c', er, hnc, ?_⟩⟩
  · rw [cell_of_row _ B2 0 _ t (0, 0) e3]; simp
  · exact hb.os
  · exact hb.tape
  · exact hb.output
  · have := hb.size; simpa using this
  · intro j hj hn
    rw [Below.heap_setCell _ _ _ _ (by simp; omega), Below.heap_setCell _ _ _ _ (by simp; intro e; exact hn (by rw [e]))]
    exact hb.block j hj
  · refine bi_same hbi fun b' o' e hn => ?_
    cases e
    have n1 := bi_ne hbi hn hr (rd_no _ _ _ (by intro x; simp))
    have n2 := bi_ne hbi hn h2 (one_no _ hu)
    rw [Below.heap_setCell _ _ _ _ (by simpa using n2), Below.heap_setCell _ _ _ _ (by simpa using n1)]

theorem at_old {w : World} {k : Nat} {o u : Obj} (h : w.heap[k]? = some u) : (w.alloc o).heap[k]? = some u := by
  rw [Below.heap_alloc _ _ _ (Array.getElem?_eq_some_iff.1 h).1]; exact h

theorem at_new {w : World} {k : Nat} {o : Obj} (h : k = w.heap.size) : (w.alloc o).heap[k]? = some o := by
  subst h; exact heap_alloc_new w o

theorem cell_one {w : World} {g : Nat} {v : Value} {t : TypeId} (h : w.heap[g]? = some (.cells #[v] t (0, 0))) : w.cell? ⟨g, 0, none⟩ = some v := by
  rw [cell_of_row w g 0 _ t _ h]; simp

theorem fz_one {w : World} {g : Nat} {v : Value} {t : TypeId} (h : w.heap[g]? = some (.cells #[v] t (0, 0))) : w.frozen? ⟨g, 0, none⟩ = false := frozen_of_row w g 0 _ t h

/-- Three new blocks, and a fourth: what each holds. -/
theorem three (w : World) (a b c d : Value) (ta tb tc td : TypeId) :
    (((((w.alloc (.cells #[a] ta)).alloc (.cells #[b] tb)).alloc (.cells #[c] tc)).alloc (.cells #[d] td)).heap[w.heap.size]? = some (.cells #[a] ta (0, 0))) ∧
    (((((w.alloc (.cells #[a] ta)).alloc (.cells #[b] tb)).alloc (.cells #[c] tc)).alloc (.cells #[d] td)).heap[w.heap.size + 1]? = some (.cells #[b] tb (0, 0))) ∧
    (((((w.alloc (.cells #[a] ta)).alloc (.cells #[b] tb)).alloc (.cells #[c] tc)).alloc (.cells #[d] td)).heap[w.heap.size + 1 + 1]? = some (.cells #[c] tc (0, 0))) ∧
    Below w.heap.size w ((((w.alloc (.cells #[a] ta)).alloc (.cells #[b] tb)).alloc (.cells #[c] tc)).alloc (.cells #[d] td)) ∧
    Below w.heap.size w (((w.alloc (.cells #[a] ta)).alloc (.cells #[b] tb)).alloc (.cells #[c] tc)) := by
  refine ⟨at_old (at_old (at_old (at_new rfl))), at_old (at_old (at_new (by simp))), at_old (at_new (by simp)), ?_, ?_⟩
  · exact ((((Below.refl _ _).alloc (Nat.le_refl _) _).alloc (by simp) _).alloc (by simp; omega) _).alloc (by simp; omega) _
  · exact (((Below.refl _ _).alloc (Nat.le_refl _) _).alloc (by simp) _).alloc (by simp; omega) _

theorem rd_kept {w w' : World} {rb : Nat} {v : Value} {E : Int} {m : Bool} (h : Rd w rb v E m) (hb : Below w.heap.size w w') : Rd w' rb v E m := by
  unfold Rd
  rw [hb.block rb h.lt]
  exact h

/-- Behind a call that gave up with an error. -/
theorem fin_bad {w W : World} {rb n : Nat} {xs : List Int} {E : Int} {p : Option Addr} {c : Nat} (hb : Below w.heap.size w W) (hr : Rd W rb (.slice p n c) 0 true) (hbi : BI W p n xs) :
    w.grownBy (W.setCell ⟨rb, 1, none⟩ (.int .i64 E)) (some rb) ∧ Rd (W.setCell ⟨rb, 1, none⟩ (.int .i64 E)) rb (.slice p n c) E true ∧ BI (W.setCell ⟨rb, 1, none⟩ (.int .i64 E)) p n xs := by
  refine ⟨⟨hb.os, hb.tape, hb.output, by have := hb.size; simpa using this, fun j hj hn => ?_⟩, hr.set1 E, bi_same hbi fun b' o' e hn => ?_⟩
  · rw [Below.heap_setCell _ _ _ _ (by simp; intro e; exact hn (by rw [e]))]
    exact hb.block j hj
  · subst e
    have n1 := bi_ne hbi hn hr (rd_no _ _ _ (by intro x; simp))
    rw [Below.heap_setCell _ _ _ _ (by simpa using n1)]

end Go.Proofs.Ytfchclpglcogoaa

/- A reader's Text and Skip, whole, and a reader that does not begin. -/
namespace Go.Proofs.Ytfchclpglcogoaa
open Go.RowKit

theorem two (w : World) (a b d : Value) (ta tb td : TypeId) :
    ((((w.alloc (.cells #[a] ta)).alloc (.cells #[b] tb)).alloc (.cells #[d] td)).heap[w.heap.size]? = some (.cells #[a] ta (0, 0))) ∧
    ((((w.alloc (.cells #[a] ta)).alloc (.cells #[b] tb)).alloc (.cells #[d] td)).heap[w.heap.size + 1]? = some (.cells #[b] tb (0, 0))) ∧
    Below w.heap.size w (((w.alloc (.cells #[a] ta)).alloc (.cells #[b] tb)).alloc (.cells #[d] td)) ∧
    Below w.heap.size w ((w.alloc (.cells #[a] ta)).alloc (.cells #[b] tb)) := by
  refine ⟨at_old (at_old (at_new rfl)), at_old (at_new (by simp)), ?_, ?_⟩
  · exact (((Below.refl _ _).alloc (Nat.le_refl _) _).alloc (by simp) _).alloc (by simp; omega) _
  · exact ((Below.refl _ _).alloc (Nat.le_refl _) _).alloc (by simp) _

end Go.Proofs.Ytfchclpglcogoaa

/- WordNobody: a reader that no call made reads nothing, whatever number it is asked for. -/
namespace Go.Proofs.Ytfchclpglcogoaa
open Go.RowKit

/-- The two readers that no call made. -/
def Pair (w wr : World) : Prop :=
  Rd wr w.heap.size (.slice none 0 0) 0 false ∧ wr.heap[w.heap.size + 1]? = some (.cells #[.pointer none, .pointer (some ⟨w.heap.size, 0, none⟩)] 85 (0, 0)) ∧ Below w.heap.size w wr

theorem Pair.c0 {w wr : World} (h : Pair w wr) : wr.cell? ⟨w.heap.size + 1, 0, none⟩ = some (.pointer none) := by
  rw [cell_of_row wr _ 0 _ _ _ h.2.1]; rfl
theorem Pair.c1 {w wr : World} (h : Pair w wr) : wr.cell? ⟨w.heap.size + 1, 1, none⟩ = some (.pointer (some ⟨w.heap.size, 0, none⟩)) := by
  rw [cell_of_row wr _ 1 _ _ _ h.2.1]; rfl

end Go.Proofs.Ytfchclpglcogoaa

namespace Go.Proofs.Ytfchclpglcogoaa
open Go.RowKit

theorem cut_bi {w w1 : World} {rb n k : Nat} {xs : List Int} {b o m c : Nat} {E : Int} {md : Bool} (hc : Cutoff w w1 rb n xs k) (hr : Rd w rb (.slice (some ⟨b, o, none⟩) n c) E md) (hb : BI w (some ⟨b, o, none⟩) m (xs.take m)) : BI w1 (some ⟨b, o, none⟩) m (xs.take m) := by
  obtain ⟨b', o', c', rfl, _⟩ := hc
  refine bi_same hb fun b2 o2 e hn => ?_
  cases e
  have n1 := bi_ne hb hn hr (rd_no _ _ _ (by intro x; simp))
  rw [Below.heap_setCell _ _ _ _ (by simpa using n1)]

namespace Num
def tE (n : Nat) (k : Int) : Int := if k < 0 then 1 else if (n : Int) < k then 10 else 0
end Num

end Go.Proofs.Ytfchclpglcogoaa
