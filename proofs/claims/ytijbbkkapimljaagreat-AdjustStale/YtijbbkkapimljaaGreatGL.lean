/- The document's superblock (gathered from the texts of layout). -/
import Derived.Test.YtijbbkkapimljaaGreatProg
import Derived.Deep.RegionHeld3
import Derived.Laws.CopyOwn
import Derived.Lib.Bytes
import Derived.Laws.ResultCell
import Derived.WalkKit
import Derived.Lib.BufferWrite
import Derived.Lib.SlBuf
import Derived.Defers
import Derived.Recover
import Derived.WalkSpells
import Derived.WalkLawsBesides
import Derived.BigQuiet
import Derived.Deep.QuietTactic
import Derived.Lib.AppendZerosOnto
import Derived.Deep.MidRow
namespace Go.Proofs.YtijbbkkapimljaaGreat.Mk
open Go.RowKit
set_option maxRecDepth 100000
set_option linter.unusedVariables false

namespace Num
def numD (xs : List Int) : Nat → Nat → Int
  | _, 0 => 0
  | a, k + 1 => xs.getD a 0 + 256 * numD xs (a + 1) k

def Byt (xs : List Int) : Prop := ∀ i, 0 ≤ xs.getD i 0 ∧ xs.getD i 0 < 256

theorem numD_bd {xs : List Int} (h : Byt xs) (k : Nat) : ∀ a, 0 ≤ numD xs a k ∧ numD xs a k < 256 ^ k := by
  induction k with
  | zero => intro a; simp [numD]
  | succ k ih =>
    intro a
    have h1 : numD xs a (k + 1) = xs.getD a 0 + 256 * numD xs (a + 1) k := rfl
    have h2 := ih (a + 1)
    have h3 := h a
    rw [h1, Int.pow_succ]
    generalize (256 : Int) ^ k = p at *
    omega

def putTo (xs : List Int) (a : Nat) (v : Int) : Nat → List Int
  | 0 => xs
  | k + 1 => (putTo xs a v k).set (a + k) (v / 256 ^ k % 256)

theorem putTo_length (xs : List Int) (a : Nat) (v : Int) (k : Nat) : (putTo xs a v k).length = xs.length := by
  induction k with
  | zero => rfl
  | succ k ih => simp [putTo, ih]

theorem getD_set (xs : List Int) (j i : Nat) (y : Int) : (xs.set j y).getD i 0 = if i = j ∧ j < xs.length then y else xs.getD i 0 := by
  simp only [List.getD_eq_getElem?_getD, List.getElem?_set]
  by_cases h : j = i
  · subst h
    by_cases hl : j < xs.length
    · simp [hl]
    · simp [hl]
  · have h' : ¬ i = j := fun e => h e.symm
    simp [h, h']

theorem putTo_byt {xs : List Int} (h : Byt xs) (a : Nat) (v : Int) (k : Nat) : Byt (putTo xs a v k) := by
  induction k with
  | zero => exact h
  | succ k ih =>
    intro i
    show 0 ≤ ((putTo xs a v k).set (a + k) (v / 256 ^ k % 256)).getD i 0 ∧ ((putTo xs a v k).set (a + k) (v / 256 ^ k % 256)).getD i 0 < 256
    rw [getD_set]
    split
    · omega
    · exact ih i

theorem byt_of_wf {xs : List Int} (h : ∀ n ∈ xs, (Lit.int .u8 n).wf = true) : Byt xs := by
  intro i
  rw [List.getD_eq_getElem?_getD]
  by_cases hi : i < xs.length
  · rw [List.getElem?_eq_getElem hi]
    have := h _ (List.getElem_mem hi)
    simp [Lit.wf, IntKind.min, IntKind.max, IntKind.signed, IntKind.bits] at this
    simp only [Option.getD_some]
    omega
  · rw [List.getElem?_eq_none (by omega)]; simp

end Num
set_option maxHeartbeats 400000 in
theorem rget_arg (p : Option Addr) (n c : Nat) (at_ wd : Int) (w : World) (h : wd < 1 ∨ 4 < wd ∨ at_ < 0) :
    Calls Tryz.prog 109 #[.slice p n c, .int .i64 at_, .int .i64 wd] w fun e w' => e = .returned (.tuple #[.int .i64 0, .int .i64 1]) ∧ w' = w := by
  by_cases h1 : wd < 1
  · go_enter Tryz.func109, Tryz.ntmps109
    go_wp2
    go_ret2
    exact ⟨rfl, rfl⟩
  · by_cases h2 : 4 < wd
    · go_enter Tryz.func109, Tryz.ntmps109
      go_wp2
      go_ret2
      exact ⟨rfl, rfl⟩
    · have h3 : at_ < 0 := by omega
      go_enter Tryz.func109, Tryz.ntmps109
      go_wp2
      go_ret2
      exact ⟨rfl, rfl⟩

set_option maxHeartbeats 400000 in
theorem rget_past (p : Option Addr) (n c : Nat) (at_ wd : Int) (w : World) (h1 : 1 ≤ wd) (h2 : wd ≤ 4) (h3 : 0 ≤ at_) (hn : n ≤ 140737488355328) (h4 : (n : Int) - wd < at_) :
    Calls Tryz.prog 109 #[.slice p n c, .int .i64 at_, .int .i64 wd] w fun e w' => e = .returned (.tuple #[.int .i64 0, .int .i64 10]) ∧ w' = w := by
  go_enter Tryz.func109, Tryz.ntmps109
  go_wp2
  go_ret2
  exact ⟨rfl, rfl⟩

theorem numD_step (xs : List Int) (a k j : Nat) (hj : 0 < j) (hk : j ≤ k) : Num.numD xs (a + (j - 1)) (k - (j - 1)) = Num.numD xs (a + j) (k - j) * 256 + xs.getD (a + (j - 1)) 0 := by
  have e : k - (j - 1) = (k - j) + 1 := by omega
  have e2 : a + j = a + (j - 1) + 1 := by omega
  rw [e, e2]
  show xs.getD (a + (j - 1)) 0 + 256 * Num.numD xs (a + (j - 1) + 1) (k - j) = _
  omega

theorem pow_le (m : Nat) (h : m ≤ 4) : (256 : Int) ^ m ≤ 4294967296 := by
  rcases (by omega : m = 0 ∨ m = 1 ∨ m = 2 ∨ m = 3 ∨ m = 4) with rfl | rfl | rfl | rfl | rfl <;> decide

set_option maxHeartbeats 400000 in
theorem rget_ok (b o n c : Nat) (xs : List Int) (a k : Nat) (w : World) (h1 : 1 ≤ k) (h2 : k ≤ 4) (hn : n ≤ 140737488355328) (h4 : a + k ≤ n) (hx : Num.Byt xs)
    (hc : ∀ i, i < n → w.cell? ⟨b, o + i, none⟩ = some (.int .u8 (xs.getD i 0))) :
    Calls Tryz.prog 109 #[.slice (some ⟨b, o, none⟩) n c, .int .i64 a, .int .i64 k] w fun e w' => e = .returned (.tuple #[.int .i64 (Num.numD xs a k), .int .i64 0]) ∧ w' = w := by
  go_enter Tryz.func109, Tryz.ntmps109
  go_wp2
  go_loop [8, 9] (fun t i => ∃ j : Nat, j ≤ k ∧ i = .int .i64 ((j : Int) - 1) ∧ t = .int .i64 (Num.numD xs (a + j) (k - j))) (fun _ i => (intOf i + 1).toNat)
  case atStart => exact ⟨k, Nat.le_refl _, rfl, by simp [Num.numD]⟩
  case round =>
    obtain ⟨j, hj, rfl, rfl⟩ := hrel
    by_cases hlt : 0 < j
    · have hcj := hc (a + (j - 1)) (by omega)
      obtain ⟨x, hxe⟩ : ∃ x, x = xs.getD (a + (j - 1)) 0 := ⟨_, rfl⟩
      rw [← hxe] at hcj
      have hxb := hx (a + (j - 1))
      rw [← hxe] at hxb
      have HX : Hid (x = xs.getD (a + (j - 1)) 0) := hxe
      clear hxe
      have hnb := Num.numD_bd hx (k - j) (a + j)
      have hpl := pow_le (k - j) (by omega)
      have hnb1 : Num.numD xs (a + j) (k - j) < 4294967296 := by omega
      have hnb0 := hnb.1
      clear hnb hpl
      have HN := numD_step xs a k j hlt hj
      rw [← HX.out] at HN
      have HN' : Hid (Num.numD xs (a + (j - 1)) (k - (j - 1)) = Num.numD xs (a + j) (k - j) * 256 + x) := HN
      clear HN
      go_wp2
      go_round
      case rel => exact ⟨j - 1, by omega, by go_num, by rw [HN'.out]⟩
      case measure => simp [intOf]; omega
    · obtain rfl : j = 0 := by omega
      go_wp2
      go_ret2
      exact ⟨rfl, rfl⟩

/-- The slice at p, of n bytes, holds xs. -/
structure BI (w : World) (p : Option Addr) (n : Nat) (xs : List Int) : Prop where
  len : xs.length = n
  big : n ≤ 140737488355328
  byt : Num.Byt xs
  cells : 0 < n → ∃ b o, p = some ⟨b, o, none⟩ ∧ ∀ i, i < n → w.cell? ⟨b, o + i, none⟩ = some (.int .u8 (xs.getD i 0))

theorem lt_of_cell {w : World} {b o : Nat} {v : Value} (h : w.cell? ⟨b, o, none⟩ = some v) : b < w.heap.size := by
  by_cases hb : b < w.heap.size
  · exact hb
  · have : w.heap[b]? = none := Array.getElem?_eq_none (by omega)
    simp [World.cell?, this] at h

theorem BI.kept {w w' : World} {p : Option Addr} {n : Nat} {xs : List Int} (h : BI w p n xs) (hb : Below w.heap.size w w') : BI w' p n xs := by
  refine ⟨h.len, h.big, h.byt, fun hn => ?_⟩
  obtain ⟨b, o, rfl, hc⟩ := h.cells hn
  refine ⟨b, o, rfl, fun i hi => ?_⟩
  have hlt := lt_of_cell (hc i hi)
  rw [hb.cell (p := ⟨b, o + i, none⟩) hlt]
  exact hc i hi

/-- Block g, from B on, is the call's own row of capacity cap whose first n bytes are xs. -/
def Own (B : Nat) (w : World) (g n cap : Nat) (xs : List Int) : Prop :=
  w.ownsRow B 5 1 (.slice (some ⟨g, 0, none⟩) n cap) n (xs.map (Value.int .u8))

theorem Own.len {B : Nat} {w : World} {g n cap : Nat} {xs : List Int} (h : Own B w g n cap xs) : xs.length = n := by
  have := h.1
  simpa using this

theorem Own.spot {B : Nat} {w : World} {g n cap : Nat} {xs : List Int} (h : Own B w g n cap xs) : B ≤ g ∧ g < w.heap.size := World.ownsRow.lt h g rfl

theorem Own.cell {B : Nat} {w : World} {g n cap : Nat} {xs : List Int} (h : Own B w g n cap xs) (j : Nat) (hj : j < n) : w.cell? ⟨g, j, none⟩ = some (.int .u8 (xs.getD j 0)) := by
  have h1 := World.ownsRow.cellAt h j (by omega)
  rw [h1, List.getElem?_map, List.getD_eq_getElem?_getD, List.getElem?_eq_getElem (show j < xs.length by rw [h.len]; exact hj)]
  rfl

theorem Own.bi {B : Nat} {w : World} {g n cap : Nat} {xs : List Int} (h : Own B w g n cap xs) (hb : n ≤ 140737488355328) (hx : Num.Byt xs) : BI w (some ⟨g, 0, none⟩) n xs :=
  ⟨h.len, hb, hx, fun _ => ⟨g, 0, rfl, fun i hi => by rw [Nat.zero_add]; exact h.cell i hi⟩⟩

theorem Own.kept {B : Nat} {w w' : World} {g n cap : Nat} {xs : List Int} (h : Own B w g n cap xs) (hb : Below w.heap.size w w') : Own B w' g n cap xs := by
  refine ⟨h.1, ?_⟩
  rcases h.2 with ⟨h', _⟩ | ⟨g', cap', cur, h', hbg, hg, rest⟩
  · simp at h'
  · have hlt : g' < w.heap.size := (Array.getElem?_eq_some_iff.1 hg).1
    exact .inr ⟨g', cap', cur, h', hbg, by rw [hb.block g' hlt]; exact hg, rest⟩

theorem Own.base {B B' : Nat} {w : World} {g n cap : Nat} {xs : List Int} (h : Own B w g n cap xs) (hB : B' ≤ B) : Own B' w g n cap xs := by
  refine ⟨h.1, ?_⟩
  rcases h.2 with ⟨h', _⟩ | ⟨g', cap', cur, h', hbg, rest⟩
  · simp at h'
  · exact .inr ⟨g', cap', cur, h', by omega, rest⟩

theorem set_map (xs : List Int) (j : Nat) (y : Int) : (xs.map (Value.int .u8)).set j (.int .u8 y) = (xs.set j y).map (Value.int .u8) := by
  rw [List.map_set]

theorem Own.set {B : Nat} {w : World} {g n cap : Nat} {xs : List Int} (h : Own B w g n cap xs) (j : Nat) (y : Int) : Own B (w.setCell ⟨g, j, none⟩ (.int .u8 y)) g n cap (xs.set j y) := by
  have := (World.ownsRow.stored h j (.int .u8 y)).1
  rw [set_map] at this
  exact this

theorem info5 : (Tryz.prog.info? 5).map (fun i => (i.zero, i.size, i.bytes)) = some (some (.int .u8 0), 1, 1) := by kernel_rfl

theorem one_cells (xs : List Int) : ∀ u ∈ xs.map (Value.int .u8), u.oneCell' = true := by
  intro u hu; obtain ⟨x, _, rfl⟩ := List.mem_map.1 hu; rfl

theorem BI.src {w : World} {p : Option Addr} {n : Nat} {xs : List Int} (h : BI w p n xs) : 0 < n → ∃ ad, p = some ad ∧ ∀ j v, (xs.map (Value.int .u8))[j]? = some v → w.cell? (ad.add j) = some v := by
  intro hn
  obtain ⟨b, o, rfl, hc⟩ := h.cells hn
  refine ⟨_, rfl, fun j v hj => ?_⟩
  have hjl : j < xs.length := by
    have := (List.getElem?_eq_some_iff.1 hj).1
    simpa using this
  have e : (⟨b, o, none⟩ : Addr).add j = ⟨b, o + j, none⟩ := by unfold Addr.add; split <;> simp_all
  rw [e, hc j (by rw [← h.len]; exact hjl), ← hj, List.getElem?_map, List.getD_eq_getElem?_getD, List.getElem?_eq_getElem hjl]
  rfl

theorem BI.src' {w : World} {a : Addr} {n : Nat} {xs : List Int} (h : BI w (some a) n xs) : ∀ j v, (xs.map (Value.int .u8))[j]? = some v → w.cell? (a.add j) = some v := by
  intro j v hj
  have hjl : j < xs.length := by
    have := (List.getElem?_eq_some_iff.1 hj).1
    simpa using this
  obtain ⟨ad, e, hc⟩ := h.src (by rw [← h.len]; omega)
  cases e
  exact hc j v hj

theorem BI.conv {w : World} {p : Option Addr} {n : Nat} {xs : List Int} (h : BI w p n xs) (c : Nat) : (convert 75 9 (.slice p n c)).run Tryz.prog w = .ok (.string (strOfNums xs)) w := by
  rcases Nat.eq_zero_or_pos n with hn | hn
  · subst hn
    obtain rfl : xs = [] := List.eq_nil_of_length_eq_zero h.len
    cases p with
    | none => exact run_convert_bytes_nil (P := Tryz.prog) w 75 5 Tryz.underlying75 Tryz.underlying5 0 c 9 Tryz.underlying9
    | some a =>
      rw [run_convert_bytes_string w 75 9 5 _ _ _ Tryz.underlying75 Tryz.underlying5 Tryz.underlying9]
      exact run_bytesToString w a 0 c [] (by simp [loadCells, loadCellsFrom])
  · obtain ⟨b, o, rfl, hc⟩ := h.cells hn
    exact run_convert_bytes_arg (P := Tryz.prog) w 75 5 Tryz.underlying75 Tryz.underlying5 b o n c xs h.len hc 9 Tryz.underlying9

theorem byt_mem {xs : List Int} (h : Num.Byt xs) : ∀ x ∈ xs, 0 ≤ x ∧ x < 256 := by
  intro x hx
  obtain ⟨i, hi, rfl⟩ := List.getElem_of_mem hx
  have := h i
  rw [List.getD_eq_getElem?_getD, List.getElem?_eq_getElem hi] at this
  exact this

theorem back_bytes {xs : List Int} (h : Num.Byt xs) : (Lib.bytesOf xs).map (fun b => (b.toNat : Int)) = xs := by
  unfold Lib.bytesOf
  rw [List.map_map]
  conv => rhs; rw [← List.map_id xs]
  apply List.map_congr_left
  intro x hx
  have := byt_mem h x hx
  simp
  omega

theorem str_beq {xs ys : List Int} (hx : Num.Byt xs) (hy : Num.Byt ys) : ((strOfNums xs).toList == (strOfNums ys).toList) = (xs == ys) := by
  rw [Lib.strOfNums_toList, Lib.strOfNums_toList]
  rw [Bool.eq_iff_iff, beq_iff_eq, beq_iff_eq]
  constructor
  · intro h
    rw [← back_bytes hx, ← back_bytes hy, h]
  · rintro rfl; rfl

theorem ret_bool {a b : Bool} (h : a = b) : Ending.returned (.bool a) = .returned (.bool b) := by rw [h]

theorem own_shape {w : World} {B n : Nat} {v : Value} {xs : List Int} (h : w.ownsRow B 5 1 v n (xs.map (Value.int .u8))) (hv : v ≠ .slice none 0 0) : ∃ g cap, v = .slice (some ⟨g, 0, none⟩) n cap ∧ Own B w g n cap xs := by
  rcases h.2 with ⟨h', _⟩ | ⟨g', cap', cur, h', r⟩
  · exact absurd h' hv
  · exact ⟨g', cap', h', by subst h'; exact h⟩

theorem wrap_pow (k : Nat) (h : k ≤ 4) : wrap64 (2 ^ (8 * k)) = 256 ^ k := by
  unfold wrap64
  rcases (by omega : k = 0 ∨ k = 1 ∨ k = 2 ∨ k = 3 ∨ k = 4) with rfl | rfl | rfl | rfl | rfl <;> rfl

theorem quo_pow (v : Int) (j : Nat) : v / 256 ^ j / 256 = v / 256 ^ (j + 1) := by
  rw [Int.pow_succ, Int.ediv_ediv_of_nonneg (Int.le_of_lt (Int.pow_pos (by decide)))]

set_option maxRecDepth 10000 in
set_option maxHeartbeats 400000 in
theorem rput_ok (a0 : Addr) (n c : Nat) (xs : List Int) (a k : Nat) (v : Int) (w : World) (h : BI w (some a0) n xs) (h1 : 1 ≤ k) (h2 : k ≤ 4) (hv0 : 0 ≤ v) (hv1 : v < 256 ^ k) (h4 : a + k ≤ n) :
    Calls Tryz.prog 168 #[.slice (some a0) n c, .int .i64 a, .int .i64 k, .int .i64 v] w fun e w' => ∃ g cap, e = .returned (.tuple #[.slice (some ⟨g, 0, none⟩) n cap, .int .i64 0]) ∧ Own w.heap.size w' g n cap (Num.putTo xs a v k) ∧ Below w.heap.size w w' := by
  obtain ⟨i0, hi, hz0, hz1, hz2⟩ := info_parts info5
  have hbig := h.big
  have hlen := h.len
  have hvb : v < 4294967296 := by have := pow_le k h2; omega
  rw [← wrap_pow k (by omega)] at hv1
  have hb0 := (Below.refl w.heap.size w).alloc (Nat.le_refl _) (Obj.cells #[] 5)
  go_enter Tryz.func168, Tryz.ntmps168
  go_wp2_with (at_builtin; refine wpList_append_own _ rfl _ _ 75 rfl w.heap.size 5 i0 (.int .u8 0) 1 1 Tryz.underlying75 hi hz0 hz1 hz2 rfl (by decide) _ _ _ rfl (World.ownsRow_made w #[] 0 (Nat.le_refl _) (Nat.zero_le _) rfl) a0 n c (xs.map (Value.int .u8)) rfl ?c1 ?c2 ?c3 ?c4 ?c5 ?c6 ?_)
  case c1 => simp [hlen]
  case c2 => exact (h.kept hb0).src'
  case c3 => exact one_cells xs
  case c4 => unfold maxLen; omega
  case c5 => omega
  case c6 => simp
  intro v' w1 hown hgrow hnil
  obtain ⟨g, cap, hv, ho⟩ := own_shape hown (by first | exact hnil | (intro e; exact absurd (hnil.1 e).1 (by simp)))
  rw [hv]
  clear hown hnil hv hv1
  have hb1 := hb0.grown hgrow (by simp) (by intro k hk; simp [Value.ownBlock] at hk; omega)
  clear hgrow hb0
  go_wp2
  go_loopw [3, 43] (fun t i wr => ∃ j : Nat, j ≤ k ∧ i = .int .i64 j ∧ t = .int .i64 (v / 256 ^ j) ∧ Own w.heap.size wr g n cap (Num.putTo xs a v j) ∧ Below w.heap.size w wr) (fun _ i _ => k - (intOf i).toNat)
  case atStart => exact ⟨0, Nat.zero_le _, rfl, by simp, ho, hb1⟩
  case round =>
    obtain ⟨j, hj, rfl, rfl, ho, hb⟩ := hrel
    by_cases hlt : j < k
    · obtain ⟨y, hy⟩ : ∃ y, y = (Num.putTo xs a v j).getD (a + j) 0 := ⟨_, rfl⟩
      have hc1 := ho.cell (a + j) (by omega)
      rw [← hy] at hc1
      clear hy
      have hf1 := World.ownsRow.frozenAt ho (a + j)
      obtain ⟨q, hq⟩ : ∃ q, q = v / 256 ^ j := ⟨_, rfl⟩
      have hq0 : 0 ≤ q := by rw [hq]; exact Int.ediv_nonneg hv0 (Int.le_of_lt (Int.pow_pos (by decide)))
      have hq1 : q < 4294967296 := by
        rw [hq]
        exact Int.lt_of_le_of_lt (Int.ediv_le_self _ hv0) hvb
      have ho2 := ho.set (a + j) (v / 256 ^ j % 256)
      rw [show (Num.putTo xs a v j).set (a + j) (v / 256 ^ j % 256) = Num.putTo xs a v (j + 1) from rfl] at ho2
      have hb2 := hb.setCell (p := ⟨g, a + j, none⟩) ho.spot.1 (.int .u8 (v / 256 ^ j % 256))
      have HQ : Hid (q / 256 = v / 256 ^ (j + 1)) := by rw [hq]; exact quo_pow v j
      rw [← hq] at ho2 hb2 ⊢
      clear hq
      go_wp2
      go_roundw
      case rel => exact ⟨j + 1, by omega, by go_num, by rw [HQ.out], ho2, hb2⟩
      case measure => simp [intOf]; omega
    · obtain rfl : j = k := by omega
      go_wp2
      go_ret2
      exact ⟨g, cap, rfl, ho, hb⟩

theorem Own.room {B : Nat} {w : World} {g n cap : Nat} {xs : List Int} (h : Own B w g n cap xs) : n ≤ cap ∧ cap ≤ 9223372036854775807 := by
  rcases h.2 with ⟨h', _⟩ | ⟨g', cap', cur, h', _, _, h1, h2, _⟩
  · simp at h'
  · simp only [Value.slice.injEq, Option.some.injEq, Addr.mk.injEq, and_true, true_and] at h'
    obtain ⟨rfl, rfl⟩ := h'
    unfold maxLen at h2
    exact ⟨h1, h2⟩

theorem getD_take (xs : List Int) (m i : Nat) (h : i < m) : (xs.take m).getD i 0 = xs.getD i 0 := by
  simp [List.getD_eq_getElem?_getD, h]

theorem byt_take {xs : List Int} (h : Num.Byt xs) (m : Nat) : Num.Byt (xs.take m) := by
  intro i
  by_cases hi : i < m
  · rw [getD_take xs m i hi]; exact h i
  · rw [List.getD_eq_getElem?_getD, List.getElem?_eq_none (by simp; omega)]; simp

theorem BI.take {w : World} {p : Option Addr} {n : Nat} {xs : List Int} (h : BI w p n xs) (m : Nat) (hm : m ≤ n) : BI w p m (xs.take m) := by
  refine ⟨by rw [List.length_take, h.len]; omega, by have := h.big; omega, byt_take h.byt m, fun h0 => ?_⟩
  obtain ⟨b, o, rfl, hc⟩ := h.cells (by omega)
  exact ⟨b, o, rfl, fun i hi => by rw [getD_take xs m i hi]; exact hc i (by omega)⟩

namespace Num
def gE (n : Nat) (at_ wd : Int) : Int := if wd < 1 ∨ 4 < wd ∨ at_ < 0 then 1 else if (n : Int) - wd < at_ then 10 else 0

def gN (n : Nat) (xs : List Int) (at_ wd : Int) : Int := if gE n at_ wd = 0 then numD xs at_.toNat wd.toNat else 0

def pE (n : Nat) (at_ wd v : Int) : Int := if wd < 1 ∨ 4 < wd ∨ at_ < 0 ∨ v < 0 ∨ (256 : Int) ^ wd.toNat ≤ v then 1 else if (n : Int) - wd < at_ then 10 else 0

def lo (xs : List Int) : Nat → Int
  | 0 => 1
  | k + 1 => (lo xs k + xs.getD k 0) % 65521

def hi (xs : List Int) : Nat → Int
  | 0 => 0
  | k + 1 => (hi xs k + lo xs (k + 1)) % 65521

def sum (xs : List Int) (n : Nat) : Int := hi xs n * 65536 + lo xs n

theorem lo_bd (xs : List Int) (k : Nat) : 0 ≤ lo xs k ∧ lo xs k < 65521 := by
  cases k with
  | zero => simp [lo]
  | succ k => simp only [lo]; omega

theorem hi_bd (xs : List Int) (k : Nat) : 0 ≤ hi xs k ∧ hi xs k < 65521 := by
  cases k with
  | zero => simp [hi]
  | succ k => simp only [hi]; omega

theorem sum_bd (xs : List Int) (n : Nat) : 0 ≤ sum xs n ∧ sum xs n < 4294967296 := by
  have h1 := lo_bd xs n
  have h2 := hi_bd xs n
  unfold sum
  omega

end Num
theorem rget_any (p : Option Addr) (n c : Nat) (xs : List Int) (at_ wd : Int) (w : World) (h : BI w p n xs) :
    Calls Tryz.prog 109 #[.slice p n c, .int .i64 at_, .int .i64 wd] w fun e w' => e = .returned (.tuple #[.int .i64 (Num.gN n xs at_ wd), .int .i64 (Num.gE n at_ wd)]) ∧ w' = w := by
  by_cases h1 : wd < 1 ∨ 4 < wd ∨ at_ < 0
  · have e1 : Num.gE n at_ wd = 1 := by unfold Num.gE; rw [if_pos h1]
    have e2 : Num.gN n xs at_ wd = 0 := by unfold Num.gN; rw [e1]; rfl
    rw [e1, e2]
    exact rget_arg p n c at_ wd w h1
  · by_cases h2 : (n : Int) - wd < at_
    · have e1 : Num.gE n at_ wd = 10 := by unfold Num.gE; rw [if_neg h1, if_pos h2]
      have e2 : Num.gN n xs at_ wd = 0 := by unfold Num.gN; rw [e1]; rfl
      rw [e1, e2]
      exact rget_past p n c at_ wd w (by omega) (by omega) (by omega) h.big h2
    · have e1 : Num.gE n at_ wd = 0 := by unfold Num.gE; rw [if_neg h1, if_neg h2]
      have e2 : Num.gN n xs at_ wd = Num.numD xs at_.toNat wd.toNat := by unfold Num.gN; rw [e1]; rfl
      rw [e1, e2]
      obtain ⟨a, rfl⟩ := Int.eq_ofNat_of_zero_le (show 0 ≤ at_ by omega)
      obtain ⟨k, rfl⟩ := Int.eq_ofNat_of_zero_le (show 0 ≤ wd by omega)
      obtain ⟨b, o, rfl, hc⟩ := h.cells (by omega)
      exact rget_ok b o n c xs a k w (by omega) (by omega) h.big (by omega) h.byt hc

theorem pE_zero {n : Nat} {at_ wd v : Int} (h : Num.pE n at_ wd v = 0) : 1 ≤ wd ∧ wd ≤ 4 ∧ 0 ≤ at_ ∧ 0 ≤ v ∧ v < 256 ^ wd.toNat ∧ at_ + wd ≤ n := by
  unfold Num.pE at h
  split at h
  · omega
  · split at h <;> omega

theorem rput_yes (p : Option Addr) (n c : Nat) (xs : List Int) (at_ wd v : Int) (w : World) (h : BI w p n xs) (h0 : Num.pE n at_ wd v = 0) :
    Calls Tryz.prog 168 #[.slice p n c, .int .i64 at_, .int .i64 wd, .int .i64 v] w fun e w' => ∃ g cap, e = .returned (.tuple #[.slice (some ⟨g, 0, none⟩) n cap, .int .i64 0]) ∧ Own w.heap.size w' g n cap (Num.putTo xs at_.toNat v wd.toNat) ∧ Below w.heap.size w w' := by
  obtain ⟨h1, h2, h3, h4, h5, h6⟩ := pE_zero h0
  clear h0
  obtain ⟨a, rfl⟩ := Int.eq_ofNat_of_zero_le h3
  obtain ⟨k, rfl⟩ := Int.eq_ofNat_of_zero_le (show 0 ≤ wd by omega)
  obtain ⟨b, o, rfl, _⟩ := h.cells (by omega)
  exact rput_ok _ n c xs a k v w h (by omega) (by omega) h4 h5 (by omega)

set_option maxHeartbeats 400000 in
theorem rsum_none (p : Option Addr) (c : Nat) (w : World) :
    Calls Tryz.prog 110 #[.slice p 0 c] w fun e w' => e = .returned (.int .i64 1) ∧ w' = w := by
  go_enter Tryz.func110, Tryz.ntmps110
  go_wp2
  refine wp_loop_rounds 1 ?_
  rw [rounds_succ]
  go_wp2
  go_ret
  exact ⟨rfl, rfl⟩

set_option maxHeartbeats 400000 in
theorem rsum_some (b o n c : Nat) (xs : List Int) (w : World) (hn : n ≤ 140737488355328) (hx : Num.Byt xs) (hc : ∀ i, i < n → w.cell? ⟨b, o + i, none⟩ = some (.int .u8 (xs.getD i 0))) :
    Calls Tryz.prog 110 #[.slice (some ⟨b, o, none⟩) n c] w fun e w' => e = .returned (.int .i64 (Num.sum xs n)) ∧ w' = w := by
  go_enter Tryz.func110, Tryz.ntmps110
  go_wp2
  go_loop [3, 4, 9] (fun l h i => ∃ j : Nat, j ≤ n ∧ i = .int .i64 j ∧ l = .int .i64 (Num.lo xs j) ∧ h = .int .i64 (Num.hi xs j)) (fun _ _ i => n - (intOf i).toNat)
  case atStart => exact ⟨0, Nat.zero_le _, rfl, rfl, rfl⟩
  case round =>
    obtain ⟨j, hj, rfl, rfl, rfl⟩ := hrel
    have hl := Num.lo_bd xs j
    have hh := Num.hi_bd xs j
    by_cases hlt : j < n
    · have hcj := hc j hlt
      have hxb := hx j
      clear hc
      have HL : Hid (Num.lo xs (j + 1) = (Num.lo xs j + xs.getD j 0) % 65521) := rfl
      have HH : Hid (Num.hi xs (j + 1) = (Num.hi xs j + (Num.lo xs j + xs.getD j 0) % 65521) % 65521) := rfl
      generalize Num.lo xs j = l at *
      generalize Num.hi xs j = h at *
      generalize xs.getD j 0 = x at *
      go_wp2
      go_round
      case rel => exact ⟨j + 1, by omega, by go_num, by rw [HL.out], by rw [HH.out]⟩
      case measure => simp [intOf]; omega
    · obtain rfl : j = n := by omega
      go_wp2
      go_ret
      exact ⟨rfl, rfl⟩

theorem rsum_any (p : Option Addr) (n c : Nat) (xs : List Int) (w : World) (h : BI w p n xs) :
    Calls Tryz.prog 110 #[.slice p n c] w fun e w' => e = .returned (.int .i64 (Num.sum xs n)) ∧ w' = w := by
  rcases Nat.eq_zero_or_pos n with hn | hn
  · subst hn
    exact rsum_none p c w
  · obtain ⟨b, o, rfl, hc⟩ := h.cells hn
    exact rsum_some b o n c xs w h.big h.byt hc

theorem sum_take (xs : List Int) (m : Nat) : ∀ k, k ≤ m → Num.lo (xs.take m) k = Num.lo xs k ∧ Num.hi (xs.take m) k = Num.hi xs k := by
  intro k
  induction k with
  | zero => intro _; exact ⟨rfl, rfl⟩
  | succ k ih =>
    intro hk
    obtain ⟨i1, i2⟩ := ih (by omega)
    have e : Num.lo (xs.take m) (k + 1) = Num.lo xs (k + 1) := by
      show (Num.lo (xs.take m) k + (xs.take m).getD k 0) % 65521 = (Num.lo xs k + xs.getD k 0) % 65521
      rw [i1, getD_take xs m k (by omega)]
    refine ⟨e, ?_⟩
    show (Num.hi (xs.take m) k + Num.lo (xs.take m) (k + 1)) % 65521 = (Num.hi xs k + Num.lo xs (k + 1)) % 65521
    rw [i2, e]

theorem sum_cut (xs : List Int) (m : Nat) : Num.sum (xs.take m) m = Num.sum xs m := by
  obtain ⟨h1, h2⟩ := sum_take xs m m (Nat.le_refl _)
  unfold Num.sum
  rw [h1, h2]

theorem pE_seal (n : Nat) (s : Int) (hn : 4 ≤ n) (h0 : 0 ≤ s) (h1 : s < 4294967296) : Num.pE n ((n : Int) - 4) 4 s = 0 := by
  unfold Num.pE
  rw [if_neg, if_neg (by omega)]
  have : (256 : Int) ^ (4 : Int).toNat = 4294967296 := by decide
  rw [this]
  omega

theorem gE_seal (n : Nat) (hn : 4 ≤ n) : Num.gE n ((n : Int) - 4) 4 = 0 := by
  unfold Num.gE
  rw [if_neg (by omega), if_neg (by omega)]

theorem gN_seal (n : Nat) (xs : List Int) (hn : 4 ≤ n) : Num.gN n xs ((n : Int) - 4) 4 = Num.numD xs (n - 4) 4 := by
  unfold Num.gN
  rw [gE_seal n hn, show ((n : Int) - 4).toNat = n - 4 from by omega]
  rfl

set_option maxHeartbeats 400000 in
theorem rseal_ok (p : Option Addr) (n c : Nat) (xs : List Int) (w : World) (h : BI w p n xs) (hnc : n ≤ c) (hn : 4 ≤ n) :
    Calls Tryz.prog 106 #[.slice p n c] w fun e w' => ∃ g cap, e = .returned (.tuple #[.slice (some ⟨g, 0, none⟩) n cap, .int .i64 0]) ∧ Own w.heap.size w' g n cap (Num.putTo xs (n - 4) (Num.sum xs (n - 4)) 4) ∧ Below w.heap.size w w' := by
  have hbig := h.big
  have ht := h.take (n - 4) (by omega)
  have hs := Num.sum_bd xs (n - 4)
  have HS := sum_cut xs (n - 4)
  have HP : Hid (Num.pE n ((n : Int) - 4) 4 (Num.sum xs (n - 4)) = 0) := pE_seal n _ hn hs.1 hs.2
  have e1 : ((n : Int) - 4).toNat = n - 4 := by omega
  have hcon := rput_yes p n c xs ((n : Int) - 4) 4 (Num.sum xs (n - 4)) w h HP.out
  rw [e1] at hcon
  have HC := (show Hid _ from hcon)
  have hsu := rsum_any p (n - 4) c (xs.take (n - 4)) w ht
  rw [HS] at hsu
  have HU := (show Hid _ from hsu)
  clear hcon hsu e1 HS
  generalize Num.sum xs (n - 4) = S at *
  go_enter Tryz.func106, Tryz.ntmps106
  go_wp2_with (first | (go_at_call 110; refine Calls.mono HU.out ?_; rintro e w' ⟨rfl, hw⟩; have hw' := hw.symm; subst hw'; clear hw) | (go_at_call 168; refine Calls.mono HC.out ?_; rintro e w1 ⟨g, cap, rfl, ho, hb⟩))
  go_ret2
  exact ⟨g, cap, rfl, ho, hb⟩

set_option maxHeartbeats 400000 in
theorem rsealed_ok (p : Option Addr) (n c : Nat) (xs : List Int) (w : World) (h : BI w p n xs) (hnc : n ≤ c) (hn : 4 ≤ n) :
    Calls Tryz.prog 56 #[.slice p n c] w fun e w' => e = .returned (.bool (Num.numD xs (n - 4) 4 == Num.sum xs (n - 4))) ∧ w' = w := by
  have hbig := h.big
  have ht := h.take (n - 4) (by omega)
  have hcon := rget_any p n c xs ((n : Int) - 4) 4 w h
  rw [gN_seal n xs hn, gE_seal n hn] at hcon
  have HC := (show Hid _ from hcon)
  have hsu := rsum_any p (n - 4) c (xs.take (n - 4)) w ht
  rw [sum_cut xs (n - 4)] at hsu
  have HU := (show Hid _ from hsu)
  clear hcon hsu
  generalize Num.sum xs (n - 4) = S at *
  generalize Num.numD xs (n - 4) 4 = N at *
  go_enter Tryz.func56, Tryz.ntmps56
  go_wp2_with (first | (go_at_call 110; refine Calls.mono HU.out ?_; rintro e w' ⟨rfl, hw⟩; have hw' := hw.symm; subst hw'; clear hw) | (go_at_call 109; refine Calls.mono HC.out ?_; rintro e w' ⟨rfl, hw⟩; have hw' := hw.symm; subst hw'; clear hw))
  go_ret
  exact ⟨rfl, rfl⟩

theorem BI.none (w : World) (p : Option Addr) : BI w p 0 [] := ⟨rfl, by omega, fun i => by simp, fun h => by omega⟩

theorem same_at {P : Program} {f : FuncId} {args : Array Value} {w : World} {v : Value} {Q : Ending → World → Prop} (h : Calls P f args w fun e w' => e = .returned v ∧ w' = w) (hq : Q (.returned v) w) : Calls P f args w Q :=
  h.mono (by rintro e w' ⟨rfl, rfl⟩; exact hq)

/-- Block rb is a reader: what is left, its error, whether a call made it. -/
def Rd (w : World) (rb : Nat) (v : Value) (E : Int) (made : Bool) : Prop := w.heap[rb]? = some (.cells #[v, .int .i64 E, .bool made] 319 (0, 0))

theorem Rd.c0 {w : World} {rb : Nat} {v : Value} {E : Int} {made : Bool} (h : Rd w rb v E made) : w.cell? ⟨rb, 0, none⟩ = some v := by
  simp [World.cell?, show w.heap[rb]? = _ from h]

theorem Rd.c1 {w : World} {rb : Nat} {v : Value} {E : Int} {made : Bool} (h : Rd w rb v E made) : w.cell? ⟨rb, 1, none⟩ = some (.int .i64 E) := by
  simp [World.cell?, show w.heap[rb]? = _ from h]

theorem Rd.c2 {w : World} {rb : Nat} {v : Value} {E : Int} {made : Bool} (h : Rd w rb v E made) : w.cell? ⟨rb, 2, none⟩ = some (.bool made) := by
  simp [World.cell?, show w.heap[rb]? = _ from h]

/-- The reader at rb has so much left, an error, and was made by a call. -/
def Rest (w : World) (rb : Nat) (n : Nat) (xs : List Int) (E : Int) : Prop :=
  ∃ b o c, Rd w rb (.slice (some ⟨b, o, none⟩) n c) E true ∧ n ≤ c ∧ BI w (some ⟨b, o, none⟩) n xs

theorem at_old {w : World} {k : Nat} {o u : Obj} (h : w.heap[k]? = some u) : (w.alloc o).heap[k]? = some u := by
  rw [Below.heap_alloc _ _ _ (Array.getElem?_eq_some_iff.1 h).1]; exact h

theorem at_new {w : World} {k : Nat} {o : Obj} (h : k = w.heap.size) : (w.alloc o).heap[k]? = some o := by
  subst h; exact heap_alloc_new w o

theorem two (w : World) (a b d : Value) (ta tb td : TypeId) :
    ((((w.alloc (.cells #[a] ta)).alloc (.cells #[b] tb)).alloc (.cells #[d] td)).heap[w.heap.size]? = some (.cells #[a] ta (0, 0))) ∧
    ((((w.alloc (.cells #[a] ta)).alloc (.cells #[b] tb)).alloc (.cells #[d] td)).heap[w.heap.size + 1]? = some (.cells #[b] tb (0, 0))) ∧
    Below w.heap.size w (((w.alloc (.cells #[a] ta)).alloc (.cells #[b] tb)).alloc (.cells #[d] td)) ∧
    Below w.heap.size w ((w.alloc (.cells #[a] ta)).alloc (.cells #[b] tb)) := by
  refine ⟨at_old (at_old (at_new rfl)), at_old (at_new (by simp)), ?_, ?_⟩
  · exact (((Below.refl _ _).alloc (Nat.le_refl _) _).alloc (by simp) _).alloc (by simp; omega) _
  · exact ((Below.refl _ _).alloc (Nat.le_refl _) _).alloc (by simp) _

/-- The two readers that no call made. -/
def Pair (w wr : World) : Prop :=
  Rd wr w.heap.size (.slice none 0 0) 0 false ∧ wr.heap[w.heap.size + 1]? = some (.cells #[.pointer none, .pointer (some ⟨w.heap.size, 0, none⟩)] 281 (0, 0)) ∧ Below w.heap.size w wr

theorem Pair.c0 {w wr : World} (h : Pair w wr) : wr.cell? ⟨w.heap.size + 1, 0, none⟩ = some (.pointer none) := by
  rw [cell_of_row wr _ 0 _ _ _ h.2.1]; rfl

theorem Pair.c1 {w wr : World} (h : Pair w wr) : wr.cell? ⟨w.heap.size + 1, 1, none⟩ = some (.pointer (some ⟨w.heap.size, 0, none⟩)) := by
  rw [cell_of_row wr _ 1 _ _ _ h.2.1]; rfl

/-- Block pb is a page of N bytes, xs, that lie in block g; the next field begins at a. Both blocks are new since B. -/
structure Pg (B : Nat) (w : World) (pb g N a : Nat) (xs : List Int) : Prop where
  hp : w.heap[pb]? = some (.cells #[.slice (some ⟨g, 0, none⟩) N N, .int .i64 (a : Int)] 226 (0, 0))
  row : w.heap[g]? = some (.cells (xs.map (Value.int .u8)).toArray 5 (0, 0))
  len : xs.length = N
  byt : Num.Byt xs
  lop : B ≤ pb
  log : B ≤ g
  ne : pb ≠ g
  big : N ≤ 128

theorem cell_row {w : World} {g : Nat} {cs : Array Value} {t : TypeId} (h : w.heap[g]? = some (.cells cs t (0, 0))) (i : Nat) (v : Value) (hv : cs[i]? = some v) : w.cell? ⟨g, i, none⟩ = some v := by
  simp [World.cell?, h, hv]

theorem Pg.c0 {B : Nat} {w : World} {pb g N a : Nat} {xs : List Int} (h : Pg B w pb g N a xs) : w.cell? ⟨pb, 0, none⟩ = some (.slice (some ⟨g, 0, none⟩) N N) := cell_row h.hp 0 _ rfl

theorem Pg.c1 {B : Nat} {w : World} {pb g N a : Nat} {xs : List Int} (h : Pg B w pb g N a xs) : w.cell? ⟨pb, 1, none⟩ = some (.int .i64 (a : Int)) := cell_row h.hp 1 _ rfl

theorem Pg.bi {B : Nat} {w : World} {pb g N a : Nat} {xs : List Int} (h : Pg B w pb g N a xs) : BI w (some ⟨g, 0, none⟩) N xs :=
  ⟨h.len, by have := h.big; omega, h.byt, fun _ => ⟨g, 0, rfl, fun i hi => by
    rw [Nat.zero_add]
    refine cell_row h.row i _ ?_
    have hl := h.len
    simp [List.getD_eq_getElem?_getD, List.getElem?_eq_getElem (show i < xs.length by omega)]⟩⟩

theorem Pg.kept {B : Nat} {w w' : World} {pb g N a : Nat} {xs : List Int} (h : Pg B w pb g N a xs) (hb : Below w.heap.size w w') : Pg B w' pb g N a xs := by
  have h1 : pb < w.heap.size := (Array.getElem?_eq_some_iff.1 h.hp).1
  have h2 : g < w.heap.size := (Array.getElem?_eq_some_iff.1 h.row).1
  exact ⟨by rw [hb.block _ h1]; exact h.hp, by rw [hb.block _ h2]; exact h.row, h.len, h.byt, h.lop, h.log, h.ne, h.big⟩

theorem Pg.base {B B' : Nat} {w : World} {pb g N a : Nat} {xs : List Int} (h : Pg B w pb g N a xs) (hB : B' ≤ B) : Pg B' w pb g N a xs :=
  ⟨h.hp, h.row, h.len, h.byt, Nat.le_trans hB h.lop, Nat.le_trans hB h.log, h.ne, h.big⟩

/-- A list of noughts. -/
def zers (n : Nat) : List Int := List.replicate n 0

theorem zers_len (n : Nat) : (zers n).length = n := by simp [zers]

theorem zers_byt (n : Nat) : Num.Byt (zers n) := fun i => by
  unfold zers
  rw [List.getD_eq_getElem?_getD, List.getElem?_replicate]
  split <;> simp

theorem splice_len (xs ys : List Int) (a : Nat) (h : a + ys.length ≤ xs.length) : (splice xs a ys).length = xs.length := length_splice xs a ys h

theorem splice_byt {xs ys : List Int} (hx : Num.Byt xs) (hy : Num.Byt ys) (a : Nat) : Num.Byt (splice xs a ys) := by
  have key : ∀ l : List Int, Num.Byt l ↔ ∀ n ∈ l, 0 ≤ n ∧ n < 256 := by
    intro l
    constructor
    · intro h n hn
      obtain ⟨i, hi, rfl⟩ := List.getElem_of_mem hn
      have := h i
      simpa [List.getD_eq_getElem?_getD, List.getElem?_eq_getElem hi] using this
    · intro h i
      rw [List.getD_eq_getElem?_getD]
      by_cases hi : i < l.length
      · rw [List.getElem?_eq_getElem hi]; exact h _ (List.getElem_mem hi)
      · rw [List.getElem?_eq_none (by omega)]; simp
  rw [key] at hx hy ⊢
  intro n hn
  unfold splice at hn
  rcases List.mem_append.1 hn with h | h
  · exact hx n (List.mem_of_mem_take h)
  · rcases List.mem_append.1 h with h | h
    · exact hy n h
    · exact hx n (List.mem_of_mem_drop h)

/-- The slice at p, of n numbers, holds zs. -/
structure II (w : World) (p : Option Addr) (n : Nat) (zs : List Int) : Prop where
  len : zs.length = n
  big : n ≤ 140737488355328
  cells : 0 < n → ∃ b o, p = some ⟨b, o, none⟩ ∧ ∀ i, i < n → w.cell? ⟨b, o + i, none⟩ = some (.int .i64 (zs.getD i 0))

theorem II.kept {w w' : World} {p : Option Addr} {n : Nat} {xs : List Int} (h : II w p n xs) (hb : Below w.heap.size w w') : II w' p n xs := by
  refine ⟨h.len, h.big, fun hn => ?_⟩
  obtain ⟨b, o, rfl, hc⟩ := h.cells hn
  refine ⟨b, o, rfl, fun i hi => ?_⟩
  rw [hb.cell (p := ⟨b, o + i, none⟩) (lt_of_cell (hc i hi))]
  exact hc i hi

abbrev geomV (G B I : Int) : Value := .agg #[.int .i64 G, .int .i64 B, .int .i64 I]

abbrev geomO (G B I : Int) : Obj := .cells #[.int .i64 G, .int .i64 B, .int .i64 I] 23

abbrev superV (G B I M : Int) : Value := .agg #[.int .i64 G, .int .i64 B, .int .i64 I, .int .i64 M]

abbrev superO (G B I M : Int) : Obj := .cells #[.int .i64 G, .int .i64 B, .int .i64 I, .int .i64 M] 80

theorem size_alloc (w : World) (o : Obj) : (w.alloc o).heap.size = w.heap.size + 1 := by simp

theorem heap_new (w : World) (o : Obj) : (w.alloc o).heap[w.heap.size]? = some o := by
  show (w.heap.push o)[w.heap.size]? = some o
  simp

theorem grew_at {P : Program} {f : FuncId} {args : Array Value} {w : World} {v : Value} {Q : Ending → World → Prop} (h : Calls P f args w fun e w' => e = .returned v ∧ Below w.heap.size w w') (hq : ∀ w1, Below w.heap.size w w1 → Q (.returned v) w1) : Calls P f args w Q :=
  h.mono (by rintro e w' ⟨rfl, hb⟩; exact hq w' hb)

theorem cell_kept {w w1 : World} {b i : Nat} {v : Value} (h : w.cell? ⟨b, i, none⟩ = some v) (hb : Below w.heap.size w w1) : w1.cell? ⟨b, i, none⟩ = some v := by
  rw [hb.cell (p := ⟨b, i, none⟩) (lt_of_cell h)]; exact h

theorem grew_trans {w0 w w1 : World} (h : Below w0.heap.size w0 w) (hb : Below w.heap.size w w1) : Below w0.heap.size w0 w1 := h.trans (hb.mono h.size)

theorem grew_alloc (w : World) (o : Obj) : Below w.heap.size w (w.alloc o) := (Below.refl _ _).alloc (Nat.le_refl _) _

namespace Gm
def May (G B I : Int) : Prop := 1 ≤ G ∧ G ≤ 8 ∧ 8 ≤ B ∧ B ≤ 256 ∧ 4 ≤ I ∧ I ≤ 64 ∧ I % 4 = 0 ∧ 3 + I / 4 ≤ B
instance (G B I : Int) : Decidable (May G B I) := by unfold May; infer_instance

end Gm
def SMay (G B I M : Int) : Prop := Gm.May G B I ∧ 0 ≤ M ∧ M ≤ 4294967295
instance (G B I M : Int) : Decidable (SMay G B I M) := by unfold SMay; infer_instance

theorem rmay_ok (G B I : Int) (w : World) : Calls Tryz.prog 111 #[geomV G B I] w fun e w' => e = .returned (.bool (decide (Gm.May G B I))) ∧ Below w.heap.size w w' := by
  have HB := grew_alloc w (geomO G B I)
  go_enter Tryz.func111, Tryz.ntmps111
  go_wp2
  all_goals
    go_ret
    refine ⟨?_, HB⟩
    first
      | (rw [show decide (Gm.May G B I) = decide (3 + I / 4 ≤ B) from decide_eq_decide.2 (by unfold Gm.May; omega)]; rfl)
      | (rw [show decide (Gm.May G B I) = false from decide_eq_false (by unfold Gm.May; omega)]; rfl)

theorem super_cells (w : World) (G B I M : Int) : (w.alloc (superO G B I M)).cell? ⟨w.heap.size, 0, none⟩ = some (.int .i64 G) ∧ (w.alloc (superO G B I M)).cell? ⟨w.heap.size, 1, none⟩ = some (.int .i64 B) ∧ (w.alloc (superO G B I M)).cell? ⟨w.heap.size, 2, none⟩ = some (.int .i64 I) ∧ (w.alloc (superO G B I M)).cell? ⟨w.heap.size, 3, none⟩ = some (.int .i64 M) :=
  ⟨cell_row (heap_new w (superO G B I M)) 0 _ rfl, cell_row (heap_new w (superO G B I M)) 1 _ rfl, cell_row (heap_new w (superO G B I M)) 2 _ rfl, cell_row (heap_new w (superO G B I M)) 3 _ rfl⟩

/-- A superblock's bytes, but for the sum. -/
def superL (G B I M : Int) : List Int := Num.putTo (Num.putTo (Num.putTo (Num.putTo (splice (zers 128) 0 [98, 111, 108, 108]) 4 G 1) 5 (B - 1) 1) 6 I 1) 8 M 4

/-- Bytes sealed. -/
def sealL (xs : List Int) : List Int := Num.putTo xs (xs.length - 4) (Num.sum xs (xs.length - 4)) 4

def superS (G B I M : Int) : List Int := sealL (superL G B I M)

theorem splice_len128 : (splice (zers 128) 0 [98, 111, 108, 108]).length = 128 := by
  rw [splice_len _ _ _ (by rw [zers_len]; decide), zers_len]

theorem rnumber_ok (p : Option Addr) (n c : Nat) (xs : List Int) (a k : Nat) (v : Int) (w : World) (h : BI w p n xs) (h1 : 1 ≤ k) (h4 : k ≤ 4) (h2 : a + k ≤ n) (hv0 : 0 ≤ v) (hv1 : v < 256 ^ k) :
    Calls Tryz.prog 105 #[.slice p n c, .int .i64 (a : Int), .int .i64 (k : Int), .int .i64 v] w fun e w' => ∃ g cap, e = .returned (.slice (some ⟨g, 0, none⟩) n cap) ∧ Own w.heap.size w' g n cap (Num.putTo xs a v k) ∧ Below w.heap.size w w' := by
  have hp0 : Num.pE n (a : Int) (k : Int) v = 0 := by
    unfold Num.pE
    rw [Int.toNat_natCast, if_neg (by omega), if_neg (by omega)]
  have hput := rput_yes p n c xs a k v w h hp0
  rw [Int.toNat_natCast, Int.toNat_natCast] at hput
  clear hp0 hv1
  go_enter Tryz.func105, Tryz.ntmps105
  go_wp2_with fail
  refine hput.mono ?_
  rintro e w2 ⟨g2, cap, rfl, ho2, hb2⟩
  go_wp2
  go_ret
  exact ⟨g2, cap, rfl, ho2, hb2⟩

theorem rencodeSuper_no (G B I M : Int) (h : ¬ SMay G B I M) (w : World) : Calls Tryz.prog 58 #[superV G B I M] w fun e w' => e = .returned (.tuple #[.slice none 0 0, .int .i64 1]) ∧ Below w.heap.size w w' := by
  have HB := grew_alloc w (superO G B I M)
  obtain ⟨c0, c1, c2, c3⟩ := super_cells w G B I M
  have hm := rmay_ok G B I
  by_cases hg : Gm.May G B I
  · rw [decide_eq_true hg] at hm
    have hM : M < 0 ∨ 4294967296 ≤ M := by
      by_cases h1 : M < 0
      · exact .inl h1
      · by_cases h2 : 4294967296 ≤ M
        · exact .inr h2
        · exact absurd ⟨hg, by omega, by omega⟩ h
    go_enter Tryz.func58, Tryz.ntmps58
    go_wp2_with (first | (go_at_call 111; refine grew_at (hm _) ?_; intro wn hbn; have HB := grew_trans HB hbn; have c3 := cell_kept c3 hbn))
    all_goals first | omega | skip
    all_goals
      go_ret2
      exact ⟨rfl, HB⟩
  · rw [decide_eq_false hg] at hm
    go_enter Tryz.func58, Tryz.ntmps58
    go_wp2_with (first | (go_at_call 111; refine grew_at (hm _) ?_; intro wn hbn; have HB := grew_trans HB hbn; have c3 := cell_kept c3 hbn))
    go_ret2
    exact ⟨rfl, HB⟩

theorem zero_list (m : Nat) : (Builtin.zeroCells (Value.int .u8 0).cells m).toList = (List.replicate m (0 : Int)).map (Value.int .u8) := by
  apply List.ext_getElem
  · simp [Builtin.zeroCells, Value.cells]
  · intro i h1 h2
    simp [Builtin.zeroCells, Value.cells, Nat.mod_one]

theorem heap_freeze_other (w : World) (b o k : Nat) (h : k ≠ b) : (w.freeze ⟨b, o, none⟩ 1).heap[k]? = w.heap[k]? := by
  unfold World.freeze
  rw [if_neg (by decide)]
  have h' : ¬ b = k := fun e => h e.symm
  simp [Array.getElem?_modify, h']

theorem heap_freeze_same (w : World) (b o : Nat) {cs : Array Value} {t : TypeId} {mk : Nat × Nat} (h : w.heap[b]? = some (.cells cs t mk)) : ∃ mk', (w.freeze ⟨b, o, none⟩ 1).heap[b]? = some (.cells cs t mk') := by
  unfold World.freeze
  rw [if_neg (by decide)]
  obtain ⟨lo, hi⟩ := mk
  simp [Array.getElem?_modify, h]

theorem size_freeze (w : World) (b o : Nat) : (w.freeze ⟨b, o, none⟩ 1).heap.size = w.heap.size := by
  unfold World.freeze
  rw [if_neg (by decide)]
  simp

theorem conv_at (W : World) (b n c : Nat) {cs : Array Value} {mk : Nat × Nat} (h : W.heap[b]? = some (.cells cs 5 mk)) : (convert 75 75 (.slice (some ⟨b, 0, none⟩) n c)).run Tryz.prog W = .ok (.slice (some ⟨b, 0, none⟩) n c) (W.freeze ⟨b, cs.size, none⟩ 1) := by
  simp [convert, run_underlying Tryz.underlying75, run_underlying Tryz.underlying5, markStringish, World.shape?, h]

/-- Block b, behind B, holds the bytes xs, and none that turn. -/
def Lit8 (B : Nat) (w : World) (b : Nat) (xs : List Int) : Prop := B ≤ b ∧ ∃ mk, w.heap[b]? = some (.cells (xs.map (Value.int .u8)).toArray 5 mk)

theorem Lit8.bi {B : Nat} {w : World} {b : Nat} {xs : List Int} (h : Lit8 B w b xs) (hx : Num.Byt xs) (hn : xs.length ≤ 140737488355328) : BI w (some ⟨b, 0, none⟩) xs.length xs := by
  obtain ⟨_, mk, hm⟩ := h
  refine ⟨rfl, hn, hx, fun _ => ⟨b, 0, rfl, fun i hi => ?_⟩⟩
  rw [Nat.zero_add]
  simp [World.cell?, hm, List.getD_eq_getElem?_getD, List.getElem?_eq_getElem hi]

/-- The world behind a text's conversion. -/
theorem conv_lit (w : World) (xs : List Int) : ∃ w', (∀ n c, (convert 75 75 (.slice (some ⟨w.heap.size, 0, none⟩) n c)).run Tryz.prog (w.alloc (.cells (xs.map (Value.int .u8)).toArray 5)) = .ok (.slice (some ⟨w.heap.size, 0, none⟩) n c) w') ∧ Lit8 w.heap.size w' w.heap.size xs ∧ Below w.heap.size w w' := by
  have h := heap_new w (.cells (xs.map (Value.int .u8)).toArray 5)
  refine ⟨_, fun n c => conv_at _ _ n c h, ⟨Nat.le_refl _, heap_freeze_same _ _ _ h⟩, ⟨rfl, rfl, rfl, by rw [size_freeze, size_alloc]; omega, fun k hk => ?_⟩⟩
  rw [heap_freeze_other _ _ _ _ (by omega), Below.heap_alloc _ _ _ hk]

theorem wpList_append_grow {w : World} {ops : Array Oper} {rest : List Oper} {o : Oper} {a : Act} {Q : Exit → Act → World → Prop} (hgd : o.guard = none) (s x : Operand)
    (ho : o.op = .call { callee := .builtin .append, args := #[s, x], argTypes := #[75, 3] }) (b n m : Nat) (xs : List Int) (hs : a.eval s = .slice (some ⟨b, 0, none⟩) n n) (hx : a.eval x = .int .i64 (m : Int)) (hbi : BI w (some ⟨b, 0, none⟩) n xs) (hnm : n + m = 128) (hm : 0 < m)
    (h : ∀ g cap w', Own w.heap.size w' g 128 cap (xs ++ zers m) → Below w.heap.size w w' → wpList Tryz.prog ops Q rest (a.put o.dst (.slice (some ⟨g, 0, none⟩) 128 cap)) w') : wpList Tryz.prog ops Q (o :: rest) a w := by
  obtain ⟨i0, hi, hz0, hz1, hz2⟩ := info_parts info5
  have hxl := hbi.len
  have hlen : (xs ++ zers m).length = 128 := by simp [zers_len]; omega
  have hmap : (xs ++ zers m).map (Value.int .u8) = xs.map (Value.int .u8) ++ (Builtin.zeroCells (Value.int .u8 0).cells m).toList := by rw [List.map_append, zero_list]; rfl
  have hold : (Builtin.firstCells i0.size n (.slice (some ⟨b, 0, none⟩) n n)).run Tryz.prog w.drew = .ok (xs.map (Value.int .u8)).toArray w.drew :=
    run_firstCells_some (P := Tryz.prog) w.drew i0.size n ⟨b, 0, none⟩ n n _ (by rw [hz1]; simpa using hxl) (by
      intro j v hj
      by_cases h0 : 0 < n
      · obtain ⟨ad, e, hc⟩ := (hbi.kept (below_drewN (Below.refl _ _) 1)).src h0
        cases e
        exact hc j v hj
      · have : xs = [] := List.eq_nil_of_length_eq_zero (by omega)
        subst this
        simp at hj)
  have hr := Lib.run_append_grow_zeros (P := Tryz.prog) w 75 3 o.type 5 i0 (.int .u8 0) .i64 .i64 Tryz.underlying75 Tryz.underlying3 hi hz0 (some ⟨b, 0, none⟩) n n (xs.map (Value.int .u8)) hold m hm (by omega) (by omega) (by omega) (by rw [hz2]; omega) (growslice_fits (by omega) (by rw [hz2]; omega))
  rw [hnm] at hr
  refine wpList_plain hgd fun _ hK => ?_
  unfold Oper.wp execOp
  simp only [ho, resolve, invoke, builtin, Sem.run_bind, Sem.run_pure, Result.andThen_ok, List.map_toArray, List.map_cons, List.map_nil, hs, hx, hr]
  refine hK _ _ (h _ _ _ ⟨by simpa using hlen, .inr ⟨_, _, _, rfl, Nat.le_refl _, heap_alloc_new w.drew _, grownCap_ge _ _ _ _, grownCap_le_maxLen _ _ _ _ (by unfold maxLen; omega), ?_, ?_⟩⟩ ⟨rfl, rfl, rfl, by simp, fun k hk => Below.heap_alloc w.drew _ k hk⟩)
  · have := grownCap_ge w 128 n 5
    simp [size_zeroCells, Value.cells]; omega
  · rw [hmap]
    simp only [Array.toList_append]
    exact List.take_left' (by simp [size_zeroCells, Value.cells]; omega)

theorem bollZ : ([98, 111, 108, 108] : List Int) ++ zers 124 = splice (zers 128) 0 [98, 111, 108, 108] := by decide

set_option maxRecDepth 10000 in
set_option maxHeartbeats 1000000 in
theorem rencodeSuper_yes (G B I M : Int) (h : SMay G B I M) (w : World) : Calls Tryz.prog 58 #[superV G B I M] w fun e w' => ∃ g cap, e = .returned (.tuple #[.slice (some ⟨g, 0, none⟩) 128 cap, .int .i64 0]) ∧ Own w.heap.size w' g 128 cap (superS G B I M) ∧ Below w.heap.size w w' := by
  have HB := grew_alloc w (superO G B I M)
  have hm := rmay_ok G B I
  rw [decide_eq_true h.1] at hm
  have hh := h
  unfold SMay Gm.May at hh
  obtain ⟨c0, c1, c2, c3⟩ := super_cells w G B I M
  go_enter Tryz.func58, Tryz.ntmps58
  go_wp2_with (first
    | (go_at_call 111; refine grew_at (hm _) ?_; intro wn hbn; have HB := grew_trans HB hbn; have c0 := cell_kept c0 hbn; have c1 := cell_kept c1 hbn; have c2 := cell_kept c2 hbn; have c3 := cell_kept c3 hbn; obtain ⟨wl, hcv, hl, hbn⟩ := conv_lit wn [98, 111, 108, 108]; have hcv : (convert 75 75 (.slice (some ⟨wn.heap.size, 0, none⟩) 4 4)).run Tryz.prog (wn.alloc (.cells #[.int .u8 98, .int .u8 111, .int .u8 108, .int .u8 108] 5)) = .ok (.slice (some ⟨wn.heap.size, 0, none⟩) 4 4) wl := hcv 4 4; have HB := grew_trans HB hbn; have c0 := cell_kept c0 hbn; have c1 := cell_kept c1 hbn; have c2 := cell_kept c2 hbn; have c3 := cell_kept c3 hbn; have hbl := hl.bi (Num.byt_of_wf (by decide)) (by decide))
    | (at_builtin; refine wpList_append_grow rfl _ _ rfl wn.heap.size 4 124 [98, 111, 108, 108] rfl rfl hbl rfl (by decide) ?_))
  intro g cap w1 ho hbn
  have HB := grew_trans HB hbn; have c0 := cell_kept c0 hbn; have c1 := cell_kept c1 hbn; have c2 := cell_kept c2 hbn; have c3 := cell_kept c3 hbn
  rw [show (98 :: 111 :: 108 :: 108 :: zers 124 : List Int) = splice (zers 128) 0 [98, 111, 108, 108] from bollZ] at ho
  have hy : Num.Byt (splice (zers 128) 0 [98, 111, 108, 108]) := splice_byt (zers_byt _) (Num.byt_of_wf (by decide)) 0
  go_wp2_with (first
    | (go_at_call_of 105 G; refine Calls.mono (rnumber_ok _ 128 _ _ 4 1 G _ (ho.bi (by omega) hy) (by omega) (by omega) (by omega) (by omega) (by omega)) ?_; rintro e wm ⟨g, cap, rfl, ho, hbn⟩; have hy := Num.putTo_byt hy 4 G 1; have HB := grew_trans HB hbn; have c0 := cell_kept c0 hbn; have c1 := cell_kept c1 hbn; have c2 := cell_kept c2 hbn; have c3 := cell_kept c3 hbn)
    | (go_at_call_of 105 I; refine Calls.mono (rnumber_ok _ 128 _ _ 6 1 I _ (ho.bi (by omega) hy) (by omega) (by omega) (by omega) (by omega) (by omega)) ?_; rintro e wm ⟨g, cap, rfl, ho, hbn⟩; have hy := Num.putTo_byt hy 6 I 1; have HB := grew_trans HB hbn; have c0 := cell_kept c0 hbn; have c1 := cell_kept c1 hbn; have c2 := cell_kept c2 hbn; have c3 := cell_kept c3 hbn)
    | (go_at_call_of 105 M; refine Calls.mono (rnumber_ok _ 128 _ _ 8 4 M _ (ho.bi (by omega) hy) (by omega) (by omega) (by omega) (by omega) (by omega)) ?_; rintro e wm ⟨g, cap, rfl, ho, hbn⟩; have hy := Num.putTo_byt hy 8 M 4; have HB := grew_trans HB hbn; have c0 := cell_kept c0 hbn; have c1 := cell_kept c1 hbn; have c2 := cell_kept c2 hbn; have c3 := cell_kept c3 hbn)
    | (go_at_call 105; refine Calls.mono (rnumber_ok _ 128 _ _ 5 1 (B - 1) _ (ho.bi (by omega) hy) (by omega) (by omega) (by omega) (by omega) (by omega)) ?_; rintro e wm ⟨g, cap, rfl, ho, hbn⟩; have hy := Num.putTo_byt hy 5 (B - 1) 1; have HB := grew_trans HB hbn; have c0 := cell_kept c0 hbn; have c1 := cell_kept c1 hbn; have c2 := cell_kept c2 hbn; have c3 := cell_kept c3 hbn)
    | (go_at_call 106; refine Calls.mono (rseal_ok _ 128 _ _ _ (ho.bi (by omega) hy) ho.room.1 (by omega)) ?_; rintro e wz ⟨g2, cap2, rfl, ho2, hb⟩))
  go_ret2
  refine ⟨g2, cap2, rfl, ?_, HB.trans (hb.mono HB.size)⟩
  have ho2 := ho2.base HB.size
  unfold superS sealL superL
  simp only [Num.putTo_length, splice_len128]
  exact ho2

theorem info25 : (Tryz.prog.info? 80).map (·.size) = some 4 := by kernel_rfl

/-- What the bytes of a superblock say. -/
def rG (xs : List Int) : Int := Num.numD xs 4 1

def rB (xs : List Int) : Int := Num.numD xs 5 1 + 1

def rI (xs : List Int) : Int := Num.numD xs 6 1

def rM (xs : List Int) : Int := Num.numD xs 8 4

/-- What stands while a superblock is read: the reader, the structure, the place of the answer. -/
structure SR (w w' : World) (rb n : Nat) (xs : List Int) (a b c d : Int) : Prop where
  r : Rest w' rb n xs 0
  s : w'.heap[w.heap.size + 1]? = some (superO a b c d)
  z : w'.heap[w.heap.size]? = some (superO 0 0 0 0)
  lo : w.heap.size + 2 ≤ rb
  bw : Below w.heap.size w w'

theorem SR.cell {w w' : World} {rb n : Nat} {xs : List Int} {a b c d : Int} (h : SR w w' rb n xs a b c d) (i : Nat) (v : Value) (hv : (#[.int .i64 a, .int .i64 b, .int .i64 c, .int .i64 d] : Array Value)[i]? = some v) : w'.cell? ⟨w.heap.size + 1, i, none⟩ = some v := cell_row h.s i v hv

theorem results_cell_tmp_row {P : Program} {fn : Func} {p u : Tmp} {ty : TypeId} (h : fn.results = #[.cell p ty, .tmp u]) (tmps : Array Value) (w : World) (g : Nat) (t : TypeId) (cs : Array Value) (fr : Nat × Nat) (d : TypeDesc)
    (hp : tmps.getD p undef = .pointer (some ⟨g, 0, none⟩)) (hg : w.heap[g]? = some (.cells cs t fr))
    (hu : P.underlying ty = some d) (hd : (match d with | .struct _ | .array _ _ => true | _ => false) = true) (hi : (P.info? ty).map (·.size) = some cs.size) :
    (results fn tmps).run P w = .ok (.tuple #[.agg cs, tmps.getD u undef]) w := by
  rw [results_cell_tmp h, hp]
  simp [asAddr, run_loadVar_row w g t ty cs fr d hg hu hd hi]

/-- The bytes are those that are written for what they say. -/
def SGood (xs : List Int) (a b c d : Int) : Prop := SMay a b c d ∧ superS a b c d = xs
instance (xs : List Int) (a b c d : Int) : Decidable (SGood xs a b c d) := by unfold SGood; infer_instance

theorem boll_byt : Num.Byt (splice (zers 128) 0 [98, 111, 108, 108]) := splice_byt (zers_byt _) (Num.byt_of_wf (by decide)) 0

theorem superS_byt (a b c d : Int) : Num.Byt (superS a b c d) := by
  unfold superS sealL superL
  exact Num.putTo_byt (Num.putTo_byt (Num.putTo_byt (Num.putTo_byt (Num.putTo_byt boll_byt _ _ _) _ _ _) _ _ _) _ _ _) _ _ _

theorem super_one (a b c d : Int) : (#[.int .i64 a, .int .i64 b, .int .i64 c, .int .i64 d] : Array Value).all (·.oneCell') = true := by simp [Value.oneCell']

/-- The error that bytes tell, read as a superblock. -/
def decE (n : Nat) (xs : List Int) : Int := if n ≠ 128 then 6 else if ¬ xs.take 4 = [98, 111, 108, 108] then 31 else if ¬ Num.numD xs 124 4 = Num.sum xs 124 then 30 else if SGood xs (rG xs) (rB xs) (rI xs) (rM xs) then 0 else 6

def decV (n : Nat) (xs : List Int) : Value := if decE n xs = 0 then superV (rG xs) (rB xs) (rI xs) (rM xs) else superV 0 0 0 0

theorem gE_ok (n a k : Nat) (h1 : 1 ≤ k) (h4 : k ≤ 4) (h2 : a + k ≤ n) : Num.gE n (a : Int) (k : Int) = 0 := by
  unfold Num.gE
  rw [if_neg (by omega), if_neg (by omega)]

theorem rget_ok' (p : Option Addr) (n c : Nat) (xs : List Int) (a k : Nat) (w : World) (h : BI w p n xs) (h1 : 1 ≤ k) (h4 : k ≤ 4) (h2 : a + k ≤ n) :
    Calls Tryz.prog 57 #[.slice p n c, .int .i64 (a : Int), .int .i64 (k : Int)] w fun e w' => e = .returned (.int .i64 (Num.numD xs a k)) ∧ w' = w := by
  have hg := rget_any p n c xs a k w h
  rw [Num.gN, gE_ok n a k h1 h4 h2, if_pos rfl, Int.toNat_natCast, Int.toNat_natCast] at hg
  generalize Num.numD xs a k = v at *
  go_enter Tryz.func57, Tryz.ntmps57
  go_wp2_with fail
  refine same_at hg ?_
  go_wp2
  go_ret
  exact ⟨rfl, rfl⟩

theorem same_any (p q : Option Addr) (n c m d : Nat) (xs ys : List Int) (w : World) (h : BI w p n xs) (k : BI w q m ys) :
    Calls Tryz.prog 59 #[.slice p n c, .slice q m d] w fun e w' => e = .returned (.bool (xs == ys)) ∧ w' = w := by
  have h1 := h.conv c
  have h2 := k.conv d
  go_enter Tryz.func59, Tryz.ntmps59
  go_wp2
  go_ret
  exact ⟨ret_bool (str_beq h.byt k.byt), rfl⟩

theorem boll_str {xs : List Int} (h : Num.Byt xs) : ((strOfNums xs).toList == [98, 111, 108, 108]) = (xs == [98, 111, 108, 108]) := by
  have := str_beq h (ys := [98, 111, 108, 108]) (Num.byt_of_wf (by decide))
  rw [show (strOfNums [98, 111, 108, 108]).toList = [98, 111, 108, 108] from Lib.strOfNums_toList _] at this
  exact this

set_option maxRecDepth 10000 in
set_option maxHeartbeats 1000000 in
theorem rdecodeSuper_magic (p : Option Addr) (c : Nat) (xs : List Int) (w : World) (h : BI w p 128 xs) (hnc : 128 ≤ c) (h2 : ¬ xs.take 4 = [98, 111, 108, 108]) :
    Calls Tryz.prog 20 #[.slice p 128 c] w fun e w' => e = .returned (.tuple #[superV 0 0 0 0, .int .i64 31]) ∧ Below w.heap.size w w' := by
  have HB := grew_alloc w (superO 0 0 0 0)
  have hr0 := heap_new w (superO 0 0 0 0)
  have h0 : BI (w.alloc (superO 0 0 0 0)) p 128 xs := h.kept HB
  have h4 := (h0.take 4 (by decide)).conv c
  have hst := boll_str (h0.take 4 (by decide)).byt
  rw [show (xs.take 4 == [98, 111, 108, 108]) = false from beq_eq_false_iff_ne.2 h2] at hst
  go_enter Tryz.func20, Tryz.ntmps20
  go_wp2_with (first
    | (refine wpList_store_row rfl 80 _ _ rfl w.heap.size _ rfl rfl 80 _ hr0 info25 rfl (super_one 0 0 0 0) ?_))
  refine bodyPost_ret (v := .tuple #[superV 0 0 0 0, .int .i64 31]) (results_cell_tmp_row (p := 2) (u := 3) (ty := 80) Tryz.results20 _ _ w.heap.size 80 _ (0, 0) _ rfl (setRow_heap _ _ _ _ _ _ hr0) Tryz.underlying80 rfl info25) rfl ?_
  exact ⟨rfl, below_setRow HB (by omega) _⟩

set_option maxRecDepth 10000 in
set_option maxHeartbeats 1000000 in
theorem rdecodeSuper_sum (p : Option Addr) (c : Nat) (xs : List Int) (w : World) (h : BI w p 128 xs) (hnc : 128 ≤ c) (h2 : xs.take 4 = [98, 111, 108, 108]) (h3 : ¬ Num.numD xs 124 4 = Num.sum xs 124) :
    Calls Tryz.prog 20 #[.slice p 128 c] w fun e w' => e = .returned (.tuple #[superV 0 0 0 0, .int .i64 30]) ∧ Below w.heap.size w w' := by
  have HB := grew_alloc w (superO 0 0 0 0)
  have hr0 := heap_new w (superO 0 0 0 0)
  have h0 : BI (w.alloc (superO 0 0 0 0)) p 128 xs := h.kept HB
  have h4 := (h0.take 4 (by decide)).conv c
  have hst := boll_str (h0.take 4 (by decide)).byt
  rw [show (xs.take 4 == [98, 111, 108, 108]) = true from beq_iff_eq.2 h2] at hst
  clear h2
  have hse := rsealed_ok p 128 c xs _ h0 hnc (by decide)
  rw [show (Num.numD xs (128 - 4) 4 == Num.sum xs (128 - 4)) = false from beq_eq_false_iff_ne.2 h3] at hse
  go_enter Tryz.func20, Tryz.ntmps20
  go_wp2_with (first
    | (go_at_call 56; refine same_at hse ?_)
    | (refine wpList_store_row rfl 80 _ _ rfl w.heap.size _ rfl rfl 80 _ hr0 info25 rfl (super_one 0 0 0 0) ?_))
  refine bodyPost_ret (v := .tuple #[superV 0 0 0 0, .int .i64 30]) (results_cell_tmp_row (p := 2) (u := 3) (ty := 80) Tryz.results20 _ _ w.heap.size 80 _ (0, 0) _ rfl (setRow_heap _ _ _ _ _ _ hr0) Tryz.underlying80 rfl info25) rfl ?_
  exact ⟨rfl, below_setRow HB (by omega) _⟩

set_option maxRecDepth 10000 in
set_option maxHeartbeats 1000000 in
theorem rdecodeSuper_no (p : Option Addr) (c : Nat) (xs : List Int) (w : World) (h : BI w p 128 xs) (hnc : 128 ≤ c) (h2 : xs.take 4 = [98, 111, 108, 108]) (h3 : Num.numD xs 124 4 = Num.sum xs 124) (hm : ¬ SMay (rG xs) (rB xs) (rI xs) (rM xs)) :
    Calls Tryz.prog 20 #[.slice p 128 c] w fun e w' => e = .returned (.tuple #[superV 0 0 0 0, .int .i64 6]) ∧ Below w.heap.size w w' := by
  have HB := grew_alloc w (superO 0 0 0 0)
  have hr0 := heap_new w (superO 0 0 0 0)
  have h0 : BI (w.alloc (superO 0 0 0 0)) p 128 xs := h.kept HB
  have h4 := (h0.take 4 (by decide)).conv c
  have hst := boll_str (h0.take 4 (by decide)).byt
  rw [show (xs.take 4 == [98, 111, 108, 108]) = true from beq_iff_eq.2 h2] at hst
  clear h2
  have hse := rsealed_ok p 128 c xs _ h0 hnc (by decide)
  rw [show (Num.numD xs (128 - 4) 4 == Num.sum xs (128 - 4)) = true from beq_iff_eq.2 h3] at hse
  have b4 := Num.numD_bd h.byt 1 5
  have g4 := rget_ok' p 128 c xs 4 1 _ h0 (by decide) (by decide) (by decide)
  have g5 := rget_ok' p 128 c xs 5 1 _ h0 (by decide) (by decide) (by decide)
  have g6 := rget_ok' p 128 c xs 6 1 _ h0 (by decide) (by decide) (by decide)
  have g8 := rget_ok' p 128 c xs 8 4 _ h0 (by decide) (by decide) (by decide)
  unfold rG rB rI rM at *
  generalize Num.numD xs 4 1 = a at *
  generalize Num.numD xs 5 1 = b at *
  generalize Num.numD xs 6 1 = i at *
  generalize Num.numD xs 8 4 = m at *
  have HB2 : Below w.heap.size w ((w.alloc (superO 0 0 0 0)).alloc (superO a (b + 1) i m)) := grew_trans HB (grew_alloc _ _)
  have hr2 : ((w.alloc (superO 0 0 0 0)).alloc (superO a (b + 1) i m)).heap[w.heap.size]? = some (superO 0 0 0 0) := at_old hr0
  have hx2 : ((w.alloc (superO 0 0 0 0)).alloc (superO a (b + 1) i m)).heap[w.heap.size + 1]? = some (superO a (b + 1) i m) := by
    have := heap_new (w.alloc (superO 0 0 0 0)) (superO a (b + 1) i m)
    rwa [size_alloc] at this
  have h02 := h0.kept (grew_alloc (w.alloc (superO 0 0 0 0)) (superO a (b + 1) i m))
  go_enter Tryz.func20, Tryz.ntmps20
  go_wp2_with (first
    | (go_at_call 56; refine same_at hse ?_)
    | (go_at_call_of 57 (Value.int .i64 8); refine same_at g8 ?_)
    | (go_at_call_of 57 (Value.int .i64 6); refine same_at g6 ?_)
    | (go_at_call_of 57 (Value.int .i64 5); refine same_at g5 ?_)
    | (go_at_call 57; refine same_at g4 ?_))
  clear g4 g5 g6 g8 hse hst h4 hr0 h0
  generalize (w.alloc (superO 0 0 0 0)).alloc (superO a (b + 1) i m) = w0 at *
  refine grew_at (rencodeSuper_no _ _ _ _ hm _) ?_
  intro w1 hb1
  have hr3 : w1.heap[w.heap.size]? = some (superO 0 0 0 0) := by rw [hb1.block _ (Array.getElem?_eq_some_iff.1 hr2).1]; exact hr2
  go_wp2_with (first
    | (refine wpList_store_row rfl 80 _ _ rfl w.heap.size _ rfl rfl 80 _ hr3 info25 rfl (super_one 0 0 0 0) ?_))
  refine bodyPost_ret (v := .tuple #[superV 0 0 0 0, .int .i64 6]) (results_cell_tmp_row (p := 2) (u := 3) (ty := 80) Tryz.results20 _ _ w.heap.size 80 _ (0, 0) _ rfl (setRow_heap _ _ _ _ _ _ hr3) Tryz.underlying80 rfl info25) rfl ?_
  exact ⟨rfl, below_setRow (grew_trans HB2 hb1) (by omega) _⟩

set_option maxRecDepth 10000 in
set_option maxHeartbeats 1000000 in
theorem rdecodeSuper_bad (p : Option Addr) (c : Nat) (xs : List Int) (w : World) (h : BI w p 128 xs) (hnc : 128 ≤ c) (h2 : xs.take 4 = [98, 111, 108, 108]) (h3 : Num.numD xs 124 4 = Num.sum xs 124) (hm : SMay (rG xs) (rB xs) (rI xs) (rM xs)) (he : ¬ superS (rG xs) (rB xs) (rI xs) (rM xs) = xs) :
    Calls Tryz.prog 20 #[.slice p 128 c] w fun e w' => e = .returned (.tuple #[superV 0 0 0 0, .int .i64 6]) ∧ Below w.heap.size w w' := by
  have HB := grew_alloc w (superO 0 0 0 0)
  have hr0 := heap_new w (superO 0 0 0 0)
  have h0 : BI (w.alloc (superO 0 0 0 0)) p 128 xs := h.kept HB
  have h4 := (h0.take 4 (by decide)).conv c
  have hst := boll_str (h0.take 4 (by decide)).byt
  rw [show (xs.take 4 == [98, 111, 108, 108]) = true from beq_iff_eq.2 h2] at hst
  clear h2
  have hse := rsealed_ok p 128 c xs _ h0 hnc (by decide)
  rw [show (Num.numD xs (128 - 4) 4 == Num.sum xs (128 - 4)) = true from beq_iff_eq.2 h3] at hse
  have b4 := Num.numD_bd h.byt 1 5
  have g4 := rget_ok' p 128 c xs 4 1 _ h0 (by decide) (by decide) (by decide)
  have g5 := rget_ok' p 128 c xs 5 1 _ h0 (by decide) (by decide) (by decide)
  have g6 := rget_ok' p 128 c xs 6 1 _ h0 (by decide) (by decide) (by decide)
  have g8 := rget_ok' p 128 c xs 8 4 _ h0 (by decide) (by decide) (by decide)
  unfold rG rB rI rM at *
  generalize Num.numD xs 4 1 = a at *
  generalize Num.numD xs 5 1 = b at *
  generalize Num.numD xs 6 1 = i at *
  generalize Num.numD xs 8 4 = m at *
  have HB2 : Below w.heap.size w ((w.alloc (superO 0 0 0 0)).alloc (superO a (b + 1) i m)) := grew_trans HB (grew_alloc _ _)
  have hr2 : ((w.alloc (superO 0 0 0 0)).alloc (superO a (b + 1) i m)).heap[w.heap.size]? = some (superO 0 0 0 0) := at_old hr0
  have hx2 : ((w.alloc (superO 0 0 0 0)).alloc (superO a (b + 1) i m)).heap[w.heap.size + 1]? = some (superO a (b + 1) i m) := by
    have := heap_new (w.alloc (superO 0 0 0 0)) (superO a (b + 1) i m)
    rwa [size_alloc] at this
  have h02 := h0.kept (grew_alloc (w.alloc (superO 0 0 0 0)) (superO a (b + 1) i m))
  go_enter Tryz.func20, Tryz.ntmps20
  go_wp2_with (first
    | (go_at_call 56; refine same_at hse ?_)
    | (go_at_call_of 57 (Value.int .i64 8); refine same_at g8 ?_)
    | (go_at_call_of 57 (Value.int .i64 6); refine same_at g6 ?_)
    | (go_at_call_of 57 (Value.int .i64 5); refine same_at g5 ?_)
    | (go_at_call 57; refine same_at g4 ?_))
  clear g4 g5 g6 g8 hse hst h4 hr0 h0
  generalize (w.alloc (superO 0 0 0 0)).alloc (superO a (b + 1) i m) = w0 at *
  refine Calls.mono (rencodeSuper_yes _ _ _ _ hm _) ?_
  rintro e w1 ⟨g, cap, rfl, ho, hb1⟩
  have hr3 : w1.heap[w.heap.size]? = some (superO 0 0 0 0) := by rw [hb1.block _ (Array.getElem?_eq_some_iff.1 hr2).1]; exact hr2
  have hx3 : w1.heap[w.heap.size + 1]? = some (superO a (b + 1) i m) := by rw [hb1.block _ (Array.getElem?_eq_some_iff.1 hx2).1]; exact hx2
  have hq := same_any p _ 128 c 128 cap xs _ w1 (h02.kept hb1) (ho.bi (by omega) (superS_byt a (b + 1) i m))
  rw [show (xs == superS a (b + 1) i m) = false from beq_eq_false_iff_ne.2 (fun e => he e.symm)] at hq
  go_wp2_with (first
    | (go_at_call 59; refine same_at hq ?_)
    | (refine wpList_store_row rfl 80 _ _ rfl w.heap.size _ rfl rfl 80 _ hr3 info25 rfl (super_one 0 0 0 0) ?_))
  refine bodyPost_ret (v := .tuple #[superV 0 0 0 0, .int .i64 6]) (results_cell_tmp_row (p := 2) (u := 3) (ty := 80) Tryz.results20 _ _ w.heap.size 80 _ (0, 0) _ rfl (setRow_heap _ _ _ _ _ _ hr3) Tryz.underlying80 rfl info25) rfl ?_
  exact ⟨rfl, below_setRow (grew_trans HB2 hb1) (by omega) _⟩

set_option maxRecDepth 10000 in
set_option maxHeartbeats 1000000 in
theorem rdecodeSuper_yes (p : Option Addr) (c : Nat) (xs : List Int) (w : World) (h : BI w p 128 xs) (hnc : 128 ≤ c) (h2 : xs.take 4 = [98, 111, 108, 108]) (h3 : Num.numD xs 124 4 = Num.sum xs 124) (hm : SMay (rG xs) (rB xs) (rI xs) (rM xs)) (he : superS (rG xs) (rB xs) (rI xs) (rM xs) = xs) :
    Calls Tryz.prog 20 #[.slice p 128 c] w fun e w' => e = .returned (.tuple #[superV (rG xs) (rB xs) (rI xs) (rM xs), .int .i64 0]) ∧ Below w.heap.size w w' := by
  have HB := grew_alloc w (superO 0 0 0 0)
  have hr0 := heap_new w (superO 0 0 0 0)
  have h0 : BI (w.alloc (superO 0 0 0 0)) p 128 xs := h.kept HB
  have h4 := (h0.take 4 (by decide)).conv c
  have hst := boll_str (h0.take 4 (by decide)).byt
  rw [show (xs.take 4 == [98, 111, 108, 108]) = true from beq_iff_eq.2 h2] at hst
  clear h2
  have hse := rsealed_ok p 128 c xs _ h0 hnc (by decide)
  rw [show (Num.numD xs (128 - 4) 4 == Num.sum xs (128 - 4)) = true from beq_iff_eq.2 h3] at hse
  have b4 := Num.numD_bd h.byt 1 5
  have g4 := rget_ok' p 128 c xs 4 1 _ h0 (by decide) (by decide) (by decide)
  have g5 := rget_ok' p 128 c xs 5 1 _ h0 (by decide) (by decide) (by decide)
  have g6 := rget_ok' p 128 c xs 6 1 _ h0 (by decide) (by decide) (by decide)
  have g8 := rget_ok' p 128 c xs 8 4 _ h0 (by decide) (by decide) (by decide)
  unfold rG rB rI rM at *
  generalize Num.numD xs 4 1 = a at *
  generalize Num.numD xs 5 1 = b at *
  generalize Num.numD xs 6 1 = i at *
  generalize Num.numD xs 8 4 = m at *
  have HB2 : Below w.heap.size w ((w.alloc (superO 0 0 0 0)).alloc (superO a (b + 1) i m)) := grew_trans HB (grew_alloc _ _)
  have hr2 : ((w.alloc (superO 0 0 0 0)).alloc (superO a (b + 1) i m)).heap[w.heap.size]? = some (superO 0 0 0 0) := at_old hr0
  have hx2 : ((w.alloc (superO 0 0 0 0)).alloc (superO a (b + 1) i m)).heap[w.heap.size + 1]? = some (superO a (b + 1) i m) := by
    have := heap_new (w.alloc (superO 0 0 0 0)) (superO a (b + 1) i m)
    rwa [size_alloc] at this
  have h02 := h0.kept (grew_alloc (w.alloc (superO 0 0 0 0)) (superO a (b + 1) i m))
  go_enter Tryz.func20, Tryz.ntmps20
  go_wp2_with (first
    | (go_at_call 56; refine same_at hse ?_)
    | (go_at_call_of 57 (Value.int .i64 8); refine same_at g8 ?_)
    | (go_at_call_of 57 (Value.int .i64 6); refine same_at g6 ?_)
    | (go_at_call_of 57 (Value.int .i64 5); refine same_at g5 ?_)
    | (go_at_call 57; refine same_at g4 ?_))
  clear g4 g5 g6 g8 hse hst h4 hr0 h0
  generalize (w.alloc (superO 0 0 0 0)).alloc (superO a (b + 1) i m) = w0 at *
  refine Calls.mono (rencodeSuper_yes _ _ _ _ hm _) ?_
  rintro e w1 ⟨g, cap, rfl, ho, hb1⟩
  have hr3 : w1.heap[w.heap.size]? = some (superO 0 0 0 0) := by rw [hb1.block _ (Array.getElem?_eq_some_iff.1 hr2).1]; exact hr2
  have hx3 : w1.heap[w.heap.size + 1]? = some (superO a (b + 1) i m) := by rw [hb1.block _ (Array.getElem?_eq_some_iff.1 hx2).1]; exact hx2
  have hq := same_any p _ 128 c 128 cap xs _ w1 (h02.kept hb1) (ho.bi (by omega) (superS_byt a (b + 1) i m))
  rw [show (xs == superS a (b + 1) i m) = true from beq_iff_eq.2 he.symm] at hq
  clear he
  go_wp2_with (first
    | (go_at_call 59; refine same_at hq ?_)
    | (refine wpList_load_row rfl 80 _ rfl (w.heap.size + 1) rfl 80 _ (0, 0) _ hx3 Tryz.underlying80 rfl info25 ?_)
    | (refine wpList_store_row rfl 80 _ _ rfl w.heap.size _ rfl rfl 80 _ hr3 info25 rfl (super_one a (b + 1) i m) ?_))
  refine bodyPost_ret (v := .tuple #[superV a (b + 1) i m, .int .i64 0]) (results_cell_tmp_row (p := 2) (u := 3) (ty := 80) Tryz.results20 _ _ w.heap.size 80 _ (0, 0) _ rfl (setRow_heap _ _ _ _ _ _ hr3) Tryz.underlying80 rfl info25) rfl ?_
  exact ⟨rfl, below_setRow (grew_trans HB2 hb1) (by omega) _⟩

set_option maxHeartbeats 400000 in
theorem rdecodeSuper_len (p : Option Addr) (n c : Nat) (w : World) (hn : n ≤ 140737488355328) (h1 : ¬ n = 128) :
    Calls Tryz.prog 20 #[.slice p n c] w fun e w' => e = .returned (.tuple #[superV 0 0 0 0, .int .i64 6]) ∧ Below w.heap.size w w' := by
  have HB := grew_alloc w (superO 0 0 0 0)
  have hr0 := heap_new w (superO 0 0 0 0)
  have hI : ¬ (n : Int) = 128 := by omega
  go_enter Tryz.func20, Tryz.ntmps20
  go_wp2_with (refine wpList_store_row rfl 80 _ _ rfl w.heap.size _ rfl rfl 80 _ hr0 info25 rfl (super_one 0 0 0 0) ?_)
  refine bodyPost_ret (v := .tuple #[superV 0 0 0 0, .int .i64 6]) (results_cell_tmp_row (p := 2) (u := 3) (ty := 80) Tryz.results20 _ _ w.heap.size 80 _ (0, 0) _ rfl (setRow_heap _ _ _ _ _ _ hr0) Tryz.underlying80 rfl info25) rfl ?_
  exact ⟨rfl, below_setRow HB (by omega) _⟩

theorem rdecodeSuper_ok (p : Option Addr) (n c : Nat) (xs : List Int) (w : World) (h : BI w p n xs) (hnc : n ≤ c) :
    Calls Tryz.prog 20 #[.slice p n c] w fun e w' => e = .returned (.tuple #[decV n xs, .int .i64 (decE n xs)]) ∧ Below w.heap.size w w' := by
  by_cases h1 : n = 128
  · subst h1
    by_cases h2 : xs.take 4 = [98, 111, 108, 108]
    · by_cases h3 : Num.numD xs 124 4 = Num.sum xs 124
      · by_cases hg : SGood xs (rG xs) (rB xs) (rI xs) (rM xs)
        · have e1 : decE 128 xs = 0 := by unfold decE; rw [if_neg (by simp), if_neg (by simp [h2]), if_neg (by simp [h3]), if_pos hg]
          have e2 : decV 128 xs = superV (rG xs) (rB xs) (rI xs) (rM xs) := by unfold decV; rw [if_pos e1]
          rw [e1, e2]
          exact rdecodeSuper_yes p c xs w h hnc h2 h3 hg.1 hg.2
        · have e1 : decE 128 xs = 6 := by unfold decE; rw [if_neg (by simp), if_neg (by simp [h2]), if_neg (by simp [h3]), if_neg hg]
          have e2 : decV 128 xs = superV 0 0 0 0 := by unfold decV; rw [e1]; rfl
          rw [e1, e2]
          by_cases hm : SMay (rG xs) (rB xs) (rI xs) (rM xs)
          · exact rdecodeSuper_bad p c xs w h hnc h2 h3 hm (fun e => hg ⟨hm, e⟩)
          · exact rdecodeSuper_no p c xs w h hnc h2 h3 hm
      · have e1 : decE 128 xs = 30 := by unfold decE; rw [if_neg (by simp), if_neg (by simp [h2]), if_pos h3]
        have e2 : decV 128 xs = superV 0 0 0 0 := by unfold decV; rw [e1]; rfl
        rw [e1, e2]
        exact rdecodeSuper_sum p c xs w h hnc h2 h3
    · have e1 : decE 128 xs = 31 := by unfold decE; rw [if_neg (by simp), if_pos h2]
      have e2 : decV 128 xs = superV 0 0 0 0 := by unfold decV; rw [e1]; rfl
      rw [e1, e2]
      exact rdecodeSuper_magic p c xs w h hnc h2
  · have e1 : decE n xs = 6 := by unfold decE; rw [if_pos h1]
    have e2 : decV n xs = superV 0 0 0 0 := by unfold decV; rw [e1]; rfl
    rw [e1, e2]
    exact rdecodeSuper_len p n c w h.big h1

end Go.Proofs.YtijbbkkapimljaaGreat.Mk
