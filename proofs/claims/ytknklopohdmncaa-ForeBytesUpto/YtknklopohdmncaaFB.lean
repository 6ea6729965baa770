/- Bytes and rows of bytes in memory (gathered from the texts of the disk). -/
import Derived.Test.YtknklopohdmncaaChecked
import Derived.Lib.AppendZerosOnto
import Derived.Deep.RegionHeld3
import Derived.WalkKit
import Derived.WalkSpells
import Derived.WalkLawsBesides
import Derived.BigQuiet
import Derived.Deep.QuietTactic
import Derived.Deep.RegionLaw
import Derived.Deep.AppendLies
import Derived.Laws.CopyOwn
import Derived.Lib.Bytes
import Derived.Deep.MidRow
import Derived.Deep.WholeRow
import Derived.Maps.OwnSet
import Derived.Maps.Views
import Derived.Maps.OwnOps
namespace Go.Proofs.Ytknklopohdmncaa
open Go.RowKit Go.Maps

theorem same_at {P : Program} {f : FuncId} {args : Array Value} {w : World} {v : Value} {Q : Ending → World → Prop} (h : Calls P f args w fun e w' => e = .returned v ∧ w' = w) (hq : Q (.returned v) w) : Calls P f args w Q :=
  h.mono (by rintro e w' ⟨rfl, rfl⟩; exact hq)

theorem at_new {w : World} {k : Nat} {o : Obj} (h : k = w.heap.size) : (w.alloc o).heap[k]? = some o := by
  subst h; exact heap_alloc_new w o

theorem info5 : (Try.prog.info? 5).map (fun i => (i.zero, i.size, i.bytes)) = some (some (.int .u8 0), 1, 1) := by kernel_rfl

namespace Num
def Byt (xs : List Int) : Prop := ∀ i, 0 ≤ xs.getD i 0 ∧ xs.getD i 0 < 256

end Num
/-- The slice at p, of n bytes, holds xs. -/
structure BI (w : World) (p : Option Addr) (n : Nat) (xs : List Int) : Prop where
  len : xs.length = n
  big : n ≤ 140737488355328
  byt : Num.Byt xs
  cells : 0 < n → ∃ b o, p = some ⟨b, o, none⟩ ∧ ∀ i, i < n → w.cell? ⟨b, o + i, none⟩ = some (.int .u8 (xs.getD i 0))

theorem lt_of_cell {w : World} {b o : Nat} {v : Value} (h : w.cell? ⟨b, o, none⟩ = some v) : b < w.heap.size := by
  by_cases hb : b < w.heap.size
  · exact hb
  · have : w.heap[b]? = none := Array.getElem?_eq_none (by omega)
    simp [World.cell?, this] at h

theorem BI.kept {w w' : World} {p : Option Addr} {n : Nat} {xs : List Int} (h : BI w p n xs) (hb : Below w.heap.size w w') : BI w' p n xs := by
  refine ⟨h.len, h.big, h.byt, fun hn => ?_⟩
  obtain ⟨b, o, rfl, hc⟩ := h.cells hn
  refine ⟨b, o, rfl, fun i hi => ?_⟩
  have hlt := lt_of_cell (hc i hi)
  rw [hb.cell (p := ⟨b, o + i, none⟩) hlt]
  exact hc i hi

/-- Block g, from B on, is the call's own row of capacity cap whose first n bytes are xs. -/
def Own (B : Nat) (w : World) (g n cap : Nat) (xs : List Int) : Prop :=
  w.ownsRow B 5 1 (.slice (some ⟨g, 0, none⟩) n cap) n (xs.map (Value.int .u8))

theorem Own.len {B : Nat} {w : World} {g n cap : Nat} {xs : List Int} (h : Own B w g n cap xs) : xs.length = n := by
  have := h.1
  simpa using this

theorem Own.spot {B : Nat} {w : World} {g n cap : Nat} {xs : List Int} (h : Own B w g n cap xs) : B ≤ g ∧ g < w.heap.size := World.ownsRow.lt h g rfl

theorem Own.cell {B : Nat} {w : World} {g n cap : Nat} {xs : List Int} (h : Own B w g n cap xs) (j : Nat) (hj : j < n) : w.cell? ⟨g, j, none⟩ = some (.int .u8 (xs.getD j 0)) := by
  have h1 := World.ownsRow.cellAt h j (by omega)
  rw [h1, List.getElem?_map, List.getD_eq_getElem?_getD, List.getElem?_eq_getElem (show j < xs.length by rw [h.len]; exact hj)]
  rfl

theorem Own.bi {B : Nat} {w : World} {g n cap : Nat} {xs : List Int} (h : Own B w g n cap xs) (hb : n ≤ 140737488355328) (hx : Num.Byt xs) : BI w (some ⟨g, 0, none⟩) n xs :=
  ⟨h.len, hb, hx, fun _ => ⟨g, 0, rfl, fun i hi => by rw [Nat.zero_add]; exact h.cell i hi⟩⟩

theorem Own.kept {B : Nat} {w w' : World} {g n cap : Nat} {xs : List Int} (h : Own B w g n cap xs) (hb : Below w.heap.size w w') : Own B w' g n cap xs := by
  refine ⟨h.1, ?_⟩
  rcases h.2 with ⟨h', _⟩ | ⟨g', cap', cur, h', hbg, hg, rest⟩
  · simp at h'
  · have hlt : g' < w.heap.size := (Array.getElem?_eq_some_iff.1 hg).1
    exact .inr ⟨g', cap', cur, h', hbg, by rw [hb.block g' hlt]; exact hg, rest⟩

theorem set_map (xs : List Int) (j : Nat) (y : Int) : (xs.map (Value.int .u8)).set j (.int .u8 y) = (xs.set j y).map (Value.int .u8) := by
  rw [List.map_set]

theorem Own.set {B : Nat} {w : World} {g n cap : Nat} {xs : List Int} (h : Own B w g n cap xs) (j : Nat) (y : Int) : Own B (w.setCell ⟨g, j, none⟩ (.int .u8 y)) g n cap (xs.set j y) := by
  have := (World.ownsRow.stored h j (.int .u8 y)).1
  rw [set_map] at this
  exact this

theorem one_cells (xs : List Int) : ∀ u ∈ xs.map (Value.int .u8), u.oneCell' = true := by
  intro u hu; obtain ⟨x, _, rfl⟩ := List.mem_map.1 hu; rfl

theorem BI.src {w : World} {p : Option Addr} {n : Nat} {xs : List Int} (h : BI w p n xs) : 0 < n → ∃ ad, p = some ad ∧ ∀ j v, (xs.map (Value.int .u8))[j]? = some v → w.cell? (ad.add j) = some v := by
  intro hn
  obtain ⟨b, o, rfl, hc⟩ := h.cells hn
  refine ⟨_, rfl, fun j v hj => ?_⟩
  have hjl : j < xs.length := by
    have := (List.getElem?_eq_some_iff.1 hj).1
    simpa using this
  have e : (⟨b, o, none⟩ : Addr).add j = ⟨b, o + j, none⟩ := by unfold Addr.add; split <;> simp_all
  rw [e, hc j (by rw [← h.len]; exact hjl), ← hj, List.getElem?_map, List.getD_eq_getElem?_getD, List.getElem?_eq_getElem hjl]
  rfl

theorem BI.src' {w : World} {a : Addr} {n : Nat} {xs : List Int} (h : BI w (some a) n xs) : ∀ j v, (xs.map (Value.int .u8))[j]? = some v → w.cell? (a.add j) = some v := by
  intro j v hj
  have hjl : j < xs.length := by
    have := (List.getElem?_eq_some_iff.1 hj).1
    simpa using this
  obtain ⟨ad, e, hc⟩ := h.src (by rw [← h.len]; omega)
  cases e
  exact hc j v hj

theorem BI.conv {w : World} {p : Option Addr} {n : Nat} {xs : List Int} (h : BI w p n xs) (c : Nat) : (convert 22 9 (.slice p n c)).run Try.prog w = .ok (.string (strOfNums xs)) w := by
  rcases Nat.eq_zero_or_pos n with hn | hn
  · subst hn
    obtain rfl : xs = [] := List.eq_nil_of_length_eq_zero h.len
    cases p with
    | none => exact run_convert_bytes_nil (P := Try.prog) w 22 5 Try.underlying22 Try.underlying5 0 c 9 Try.underlying9
    | some a =>
      rw [run_convert_bytes_string w 22 9 5 _ _ _ Try.underlying22 Try.underlying5 Try.underlying9]
      exact run_bytesToString w a 0 c [] (by simp [loadCells, loadCellsFrom])
  · obtain ⟨b, o, rfl, hc⟩ := h.cells hn
    exact run_convert_bytes_arg (P := Try.prog) w 22 5 Try.underlying22 Try.underlying5 b o n c xs h.len hc 9 Try.underlying9

theorem byt_mem {xs : List Int} (h : Num.Byt xs) : ∀ x ∈ xs, 0 ≤ x ∧ x < 256 := by
  intro x hx
  obtain ⟨i, hi, rfl⟩ := List.getElem_of_mem hx
  have := h i
  rw [List.getD_eq_getElem?_getD, List.getElem?_eq_getElem hi] at this
  exact this

theorem back_bytes {xs : List Int} (h : Num.Byt xs) : (Lib.bytesOf xs).map (fun b => (b.toNat : Int)) = xs := by
  unfold Lib.bytesOf
  rw [List.map_map]
  conv => rhs; rw [← List.map_id xs]
  apply List.map_congr_left
  intro x hx
  have := byt_mem h x hx
  simp
  omega

theorem str_beq {xs ys : List Int} (hx : Num.Byt xs) (hy : Num.Byt ys) : ((strOfNums xs).toList == (strOfNums ys).toList) = (xs == ys) := by
  rw [Lib.strOfNums_toList, Lib.strOfNums_toList]
  rw [Bool.eq_iff_iff, beq_iff_eq, beq_iff_eq]
  constructor
  · intro h
    rw [← back_bytes hx, ← back_bytes hy, h]
  · rintro rfl; rfl

theorem ret_bool {a b : Bool} (h : a = b) : Ending.returned (.bool a) = .returned (.bool b) := by rw [h]

set_option maxHeartbeats 400000 in
theorem equal_any (p q : Option Addr) (n c m d : Nat) (xs ys : List Int) (w : World) (h : BI w p n xs) (k : BI w q m ys) :
    Calls Try.prog 8 #[.slice p n c, .slice q m d] w fun e w' => e = .returned (.bool (xs == ys)) ∧ w' = w := by
  have h1 := h.conv c
  have h2 := k.conv d
  go_enter Try.func8, Try.ntmps8
  go_wp2
  go_ret
  exact ⟨ret_bool (str_beq h.byt k.byt), rfl⟩

theorem eqlNil (w : World) (a : Option Addr) (n c n' c' : Nat) : (binOp .eql 22 (.slice a n c) (.slice none n' c')).run Try.prog w = .ok (.bool a.isNone) w := Lib.run_eql_slice_nil w _ _ a n c n' c' Try.underlying22

theorem own_shape {w : World} {B n : Nat} {v : Value} {xs : List Int} (h : w.ownsRow B 5 1 v n (xs.map (Value.int .u8))) (hv : v ≠ .slice none 0 0) : ∃ g cap, v = .slice (some ⟨g, 0, none⟩) n cap ∧ Own B w g n cap xs := by
  rcases h.2 with ⟨h', _⟩ | ⟨g', cap', cur, h', r⟩
  · exact absurd h' hv
  · exact ⟨g', cap', h', by subst h'; exact h⟩

theorem getD_take (xs : List Int) (m i : Nat) (h : i < m) : (xs.take m).getD i 0 = xs.getD i 0 := by
  simp [List.getD_eq_getElem?_getD, h]

theorem getD_drop' (xs : List Int) (m i : Nat) : (xs.drop m).getD i 0 = xs.getD (m + i) 0 := by
  simp [List.getD_eq_getElem?_getD, List.getElem?_drop]

theorem byt_take {xs : List Int} (h : Num.Byt xs) (m : Nat) : Num.Byt (xs.take m) := by
  intro i
  by_cases hi : i < m
  · rw [getD_take xs m i hi]; exact h i
  · rw [List.getD_eq_getElem?_getD, List.getElem?_eq_none (by simp; omega)]; simp

theorem byt_drop {xs : List Int} (h : Num.Byt xs) (m : Nat) : Num.Byt (xs.drop m) := by
  intro i
  rw [getD_drop']; exact h _

theorem BI.take {w : World} {p : Option Addr} {n : Nat} {xs : List Int} (h : BI w p n xs) (m : Nat) (hm : m ≤ n) : BI w p m (xs.take m) := by
  refine ⟨by rw [List.length_take, h.len]; omega, by have := h.big; omega, byt_take h.byt m, fun h0 => ?_⟩
  obtain ⟨b, o, rfl, hc⟩ := h.cells (by omega)
  exact ⟨b, o, rfl, fun i hi => by rw [getD_take xs m i hi]; exact hc i (by omega)⟩

theorem BI.drop {w : World} {b o : Nat} {n : Nat} {xs : List Int} (h : BI w (some ⟨b, o, none⟩) n xs) (m : Nat) (hm : m ≤ n) : BI w (some ⟨b, o + m, none⟩) (n - m) (xs.drop m) := by
  refine ⟨by rw [List.length_drop, h.len], by have := h.big; omega, byt_drop h.byt m, fun h0 => ?_⟩
  obtain ⟨b', o', e, hc⟩ := h.cells (by omega)
  cases e
  exact ⟨b, o + m, rfl, fun i hi => by rw [getD_drop', Nat.add_assoc]; exact hc _ (by omega)⟩

theorem ext_getD {xs ys : List Int} (hl : xs.length = ys.length) (h : ∀ i, i < xs.length → xs.getD i 0 = ys.getD i 0) : xs = ys := by
  apply List.ext_getElem hl
  intro i h1 h2
  have := h i h1
  simpa [List.getD_eq_getElem?_getD, List.getElem?_eq_getElem h1, List.getElem?_eq_getElem h2] using this

/-- Only blocks of X have turned, of those that were. -/
structure Frame (X : Nat → Prop) (w w' : World) : Prop where
  os : w'.os = w.os
  tape : w'.tape = w.tape
  output : w'.output = w.output
  size : w.heap.size ≤ w'.heap.size
  block : ∀ k, k < w.heap.size → ¬ X k → w'.heap[k]? = w.heap[k]?

theorem Frame.refl (X : Nat → Prop) (w : World) : Frame X w w := ⟨rfl, rfl, rfl, Nat.le_refl _, fun _ _ _ => rfl⟩

theorem Frame.trans {X : Nat → Prop} {a b c : World} (h : Frame X a b) (k : Frame X b c) : Frame X a c :=
  ⟨k.os.trans h.os, k.tape.trans h.tape, k.output.trans h.output, Nat.le_trans h.size k.size, fun i hi hx => (k.block i (Nat.lt_of_lt_of_le hi h.size) hx).trans (h.block i hi hx)⟩

theorem Frame.mono {X Y : Nat → Prop} {a b : World} (h : Frame X a b) (hxy : ∀ k, k < a.heap.size → X k → Y k) : Frame Y a b :=
  ⟨h.os, h.tape, h.output, h.size, fun i hi hx => h.block i hi (fun x => hx (hxy i hi x))⟩

theorem Frame.below {X : Nat → Prop} {B : Nat} {a b : World} (h : Frame X a b) (hB : B ≤ a.heap.size) (hx : ∀ k, X k → B ≤ k) : Below B a b :=
  ⟨h.os, h.tape, h.output, h.size, fun i hi => h.block i (Nat.lt_of_lt_of_le hi hB) (fun x => by have := hx i x; omega)⟩

theorem frame_of_below {X : Nat → Prop} {a b : World} (h : Below a.heap.size a b) : Frame X a b := ⟨h.os, h.tape, h.output, h.size, fun i hi _ => h.block i hi⟩

theorem frame_of_grown {X : Nat → Prop} {a b : World} {row : Option Nat} (h : a.grownBy b row) (hx : ∀ k, row = some k → X k) : Frame X a b := ⟨h.os, h.tape, h.output, h.size, fun i hi hn => h.block i hi (fun e => hn (hx i e.symm))⟩

theorem Frame.setCell {X : Nat → Prop} (w : World) {p : Addr} (u : Value) (hx : X p.block) : Frame X w (w.setCell p u) :=
  ⟨rfl, rfl, rfl, by simp, fun i _ hn => Below.heap_setCell w p u i (fun e => hn (e ▸ hx))⟩

theorem ownsRow_kept {w w' : World} {B : Nat} {e : TypeId} {s : Nat} {v : Value} {n : Nat} {L : List Value} (h : w.ownsRow B e s v n L) (hb : ∀ k, v.ownBlock = some k → w'.heap[k]? = w.heap[k]?) : w'.ownsRow B e s v n L := by
  refine ⟨h.1, ?_⟩
  rcases h.2 with h' | ⟨g', cap', cur, rfl, hbg, hg, rest⟩
  · exact .inl h'
  · exact .inr ⟨g', cap', cur, rfl, hbg, (hb g' rfl).trans hg, rest⟩

theorem info22 : (Try.prog.info? 22).map (fun i => (i.zero, i.size, i.bytes)) = some (some (.slice none 0 0), 1, 24) := by kernel_rfl

/-- The slice at p, of n slices of bytes, holds L. -/
structure IB (w : World) (p : Option Addr) (n : Nat) (L : List (List Int)) : Prop where
  len : L.length = n
  big : n ≤ 140737488355328
  cells : 0 < n → ∃ b o, p = some ⟨b, o, none⟩ ∧ ∀ i x, L[i]? = some x → ∃ q m c, w.cell? ⟨b, o + i, none⟩ = some (.slice q m c) ∧ BI w q m x

set_option maxHeartbeats 1000000 in
theorem equalFunc_ok (p1 p2 : Option Addr) (n1 c1 n2 c2 : Nat) (L1 L2 : List (List Int)) (w : World) (h1 : IB w p1 n1 L1) (h2 : IB w p2 n2 L2) :
    Calls Try.prog 14 #[.slice p1 n1 c1, .slice p2 n2 c2, .func (.func 8) #[] #[]] w fun e w' => e = .returned (.bool (L1 == L2)) ∧ w' = w := by
  have hl1 := h1.len
  have hl2 := h2.len
  have hg1 := h1.big
  by_cases hne : n1 = n2
  · subst hne
    go_enter Try.func14, Try.ntmps14
    go_wp2_with fail
    go_loopw [17] (fun i wr => wr = w ∧ ∃ j : Nat, j ≤ n1 ∧ i = .int .i64 (j : Int) ∧ ∀ k, k < j → L1[k]? = L2[k]?) (fun i _ => n1 - (intOf i).toNat)
    case atStart => exact ⟨rfl, 0, by omega, rfl, by intro k hk; omega⟩
    case round =>
      obtain ⟨rfl, j, hj, rfl, heq⟩ := hrel
      by_cases hlt : j < n1
      · obtain ⟨b1, o1, rfl, hc1⟩ := h1.cells (by omega)
        obtain ⟨b2, o2, rfl, hc2⟩ := h2.cells (by omega)
        obtain ⟨x, hx⟩ : ∃ x, L1[j]? = some x := ⟨L1[j], List.getElem?_eq_getElem (by omega)⟩
        obtain ⟨y, hy⟩ : ∃ y, L2[j]? = some y := ⟨L2[j], List.getElem?_eq_getElem (by omega)⟩
        obtain ⟨q1, m1, d1, e1, hb1⟩ := hc1 j x hx
        obtain ⟨q2, m2, d2, e2, hb2⟩ := hc2 j y hy
        clear hc1 hc2
        go_wp2_with fail
        refine same_at (equal_any q1 q2 m1 d1 m2 d2 x y wr hb1 hb2) ?_
        cases hxy : (x == y) with
        | true =>
          have hxy' : x = y := by simpa using hxy
          go_wp2
          go_roundw
          case rel =>
            refine ⟨trivial, j + 1, by omega, by go_num, ?_⟩
            intro k hk
            by_cases e : k = j
            · subst e; rw [hx, hy, hxy']
            · exact heq k (by omega)
          case measure => simp [intOf]; omega
        | false =>
          have hxy' : ¬ x = y := by simpa using hxy
          go_wp2
          go_ret
          refine ⟨ret_bool ?_, rfl⟩
          symm
          rw [beq_eq_false_iff_ne]
          rintro rfl
          rw [hx] at hy
          cases hy
          exact hxy' rfl
      · obtain rfl : j = n1 := by omega
        go_wp2
        go_ret
        refine ⟨ret_bool ?_, rfl⟩
        symm
        rw [beq_iff_eq]
        apply List.ext_getElem?
        intro k
        by_cases hk : k < j
        · exact heq k hk
        · rw [List.getElem?_eq_none (by omega), List.getElem?_eq_none (by omega)]
  · have hne' : ¬ (n1 : Int) = (n2 : Int) := by omega
    go_enter Try.func14, Try.ntmps14
    go_wp2
    go_ret
    refine ⟨ret_bool ?_, rfl⟩
    symm
    rw [beq_eq_false_iff_ne]
    rintro rfl
    omega

set_option maxHeartbeats 400000 in
theorem sameImage_ok (p1 p2 : Option Addr) (n1 c1 n2 c2 : Nat) (L1 L2 : List (List Int)) (w : World) (h1 : IB w p1 n1 L1) (h2 : IB w p2 n2 L2) :
    Calls Try.prog 7 #[.slice p1 n1 c1, .slice p2 n2 c2] w fun e w' => e = .returned (.bool (L1 == L2)) ∧ w' = w := by
  go_enter Try.func7, Try.ntmps7
  go_wp2_with fail
  refine same_at (equalFunc_ok p1 p2 n1 c1 n2 c2 L1 L2 w h1 h2) ?_
  go_wp2
  go_ret
  exact ⟨rfl, rfl⟩

set_option maxHeartbeats 400000 in
theorem bclone_some (a : Addr) (n c : Nat) (xs : List Int) (w : World) (h : BI w (some a) n xs) :
    Calls Try.prog 4 #[.slice (some a) n c] w fun e w' => ∃ g cap, e = .returned (.slice (some ⟨g, 0, none⟩) n cap) ∧ Own w.heap.size w' g n cap xs ∧ Below w.heap.size w w' := by
  obtain ⟨i0, hi, hz0, hz1, hz2⟩ := info_parts info5
  have hbig := h.big
  have hlen := h.len
  have q22 := eqlNil
  have hb0 := (Below.refl w.heap.size w).alloc (Nat.le_refl _) (Obj.cells #[] 5)
  go_enter Try.func4, Try.ntmps4
  go_wp2_with (at_builtin; refine wpList_append_own _ rfl _ _ 22 rfl w.heap.size 5 i0 (.int .u8 0) 1 1 Try.underlying22 hi hz0 hz1 hz2 rfl (by decide) _ _ _ rfl (World.ownsRow_made w #[] 0 (Nat.le_refl _) (Nat.zero_le _) rfl) a n c (xs.map (Value.int .u8)) rfl ?c1 ?c2 ?c3 ?c4 ?c5 ?c6 ?_)
  case c1 => simp [hlen]
  case c2 => exact (h.kept hb0).src'
  case c3 => exact one_cells xs
  case c4 => unfold maxLen; omega
  case c5 => omega
  case c6 => simp
  intro v' w1 hown hgrow hnil
  obtain ⟨g, cap, hv, ho⟩ := own_shape hown (by first | exact hnil | (intro e; exact absurd (hnil.1 e).1 (by simp)))
  rw [hv]
  clear hown hnil
  have hb1 := hb0.grown hgrow (by simp) (by intro k hk; simp [Value.ownBlock] at hk; omega)
  go_wp2
  go_ret
  exact ⟨g, cap, rfl, ho, hb1⟩

set_option maxHeartbeats 400000 in
theorem bclone_nil (n c : Nat) (w : World) :
    Calls Try.prog 4 #[.slice none n c] w fun e w' => e = .returned (.slice none 0 0) ∧ w' = w := by
  have q22 := eqlNil
  go_enter Try.func4, Try.ntmps4
  go_wp2
  go_ret
  exact ⟨rfl, rfl⟩

theorem BI.nil_zero {w : World} {n : Nat} {xs : List Int} (h : BI w none n xs) : n = 0 ∧ xs = [] := by
  have hn : n = 0 := by
    rcases Nat.eq_zero_or_pos n with h0 | h0
    · exact h0
    · obtain ⟨b, o, e, _⟩ := h.cells h0
      cases e
  exact ⟨hn, List.eq_nil_of_length_eq_zero (by rw [h.len, hn])⟩

/-- A copy, as a row of the call's own (or nil, of nil). -/
theorem bclone_any (p : Option Addr) (n c : Nat) (xs : List Int) (w : World) (h : BI w p n xs) :
    Calls Try.prog 4 #[.slice p n c] w fun e w' => ∃ v, e = .returned v ∧ w'.ownsRow w.heap.size 5 1 v n (xs.map (Value.int .u8)) ∧ Below w.heap.size w w' := by
  cases p with
  | none =>
    obtain ⟨rfl, rfl⟩ := h.nil_zero
    exact (bclone_nil 0 c w).mono fun e w' ⟨he, hw⟩ => ⟨_, he, World.ownsRow_nil _ _ _ _, by rw [hw]; exact Below.refl _ _⟩
  | some a =>
    exact (bclone_some a n c xs w h).mono fun e w' ⟨g, cap, he, ho, hb⟩ => ⟨_, he, ho, hb⟩

theorem owns_ne {w : World} {B B' : Nat} {e e' : TypeId} {s s' n n' : Nat} {v v' : Value} {L L' : List Value} (h : w.ownsRow B e s v n L) (h' : w.ownsRow B' e' s' v' n' L') (hne : e ≠ e') {k : Nat} (hk : v.ownBlock = some k) : v'.ownBlock ≠ some k := by
  intro hk'
  rcases h.2 with ⟨rfl, _⟩ | ⟨g1, cap1, cur1, rfl, _, hg1, _⟩
  · simp [Value.ownBlock] at hk
  rcases h'.2 with ⟨rfl, _⟩ | ⟨g2, cap2, cur2, rfl, _, hg2, _⟩
  · simp [Value.ownBlock] at hk'
  simp only [Value.ownBlock, Option.some.injEq] at hk hk'
  subst hk
  subst hk'
  rw [hg1] at hg2
  simp only [Option.some.injEq, Obj.cells.injEq] at hg2
  exact hne hg2.2.1

theorem row_case {w : World} {B : Nat} {e : TypeId} {s n : Nat} {v : Value} {L : List Value} (h : w.ownsRow B e s v n L) : ∃ p c, v = .slice p n c ∧ (0 < n → ∃ g, p = some ⟨g, 0, none⟩) := by
  rcases h.2 with ⟨rfl, rfl⟩ | ⟨g, cap, cur, rfl, _⟩
  · exact ⟨_, _, rfl, fun h => by omega⟩
  · exact ⟨_, _, rfl, fun _ => ⟨g, rfl⟩⟩

set_option maxHeartbeats 400000 in
theorem spoil_ok {B : Nat} {w : World} {v : Value} {n : Nat} {xs : List Int} (h : w.ownsRow B 5 1 v n (xs.map (Value.int .u8))) (hbig : n ≤ 140737488355328) :
    Calls Try.prog 16 #[v] w fun e w' => (∃ u, e = .returned u) ∧ Frame (fun k => v.ownBlock = some k) w w' := by
  obtain ⟨p, c, rfl, hp⟩ := row_case h
  have hl : xs.length = n := by have := h.1; simpa using this
  go_enter Try.func16, Try.ntmps16
  go_wp2_with fail
  go_loopw [5] (fun i wr => ∃ (j : Nat) (ys : List Int), j ≤ n ∧ i = .int .i64 (j : Int) ∧ wr.ownsRow B 5 1 (.slice p n c) n (ys.map (Value.int .u8)) ∧ Frame (fun k => (Value.slice p n c).ownBlock = some k) w wr) (fun i _ => n - (intOf i).toNat)
  case atStart => exact ⟨0, xs, by omega, rfl, h, Frame.refl _ _⟩
  case round =>
    clear h
    obtain ⟨j, ys, hj, rfl, ho, hf⟩ := hrel
    by_cases hlt : j < n
    · obtain ⟨g, rfl⟩ := hp (by omega)
      have hcell := Own.cell (B := B) (w := wr) (cap := c) ho j hlt
      have hfz := ho.frozenAt j
      generalize ys.getD j 0 = y at hcell
      have hjI : (j : Int) < (n : Int) := by omega
      have hst := fun u => Own.set (B := B) (w := wr) (cap := c) ho j u
      have HST := (show Hid _ from hst)
      clear hst
      go_wp2
      go_roundw
      case rel => exact ⟨j + 1, _, by omega, by go_num, HST.out _, hf.trans (Frame.setCell wr _ rfl)⟩
      case measure => simp [intOf]; omega
    · obtain rfl : j = n := by omega
      go_wp2
      first | go_end0 | (refine bodyPost_ret (results_none rfl _ _ _) rfl ?_)
      exact ⟨⟨_, rfl⟩, hf⟩

/-- v is a list of n slices of bytes of the call's own, L; no two share a row. -/
structure PI (B : Nat) (w : World) (v : Value) (n : Nat) (vs : List Value) (L : List (List Int)) : Prop where
  row : w.ownsRow B 22 1 v n vs
  len : L.length = n
  el : ∀ (i : Nat) (u : Value) (xs : List Int), vs[i]? = some u → L[i]? = some xs → ∃ p m c, u = .slice p m c ∧ w.ownsRow B 5 1 (.slice p m c) m (xs.map (Value.int .u8)) ∧ m ≤ 140737488355328 ∧ Num.Byt xs
  ne : ∀ (i j : Nat) (u u' : Value) (k : Nat), vs[i]? = some u → vs[j]? = some u' → u.ownBlock = some k → u'.ownBlock = some k → i = j

theorem own_bi {w : World} {H n c : Nat} {p : Option Addr} {xs : List Int} (h : w.ownsRow H 5 1 (.slice p n c) n (xs.map (Value.int .u8))) (hn : n ≤ 140737488355328) (hx : Num.Byt xs) : BI w p n xs := by
  have hl : xs.length = n := by have := h.1; simpa using this
  refine ⟨hl, hn, hx, fun h0 => ?_⟩
  rcases h.2 with ⟨e, e0⟩ | ⟨g, cap, cur, e, _⟩
  · omega
  · cases e
    exact ⟨g, 0, rfl, fun i hi => by rw [Nat.zero_add]; exact Own.cell (B := H) (cap := c) h i hi⟩

theorem PI.vlen {B : Nat} {w : World} {v : Value} {n : Nat} {vs : List Value} {L : List (List Int)} (h : PI B w v n vs L) : vs.length = n := by have := h.row.1; simpa using this

theorem PI.ib {B : Nat} {w : World} {v : Value} {n : Nat} {vs : List Value} {L : List (List Int)} (h : PI B w v n vs L) (hn : n ≤ 140737488355328) : ∃ p c, v = .slice p n c ∧ IB w p n L := by
  have hl := h.vlen
  obtain ⟨p, c, e, hp⟩ := row_case h.row
  refine ⟨p, c, e, h.len, hn, fun h0 => ?_⟩
  obtain ⟨g, rfl⟩ := hp h0
  refine ⟨g, 0, rfl, fun i xs hx => ?_⟩
  have hi : i < n := by have := (List.getElem?_eq_some_iff.1 hx).1; have := h.len; omega
  have hvi : vs[i]? = some (vs[i]'(by omega)) := List.getElem?_eq_getElem _
  obtain ⟨q, m, d, eu, ho, hm, hb⟩ := h.el i _ xs hvi hx
  refine ⟨q, m, d, ?_, own_bi ho hm hb⟩
  have hr := h.row
  rw [e] at hr
  rw [Nat.zero_add, hr.cellAt i (by omega), hvi, eu]

theorem PI.kept {B : Nat} {w w' : World} {v : Value} {n : Nat} {vs : List Value} {L : List (List Int)} (h : PI B w v n vs L) (hb : ∀ k, B ≤ k → k < w.heap.size → w'.heap[k]? = w.heap[k]?) : PI B w' v n vs L := by
  refine ⟨ownsRow_kept h.row (fun k hk => hb k (h.row.lt k hk).1 (h.row.lt k hk).2), h.len, fun i u xs hu hx => ?_, h.ne⟩
  obtain ⟨q, m, d, eu, ho, hm, hbt⟩ := h.el i u xs hu hx
  exact ⟨q, m, d, eu, ownsRow_kept ho (fun k hk => hb k (ho.lt k hk).1 (ho.lt k hk).2), hm, hbt⟩

set_option maxRecDepth 10000 in
set_option maxHeartbeats 1000000 in
theorem spoilImage_ok {B : Nat} {w : World} {v : Value} {n : Nat} {vs : List Value} {L : List (List Int)} (h : PI B w v n vs L) (hn : n ≤ 140737488355328) :
    Calls Try.prog 11 #[v] w fun e w' => (∃ u, e = .returned u) ∧ Frame (fun k => ∃ (i : Nat) (u : Value), vs[i]? = some u ∧ u.ownBlock = some k) w w' := by
  obtain ⟨p, c, rfl, hpg⟩ := row_case h.row
  have hl := h.vlen
  have hll := h.len
  go_enter Try.func11, Try.ntmps11
  go_wp2_with fail
  go_loopw [6] (fun i wr => ∃ j : Nat, j ≤ n ∧ i = .int .i64 (j : Int) ∧ wr.ownsRow B 22 1 (.slice p n c) n vs ∧ (∀ (i : Nat) (u : Value) (k : Nat), j ≤ i → vs[i]? = some u → u.ownBlock = some k → wr.heap[k]? = w.heap[k]?) ∧ Frame (fun k => ∃ (i : Nat) (u : Value), vs[i]? = some u ∧ u.ownBlock = some k) w wr) (fun i _ => n - (intOf i).toNat)
  case atStart => exact ⟨0, by omega, rfl, h.row, fun _ _ _ _ _ _ => rfl, Frame.refl _ _⟩
  case round =>
    obtain ⟨j, hj, rfl, hrow, hk, hf⟩ := hrel
    by_cases hlt : j < n
    · obtain ⟨g, rfl⟩ := hpg (by omega)
      have hvj : vs[j]? = some (vs[j]'(by omega)) := List.getElem?_eq_getElem _
      obtain ⟨q, m, d, eu, ho, hm, hbt⟩ := h.el j _ _ hvj (List.getElem?_eq_getElem (by omega))
      rw [eu] at hvj
      have hcell : wr.cell? ⟨g, j, none⟩ = some (.slice q m d) := by rw [hrow.cellAt j (by omega), hvj]
      have hor := ownsRow_kept ho (w' := wr) (fun k hk' => hk j _ k (Nat.le_refl _) hvj hk')
      have CS := (show Hid _ from spoil_ok hor hm)
      have hjI : (j : Int) < (n : Int) := by omega
      clear eu
      go_wp2_with fail
      refine Calls.mono CS.out ?_
      rintro e w1 ⟨⟨u1, rfl⟩, hf1⟩
      have hrow1 := ownsRow_kept hrow (w' := w1) (fun k hk' => hf1.block k (hrow.lt k hk').2 (fun e => owns_ne hrow hor (by decide) hk' e))
      clear CS
      go_wp2
      go_roundw
      case rel =>
        refine ⟨j + 1, by omega, by go_num, hrow1, fun i u k hi hu hku => ?_, hf.trans (hf1.mono (fun k _ hk' => ⟨j, _, hvj, hk'⟩))⟩
        have hlt' : k < wr.heap.size := by
          obtain ⟨q', m', d', eu', ho', _⟩ := h.el i u _ hu (List.getElem?_eq_getElem (by have := (List.getElem?_eq_some_iff.1 hu).1; omega))
          rw [eu'] at hku
          exact Nat.lt_of_lt_of_le (ho'.lt k hku).2 hf.size
        rw [hf1.block k hlt' (fun e => by have := h.ne j i _ u k hvj hu e hku; omega)]
        exact hk i u k (by omega) hu hku
      case measure => simp [intOf]; omega
    · obtain rfl : j = n := by omega
      go_wp2
      first | go_end0 | (refine bodyPost_ret (results_none rfl _ _ _) rfl ?_)
      exact ⟨⟨_, rfl⟩, hf⟩

end Go.Proofs.Ytknklopohdmncaa
