/- Mem Sector Map Disk Image Same -/
import Derived.Test.YthdlpeejmmobmaaGreatYG03
import Derived.Laws.CopyOwn
import Derived.Lib.Bytes
import Derived.Deep.MidRow
import Derived.Deep.WholeRow
import Derived.Maps.OwnSet
import Derived.Maps.Views
import Derived.Maps.OwnOps

namespace Go.Proofs.YthdlpeejmmobmaaGreat
open Go.RowKit
namespace Num
def Byt (xs : List Int) : Prop := ∀ i, 0 ≤ xs.getD i 0 ∧ xs.getD i 0 < 256
end Num
structure BI (w : World) (p : Option Addr) (n : Nat) (xs : List Int) : Prop where
 len : xs.length = n
 big : n ≤ 140737488355328
 byt : Num.Byt xs
 cells : 0 < n → ∃ b o, p = some ⟨b, o, none⟩ ∧ ∀ i, i < n → w.cell? ⟨b, o + i, none⟩ = some (.int .u8 (xs.getD i 0))
theorem lt_of_cell {w : World} {b o : Nat} {v : Value} (h : w.cell? ⟨b, o, none⟩ = some v) : b < w.heap.size := by
 by_cases hb : b < w.heap.size
 ·exact hb
 ·have : w.heap[b]? = none := Array.getElem?_eq_none (by omega)
  simp [World.cell?, this] at h
theorem BI.kept {w w' : World} {p : Option Addr} {n : Nat} {xs : List Int} (h : BI w p n xs) (hb : Below w.heap.size w w') : BI w' p n xs := by
 refine ⟨h.len, h.big, h.byt, fun hn => ?_⟩
 obtain ⟨b, o, rfl, hc⟩ := h.cells hn
 refine ⟨b, o, rfl, fun i hi => ?_⟩
 have hlt := lt_of_cell (hc i hi)
 rw [hb.cell (p := ⟨b, o + i, none⟩) hlt]
 exact hc i hi
def Own (B : Nat) (w : World) (g n cap : Nat) (xs : List Int) : Prop :=
 w.ownsRow B 5 1 (.slice (some ⟨g, 0, none⟩) n cap) n (xs.map (Value.int .u8))
theorem Own.len {B : Nat} {w : World} {g n cap : Nat} {xs : List Int} (h : Own B w g n cap xs) : xs.length = n := by
 have := h.1
 simpa using this
theorem Own.spot {B : Nat} {w : World} {g n cap : Nat} {xs : List Int} (h : Own B w g n cap xs) : B ≤ g ∧ g < w.heap.size := World.ownsRow.lt h g rfl
theorem Own.cell {B : Nat} {w : World} {g n cap : Nat} {xs : List Int} (h : Own B w g n cap xs) (j : Nat) (hj : j < n) : w.cell? ⟨g, j, none⟩ = some (.int .u8 (xs.getD j 0)) := by
 have h1 := World.ownsRow.cellAt h j (by omega)
 rw [h1, List.getElem?_map, List.getD_eq_getElem?_getD, List.getElem?_eq_getElem (show j < xs.length by rw [h.len]; exact hj)]
 rfl
theorem Own.bi {B : Nat} {w : World} {g n cap : Nat} {xs : List Int} (h : Own B w g n cap xs) (hb : n ≤ 140737488355328) (hx : Num.Byt xs) : BI w (some ⟨g, 0, none⟩) n xs :=
 ⟨h.len, hb, hx, fun _ => ⟨g, 0, rfl, fun i hi => by rw [Nat.zero_add]; exact h.cell i hi⟩⟩
theorem Own.kept {B : Nat} {w w' : World} {g n cap : Nat} {xs : List Int} (h : Own B w g n cap xs) (hb : Below w.heap.size w w') : Own B w' g n cap xs := by
 refine ⟨h.1, ?_⟩
 rcases h.2 with ⟨h', _⟩ | ⟨g', cap', cur, h', hbg, hg, rest⟩
 ·simp at h'
 ·have hlt : g' < w.heap.size := (Array.getElem?_eq_some_iff.1 hg).1
  exact .inr ⟨g', cap', cur, h', hbg, by rw [hb.block g' hlt]; exact hg, rest⟩
theorem Own.base {B B' : Nat} {w : World} {g n cap : Nat} {xs : List Int} (h : Own B w g n cap xs) (hB : B' ≤ B) : Own B' w g n cap xs := by
 refine ⟨h.1, ?_⟩
 rcases h.2 with ⟨h', _⟩ | ⟨g', cap', cur, h', hbg, rest⟩
 ·simp at h'
 ·exact .inr ⟨g', cap', cur, h', by omega, rest⟩
theorem size5 : (Tryz.prog.info? 5).map (·.size) = some 1 := by kernel_rfl
theorem one_cells (xs : List Int) : ∀ u ∈ xs.map (Value.int .u8), u.oneCell' = true := by
 intro u hu; obtain ⟨x, _, rfl⟩ := List.mem_map.1 hu; rfl
theorem BI.src {w : World} {p : Option Addr} {n : Nat} {xs : List Int} (h : BI w p n xs) : 0 < n → ∃ ad, p = some ad ∧ ∀ j v, (xs.map (Value.int .u8))[j]? = some v → w.cell? (ad.add j) = some v := by
 intro hn
 obtain ⟨b, o, rfl, hc⟩ := h.cells hn
 refine ⟨_, rfl, fun j v hj => ?_⟩
 have hjl : j < xs.length := by
  have := (List.getElem?_eq_some_iff.1 hj).1
  simpa using this
 have e : (⟨b, o, none⟩ : Addr).add j = ⟨b, o + j, none⟩ := by unfold Addr.add; split <;> simp_all
 rw [e, hc j (by rw [← h.len]; exact hjl), ← hj, List.getElem?_map, List.getD_eq_getElem?_getD, List.getElem?_eq_getElem hjl]
 rfl
theorem own_row {w : World} {B g n : Nat} {L : List Value} (h : w.ownsRow B 5 1 (.slice (some ⟨g, 0, none⟩) n n) n L) : w.heap[g]? = some (.cells L.toArray 5 (0, 0)) := by
 rcases h.2 with ⟨h', _⟩ | ⟨g', cap', cur, h', _, hg, _, _, hcs, ht⟩
 ·simp at h'
 ·simp only [Value.slice.injEq, Option.some.injEq, Addr.mk.injEq, and_true, true_and] at h'
  obtain ⟨rfl, rfl⟩ := h'
  rw [List.take_of_length_le (by simp; omega)] at ht
  subst ht
  simpa using hg
theorem own_of_row {w : World} {B g n : Nat} {xs : List Int} (hB : B ≤ g) (hn : n ≤ maxLen) (hx : xs.length = n) (h : w.heap[g]? = some (.cells (xs.map (Value.int .u8)).toArray 5 (0, 0))) : Own B w g n n xs :=
 ⟨by simpa using hx, .inr ⟨g, n, _, rfl, hB, h, Nat.le_refl _, hn, by simpa using hx, by simp [← hx, List.take_of_length_le]⟩⟩
theorem splice_all (L cs : List Value) (h : L.length = cs.length) : splice L 0 cs = cs := by
 simp [splice, ← h]
theorem BI.src' {w : World} {a : Addr} {n : Nat} {xs : List Int} (h : BI w (some a) n xs) : ∀ j v, (xs.map (Value.int .u8))[j]? = some v → w.cell? (a.add j) = some v := by
 intro j v hj
 have hjl : j < xs.length := by
  have := (List.getElem?_eq_some_iff.1 hj).1
  simpa using this
 obtain ⟨ad, e, hc⟩ := h.src (by rw [← h.len]; omega)
 cases e
 exact hc j v hj
theorem BI.conv {w : World} {p : Option Addr} {n : Nat} {xs : List Int} (h : BI w p n xs) (c : Nat) : (convert 42 9 (.slice p n c)).run Tryz.prog w = .ok (.string (strOfNums xs)) w := by
 rcases Nat.eq_zero_or_pos n with hn | hn
 ·subst hn
  obtain rfl : xs = [] := List.eq_nil_of_length_eq_zero h.len
  cases p with
  | none => exact run_convert_bytes_nil (P := Tryz.prog) w 42 5 Tryz.underlying42 Tryz.underlying5 0 c 9 Tryz.underlying9
  | some a =>
   rw [run_convert_bytes_string w 42 9 5 _ _ _ Tryz.underlying42 Tryz.underlying5 Tryz.underlying9]
   exact run_bytesToString w a 0 c [] (by simp [loadCells, loadCellsFrom])
 ·obtain ⟨b, o, rfl, hc⟩ := h.cells hn
  exact run_convert_bytes_arg (P := Tryz.prog) w 42 5 Tryz.underlying42 Tryz.underlying5 b o n c xs h.len hc 9 Tryz.underlying9
theorem byt_mem {xs : List Int} (h : Num.Byt xs) : ∀ x ∈ xs, 0 ≤ x ∧ x < 256 := by
 intro x hx
 obtain ⟨i, hi, rfl⟩ := List.getElem_of_mem hx
 have := h i
 rw [List.getD_eq_getElem?_getD, List.getElem?_eq_getElem hi] at this
 exact this
theorem back_bytes {xs : List Int} (h : Num.Byt xs) : (Lib.bytesOf xs).map (fun b => (b.toNat : Int)) = xs := by
 unfold Lib.bytesOf
 rw [List.map_map]
 conv => rhs; rw [← List.map_id xs]
 apply List.map_congr_left
 intro x hx
 have := byt_mem h x hx
 simp
 omega
theorem str_beq {xs ys : List Int} (hx : Num.Byt xs) (hy : Num.Byt ys) : ((strOfNums xs).toList == (strOfNums ys).toList) = (xs == ys) := by
 rw [Lib.strOfNums_toList, Lib.strOfNums_toList]
 rw [Bool.eq_iff_iff, beq_iff_eq, beq_iff_eq]
 constructor
 ·intro h
  rw [← back_bytes hx, ← back_bytes hy, h]
 ·rintro rfl; rfl
theorem ret_bool {a b : Bool} (h : a = b) : Ending.returned (.bool a) = .returned (.bool b) := by rw [h]
set_option maxHeartbeats 400000 in
theorem equal_any (p q : Option Addr) (n c m d : Nat) (xs ys : List Int) (w : World) (h : BI w p n xs) (k : BI w q m ys) :
  Calls Tryz.prog 86 #[.slice p n c, .slice q m d] w fun e w' => e = .returned (.bool (xs == ys)) ∧ w' = w := by
 have h1 := h.conv c
 have h2 := k.conv d
 go_enter Tryz.func86, Tryz.ntmps86
 go_wp2
 go_ret
 exact ⟨ret_bool (str_beq h.byt k.byt), rfl⟩
theorem eqlNil (w : World) (a : Option Addr) (n c n' c' : Nat) : (binOp .eql 42 (.slice a n c) (.slice none n' c')).run Tryz.prog w = .ok (.bool a.isNone) w := Lib.run_eql_slice_nil w _ _ a n c n' c' Tryz.underlying42
theorem own_shape {w : World} {B n : Nat} {v : Value} {xs : List Int} (h : w.ownsRow B 5 1 v n (xs.map (Value.int .u8))) (hv : v ≠ .slice none 0 0) : ∃ g cap, v = .slice (some ⟨g, 0, none⟩) n cap ∧ Own B w g n cap xs := by
 rcases h.2 with ⟨h', _⟩ | ⟨g', cap', cur, h', r⟩
 ·exact absurd h' hv
 ·exact ⟨g', cap', h', by subst h'; exact h⟩
theorem Own.room {B : Nat} {w : World} {g n cap : Nat} {xs : List Int} (h : Own B w g n cap xs) : n ≤ cap ∧ cap ≤ 9223372036854775807 := by
 rcases h.2 with ⟨h', _⟩ | ⟨g', cap', cur, h', _, _, h1, h2, _⟩
 ·simp at h'
 ·simp only [Value.slice.injEq, Option.some.injEq, Addr.mk.injEq, and_true, true_and] at h'
  obtain ⟨rfl, rfl⟩ := h'
  unfold maxLen at h2
  exact ⟨h1, h2⟩
theorem getD_take (xs : List Int) (m i : Nat) (h : i < m) : (xs.take m).getD i 0 = xs.getD i 0 := by
 simp [List.getD_eq_getElem?_getD, h]
theorem getD_drop' (xs : List Int) (m i : Nat) : (xs.drop m).getD i 0 = xs.getD (m + i) 0 := by
 simp [List.getD_eq_getElem?_getD, List.getElem?_drop]
theorem byt_take {xs : List Int} (h : Num.Byt xs) (m : Nat) : Num.Byt (xs.take m) := by
 intro i
 by_cases hi : i < m
 ·rw [getD_take xs m i hi]; exact h i
 ·rw [List.getD_eq_getElem?_getD, List.getElem?_eq_none (by simp; omega)]; simp
theorem byt_drop {xs : List Int} (h : Num.Byt xs) (m : Nat) : Num.Byt (xs.drop m) := by
 intro i
 rw [getD_drop']; exact h _
theorem BI.take {w : World} {p : Option Addr} {n : Nat} {xs : List Int} (h : BI w p n xs) (m : Nat) (hm : m ≤ n) : BI w p m (xs.take m) := by
 refine ⟨by rw [List.length_take, h.len]; omega, by have := h.big; omega, byt_take h.byt m, fun h0 => ?_⟩
 obtain ⟨b, o, rfl, hc⟩ := h.cells (by omega)
 exact ⟨b, o, rfl, fun i hi => by rw [getD_take xs m i hi]; exact hc i (by omega)⟩
theorem BI.drop {w : World} {b o : Nat} {n : Nat} {xs : List Int} (h : BI w (some ⟨b, o, none⟩) n xs) (m : Nat) (hm : m ≤ n) : BI w (some ⟨b, o + m, none⟩) (n - m) (xs.drop m) := by
 refine ⟨by rw [List.length_drop, h.len], by have := h.big; omega, byt_drop h.byt m, fun h0 => ?_⟩
 obtain ⟨b', o', e, hc⟩ := h.cells (by omega)
 cases e
 exact ⟨b, o + m, rfl, fun i hi => by rw [getD_drop', Nat.add_assoc]; exact hc _ (by omega)⟩
end Go.Proofs.YthdlpeejmmobmaaGreat

namespace Go.Proofs.YthdlpeejmmobmaaGreat
open Go.RowKit
def secA (xs : List Int) : Array Value := (xs.map (Value.int .u8)).toArray
theorem secA_size (xs : List Int) : (secA xs).size = xs.length := by simp [secA]
theorem secA_one (xs : List Int) : (secA xs).all (·.oneCell') = true := all_oneCell_toArray (one_cells xs)
theorem info79 : (Tryz.prog.info? 294).map (·.size) = some 128 := by kernel_rfl
theorem made_row {w : World} {B g n : Nat} {L : List Value} (h : w.ownsRow B 5 1 (.slice (some ⟨g, 0, none⟩) n n) n L) : ∃ L' : List Value, L'.length = n ∧ w.heap[g]? = some (.cells L'.toArray 5 (0, 0)) :=
 ⟨L, by simpa using h.1, own_row h⟩
theorem sec_src {w : World} {g : Nat} {xs : List Int} {t : TypeId} (h : w.heap[g]? = some (.cells (secA xs) t (0, 0))) : ∀ j v, (xs.map (Value.int .u8))[j]? = some v → w.cell? ((⟨g, 0, none⟩ : Addr).add j) = some v := by
 intro j v hj
 rw [Addr.add_mid, Nat.zero_add, cell_of_row w g j _ t _ h]
 simpa [secA] using hj
set_option maxRecDepth 10000 in
set_option maxHeartbeats 400000 in
theorem list_ok (xs : List Int) (hl : xs.length = 128) (w : World) :
  Calls Tryz.prog 309 #[.agg (secA xs)] w fun e w' => ∃ g, e = .returned (.slice (some ⟨g, 0, none⟩) 128 128) ∧ Own w.heap.size w' g 128 128 xs ∧ Below w.heap.size w w' := by
 obtain ⟨i0, hi, hz0, hz1, hz2⟩ := info_parts info5
 have hsz := secA_size xs
 rw [hl] at hsz
 have hb0 := (Below.refl w.heap.size w).alloc (Nat.le_refl _) (.cells (secA xs) 294)
 have hs0 : (w.alloc (.cells (secA xs) 294)).heap[w.heap.size]? = some (.cells (secA xs) 294 (0, 0)) := heap_alloc_new w _
 go_enter Tryz.func309, Tryz.ntmps309
 go_wp2_with (first
  | (at_make; refine wpList_make_full _ rfl _ _ 42 rfl w.heap.size 5 i0 (.int .u8 0) 1 Tryz.underlying42 hi hz0 hz1 .i64 .i64 _ _ 128 rfl rfl (by omega) (by omega) (by rw [hz2]; omega) (by unfold maxLen; omega) (by simp) ?_; intro w1 hown1 hgrow1; obtain ⟨L, hL, hrow⟩ := made_row hown1; simp only [World.size_alloc] at hrow; have hb1 := hb0.grown hgrow1 (by simp) (by intro k hk; cases hk); have hs1 := (hgrow1.block w.heap.size (by simp) (by simp)).trans hs0; clear hown1 hgrow1)
  | (refine wpList_copy_splice rfl _ _ 42 42 rfl 5 Tryz.underlying42 size5 _ _ _ _ _ _ rfl rfl (w.heap.size + 1) 0 L 5 hrow (xs.map (Value.int .u8)) ?c1 ?c2 ?c3 ?c4 w.heap.size w hb1 (by omega) ?_))
 case c1 => simp [hl]
 case c2 =>
  intro j a ha
  have := sec_src hs1 j (.int .u8 a) (by simp [ha])
  simpa [Addr.add_mid] using this
 case c3 => simp [hL, hl]
 case c4 => exact one_cells xs
 intro w2 hg2 hb2
 go_wp2
 go_ret
 refine ⟨_, rfl, own_of_row (by omega) (by unfold maxLen; omega) hl ?_, hb2⟩
 have hg := hg2.out
 rw [splice_all _ _ (by simp [hL, hl])] at hg
 exact hg
def zer : List Int := List.replicate 128 0
theorem zer_len : zer.length = 128 := by simp [zer]
theorem zero79 (w : World) : (zeroValue 294).run Tryz.prog w = .ok (.agg (secA zer)) w := by kernel_rfl
set_option maxRecDepth 10000 in
set_option maxHeartbeats 400000 in
theorem sectorOf_ok (p : Option Addr) (c : Nat) (xs : List Int) (w : World) (h : BI w p 128 xs) :
  Calls Tryz.prog 189 #[.slice p 128 c] w fun e w' => e = .returned (.agg (secA xs)) ∧ Below w.heap.size w w' := by
 have hz := zero79
 have hlen := h.len
 have hb0 := (Below.refl w.heap.size w).alloc (Nat.le_refl _) (.cells (secA zer) 294)
 have hb1 : Below w.heap.size w ((w.alloc (.cells (secA zer) 294)).alloc (.cells (secA zer) 294)) := hb0.alloc (by simp) _
 have hr0 : ((w.alloc (.cells (secA zer) 294)).alloc (.cells (secA zer) 294)).heap[w.heap.size]? = some (.cells (secA zer) 294 (0, 0)) := at_old (at_new rfl)
 have hr1 : ((w.alloc (.cells (secA zer) 294)).alloc (.cells (secA zer) 294)).heap[w.heap.size + 1]? = some (.cells (zer.map (Value.int .u8)).toArray 294 (0, 0)) := at_new (by simp)
 go_enter Tryz.func189, Tryz.ntmps189
 go_wp2_with (refine wpList_copy_splice rfl _ _ 42 42 rfl 5 Tryz.underlying42 size5 _ _ _ _ _ _ rfl rfl (w.heap.size + 1) 0 (zer.map (Value.int .u8)) 294 hr1 (xs.map (Value.int .u8)) ?c1 ?c2 ?c3 ?c4 (w.heap.size + 1) _ (Below.refl _ _) (by omega) ?_)
 case c1 => simp [hlen]
 case c2 => simpa using (h.kept hb1).src (by omega)
 case c3 => simp [hlen, zer_len]
 case c4 => exact one_cells xs
 intro w2 hg2 hb2
 have hg := hg2.out
 rw [splice_all _ _ (by simp [hlen, zer_len])] at hg
 have hg1 : w2.heap[w.heap.size + 1]? = some (.cells (secA xs) 294 (0, 0)) := hg
 have hg0 : w2.heap[w.heap.size]? = some (.cells (secA zer) 294 (0, 0)) := (hb2.block w.heap.size (by omega)).trans hr0
 have hs1 := secA_size xs
 have hs0 := secA_size zer
 rw [hlen] at hs1
 rw [zer_len] at hs0
 have hbw : Below w.heap.size w w2 := hb1.trans (hb2.mono (by omega))
 clear hg hg2 hr0 hr1 hb2 hb0 hb1
 generalize hA : secA xs = A at *
 generalize secA zer = Z at *
 go_wp2_with (first
  | (refine wpList_load_row rfl 294 _ rfl (w.heap.size + 1) rfl 294 A (0, 0) _ hg1 Tryz.underlying294 rfl (by rw [hs1]; exact info79) ?_)
  | (refine wpList_store_row rfl 294 _ _ rfl w.heap.size A rfl rfl 294 Z hg0 (by rw [hs1]; exact info79) (by rw [hs0, hs1]) (by rw [← hA]; exact secA_one xs) ?_))
 refine bodyPost_ret (v := .agg A) (results_cell_row (p := 2) (ty := 294) Tryz.results189 _ _ w.heap.size 294 A (0, 0) _ (by simp [Act.put]) (setRow_heap w2 w.heap.size Z A 294 (0, 0) hg0) Tryz.underlying294 rfl (by rw [hs1]; exact info79)) rfl ?_
 exact ⟨by rw [hA], below_setRow hbw (Nat.le_refl _) A⟩
end Go.Proofs.YthdlpeejmmobmaaGreat

namespace Go.Proofs.YthdlpeejmmobmaaGreat
open Go.RowKit Go.Maps
structure Frame (X : Nat → Prop) (w w' : World) : Prop where
 os : w'.os = w.os
 tape : w'.tape = w.tape
 output : w'.output = w.output
 size : w.heap.size ≤ w'.heap.size
 block : ∀ k, k < w.heap.size → ¬ X k → w'.heap[k]? = w.heap[k]?
theorem Frame.refl (X : Nat → Prop) (w : World) : Frame X w w := ⟨rfl, rfl, rfl, Nat.le_refl _, fun _ _ _ => rfl⟩
theorem Frame.trans {X : Nat → Prop} {a b c : World} (h : Frame X a b) (k : Frame X b c) : Frame X a c :=
 ⟨k.os.trans h.os, k.tape.trans h.tape, k.output.trans h.output, Nat.le_trans h.size k.size, fun i hi hx => (k.block i (Nat.lt_of_lt_of_le hi h.size) hx).trans (h.block i hi hx)⟩
theorem Frame.mono {X Y : Nat → Prop} {a b : World} (h : Frame X a b) (hxy : ∀ k, k < a.heap.size → X k → Y k) : Frame Y a b :=
 ⟨h.os, h.tape, h.output, h.size, fun i hi hx => h.block i hi (fun x => hx (hxy i hi x))⟩
theorem frame_of_below {X : Nat → Prop} {a b : World} (h : Below a.heap.size a b) : Frame X a b := ⟨h.os, h.tape, h.output, h.size, fun i hi _ => h.block i hi⟩
theorem frame_of_grown {X : Nat → Prop} {a b : World} {row : Option Nat} (h : a.grownBy b row) (hx : ∀ k, row = some k → X k) : Frame X a b := ⟨h.os, h.tape, h.output, h.size, fun i hi hn => h.block i hi (fun e => hn (hx i e.symm))⟩
theorem Frame.setCell {X : Nat → Prop} (w : World) {p : Addr} (u : Value) (hx : X p.block) : Frame X w (w.setCell p u) :=
 ⟨rfl, rfl, rfl, by simp, fun i _ hn => Below.heap_setCell w p u i (fun e => hn (e ▸ hx))⟩
def Sect (xs : List Int) : Prop := xs.length = 128 ∧ Num.Byt xs
theorem sect_zer : Sect zer := ⟨zer_len, fun i => by
 unfold zer
 rw [List.getD_eq_getElem?_getD, List.getElem?_replicate]
 split <;> simp⟩
def dat (xs : List Int) : DataW Unit := .lit (.string (Lib.bytesOf xs))
theorem dat_inj {xs ys : List Int} (hx : Num.Byt xs) (hy : Num.Byt ys) (h : dat xs = dat ys) : xs = ys := by
 simp only [dat, DataW.lit.injEq, Lit.string.injEq] at h
 rw [← back_bytes hx, ← back_bytes hy, h]
theorem secA_inj {xs ys : List Int} (h : secA xs = secA ys) : xs = ys := by
 have h1 : xs.map (Value.int .u8) = ys.map (Value.int .u8) := by simpa [secA] using h
 have e : ∀ l : List Int, (l.map (Value.int .u8)).map (fun v => match v with | .int _ n => n | _ => 0) = l := by
  intro l; rw [List.map_map]; conv => rhs; rw [← List.map_id l]
  rfl
 rw [← e xs, ← e ys, h1]
open Classical in
noncomputable def secR (v : Value) : Option (DataW Unit × List MemPlace) :=
 if h : ∃ xs, Sect xs ∧ v = .agg (secA xs) then some (dat h.choose, []) else none
theorem secR_mk {xs : List Int} (hs : Sect xs) : secR (.agg (secA xs)) = some (dat xs, []) := by
 have h : ∃ ys, Sect ys ∧ Value.agg (secA xs) = .agg (secA ys) := ⟨xs, hs, rfl⟩
 unfold secR
 rw [dif_pos h]
 have e : xs = h.choose := secA_inj (Value.agg.inj h.choose_spec.2)
 rw [← e]
theorem secR_inv {v : Value} {xs : List Int} {ps : List MemPlace} (hs : Sect xs) (h : secR v = some (dat xs, ps)) : v = .agg (secA xs) := by
 unfold secR at h
 split at h
 ·rename_i hx
  have e := hx.choose_spec
  simp only [Option.some.injEq, Prod.mk.injEq] at h
  have := dat_inj e.1.2 hs.2 h.1
  rw [e.2, this]
 ·cases h
def key (b : Nat) : Lit := .int .i64 (b : Int)
theorem key_inj {a b : Nat} (h : key a = key b) : a = b := by simp [key] at h; omega
theorem key_is (b : Nat) : WideAt.IsKeyLit (key b) := trivial
theorem key_of {b : Nat} (hb : b < 9223372036854775808) : keyOf Tryz.prog 3 (.int .i64 (b : Int)) = some (key b) := keyOf_int_mk Tryz.underlying3 (by simp [Lit.wf, IntKind.min, IntKind.max, IntKind.signed, IntKind.bits]; omega)
def miss (D : DataW Unit) (N : Nat) : Nat := ((List.range N).filter (fun b => !has D (key b))).length
theorem filter_lt {p q : Nat → Bool} {b : Nat} (h : ∀ x, q x = (p x && x != b)) (hp : p b = true) : ∀ l : List Nat, b ∈ l → (l.filter q).length + 1 ≤ (l.filter p).length
 | [], hb => by cases hb
 | y :: r, hb => by
  have le : (r.filter q).length ≤ (r.filter p).length := by
   clear hb
   induction r with
   | nil => simp
   | cons z r ih =>
    simp only [List.filter_cons, h z]
    cases p z <;> cases (z != b) <;> simp <;> omega
  by_cases e : y = b
  ·subst e
   simp [h y, hp]
   omega
  ·have hb' : b ∈ r := by
    rcases List.mem_cons.1 hb with e' | e'
    ·exact absurd e'.symm e
    ·exact e'
   have ih := filter_lt h hp r hb'
   have hy : (y != b) = true := by simp [e]
   simp only [List.filter_cons, h y, hy, Bool.and_true]
   cases p y <;> simp <;> omega
theorem miss_put {D : DataW Unit} {N b : Nat} (ht : Tidy D) (hb : b < N) (d : DataW Unit) (h : size D + miss D N ≤ N) : size (D.put (key b) d) + miss (D.put (key b) d) N ≤ N := by
 rw [size_put ht d]
 have hn : ∀ x, (!has (D.put (key b) d) (key x)) = ((!has D (key x)) && x != b) := by
  intro x
  by_cases e : x = b
  ·subst e; rw [has_put_same ht.isMap (key_is x)]; simp
  ·rw [has_put_other (fun h => e (key_inj h))]; simp [e]
 by_cases hh : has D (key b) = true
 ·rw [if_pos hh]
  have : miss (D.put (key b) d) N ≤ miss D N := by
   unfold miss
   have e : ∀ x, (!has (D.put (key b) d) (key x)) = (!has D (key x)) := by
    intro x; rw [hn x]
    by_cases e : x = b
    ·subst e; simp [hh]
    ·simp [e]
   simp only [e]; exact Nat.le_refl _
  omega
 ·rw [if_neg hh]
  have := filter_lt (q := fun x => !has (D.put (key b) d) (key x)) (p := fun x => !has D (key x)) (b := b) hn (by simpa using hh) (List.range N) (List.mem_range.2 hb)
  unfold miss at h ⊢
  omega
theorem tight {P : Program} {k : TypeId} {R : Value → Option (DataW Unit × List MemPlace)} {w : World} {b n : Nat} {D : DataW Unit} (h : w.ownsMap P k R b n D) : w.ownsMap P k R b (size D) D := by
 obtain ⟨es, clock, hb, F, hs, rfl⟩ := h
 refine ⟨es, clock, hb, F, ?_, rfl⟩
 rw [size_eq, length_sorted]; simp
structure Secs (w : World) (mb N : Nat) (f : Nat → List Int) : Prop where
 ex : ∃ D, w.ownsMap Tryz.prog 3 secR mb (size D) D ∧ size D + miss D N ≤ N ∧ ∀ b, b < N → D.atKey (key b) (dat zer) = dat (f b)
 all : ∀ b, Sect (f b)
def upd {α : Type} (f : Nat → α) (b : Nat) (x : α) : Nat → α := fun y => if y = b then x else f y
theorem keyed3 : Keyed Tryz.prog 3 := int_keyed Tryz.underlying3
theorem secs_made (w : World) (N : Nat) : Secs (w.alloc (.map #[] 0)) w.heap.size N (fun _ => zer) := by
 refine ⟨⟨.map [], w.ownsMap_made _ _ _, ?_, fun b _ => rfl⟩, fun _ => sect_zer⟩
 have := List.length_filter_le (fun b => !has (.map [] : DataW Unit) (key b)) (List.range N)
 rw [List.length_range] at this
 show 0 + miss (.map []) N ≤ N
 unfold miss
 omega
theorem Secs.lt {w : World} {mb N : Nat} {f : Nat → List Int} (h : Secs w mb N f) : mb < w.heap.size := by
 obtain ⟨D, ho, _⟩ := h.ex
 exact ho.lt
theorem Secs.kept {w w' : World} {mb N : Nat} {f : Nat → List Int} (h : Secs w mb N f) (hb : w'.heap[mb]? = w.heap[mb]?) : Secs w' mb N f := by
 obtain ⟨D, ⟨es, c, ho, r⟩, k⟩ := h.ex
 exact ⟨⟨D, ⟨es, c, hb.trans ho, r⟩, k⟩, h.all⟩
theorem Secs.lookup {w : World} {mb N : Nat} {f : Nat → List Int} (h : Secs w mb N f) (hN : N ≤ 2048) (b : Nat) (hb : b < N) :
  (Instr.lookup 199 (.map (some mb)) (.int .i64 (b : Int)) false).run Tryz.prog w = .ok (.agg (secA (f b))) w := by
 obtain ⟨D, ho, _, hat⟩ := h.ex
 obtain ⟨v, ps, hr, hv⟩ := ho.lookup keyed3 Tryz.underlying199 (zero79 w) (secR_mk sect_zer) (key_of (b := b) (by omega))
 rw [hat b hb] at hv
 rw [hr, secR_inv (h.all b) hv]
theorem Secs.update {w : World} {mb N : Nat} {f : Nat → List Int} (h : Secs w mb N f) (hN : N ≤ 2048) (b : Nat) (hb : b < N) (xs : List Int) (hx : Sect xs) :
  ∃ w', (Instr.mapUpdate 199 (.map (some mb)) (.int .i64 (b : Int)) (.agg (secA xs))).run Tryz.prog w = .ok () w' ∧ Secs w' mb N (upd f b xs) ∧ w.grownBy w' (some mb) := by
 obtain ⟨D, ho, hm, hat⟩ := h.ex
 obtain ⟨w', hr, ho', hg⟩ := ho.update keyed3 Tryz.underlying199 (show size D < maxLen by unfold maxLen; omega) (key_of (b := b) (by omega)) (secR_mk hx)
 refine ⟨w', hr, ⟨⟨_, tight ho', miss_put (ho.tidy keyed3) hb _ hm, ?_⟩, ?_⟩, hg⟩
 ·intro y hy
  unfold upd
  by_cases e : y = b
  ·subst e; rw [if_pos rfl, atKey_put_same ho.isMap (key_is y)]
  ·rw [if_neg e, atKey_put_other (fun h => e (key_inj h))]; exact hat y hy
 ·intro y; unfold upd; split
  ·exact hx
  ·exact h.all y
end Go.Proofs.YthdlpeejmmobmaaGreat

namespace Go.Proofs.YthdlpeejmmobmaaGreat
open Go.RowKit Go.Maps
structure Wr where
 id : Int
 block : Nat
 bytes : List Int
structure St where
 N : Nat
 f : Nat → List Int
 q : List Wr
 last : Int
 fl : Nat → Int
def Wr.cells (x : Wr) : List Value := .int .i64 x.id :: .int .i64 (x.block : Int) :: x.bytes.map (Value.int .u8)
def flat (q : List Wr) : List Value := q.flatMap Wr.cells
structure Fls (w : World) (fb N : Nat) (g : Nat → Int) : Prop where
 ex : ∃ D : DataW Unit, w.ownsMap Tryz.prog 3 (plainElem Tryz.prog 3) fb (size D) D ∧ size D + miss D N ≤ N ∧ ∀ b, b < N → D.atKey (key b) (.lit (.int .i64 0)) = .lit (.int .i64 (g b))
 all : ∀ b, 0 ≤ g b ∧ g b ≤ 1000
theorem Fls.lt {w : World} {mb N : Nat} {f : Nat → Int} (h : Fls w mb N f) : mb < w.heap.size := by
 obtain ⟨D, ho, _⟩ := h.ex
 exact ho.lt
theorem Fls.kept {w w' : World} {mb N : Nat} {f : Nat → Int} (h : Fls w mb N f) (hb : w'.heap[mb]? = w.heap[mb]?) : Fls w' mb N f := by
 obtain ⟨D, ⟨es, c, ho, r⟩, k⟩ := h.ex
 exact ⟨⟨D, ⟨es, c, hb.trans ho, r⟩, k⟩, h.all⟩
theorem fls_made (w : World) (N : Nat) : Fls (w.alloc (.map #[] 0)) w.heap.size N (fun _ => 0) := by
 refine ⟨⟨.map [], w.ownsMap_made _ _ _, ?_, fun b _ => rfl⟩, fun _ => by omega⟩
 have := List.length_filter_le (fun b => !has (.map [] : DataW Unit) (key b)) (List.range N)
 rw [List.length_range] at this
 show 0 + miss (.map []) N ≤ N
 unfold miss
 omega
structure DI (B : Nat) (w : World) (a mb fb : Nat) (qv : Value) (S : St) : Prop where
 row : w.heap[a]? = some (.cells #[.int .i64 (S.N : Int), .map (some mb), qv, .int .i64 S.last, .map (some fb)] 202 (0, 0))
 secs : Secs w mb S.N S.f
 que : w.ownsRow B 437 130 qv S.q.length (flat S.q)
 fls : Fls w fb S.N S.fl
 lo : B ≤ a ∧ B ≤ mb ∧ B ≤ fb
 ne : mb ≠ fb
 N1 : 1 ≤ S.N
 N2 : S.N ≤ 2048
 q64 : S.q.length ≤ 64
 qok : ∀ x ∈ S.q, x.block < S.N ∧ Sect x.bytes ∧ -9223372036854775808 ≤ x.id ∧ x.id ≤ 9223372036854775807
 lok : 0 ≤ S.last ∧ S.last ≤ 9223372036854775807
def foot (a mb fb : Nat) (qv : Value) (k : Nat) : Prop := k = a ∨ k = mb ∨ k = fb ∨ qv.ownBlock = some k
theorem ownsRow_kept {w w' : World} {B : Nat} {e : TypeId} {s : Nat} {v : Value} {n : Nat} {L : List Value} (h : w.ownsRow B e s v n L) (hb : ∀ k, v.ownBlock = some k → w'.heap[k]? = w.heap[k]?) : w'.ownsRow B e s v n L := by
 refine ⟨h.1, ?_⟩
 rcases h.2 with h' | ⟨g', cap', cur, rfl, hbg, hg, rest⟩
 ·exact .inl h'
 ·exact .inr ⟨g', cap', cur, rfl, hbg, (hb g' rfl).trans hg, rest⟩
theorem DI.in {B : Nat} {w : World} {a mb fb : Nat} {qv : Value} {S : St} (h : DI B w a mb fb qv S) : ∀ k, foot a mb fb qv k → B ≤ k ∧ k < w.heap.size := by
 rintro k (rfl | rfl | rfl | hk)
 ·exact ⟨h.lo.1, (Array.getElem?_eq_some_iff.1 h.row).1⟩
 ·exact ⟨h.lo.2.1, h.secs.lt⟩
 ·exact ⟨h.lo.2.2, h.fls.lt⟩
 ·exact h.que.lt k hk
theorem DI.kept {B : Nat} {w w' : World} {a mb fb : Nat} {qv : Value} {S : St} (h : DI B w a mb fb qv S) (hb : ∀ k, foot a mb fb qv k → w'.heap[k]? = w.heap[k]?) : DI B w' a mb fb qv S :=
 { h with
   row := (hb a (.inl rfl)).trans h.row
   secs := h.secs.kept (hb mb (.inr (.inl rfl)))
   que := ownsRow_kept h.que (fun k hk => hb k (.inr (.inr (.inr hk))))
   fls := h.fls.kept (hb fb (.inr (.inr (.inl rfl)))) }
theorem DI.later {B : Nat} {w w' : World} {a mb fb : Nat} {qv : Value} {S : St} (h : DI B w a mb fb qv S) (hb : Below w.heap.size w w') : DI B w' a mb fb qv S :=
 h.kept (fun k hk => hb.block k (h.in k hk).2)
theorem DI.c0 {B : Nat} {w : World} {a mb fb : Nat} {qv : Value} {S : St} (h : DI B w a mb fb qv S) : w.cell? ⟨a, 0, none⟩ = some (.int .i64 (S.N : Int)) := by
 rw [cell_of_row _ _ 0 _ _ _ h.row]; rfl
theorem DI.c1 {B : Nat} {w : World} {a mb fb : Nat} {qv : Value} {S : St} (h : DI B w a mb fb qv S) : w.cell? ⟨a, 1, none⟩ = some (.map (some mb)) := by
 rw [cell_of_row _ _ 1 _ _ _ h.row]; rfl
theorem DI.c2 {B : Nat} {w : World} {a mb fb : Nat} {qv : Value} {S : St} (h : DI B w a mb fb qv S) : w.cell? ⟨a, 2, none⟩ = some qv := by
 rw [cell_of_row _ _ 2 _ _ _ h.row]; rfl
theorem DI.c3 {B : Nat} {w : World} {a mb fb : Nat} {qv : Value} {S : St} (h : DI B w a mb fb qv S) : w.cell? ⟨a, 3, none⟩ = some (.int .i64 S.last) := by
 rw [cell_of_row _ _ 3 _ _ _ h.row]; rfl
theorem DI.c4 {B : Nat} {w : World} {a mb fb : Nat} {qv : Value} {S : St} (h : DI B w a mb fb qv S) : w.cell? ⟨a, 4, none⟩ = some (.map (some fb)) := by
 rw [cell_of_row _ _ 4 _ _ _ h.row]; rfl
section
variable {B : Nat} {w : World} {a mb fb : Nat} {qv : Value} {S : St}
theorem blocks_ok (h : DI B w a mb fb qv S) : Calls Tryz.prog 47 #[.pointer (some ⟨a, 0, none⟩)] w fun e w' => e = .returned (.int .i64 (S.N : Int)) ∧ w' = w := blocks_some w a _ h.c0
set_option maxHeartbeats 400000 in
theorem made_ok (h : DI B w a mb fb qv S) : Calls Tryz.prog 289 #[.pointer (some ⟨a, 0, none⟩)] w fun e w' => e = .returned (.bool true) ∧ w' = w := by
 have h1 := h.N1
 go_enter Tryz.func289, Tryz.ntmps289
 go_wp2_with fail
 refine same_at (blocks_ok h) ?_
 go_wp2
 go_ret
 exact ⟨ret_bool (by simp; omega), rfl⟩
set_option maxHeartbeats 400000 in
theorem has_ok (h : DI B w a mb fb qv S) (b : Int) : Calls Tryz.prog 290 #[.pointer (some ⟨a, 0, none⟩), .int .i64 b] w fun e w' => e = .returned (.bool (decide (0 ≤ b) && decide (b < S.N))) ∧ w' = w := by
 have hc := h.c0
 clear h
 go_enter Tryz.func290, Tryz.ntmps290
 by_cases hb : 0 ≤ b
 ·go_wp2
  go_ret
  exact ⟨ret_bool (by simp [hb]), rfl⟩
 ·go_wp2
  go_ret
  exact ⟨ret_bool (by simp; intro; omega), rfl⟩
set_option maxHeartbeats 400000 in
theorem bytesOf_ok (h : DI B w a mb fb qv S) (b : Nat) (hb : b < S.N) : Calls Tryz.prog 292 #[.pointer (some ⟨a, 0, none⟩), .int .i64 (b : Int)] w fun e w' => ∃ g, e = .returned (.slice (some ⟨g, 0, none⟩) 128 128) ∧ Own w.heap.size w' g 128 128 (S.f b) ∧ Below w.heap.size w w' := by
 have hc := h.c1
 have hl := h.secs.lookup h.N2 b hb
 have hs := (h.secs.all b).1
 clear h
 go_enter Tryz.func292, Tryz.ntmps292
 go_wp2_with fail
 refine (list_ok (S.f b) hs w).mono ?_
 rintro e w1 ⟨g, rfl, ho, hb1⟩
 go_wp2
 go_ret
 exact ⟨g, rfl, ho, hb1⟩
end
end Go.Proofs.YthdlpeejmmobmaaGreat

namespace Go.Proofs.YthdlpeejmmobmaaGreat
open Go.RowKit Go.Maps
def sl (g : Nat) : Value := .slice (some ⟨g, 0, none⟩) 128 128
theorem info30 : (Tryz.prog.info? 42).map (fun i => (i.zero, i.size, i.bytes)) = some (some (.slice none 0 0), 1, 24) := by kernel_rfl
structure Img (B : Nat) (w : World) (g n : Nat) (gs : List Nat) (L : Nat → List Int) : Prop where
 row : w.ownsRow B 42 1 (.slice (some ⟨g, 0, none⟩) n n) n (gs.map sl)
 el : ∀ i, i < n → Own B w (gs.getD i 0) 128 128 (L i)
theorem Img.len {B : Nat} {w : World} {g n : Nat} {gs : List Nat} {L : Nat → List Int} (h : Img B w g n gs L) : gs.length = n := by
 have := h.row.1; simpa using this
theorem made_list (z : Value) (n : Nat) (hz : z.cells = #[z]) : (madeCells z.cells (n * 1)).toList = List.replicate n z := by
 rw [hz]
 apply List.ext_getElem
 ·simp [madeCells]
 ·intro i h1 h2
  simp [madeCells, Nat.mod_one]
end Go.Proofs.YthdlpeejmmobmaaGreat

namespace Go.Proofs.YthdlpeejmmobmaaGreat
open Go.RowKit Go.Maps
set_option maxHeartbeats 400000 in
theorem new_ok (n : Nat) (h1 : 1 ≤ n) (h2 : n ≤ 2048) (w : World) : Calls Tryz.prog 188 #[.int .i64 (n : Int)] w fun e w' => ∃ a mb fb, e = .returned (.tuple #[.pointer (some ⟨a, 0, none⟩), .int .i64 0]) ∧ DI w.heap.size w' a mb fb (.slice none 0 0) ⟨n, fun _ => zer, [], 0, fun _ => 0⟩ ∧ Below w.heap.size w w' := by
 have hmm := @run_makeMap Tryz.prog
 have hi1 : (1 : Int) ≤ (n : Int) := by omega
 have hi2 : (n : Int) ≤ 2048 := by omega
 go_enter Tryz.func188, Tryz.ntmps188
 go_wp2
 go_ret2
 refine ⟨w.heap.size + 1 + 1, w.heap.size, w.heap.size + 1, rfl, ?_, ?_⟩
 ·refine { row := at_new (by simp), secs := (secs_made w n).kept ?_, que := World.ownsRow_nil _ _ _ _, fls := ?_, lo := ⟨by omega, by omega, by omega⟩, ne := by omega, N1 := h1, N2 := h2, q64 := by simp, qok := by simp, lok := by simp }
  ·rw [Below.heap_alloc _ _ _ (by simp; omega), Below.heap_alloc _ _ _ (by simp)]
  ·have := fls_made (w.alloc (.map #[] 0)) n
   simp only [World.size_alloc] at this
   exact this.kept (Below.heap_alloc _ _ _ (by simp))
 ·exact (((Below.refl _ _).alloc (Nat.le_refl _) _).alloc (by simp) _).alloc (by simp; omega) _
structure IB (w : World) (p : Option Addr) (n : Nat) (L : List (List Int)) : Prop where
 len : L.length = n
 big : n ≤ 140737488355328
 cells : 0 < n → ∃ b o, p = some ⟨b, o, none⟩ ∧ ∀ i x, L[i]? = some x → ∃ q m c, w.cell? ⟨b, o + i, none⟩ = some (.slice q m c) ∧ BI w q m x
set_option maxHeartbeats 1000000 in
theorem equalFunc_ok (p1 p2 : Option Addr) (n1 c1 n2 c2 : Nat) (L1 L2 : List (List Int)) (w : World) (h1 : IB w p1 n1 L1) (h2 : IB w p2 n2 L2) :
  Calls Tryz.prog 85 #[.slice p1 n1 c1, .slice p2 n2 c2, .func (.func 86) #[] #[]] w fun e w' => e = .returned (.bool (L1 == L2)) ∧ w' = w := by
 have hl1 := h1.len
 have hl2 := h2.len
 have hg1 := h1.big
 by_cases hne : n1 = n2
 ·subst hne
  go_enter Tryz.func85, Tryz.ntmps85
  go_wp2_with fail
  go_loopw [17] (fun i wr => wr = w ∧ ∃ j : Nat, j ≤ n1 ∧ i = .int .i64 (j : Int) ∧ ∀ k, k < j → L1[k]? = L2[k]?) (fun i _ => n1 - (intOf i).toNat)
  case atStart => exact ⟨rfl, 0, by omega, rfl, by intro k hk; omega⟩
  case round =>
   obtain ⟨rfl, j, hj, rfl, heq⟩ := hrel
   by_cases hlt : j < n1
   ·obtain ⟨b1, o1, rfl, hc1⟩ := h1.cells (by omega)
    obtain ⟨b2, o2, rfl, hc2⟩ := h2.cells (by omega)
    obtain ⟨x, hx⟩ : ∃ x, L1[j]? = some x := ⟨L1[j], List.getElem?_eq_getElem (by omega)⟩
    obtain ⟨y, hy⟩ : ∃ y, L2[j]? = some y := ⟨L2[j], List.getElem?_eq_getElem (by omega)⟩
    obtain ⟨q1, m1, d1, e1, hb1⟩ := hc1 j x hx
    obtain ⟨q2, m2, d2, e2, hb2⟩ := hc2 j y hy
    clear hc1 hc2
    go_wp2_with fail
    refine same_at (equal_any q1 q2 m1 d1 m2 d2 x y wr hb1 hb2) ?_
    cases hxy : (x == y) with
    | true =>
     have hxy' : x = y := by simpa using hxy
     go_wp2
     go_roundw
     case rel =>
      refine ⟨trivial, j + 1, by omega, by go_num, ?_⟩
      intro k hk
      by_cases e : k = j
      ·subst e; rw [hx, hy, hxy']
      ·exact heq k (by omega)
     case measure => simp [intOf]; omega
    | false =>
     have hxy' : ¬ x = y := by simpa using hxy
     go_wp2
     go_ret
     refine ⟨ret_bool ?_, rfl⟩
     symm
     rw [beq_eq_false_iff_ne]
     rintro rfl
     rw [hx] at hy
     cases hy
     exact hxy' rfl
   ·obtain rfl : j = n1 := by omega
    go_wp2
    go_ret
    refine ⟨ret_bool ?_, rfl⟩
    symm
    rw [beq_iff_eq]
    apply List.ext_getElem?
    intro k
    by_cases hk : k < j
    ·exact heq k hk
    ·rw [List.getElem?_eq_none (by omega), List.getElem?_eq_none (by omega)]
 ·have hne' : ¬ (n1 : Int) = (n2 : Int) := by omega
  go_enter Tryz.func85, Tryz.ntmps85
  go_wp2
  go_ret
  refine ⟨ret_bool ?_, rfl⟩
  symm
  rw [beq_eq_false_iff_ne]
  rintro rfl
  omega
set_option maxHeartbeats 400000 in
theorem sameImage_ok (p1 p2 : Option Addr) (n1 c1 n2 c2 : Nat) (L1 L2 : List (List Int)) (w : World) (h1 : IB w p1 n1 L1) (h2 : IB w p2 n2 L2) :
  Calls Tryz.prog 31 #[.slice p1 n1 c1, .slice p2 n2 c2] w fun e w' => e = .returned (.bool (L1 == L2)) ∧ w' = w := by
 go_enter Tryz.func31, Tryz.ntmps31
 go_wp2_with fail
 refine same_at (equalFunc_ok p1 p2 n1 c1 n2 c2 L1 L2 w h1 h2) ?_
 go_wp2
 go_ret
 exact ⟨rfl, rfl⟩
def imgL (f : Nat → List Int) (n : Nat) : List (List Int) := (List.range n).map f
end Go.Proofs.YthdlpeejmmobmaaGreat
