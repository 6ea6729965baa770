/- The document's headers out of bytes. -/
import Derived.Test.YtkmijjipnepnoaaGDec
namespace Go.Proofs.Ytkmijjipnepnoaa
open Go.RowKit
set_option linter.unusedVariables false

theorem zeroN (v : Int) : groupA v (zers 40) = #[.int .i64 v, .int .u8 0, .int .u8 0, .int .u8 0, .int .u8 0, .int .u8 0, .int .u8 0, .int .u8 0, .int .u8 0, .int .u8 0, .int .u8 0, .int .u8 0, .int .u8 0, .int .u8 0, .int .u8 0, .int .u8 0, .int .u8 0, .int .u8 0, .int .u8 0, .int .u8 0, .int .u8 0, .int .u8 0, .int .u8 0, .int .u8 0, .int .u8 0, .int .u8 0, .int .u8 0, .int .u8 0, .int .u8 0, .int .u8 0, .int .u8 0, .int .u8 0, .int .u8 0, .int .u8 0, .int .u8 0, .int .u8 0, .int .u8 0, .int .u8 0, .int .u8 0, .int .u8 0, .int .u8 0] := rfl

theorem hd_str {xs : List Int} (h : Num.Byt xs) : ((strOfNums xs).toList == [104, 100]) = (xs == [104, 100]) := by
  have := str_beq h (ys := [104, 100]) (Num.byt_of_wf (by decide))
  rw [show (strOfNums [104, 100]).toList = [104, 100] from Lib.strOfNums_toList _] at this
  exact this

/-- Bytes copied into a header. -/
theorem group_copyB {w : World} {b : Nat} {N : Int} {ys zs : List Int} (h : w.heap[b]? = some (groupO N ys)) (hl : ys.length = 40) (a : Addr) (c : Nat) (hz : BI w (some a) zs.length zs) (i : Nat) (hf : i + zs.length ≤ 40) (ty : TypeId) :
    (Builtin.copy_ #[26, 26] ty #[.slice (some ⟨b, i + 1, none⟩) zs.length zs.length, .slice (some a) zs.length c]).run Try.prog w = .ok (goInt zs.length) (w.setRow b (groupA N (splice ys i zs))) := by
  have hr := run_copy_row (P := Try.prog) w 26 26 ty 5 b (i + 1) zs.length zs.length a zs.length c _ 38 (zs.map (Value.int .u8)) Try.underlying26 size5 h (by simp) hz.src' (by rw [groupA_size N ys hl]; simp; omega) (one_cells zs)
  rw [hr, ← groupA_splice N ys zs i (by omega)]
  simp

set_option maxRecDepth 10000 in
set_option maxHeartbeats 1000000 in
theorem rdecodeGroup_len (p : Option Addr) (n c : Nat) (w : World) (hn : n ≤ 140737488355328) (h1 : ¬ n = 128) :
    Calls Try.prog 18 #[.slice p n c] w fun e w' => e = .returned (.tuple #[groupV 0 (zers 40), .int .i64 6]) ∧ Below w.heap.size w w' := by
  have HB := grew_alloc w (groupO 0 (zers 40))
  have hr0 := heap_new w (groupO 0 (zers 40))
  have hr1 := hr0
  dsimp only [groupO] at hr1
  rw [zero38] at hr1
  have hI : ¬ (n : Int) = 128 := by omega
  go_enter Try.func18, Try.ntmps18
  go_wp2_with (refine wpList_store_row rfl 38 _ _ rfl w.heap.size _ rfl rfl 38 _ hr1 (by rw [← zero38]; exact info38 0 (zers 40) (zers_len 40)) (by rw [← zero38]) (by rw [← zero38]; exact group_one 0 (zers 40)) ?_)
  rw [← zero38]
  refine bodyPost_ret (v := .tuple #[groupV 0 (zers 40), .int .i64 6]) (results_cell_tmp_row (p := 2) (u := 3) (ty := 38) Try.results18 _ _ w.heap.size 38 _ (0, 0) _ rfl (setRow_heap _ _ _ _ _ _ hr0) Try.underlying38 rfl (info38 0 (zers 40) (zers_len 40))) rfl ?_
  exact ⟨rfl, below_setRow HB (by omega) _⟩

set_option maxRecDepth 10000 in
set_option maxHeartbeats 1000000 in
theorem rdecodeGroup_magic (b o : Nat) (c : Nat) (xs : List Int) (w : World) (h : BI w (some ⟨b, o, none⟩) 128 xs) (hnc : 128 ≤ c) (h2 : ¬ xs.take 2 = [104, 100]) :
    Calls Try.prog 18 #[.slice (some ⟨b, o, none⟩) 128 c] w fun e w' => e = .returned (.tuple #[groupV 0 (zers 40), .int .i64 31]) ∧ Below w.heap.size w w' := by
  have HB := grew_alloc w (groupO 0 (zers 40))
  have hr0 := heap_new w (groupO 0 (zers 40))
  have hr1 := hr0
  have h0 : BI (w.alloc (groupO 0 (zers 40))) (some ⟨b, o, none⟩) 128 xs := h.kept HB
  have h4 := (h0.take 2 (by decide)).conv c
  have hst := hd_str (h0.take 2 (by decide)).byt
  dsimp only [groupO] at hr1 h4
  rw [zero38] at hr1 h4
  rw [show (xs.take 2 == [104, 100]) = false from beq_eq_false_iff_ne.2 h2] at hst
  go_enter Try.func18, Try.ntmps18
  go_wp2_with (refine wpList_store_row rfl 38 _ _ rfl w.heap.size _ rfl rfl 38 _ hr1 (by rw [← zero38]; exact info38 0 (zers 40) (zers_len 40)) (by rw [← zero38]) (by rw [← zero38]; exact group_one 0 (zers 40)) ?_)
  rw [← zero38]
  refine bodyPost_ret (v := .tuple #[groupV 0 (zers 40), .int .i64 31]) (results_cell_tmp_row (p := 2) (u := 3) (ty := 38) Try.results18 _ _ w.heap.size 38 _ (0, 0) _ rfl (setRow_heap _ _ _ _ _ _ hr0) Try.underlying38 rfl (info38 0 (zers 40) (zers_len 40))) rfl ?_
  exact ⟨rfl, below_setRow HB (by omega) _⟩

set_option maxRecDepth 10000 in
set_option maxHeartbeats 1000000 in
theorem rdecodeGroup_no (b o : Nat) (c : Nat) (xs : List Int) (w : World) (h : BI w (some ⟨b, o, none⟩) 128 xs) (hnc : 128 ≤ c) (h2 : xs.take 2 = [104, 100]) (hm : ¬ GMay (rN xs)) :
    Calls Try.prog 18 #[.slice (some ⟨b, o, none⟩) 128 c] w fun e w' => e = .returned (.tuple #[groupV 0 (zers 40), .int .i64 6]) ∧ Below w.heap.size w w' := by
  have HB := grew_alloc w (groupO 0 (zers 40))
  have hr0 := heap_new w (groupO 0 (zers 40))
  have hr1 := hr0
  have h0 : BI (w.alloc (groupO 0 (zers 40))) (some ⟨b, o, none⟩) 128 xs := h.kept HB
  have h4 := (h0.take 2 (by decide)).conv c
  have hst := hd_str (h0.take 2 (by decide)).byt
  dsimp only [groupO] at hr1 h4
  rw [zero38] at hr1 h4
  rw [show (xs.take 2 == [104, 100]) = true from beq_iff_eq.2 h2] at hst
  clear h2
  have hxl := h.len
  have hxb := h.byt
  have k2 : (w.alloc (groupO 0 (zers 40))).cell? ⟨b, o + 2, none⟩ = some (.int .u8 (xs.getD 2 0)) := by
    obtain ⟨b', o', e, hc⟩ := h0.cells (by decide)
    cases e
    exact hc 2 (by decide)
  have hb2 := h.byt 2
  have hv2 : rN xs = xs.getD 2 0 := by unfold rN; simp [Num.numD]
  have hyl : (rY xs).length = 40 := by unfold rY; simp; omega
  have hyb : Num.Byt (rY xs) := byt_take (byt_drop hxb _) _
  have hrb := read_bytes xs hxl
  change _ = rY xs at hrb
  dsimp only [groupO] at k2
  rw [zero38] at k2
  rw [← hv2] at k2 hb2
  clear hv2
  generalize rN xs = v at *
  generalize rY xs = ys at *
  have hn0 : ((w.alloc (groupO 0 (zers 40))).alloc (groupO 0 (zers 40))).heap[w.heap.size + 1]? = some (groupO 0 (zers 40)) := by
    have := heap_new (w.alloc (groupO 0 (zers 40))) (groupO 0 (zers 40))
    rwa [size_alloc] at this
  have hn1 := hn0
  dsimp only [groupO] at hn1
  rw [zero38] at hn1
  have hiv := info38 v (zers 40) (zers_len 40)
  have hov := group_one v (zers 40)
  rw [zeroN] at hiv hov
  have W2 : ∃ w2, w2 = ((w.alloc (groupO 0 (zers 40))).alloc (groupO 0 (zers 40))).setRow (w.heap.size + 1) (groupA v (zers 40)) := ⟨_, rfl⟩
  obtain ⟨w2, hw2⟩ := W2
  have hs2 : w2.heap[w.heap.size + 1]? = some (groupO v (zers 40)) := by rw [hw2]; exact setRow_heap _ _ _ _ _ _ hn0
  have hz2 : w2.heap[w.heap.size]? = some (groupO 0 (zers 40)) := by rw [hw2, setRow_other _ _ _ _ (by omega), Below.heap_alloc _ _ _ (by rw [size_alloc]; omega)]; exact hr0
  have hB2 : Below w.heap.size w w2 := by
    rw [hw2]
    exact below_setRow (grew_trans HB (grew_alloc _ _)) (by omega) _
  have hx2 : BI w2 (some ⟨b, o, none⟩) 128 xs := h.kept hB2
  have HW2 := (show Hid _ from hw2)
  clear hw2 hn0
  have hx4 : BI w2.drew (some ⟨b, o + 4, none⟩) 8 ((xs.drop 4).take 8) := ((hx2.kept (below_drewN (Below.refl _ _) 1)).drop 4 (by decide)).take 8 (by decide)
  have l8 : ((xs.drop 4).take 8).length = 8 := by simp; omega
  have r1 := group_copyB (w := w2.drew) hs2 (zers_len 40) ⟨b, o + 4, none⟩ (c - 4) (by rw [l8]; exact hx4) 0 (by omega) 3
  rw [l8] at r1
  have hs3 : (w2.drew.setRow (w.heap.size + 1) (groupA v (splice (zers 40) 0 ((xs.drop 4).take 8)))).heap[w.heap.size + 1]? = some (groupO v (splice (zers 40) 0 ((xs.drop 4).take 8))) := setRow_heap _ _ _ _ _ _ hs2
  have hz3 : (w2.drew.setRow (w.heap.size + 1) (groupA v (splice (zers 40) 0 ((xs.drop 4).take 8)))).heap[w.heap.size]? = some (groupO 0 (zers 40)) := by rw [setRow_other _ _ _ _ (by omega)]; exact hz2
  have hB3 : Below w.heap.size w (w2.drew.setRow (w.heap.size + 1) (groupA v (splice (zers 40) 0 ((xs.drop 4).take 8)))) := below_setRow hB2.drew (by omega) _
  generalize hw3 : w2.drew.setRow (w.heap.size + 1) (groupA v (splice (zers 40) 0 ((xs.drop 4).take 8))) = w3 at r1 hs3 hz3 hB3
  clear hw3
  have hx3 : BI w3 (some ⟨b, o, none⟩) 128 xs := h.kept hB3
  have hx12 : BI w3.drew (some ⟨b, o + 12, none⟩) 32 ((xs.drop 12).take 32) := ((hx3.kept (below_drewN (Below.refl _ _) 1)).drop 12 (by decide)).take 32 (by decide)
  have l32 : ((xs.drop 12).take 32).length = 32 := by simp; omega
  have y3 : (splice (zers 40) 0 ((xs.drop 4).take 8)).length = 40 := by rw [splice_len _ _ _ (by rw [l8, zers_len]; decide), zers_len]
  have r2 := group_copyB (w := w3.drew) hs3 y3 ⟨b, o + 12, none⟩ (c - 12) (by rw [l32]; exact hx12) 8 (by omega) 3
  rw [l32, hrb] at r2
  have hs4 : (w3.drew.setRow (w.heap.size + 1) (groupA v ys)).heap[w.heap.size + 1]? = some (groupO v ys) := setRow_heap _ _ _ _ _ _ hs3
  have hz4 : (w3.drew.setRow (w.heap.size + 1) (groupA v ys)).heap[w.heap.size]? = some (groupO 0 (zers 40)) := by rw [setRow_other _ _ _ _ (by omega)]; exact hz3
  have hB4 : Below w.heap.size w (w3.drew.setRow (w.heap.size + 1) (groupA v ys)) := below_setRow hB3.drew (by omega) _
  generalize hw4 : w3.drew.setRow (w.heap.size + 1) (groupA v ys) = w4 at r2 hs4 hz4 hB4
  clear hw4
  have hx4' : BI w4 (some ⟨b, o, none⟩) 128 xs := h.kept hB4
  have hi4 := info38 v ys hyl
  clear hs3 hz3 hs2 hz2 hx2 hx4 hx3 hx12 hB2 hB3 l8 l32 y3 hrb
  have hcI : (12 : Int) ≤ (c : Int) := by omega
  have hcJ : (44 : Int) ≤ (c : Int) := by omega
  have hc4 : ¬ c = 4 := by omega
  have hc12 : ¬ c = 12 := by omega
  go_enter Try.func18, Try.ntmps18
  go_wp2_with (refine wpList_store_row rfl 38 (.tmp 4) (.tmp 20) rfl (w.heap.size + 1) _ rfl rfl 38 _ hn1 hiv rfl hov ?_)
  rw [← zero38, ← zeroN v, ← HW2.out]
  go_region_held3 (fun _ => True) (trivial) (fail)
  go_wp2_with fail
  go_region_held3 (fun _ => True) (trivial) (fail)
  go_wp2_with (refine wpList_load_row rfl 38 _ rfl (w.heap.size + 1) rfl 38 _ (0, 0) _ hs4 Try.underlying38 rfl hi4 ?_)
  refine grew_at (rencodeGroup_no v ys hyl hm _) ?_
  intro w5 hb5
  have hr3 : w5.heap[w.heap.size]? = some (groupO 0 (zers 40)) := by rw [hb5.block _ (Array.getElem?_eq_some_iff.1 hz4).1]; exact hz4
  go_wp2_with (refine wpList_store_row rfl 38 _ _ rfl w.heap.size _ rfl rfl 38 _ hr3 (by rw [← zero38]; exact info38 0 (zers 40) (zers_len 40)) (by rw [← zero38]) (by rw [← zero38]; exact group_one 0 (zers 40)) ?_)
  rw [← zero38]
  refine bodyPost_ret (v := .tuple #[groupV 0 (zers 40), .int .i64 6]) (results_cell_tmp_row (p := 2) (u := 3) (ty := 38) Try.results18 _ _ w.heap.size 38 _ (0, 0) _ rfl (setRow_heap _ _ _ _ _ _ hr3) Try.underlying38 rfl (info38 0 (zers 40) (zers_len 40))) rfl ?_
  exact ⟨rfl, below_setRow (grew_trans hB4 hb5) (by omega) _⟩

set_option maxRecDepth 10000 in
set_option maxHeartbeats 1000000 in
theorem rdecodeGroup_bad (b o : Nat) (c : Nat) (xs : List Int) (w : World) (h : BI w (some ⟨b, o, none⟩) 128 xs) (hnc : 128 ≤ c) (h2 : xs.take 2 = [104, 100]) (hm : GMay (rN xs)) (he : ¬ groupL (rN xs) (rY xs) = xs) :
    Calls Try.prog 18 #[.slice (some ⟨b, o, none⟩) 128 c] w fun e w' => e = .returned (.tuple #[groupV 0 (zers 40), .int .i64 6]) ∧ Below w.heap.size w w' := by
  have HB := grew_alloc w (groupO 0 (zers 40))
  have hr0 := heap_new w (groupO 0 (zers 40))
  have hr1 := hr0
  have h0 : BI (w.alloc (groupO 0 (zers 40))) (some ⟨b, o, none⟩) 128 xs := h.kept HB
  have h4 := (h0.take 2 (by decide)).conv c
  have hst := hd_str (h0.take 2 (by decide)).byt
  dsimp only [groupO] at hr1 h4
  rw [zero38] at hr1 h4
  rw [show (xs.take 2 == [104, 100]) = true from beq_iff_eq.2 h2] at hst
  clear h2
  have hxl := h.len
  have hxb := h.byt
  have k2 : (w.alloc (groupO 0 (zers 40))).cell? ⟨b, o + 2, none⟩ = some (.int .u8 (xs.getD 2 0)) := by
    obtain ⟨b', o', e, hc⟩ := h0.cells (by decide)
    cases e
    exact hc 2 (by decide)
  have hb2 := h.byt 2
  have hv2 : rN xs = xs.getD 2 0 := by unfold rN; simp [Num.numD]
  have hyl : (rY xs).length = 40 := by unfold rY; simp; omega
  have hyb : Num.Byt (rY xs) := byt_take (byt_drop hxb _) _
  have hrb := read_bytes xs hxl
  change _ = rY xs at hrb
  dsimp only [groupO] at k2
  rw [zero38] at k2
  rw [← hv2] at k2 hb2
  clear hv2
  generalize rN xs = v at *
  generalize rY xs = ys at *
  have hn0 : ((w.alloc (groupO 0 (zers 40))).alloc (groupO 0 (zers 40))).heap[w.heap.size + 1]? = some (groupO 0 (zers 40)) := by
    have := heap_new (w.alloc (groupO 0 (zers 40))) (groupO 0 (zers 40))
    rwa [size_alloc] at this
  have hn1 := hn0
  dsimp only [groupO] at hn1
  rw [zero38] at hn1
  have hiv := info38 v (zers 40) (zers_len 40)
  have hov := group_one v (zers 40)
  rw [zeroN] at hiv hov
  have W2 : ∃ w2, w2 = ((w.alloc (groupO 0 (zers 40))).alloc (groupO 0 (zers 40))).setRow (w.heap.size + 1) (groupA v (zers 40)) := ⟨_, rfl⟩
  obtain ⟨w2, hw2⟩ := W2
  have hs2 : w2.heap[w.heap.size + 1]? = some (groupO v (zers 40)) := by rw [hw2]; exact setRow_heap _ _ _ _ _ _ hn0
  have hz2 : w2.heap[w.heap.size]? = some (groupO 0 (zers 40)) := by rw [hw2, setRow_other _ _ _ _ (by omega), Below.heap_alloc _ _ _ (by rw [size_alloc]; omega)]; exact hr0
  have hB2 : Below w.heap.size w w2 := by
    rw [hw2]
    exact below_setRow (grew_trans HB (grew_alloc _ _)) (by omega) _
  have hx2 : BI w2 (some ⟨b, o, none⟩) 128 xs := h.kept hB2
  have HW2 := (show Hid _ from hw2)
  clear hw2 hn0
  have hx4 : BI w2.drew (some ⟨b, o + 4, none⟩) 8 ((xs.drop 4).take 8) := ((hx2.kept (below_drewN (Below.refl _ _) 1)).drop 4 (by decide)).take 8 (by decide)
  have l8 : ((xs.drop 4).take 8).length = 8 := by simp; omega
  have r1 := group_copyB (w := w2.drew) hs2 (zers_len 40) ⟨b, o + 4, none⟩ (c - 4) (by rw [l8]; exact hx4) 0 (by omega) 3
  rw [l8] at r1
  have hs3 : (w2.drew.setRow (w.heap.size + 1) (groupA v (splice (zers 40) 0 ((xs.drop 4).take 8)))).heap[w.heap.size + 1]? = some (groupO v (splice (zers 40) 0 ((xs.drop 4).take 8))) := setRow_heap _ _ _ _ _ _ hs2
  have hz3 : (w2.drew.setRow (w.heap.size + 1) (groupA v (splice (zers 40) 0 ((xs.drop 4).take 8)))).heap[w.heap.size]? = some (groupO 0 (zers 40)) := by rw [setRow_other _ _ _ _ (by omega)]; exact hz2
  have hB3 : Below w.heap.size w (w2.drew.setRow (w.heap.size + 1) (groupA v (splice (zers 40) 0 ((xs.drop 4).take 8)))) := below_setRow hB2.drew (by omega) _
  generalize hw3 : w2.drew.setRow (w.heap.size + 1) (groupA v (splice (zers 40) 0 ((xs.drop 4).take 8))) = w3 at r1 hs3 hz3 hB3
  clear hw3
  have hx3 : BI w3 (some ⟨b, o, none⟩) 128 xs := h.kept hB3
  have hx12 : BI w3.drew (some ⟨b, o + 12, none⟩) 32 ((xs.drop 12).take 32) := ((hx3.kept (below_drewN (Below.refl _ _) 1)).drop 12 (by decide)).take 32 (by decide)
  have l32 : ((xs.drop 12).take 32).length = 32 := by simp; omega
  have y3 : (splice (zers 40) 0 ((xs.drop 4).take 8)).length = 40 := by rw [splice_len _ _ _ (by rw [l8, zers_len]; decide), zers_len]
  have r2 := group_copyB (w := w3.drew) hs3 y3 ⟨b, o + 12, none⟩ (c - 12) (by rw [l32]; exact hx12) 8 (by omega) 3
  rw [l32, hrb] at r2
  have hs4 : (w3.drew.setRow (w.heap.size + 1) (groupA v ys)).heap[w.heap.size + 1]? = some (groupO v ys) := setRow_heap _ _ _ _ _ _ hs3
  have hz4 : (w3.drew.setRow (w.heap.size + 1) (groupA v ys)).heap[w.heap.size]? = some (groupO 0 (zers 40)) := by rw [setRow_other _ _ _ _ (by omega)]; exact hz3
  have hB4 : Below w.heap.size w (w3.drew.setRow (w.heap.size + 1) (groupA v ys)) := below_setRow hB3.drew (by omega) _
  generalize hw4 : w3.drew.setRow (w.heap.size + 1) (groupA v ys) = w4 at r2 hs4 hz4 hB4
  clear hw4
  have hx4' : BI w4 (some ⟨b, o, none⟩) 128 xs := h.kept hB4
  have hi4 := info38 v ys hyl
  clear hs3 hz3 hs2 hz2 hx2 hx4 hx3 hx12 hB2 hB3 l8 l32 y3 hrb
  have hcI : (12 : Int) ≤ (c : Int) := by omega
  have hcJ : (44 : Int) ≤ (c : Int) := by omega
  have hc4 : ¬ c = 4 := by omega
  have hc12 : ¬ c = 12 := by omega
  go_enter Try.func18, Try.ntmps18
  go_wp2_with (refine wpList_store_row rfl 38 (.tmp 4) (.tmp 20) rfl (w.heap.size + 1) _ rfl rfl 38 _ hn1 hiv rfl hov ?_)
  rw [← zero38, ← zeroN v, ← HW2.out]
  go_region_held3 (fun _ => True) (trivial) (fail)
  go_wp2_with fail
  go_region_held3 (fun _ => True) (trivial) (fail)
  go_wp2_with (refine wpList_load_row rfl 38 _ rfl (w.heap.size + 1) rfl 38 _ (0, 0) _ hs4 Try.underlying38 rfl hi4 ?_)
  refine Calls.mono (rencodeGroup_yes v ys hyl hyb hm _) ?_
  rintro e w5 ⟨g, cap, rfl, ho, hb5⟩
  have hr3 : w5.heap[w.heap.size]? = some (groupO 0 (zers 40)) := by rw [hb5.block _ (Array.getElem?_eq_some_iff.1 hz4).1]; exact hz4
  have hx5 : w5.heap[w.heap.size + 1]? = some (groupO v ys) := by rw [hb5.block _ (Array.getElem?_eq_some_iff.1 hs4).1]; exact hs4
  have hq := same_any _ _ 128 c 128 cap xs _ w5 (hx4'.kept hb5) (ho.bi (by omega) (groupL_byt v ys hyb))
  rw [show (xs == groupL v ys) = false from beq_eq_false_iff_ne.2 (fun e => he e.symm)] at hq
  go_wp2_with (first
    | (go_at_call 50; refine same_at hq ?_)
    | (refine wpList_store_row rfl 38 _ _ rfl w.heap.size _ rfl rfl 38 _ hr3 (by rw [← zero38]; exact info38 0 (zers 40) (zers_len 40)) (by rw [← zero38]) (by rw [← zero38]; exact group_one 0 (zers 40)) ?_))
  rw [← zero38]
  refine bodyPost_ret (v := .tuple #[groupV 0 (zers 40), .int .i64 6]) (results_cell_tmp_row (p := 2) (u := 3) (ty := 38) Try.results18 _ _ w.heap.size 38 _ (0, 0) _ rfl (setRow_heap _ _ _ _ _ _ hr3) Try.underlying38 rfl (info38 0 (zers 40) (zers_len 40))) rfl ?_
  exact ⟨rfl, below_setRow (grew_trans hB4 hb5) (by omega) _⟩

set_option maxRecDepth 10000 in
set_option maxHeartbeats 1000000 in
theorem rdecodeGroup_yes (b o : Nat) (c : Nat) (xs : List Int) (w : World) (h : BI w (some ⟨b, o, none⟩) 128 xs) (hnc : 128 ≤ c) (h2 : xs.take 2 = [104, 100]) (hm : GMay (rN xs)) (he : groupL (rN xs) (rY xs) = xs) :
    Calls Try.prog 18 #[.slice (some ⟨b, o, none⟩) 128 c] w fun e w' => e = .returned (.tuple #[groupV (rN xs) (rY xs), .int .i64 0]) ∧ Below w.heap.size w w' := by
  have HB := grew_alloc w (groupO 0 (zers 40))
  have hr0 := heap_new w (groupO 0 (zers 40))
  have hr1 := hr0
  have h0 : BI (w.alloc (groupO 0 (zers 40))) (some ⟨b, o, none⟩) 128 xs := h.kept HB
  have h4 := (h0.take 2 (by decide)).conv c
  have hst := hd_str (h0.take 2 (by decide)).byt
  dsimp only [groupO] at hr1 h4
  rw [zero38] at hr1 h4
  rw [show (xs.take 2 == [104, 100]) = true from beq_iff_eq.2 h2] at hst
  clear h2
  have hxl := h.len
  have hxb := h.byt
  have k2 : (w.alloc (groupO 0 (zers 40))).cell? ⟨b, o + 2, none⟩ = some (.int .u8 (xs.getD 2 0)) := by
    obtain ⟨b', o', e, hc⟩ := h0.cells (by decide)
    cases e
    exact hc 2 (by decide)
  have hb2 := h.byt 2
  have hv2 : rN xs = xs.getD 2 0 := by unfold rN; simp [Num.numD]
  have hyl : (rY xs).length = 40 := by unfold rY; simp; omega
  have hyb : Num.Byt (rY xs) := byt_take (byt_drop hxb _) _
  have hrb := read_bytes xs hxl
  change _ = rY xs at hrb
  dsimp only [groupO] at k2
  rw [zero38] at k2
  rw [← hv2] at k2 hb2
  clear hv2
  generalize rN xs = v at *
  generalize rY xs = ys at *
  have hn0 : ((w.alloc (groupO 0 (zers 40))).alloc (groupO 0 (zers 40))).heap[w.heap.size + 1]? = some (groupO 0 (zers 40)) := by
    have := heap_new (w.alloc (groupO 0 (zers 40))) (groupO 0 (zers 40))
    rwa [size_alloc] at this
  have hn1 := hn0
  dsimp only [groupO] at hn1
  rw [zero38] at hn1
  have hiv := info38 v (zers 40) (zers_len 40)
  have hov := group_one v (zers 40)
  rw [zeroN] at hiv hov
  have W2 : ∃ w2, w2 = ((w.alloc (groupO 0 (zers 40))).alloc (groupO 0 (zers 40))).setRow (w.heap.size + 1) (groupA v (zers 40)) := ⟨_, rfl⟩
  obtain ⟨w2, hw2⟩ := W2
  have hs2 : w2.heap[w.heap.size + 1]? = some (groupO v (zers 40)) := by rw [hw2]; exact setRow_heap _ _ _ _ _ _ hn0
  have hz2 : w2.heap[w.heap.size]? = some (groupO 0 (zers 40)) := by rw [hw2, setRow_other _ _ _ _ (by omega), Below.heap_alloc _ _ _ (by rw [size_alloc]; omega)]; exact hr0
  have hB2 : Below w.heap.size w w2 := by
    rw [hw2]
    exact below_setRow (grew_trans HB (grew_alloc _ _)) (by omega) _
  have hx2 : BI w2 (some ⟨b, o, none⟩) 128 xs := h.kept hB2
  have HW2 := (show Hid _ from hw2)
  clear hw2 hn0
  have hx4 : BI w2.drew (some ⟨b, o + 4, none⟩) 8 ((xs.drop 4).take 8) := ((hx2.kept (below_drewN (Below.refl _ _) 1)).drop 4 (by decide)).take 8 (by decide)
  have l8 : ((xs.drop 4).take 8).length = 8 := by simp; omega
  have r1 := group_copyB (w := w2.drew) hs2 (zers_len 40) ⟨b, o + 4, none⟩ (c - 4) (by rw [l8]; exact hx4) 0 (by omega) 3
  rw [l8] at r1
  have hs3 : (w2.drew.setRow (w.heap.size + 1) (groupA v (splice (zers 40) 0 ((xs.drop 4).take 8)))).heap[w.heap.size + 1]? = some (groupO v (splice (zers 40) 0 ((xs.drop 4).take 8))) := setRow_heap _ _ _ _ _ _ hs2
  have hz3 : (w2.drew.setRow (w.heap.size + 1) (groupA v (splice (zers 40) 0 ((xs.drop 4).take 8)))).heap[w.heap.size]? = some (groupO 0 (zers 40)) := by rw [setRow_other _ _ _ _ (by omega)]; exact hz2
  have hB3 : Below w.heap.size w (w2.drew.setRow (w.heap.size + 1) (groupA v (splice (zers 40) 0 ((xs.drop 4).take 8)))) := below_setRow hB2.drew (by omega) _
  generalize hw3 : w2.drew.setRow (w.heap.size + 1) (groupA v (splice (zers 40) 0 ((xs.drop 4).take 8))) = w3 at r1 hs3 hz3 hB3
  clear hw3
  have hx3 : BI w3 (some ⟨b, o, none⟩) 128 xs := h.kept hB3
  have hx12 : BI w3.drew (some ⟨b, o + 12, none⟩) 32 ((xs.drop 12).take 32) := ((hx3.kept (below_drewN (Below.refl _ _) 1)).drop 12 (by decide)).take 32 (by decide)
  have l32 : ((xs.drop 12).take 32).length = 32 := by simp; omega
  have y3 : (splice (zers 40) 0 ((xs.drop 4).take 8)).length = 40 := by rw [splice_len _ _ _ (by rw [l8, zers_len]; decide), zers_len]
  have r2 := group_copyB (w := w3.drew) hs3 y3 ⟨b, o + 12, none⟩ (c - 12) (by rw [l32]; exact hx12) 8 (by omega) 3
  rw [l32, hrb] at r2
  have hs4 : (w3.drew.setRow (w.heap.size + 1) (groupA v ys)).heap[w.heap.size + 1]? = some (groupO v ys) := setRow_heap _ _ _ _ _ _ hs3
  have hz4 : (w3.drew.setRow (w.heap.size + 1) (groupA v ys)).heap[w.heap.size]? = some (groupO 0 (zers 40)) := by rw [setRow_other _ _ _ _ (by omega)]; exact hz3
  have hB4 : Below w.heap.size w (w3.drew.setRow (w.heap.size + 1) (groupA v ys)) := below_setRow hB3.drew (by omega) _
  generalize hw4 : w3.drew.setRow (w.heap.size + 1) (groupA v ys) = w4 at r2 hs4 hz4 hB4
  clear hw4
  have hx4' : BI w4 (some ⟨b, o, none⟩) 128 xs := h.kept hB4
  have hi4 := info38 v ys hyl
  clear hs3 hz3 hs2 hz2 hx2 hx4 hx3 hx12 hB2 hB3 l8 l32 y3 hrb
  have hcI : (12 : Int) ≤ (c : Int) := by omega
  have hcJ : (44 : Int) ≤ (c : Int) := by omega
  have hc4 : ¬ c = 4 := by omega
  have hc12 : ¬ c = 12 := by omega
  go_enter Try.func18, Try.ntmps18
  go_wp2_with (refine wpList_store_row rfl 38 (.tmp 4) (.tmp 20) rfl (w.heap.size + 1) _ rfl rfl 38 _ hn1 hiv rfl hov ?_)
  rw [← zero38, ← zeroN v, ← HW2.out]
  go_region_held3 (fun _ => True) (trivial) (fail)
  go_wp2_with fail
  go_region_held3 (fun _ => True) (trivial) (fail)
  go_wp2_with (refine wpList_load_row rfl 38 _ rfl (w.heap.size + 1) rfl 38 _ (0, 0) _ hs4 Try.underlying38 rfl hi4 ?_)
  refine Calls.mono (rencodeGroup_yes v ys hyl hyb hm _) ?_
  rintro e w5 ⟨g, cap, rfl, ho, hb5⟩
  have hr3 : w5.heap[w.heap.size]? = some (groupO 0 (zers 40)) := by rw [hb5.block _ (Array.getElem?_eq_some_iff.1 hz4).1]; exact hz4
  have hx5 : w5.heap[w.heap.size + 1]? = some (groupO v ys) := by rw [hb5.block _ (Array.getElem?_eq_some_iff.1 hs4).1]; exact hs4
  have hq := same_any _ _ 128 c 128 cap xs _ w5 (hx4'.kept hb5) (ho.bi (by omega) (groupL_byt v ys hyb))
  rw [show (xs == groupL v ys) = true from beq_iff_eq.2 he.symm] at hq
  clear he
  go_wp2_with (first
    | (go_at_call 50; refine same_at hq ?_)
    | (refine wpList_load_row rfl 38 _ rfl (w.heap.size + 1) rfl 38 _ (0, 0) _ hx5 Try.underlying38 rfl hi4 ?_)
    | (refine wpList_store_row rfl 38 _ _ rfl w.heap.size _ rfl rfl 38 _ hr3 hi4 ((groupA_size 0 (zers 40) (zers_len 40)).trans (groupA_size v ys hyl).symm) (group_one v ys) ?_))
  refine bodyPost_ret (v := .tuple #[groupV v ys, .int .i64 0]) (results_cell_tmp_row (p := 2) (u := 3) (ty := 38) Try.results18 _ _ w.heap.size 38 _ (0, 0) _ rfl (setRow_heap _ _ _ _ _ _ hr3) Try.underlying38 rfl hi4) rfl ?_
  exact ⟨rfl, below_setRow (grew_trans hB4 hb5) (by omega) _⟩

theorem rdecodeGroup_ok (p : Option Addr) (n c : Nat) (xs : List Int) (w : World) (h : BI w p n xs) (hnc : n ≤ c) :
    Calls Try.prog 18 #[.slice p n c] w fun e w' => e = .returned (.tuple #[groupV (gdN n xs) (gdY n xs), .int .i64 (gdE n xs)]) ∧ Below w.heap.size w w' := by
  by_cases h1 : n = 128
  · subst h1
    obtain ⟨b, o, rfl, _⟩ := h.cells (by decide)
    by_cases h2 : xs.take 2 = [104, 100]
    · unfold gdN gdY
      by_cases hg : GGood xs (rN xs) (rY xs)
      · have e1 : gdE 128 xs = 0 := by unfold gdE; rw [if_neg (by simp), if_neg (by simp [h2]), if_pos hg]
        rw [e1, if_pos rfl, if_pos rfl]
        exact rdecodeGroup_yes b o c xs w h hnc h2 hg.1 hg.2
      · have e1 : gdE 128 xs = 6 := by unfold gdE; rw [if_neg (by simp), if_neg (by simp [h2]), if_neg hg]
        rw [e1, if_neg (by decide), if_neg (by decide)]
        by_cases hm : GMay (rN xs)
        · exact rdecodeGroup_bad b o c xs w h hnc h2 hm (fun e => hg ⟨hm, e⟩)
        · exact rdecodeGroup_no b o c xs w h hnc h2 hm
    · have e1 : gdE 128 xs = 31 := by unfold gdE; rw [if_neg (by simp), if_pos h2]
      unfold gdN gdY
      rw [e1, if_neg (by decide), if_neg (by decide)]
      exact rdecodeGroup_magic b o c xs w h hnc h2
  · have e1 : gdE n xs = 6 := by unfold gdE; rw [if_pos h1]
    unfold gdN gdY
    rw [e1, if_neg (by decide), if_neg (by decide)]
    exact rdecodeGroup_len p n c w h.big h1
end Go.Proofs.Ytkmijjipnepnoaa
