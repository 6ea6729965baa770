/- KREnt KD2 KD4 KD5 KD7 KD9 -/
import Derived.Test.YthdlpeejmmobmaaGreatYG25

namespace Go.Proofs.YthdlpeejmmobmaaGreat.Mk
open Go.RowKit
set_option maxRecDepth 100000
set_option linter.unusedVariables false
set_option maxRecDepth 10000 in
set_option maxHeartbeats 400000 in
theorem rencodeEntry_none (s : ByteArray) (h : s.size = 0) (w : World) : Calls Tryz.prog 187 #[entV 0 s] w fun e w' => ∃ p c, e = .returned (.tuple #[.slice p 16 c, .int .i64 0]) ∧ BI w' p 16 (entL 0 s) ∧ Below w.heap.size w w' := by
 obtain ⟨i0, hi0, hz0, hz1, hz2⟩ := info_parts info5
 have HB := grew_alloc w (entO 0 s)
 have hx := heap_new w (entO 0 s)
 have hl := toList_empty h
 have hee := entL_none s h
 have HE := (show Hid _ from hee)
 clear hee h
 go_enter Tryz.func187, Tryz.ntmps187
 go_wp2_with (first
  | (at_make; generalize w.alloc (entO 0 s) = wa at *; refine wpList_make_full _ rfl _ _ 42 rfl wa.heap.size 5 i0 (.int .u8 0) 1 Tryz.underlying42 hi0 hz0 hz1 .i64 .i64 _ _ 16 rfl rfl rfl rfl (by rw [hz2]; omega) (by unfold maxLen; omega) (Nat.le_refl _) ?_; intro w1 hown1 hgrow1; have hb1 := (Below.refl _ wa).grown hgrow1 (Nat.le_refl _) (by intro k hk; cases hk); have hrow := own_row hown1; rw [made_zers 16] at hrow; have HB := grew_trans HB hb1; have hx := (hb1.block _ (Array.getElem?_eq_some_iff.1 hx).1).trans hx; have c0 : w1.cell? ⟨w.heap.size, 0, none⟩ = some (.int .i64 0) := cell_row hx 0 _ rfl; have c1 : w1.cell? ⟨w.heap.size, 1, none⟩ = some (.string s) := cell_row hx 1 _ rfl; clear hown1 hgrow1 hb1))
 go_ret2
 rw [HE.out]
 exact ⟨_, _, rfl, raw_bi hrow (zers_len 16) (by omega) (zers_byt 16), HB⟩
set_option maxRecDepth 10000 in
set_option maxHeartbeats 200000 in
theorem rencodeEntry_zero (s : ByteArray) (hs : s.size ≤ 140737488355328) (h0 : ¬ s.size = 0) (w : World) : Calls Tryz.prog 187 #[entV 0 s] w fun e w' => e = .returned (.tuple #[.slice none 0 0, .int .i64 1]) ∧ Below w.heap.size w w' := by
 obtain ⟨i0, hi0, hz0, hz1, hz2⟩ := info_parts info5
 have HB := grew_alloc w (entO 0 s)
 have hx := heap_new w (entO 0 s)
 have hl := toList_not h0
 clear h0
 go_enter Tryz.func187, Tryz.ntmps187
 go_wp2_with (first
  | (at_make; generalize w.alloc (entO 0 s) = wa at *; refine wpList_make_full _ rfl _ _ 42 rfl wa.heap.size 5 i0 (.int .u8 0) 1 Tryz.underlying42 hi0 hz0 hz1 .i64 .i64 _ _ 16 rfl rfl rfl rfl (by rw [hz2]; omega) (by unfold maxLen; omega) (Nat.le_refl _) ?_; intro w1 hown1 hgrow1; have hb1 := (Below.refl _ wa).grown hgrow1 (Nat.le_refl _) (by intro k hk; cases hk); have hrow := own_row hown1; rw [made_zers 16] at hrow; have ho := own_of_row (Nat.le_refl wa.heap.size) (by decide) (zers_len 16) hrow; have HB := grew_trans HB hb1; have hx := (hb1.block _ (Array.getElem?_eq_some_iff.1 hx).1).trans hx; have c0 : w1.cell? ⟨w.heap.size, 0, none⟩ = some (.int .i64 0) := cell_row hx 0 _ rfl; have c1 : w1.cell? ⟨w.heap.size, 1, none⟩ = some (.string s) := cell_row hx 1 _ rfl; clear hown1 hgrow1 hb1))
 go_ret2
 exact ⟨rfl, HB⟩
set_option maxRecDepth 10000 in
set_option maxHeartbeats 200000 in
theorem rencodeEntry_low (N : Int) (s : ByteArray) (hs : s.size ≤ 140737488355328) (h : N < 1) (hN : ¬ N = 0) (w : World) : Calls Tryz.prog 187 #[entV N s] w fun e w' => e = .returned (.tuple #[.slice none 0 0, .int .i64 1]) ∧ Below w.heap.size w w' := by
 obtain ⟨i0, hi0, hz0, hz1, hz2⟩ := info_parts info5
 have HB := grew_alloc w (entO N s)
 have hx := heap_new w (entO N s)
 go_enter Tryz.func187, Tryz.ntmps187
 go_wp2_with (first
  | (at_make; generalize w.alloc (entO N s) = wa at *; refine wpList_make_full _ rfl _ _ 42 rfl wa.heap.size 5 i0 (.int .u8 0) 1 Tryz.underlying42 hi0 hz0 hz1 .i64 .i64 _ _ 16 rfl rfl rfl rfl (by rw [hz2]; omega) (by unfold maxLen; omega) (Nat.le_refl _) ?_; intro w1 hown1 hgrow1; have hb1 := (Below.refl _ wa).grown hgrow1 (Nat.le_refl _) (by intro k hk; cases hk); have hrow := own_row hown1; rw [made_zers 16] at hrow; have ho := own_of_row (Nat.le_refl wa.heap.size) (by decide) (zers_len 16) hrow; have HB := grew_trans HB hb1; have hx := (hb1.block _ (Array.getElem?_eq_some_iff.1 hx).1).trans hx; have c0 : w1.cell? ⟨w.heap.size, 0, none⟩ = some (.int .i64 N) := cell_row hx 0 _ rfl; have c1 : w1.cell? ⟨w.heap.size, 1, none⟩ = some (.string s) := cell_row hx 1 _ rfl; clear hown1 hgrow1 hb1))
 go_ret2
 exact ⟨rfl, HB⟩
set_option maxRecDepth 10000 in
set_option maxHeartbeats 200000 in
theorem rencodeEntry_high (N : Int) (s : ByteArray) (hs : s.size ≤ 140737488355328) (h : 511 < N) (w : World) : Calls Tryz.prog 187 #[entV N s] w fun e w' => e = .returned (.tuple #[.slice none 0 0, .int .i64 1]) ∧ Below w.heap.size w w' := by
 obtain ⟨i0, hi0, hz0, hz1, hz2⟩ := info_parts info5
 have HB := grew_alloc w (entO N s)
 have hx := heap_new w (entO N s)
 have hN : ¬ N = 0 := by omega
 have hN1 : ¬ N < 1 := by omega
 go_enter Tryz.func187, Tryz.ntmps187
 go_wp2_with (first
  | (at_make; generalize w.alloc (entO N s) = wa at *; refine wpList_make_full _ rfl _ _ 42 rfl wa.heap.size 5 i0 (.int .u8 0) 1 Tryz.underlying42 hi0 hz0 hz1 .i64 .i64 _ _ 16 rfl rfl rfl rfl (by rw [hz2]; omega) (by unfold maxLen; omega) (Nat.le_refl _) ?_; intro w1 hown1 hgrow1; have hb1 := (Below.refl _ wa).grown hgrow1 (Nat.le_refl _) (by intro k hk; cases hk); have hrow := own_row hown1; rw [made_zers 16] at hrow; have ho := own_of_row (Nat.le_refl wa.heap.size) (by decide) (zers_len 16) hrow; have HB := grew_trans HB hb1; have hx := (hb1.block _ (Array.getElem?_eq_some_iff.1 hx).1).trans hx; have c0 : w1.cell? ⟨w.heap.size, 0, none⟩ = some (.int .i64 N) := cell_row hx 0 _ rfl; have c1 : w1.cell? ⟨w.heap.size, 1, none⟩ = some (.string s) := cell_row hx 1 _ rfl; clear hown1 hgrow1 hb1))
 go_ret2
 exact ⟨rfl, HB⟩
set_option maxRecDepth 10000 in
set_option maxHeartbeats 200000 in
theorem rencodeEntry_name (N : Int) (s : ByteArray) (hs : s.size ≤ 140737488355328) (h : 1 ≤ N ∧ N ≤ 511) (hd : dots s = false) (hm : ¬ Nm s) (w : World) : Calls Tryz.prog 187 #[entV N s] w fun e w' => e = .returned (.tuple #[.slice none 0 0, .int .i64 1]) ∧ Below w.heap.size w w' := by
 obtain ⟨i0, hi0, hz0, hz1, hz2⟩ := info_parts info5
 have HB := grew_alloc w (entO N s)
 have hx := heap_new w (entO N s)
 have hn := fun w => risName_ok s w hs
 rw [decide_eq_false hm] at hn
 have hN : ¬ N = 0 := by omega
 have hN1 : ¬ N < 1 := by omega
 have hN2 : ¬ 511 < N := by omega
 have h3 : (s.toList == [46]) = false := by
  unfold dots at hd
  simp at hd
  simpa using hd.1
 have h4 : (s.toList == [46, 46]) = false := by
  unfold dots at hd
  simp at hd
  simpa using hd.2
 have h3' : (s.toList != [46]) = true := by simp [bne, h3]
 have h4' : (s.toList != [46, 46]) = true := by simp [bne, h4]
 clear hd hm
 go_enter Tryz.func187, Tryz.ntmps187
 go_wp2_with (first
  | (at_make; generalize w.alloc (entO N s) = wa at *; refine wpList_make_full _ rfl _ _ 42 rfl wa.heap.size 5 i0 (.int .u8 0) 1 Tryz.underlying42 hi0 hz0 hz1 .i64 .i64 _ _ 16 rfl rfl rfl rfl (by rw [hz2]; omega) (by unfold maxLen; omega) (Nat.le_refl _) ?_; intro w1 hown1 hgrow1; have hb1 := (Below.refl _ wa).grown hgrow1 (Nat.le_refl _) (by intro k hk; cases hk); have hrow := own_row hown1; rw [made_zers 16] at hrow; have ho := own_of_row (Nat.le_refl wa.heap.size) (by decide) (zers_len 16) hrow; have HB := grew_trans HB hb1; have hx := (hb1.block _ (Array.getElem?_eq_some_iff.1 hx).1).trans hx; have c0 : w1.cell? ⟨w.heap.size, 0, none⟩ = some (.int .i64 N) := cell_row hx 0 _ rfl; have c1 : w1.cell? ⟨w.heap.size, 1, none⟩ = some (.string s) := cell_row hx 1 _ rfl; clear hown1 hgrow1 hb1)
  | (go_at_call 259; refine same_at (hn _) ?_))
 go_ret2
 exact ⟨rfl, HB⟩
theorem ent_copy {w : World} {B g cap : Nat} {L : List Int} (ho : Own B w g 16 cap L) (s : ByteArray) (h : s.size ≤ 13) (hy : Num.Byt L) :
  ∃ A : Array Value, (∀ ty, (Builtin.copy_ #[42, 9] ty #[.slice (some ⟨g, 3, none⟩) 13 (cap - 3), .string s]).run Tryz.prog w = .ok (goInt s.size) (w.setRow g A)) ∧ BI (w.setRow g A) (some ⟨g, 0, none⟩) 16 (splice L 3 (numsOf s)) := by
 have hl : L.length = 16 := by have := ho.1; simpa using this
 rcases ho.2 with ⟨e, _⟩ | ⟨g', cap', cur, e, hB, hg, hc, _, hcs, ht⟩
 ·cases e
 ·cases e
  rw [Nat.mul_one] at ht hcs
  refine ⟨_, fun ty => Lib.run_copy_row_string (P := Tryz.prog) w 42 9 ty 5 g 3 13 (cap - 3) s _ 5 Tryz.underlying42 size5 hg h (by omega), ?_⟩
  have hA : cur.toList.take 3 ++ Lib.byteCells s.data.toList ++ cur.toList.drop (3 + s.size) = (splice L 3 (numsOf s)).map (Value.int .u8) ++ cur.toList.drop 16 := by
   have hcur : cur.toList = L.map (Value.int .u8) ++ cur.toList.drop 16 := by rw [← ht, List.take_append_drop]
   have hbc : Lib.byteCells s.data.toList = (numsOf s).map (Value.int .u8) := by simp [Lib.byteCells, numsOf]
   rw [hbc, ← splice_map]
   generalize cur.toList.drop 16 = R at hcur
   rw [hcur]
   unfold splice
   rw [List.length_map, numsOf_len, List.take_append_of_le_length (by simp; omega), List.drop_append_of_le_length (by simp; omega)]
   simp only [List.append_assoc]
  rw [hA]
  have hsl : (splice L 3 (numsOf s)).length = 16 := by rw [splice_len _ _ _ (by rw [numsOf_len]; omega), hl]
  refine ⟨hsl, by omega, splice_byt hy (numsOf_byt s) 3, fun _ => ⟨_, _, rfl, fun i hi => ?_⟩⟩
  rw [Nat.zero_add]
  refine cell_row (setRow_heap _ _ _ _ _ _ hg) i _ ?_
  have e : (splice L 3 (numsOf s))[i]? = some ((splice L 3 (numsOf s)).getD i 0) := by rw [List.getD_eq_getElem?_getD, List.getElem?_eq_getElem (by omega)]; rfl
  rw [List.getElem?_toArray, List.getElem?_append_left (by simp; omega), List.getElem?_map, e]
  rfl
theorem Own.base_le {B : Nat} {w : World} {g n cap : Nat} {xs : List Int} (h : Own B w g n cap xs) : B ≤ g := (World.ownsRow.lt h g rfl).1
set_option maxRecDepth 10000 in
set_option maxHeartbeats 1000000 in
theorem rencodeEntry_used (N : Int) (s : ByteArray) (h : 1 ≤ N ∧ N ≤ 511) (hd : dots s = true ∨ Nm s) (w : World) : Calls Tryz.prog 187 #[entV N s] w fun e w' => ∃ p c, e = .returned (.tuple #[.slice p 16 c, .int .i64 0]) ∧ BI w' p 16 (entL N s) ∧ Below w.heap.size w w' := by
 have hsz := emay_size (Or.inr ⟨h, hd⟩ : EMay N s)
 have hs : s.size ≤ 140737488355328 := by omega
 obtain ⟨i0, hi0, hz0, hz1, hz2⟩ := info_parts info5
 have HB := grew_alloc w (entO N s)
 have hx := heap_new w (entO N s)
 have hn := fun w => risName_ok s w hs
 have hN : ¬ N = 0 := by omega
 have hN1 : ¬ N < 1 := by omega
 have hN2 : ¬ 511 < N := by omega
 obtain ⟨h1, h2⟩ := h
 go_enter Tryz.func187, Tryz.ntmps187
 by_cases hm : Nm s
 ·rw [decide_eq_true hm] at hn
  clear hd hm
  go_wp2_with (first
   | (at_make; generalize w.alloc (entO N s) = wa at *; refine wpList_make_full _ rfl _ _ 42 rfl wa.heap.size 5 i0 (.int .u8 0) 1 Tryz.underlying42 hi0 hz0 hz1 .i64 .i64 _ _ 16 rfl rfl rfl rfl (by rw [hz2]; omega) (by unfold maxLen; omega) (Nat.le_refl _) ?_; intro w1 hown1 hgrow1; have hb1 := (Below.refl _ wa).grown hgrow1 (Nat.le_refl _) (by intro k hk; cases hk); have hrow := own_row hown1; rw [made_zers 16] at hrow; have ho := own_of_row (Nat.le_refl wa.heap.size) (by decide) (zers_len 16) hrow; have HB := grew_trans HB hb1; have hx := (hb1.block _ (Array.getElem?_eq_some_iff.1 hx).1).trans hx; have c0 : w1.cell? ⟨w.heap.size, 0, none⟩ = some (.int .i64 N) := cell_row hx 0 _ rfl; have c1 : w1.cell? ⟨w.heap.size, 1, none⟩ = some (.string s) := cell_row hx 1 _ rfl; clear hown1 hgrow1 hb1)
   | (go_at_call 259; refine same_at (hn _) ?_))
  refine Calls.mono (rnumber_ok _ 16 _ _ 0 2 N _ (ho.bi (by omega) (zers_byt 16)) (by omega) (by omega) (by omega) (by omega) (by omega)) ?_
  rintro e w2 ⟨g2, cap2, rfl, ho2, hb2⟩
  have HB2 := grew_trans HB hb2
  have hx2 := (hb2.block _ (Array.getElem?_eq_some_iff.1 hx).1).trans hx
  have c1 : w2.cell? ⟨w.heap.size, 1, none⟩ = some (.string s) := cell_row hx2 1 _ rfl
  clear hb2 ho hrow c0 hx
  go_wp2_with fail
  refine Calls.mono (rnumber_ok _ 16 _ _ 2 1 (s.size : Int) _ (ho2.bi (by omega) (Num.putTo_byt (zers_byt 16) _ _ _)) (by omega) (by omega) (by omega) (by omega) (by omega)) ?_
  rintro e w3 ⟨g3, cap3, rfl, ho3, hb3⟩
  have HB3 := grew_trans HB2 hb3
  have hx3 := (hb3.block _ (Array.getElem?_eq_some_iff.1 hx2).1).trans hx2
  have hg3 : w.heap.size < g3 := Nat.lt_of_lt_of_le (Array.getElem?_eq_some_iff.1 hx2).1 ho3.base_le
  have c1 : w3.cell? ⟨w.heap.size, 1, none⟩ = some (.string s) := cell_row hx3 1 _ rfl
  have hcap : 16 ≤ cap3 := ho3.room.1
  obtain ⟨A, hrun, hbi⟩ := ent_copy (w := w3.drew) ho3 s hsz (Num.putTo_byt (Num.putTo_byt (zers_byt 16) _ _ _) _ _ _)
  have hxA : (w3.drew.setRow g3 A).heap[w.heap.size]? = some (entO N s) := by rw [setRow_other _ _ _ _ (by omega)]; exact hx3
  have cA : (w3.drew.setRow g3 A).cell? ⟨w.heap.size, 1, none⟩ = some (.string s) := cell_row hxA 1 _ rfl
  have hBA := below_setRow HB3.drew (Nat.le_of_lt hg3) A
  have hcI : (3 : Int) ≤ (cap3 : Int) := by omega
  have hc3 : ¬ cap3 = 3 := by omega
  have HBI := (show Hid _ from hbi)
  clear hbi hb3 ho2 ho3 hx2 hx3 HB2
  go_wp2_with fail
  go_region_held3 (fun w' => w'.cell? ⟨w.heap.size, 1, none⟩ = some (.string s)) (first | exact c1 | exact cA) (fail)
  go_wp2_with fail
  go_ret2
  exact ⟨_, _, rfl, HBI.out, hBA⟩
 ·rw [decide_eq_false hm] at hn
  have hd := guard_name (hd.resolve_right hm)
  clear hm
  rcases hd with hd | hd
  ·have e1 : (s.toList == [46]) = true := by rw [hd]; rfl
   clear hd
   go_wp2_with (first
    | (at_make; generalize w.alloc (entO N s) = wa at *; refine wpList_make_full _ rfl _ _ 42 rfl wa.heap.size 5 i0 (.int .u8 0) 1 Tryz.underlying42 hi0 hz0 hz1 .i64 .i64 _ _ 16 rfl rfl rfl rfl (by rw [hz2]; omega) (by unfold maxLen; omega) (Nat.le_refl _) ?_; intro w1 hown1 hgrow1; have hb1 := (Below.refl _ wa).grown hgrow1 (Nat.le_refl _) (by intro k hk; cases hk); have hrow := own_row hown1; rw [made_zers 16] at hrow; have ho := own_of_row (Nat.le_refl wa.heap.size) (by decide) (zers_len 16) hrow; have HB := grew_trans HB hb1; have hx := (hb1.block _ (Array.getElem?_eq_some_iff.1 hx).1).trans hx; have c0 : w1.cell? ⟨w.heap.size, 0, none⟩ = some (.int .i64 N) := cell_row hx 0 _ rfl; have c1 : w1.cell? ⟨w.heap.size, 1, none⟩ = some (.string s) := cell_row hx 1 _ rfl; clear hown1 hgrow1 hb1)
    | (go_at_call 259; refine same_at (hn _) ?_))
   refine Calls.mono (rnumber_ok _ 16 _ _ 0 2 N _ (ho.bi (by omega) (zers_byt 16)) (by omega) (by omega) (by omega) (by omega) (by omega)) ?_
   rintro e w2 ⟨g2, cap2, rfl, ho2, hb2⟩
   have HB2 := grew_trans HB hb2
   have hx2 := (hb2.block _ (Array.getElem?_eq_some_iff.1 hx).1).trans hx
   have c1 : w2.cell? ⟨w.heap.size, 1, none⟩ = some (.string s) := cell_row hx2 1 _ rfl
   clear hb2 ho hrow c0 hx
   go_wp2_with fail
   refine Calls.mono (rnumber_ok _ 16 _ _ 2 1 (s.size : Int) _ (ho2.bi (by omega) (Num.putTo_byt (zers_byt 16) _ _ _)) (by omega) (by omega) (by omega) (by omega) (by omega)) ?_
   rintro e w3 ⟨g3, cap3, rfl, ho3, hb3⟩
   have HB3 := grew_trans HB2 hb3
   have hx3 := (hb3.block _ (Array.getElem?_eq_some_iff.1 hx2).1).trans hx2
   have hg3 : w.heap.size < g3 := Nat.lt_of_lt_of_le (Array.getElem?_eq_some_iff.1 hx2).1 ho3.base_le
   have c1 : w3.cell? ⟨w.heap.size, 1, none⟩ = some (.string s) := cell_row hx3 1 _ rfl
   have hcap : 16 ≤ cap3 := ho3.room.1
   obtain ⟨A, hrun, hbi⟩ := ent_copy (w := w3.drew) ho3 s hsz (Num.putTo_byt (Num.putTo_byt (zers_byt 16) _ _ _) _ _ _)
   have hxA : (w3.drew.setRow g3 A).heap[w.heap.size]? = some (entO N s) := by rw [setRow_other _ _ _ _ (by omega)]; exact hx3
   have cA : (w3.drew.setRow g3 A).cell? ⟨w.heap.size, 1, none⟩ = some (.string s) := cell_row hxA 1 _ rfl
   have hBA := below_setRow HB3.drew (Nat.le_of_lt hg3) A
   have hcI : (3 : Int) ≤ (cap3 : Int) := by omega
   have hc3 : ¬ cap3 = 3 := by omega
   have HBI := (show Hid _ from hbi)
   clear hbi hb3 ho2 ho3 hx2 hx3 HB2
   go_wp2_with fail
   go_region_held3 (fun w' => w'.cell? ⟨w.heap.size, 1, none⟩ = some (.string s)) (first | exact c1 | exact cA) (fail)
   go_wp2_with fail
   go_ret2
   exact ⟨_, _, rfl, HBI.out, hBA⟩
  ·have e1 : (s.toList == [46]) = false := by rw [hd]; rfl
   have e2 : (s.toList == [46, 46]) = true := by rw [hd]; rfl
   clear hd
   go_wp2_with (first
    | (at_make; generalize w.alloc (entO N s) = wa at *; refine wpList_make_full _ rfl _ _ 42 rfl wa.heap.size 5 i0 (.int .u8 0) 1 Tryz.underlying42 hi0 hz0 hz1 .i64 .i64 _ _ 16 rfl rfl rfl rfl (by rw [hz2]; omega) (by unfold maxLen; omega) (Nat.le_refl _) ?_; intro w1 hown1 hgrow1; have hb1 := (Below.refl _ wa).grown hgrow1 (Nat.le_refl _) (by intro k hk; cases hk); have hrow := own_row hown1; rw [made_zers 16] at hrow; have ho := own_of_row (Nat.le_refl wa.heap.size) (by decide) (zers_len 16) hrow; have HB := grew_trans HB hb1; have hx := (hb1.block _ (Array.getElem?_eq_some_iff.1 hx).1).trans hx; have c0 : w1.cell? ⟨w.heap.size, 0, none⟩ = some (.int .i64 N) := cell_row hx 0 _ rfl; have c1 : w1.cell? ⟨w.heap.size, 1, none⟩ = some (.string s) := cell_row hx 1 _ rfl; clear hown1 hgrow1 hb1)
    | (go_at_call 259; refine same_at (hn _) ?_))
   refine Calls.mono (rnumber_ok _ 16 _ _ 0 2 N _ (ho.bi (by omega) (zers_byt 16)) (by omega) (by omega) (by omega) (by omega) (by omega)) ?_
   rintro e w2 ⟨g2, cap2, rfl, ho2, hb2⟩
   have HB2 := grew_trans HB hb2
   have hx2 := (hb2.block _ (Array.getElem?_eq_some_iff.1 hx).1).trans hx
   have c1 : w2.cell? ⟨w.heap.size, 1, none⟩ = some (.string s) := cell_row hx2 1 _ rfl
   clear hb2 ho hrow c0 hx
   go_wp2_with fail
   refine Calls.mono (rnumber_ok _ 16 _ _ 2 1 (s.size : Int) _ (ho2.bi (by omega) (Num.putTo_byt (zers_byt 16) _ _ _)) (by omega) (by omega) (by omega) (by omega) (by omega)) ?_
   rintro e w3 ⟨g3, cap3, rfl, ho3, hb3⟩
   have HB3 := grew_trans HB2 hb3
   have hx3 := (hb3.block _ (Array.getElem?_eq_some_iff.1 hx2).1).trans hx2
   have hg3 : w.heap.size < g3 := Nat.lt_of_lt_of_le (Array.getElem?_eq_some_iff.1 hx2).1 ho3.base_le
   have c1 : w3.cell? ⟨w.heap.size, 1, none⟩ = some (.string s) := cell_row hx3 1 _ rfl
   have hcap : 16 ≤ cap3 := ho3.room.1
   obtain ⟨A, hrun, hbi⟩ := ent_copy (w := w3.drew) ho3 s hsz (Num.putTo_byt (Num.putTo_byt (zers_byt 16) _ _ _) _ _ _)
   have hxA : (w3.drew.setRow g3 A).heap[w.heap.size]? = some (entO N s) := by rw [setRow_other _ _ _ _ (by omega)]; exact hx3
   have cA : (w3.drew.setRow g3 A).cell? ⟨w.heap.size, 1, none⟩ = some (.string s) := cell_row hxA 1 _ rfl
   have hBA := below_setRow HB3.drew (Nat.le_of_lt hg3) A
   have hcI : (3 : Int) ≤ (cap3 : Int) := by omega
   have hc3 : ¬ cap3 = 3 := by omega
   have HBI := (show Hid _ from hbi)
   clear hbi hb3 ho2 ho3 hx2 hx3 HB2
   go_wp2_with fail
   go_region_held3 (fun w' => w'.cell? ⟨w.heap.size, 1, none⟩ = some (.string s)) (first | exact c1 | exact cA) (fail)
   go_wp2_with fail
   go_ret2
   exact ⟨_, _, rfl, HBI.out, hBA⟩
theorem rencodeEntry_yes (N : Int) (s : ByteArray) (h : EMay N s) (w : World) : Calls Tryz.prog 187 #[entV N s] w fun e w' => ∃ p c, e = .returned (.tuple #[.slice p 16 c, .int .i64 0]) ∧ BI w' p 16 (entL N s) ∧ Below w.heap.size w w' := by
 rcases h with ⟨rfl, h⟩ | ⟨h1, h2⟩
 ·exact rencodeEntry_none s h w
 ·exact rencodeEntry_used N s h1 h2 w
theorem rencodeEntry_no (N : Int) (s : ByteArray) (hs : s.size ≤ 140737488355328) (h : ¬ EMay N s) (w : World) : Calls Tryz.prog 187 #[entV N s] w fun e w' => e = .returned (.tuple #[.slice none 0 0, .int .i64 1]) ∧ Below w.heap.size w w' := by
 by_cases h1 : 511 < N
 ·exact rencodeEntry_high N s hs h1 w
 ·by_cases h2 : N < 1
  ·by_cases h3 : N = 0
   ·subst h3
    exact rencodeEntry_zero s hs (fun e => h (Or.inl ⟨rfl, e⟩)) w
   ·exact rencodeEntry_low N s hs h2 h3 w
  ·have hb : 1 ≤ N ∧ N ≤ 511 := by omega
   refine rencodeEntry_name N s hs hb (Bool.eq_false_iff.2 fun e => h (Or.inr ⟨hb, Or.inl e⟩)) (fun e => h (Or.inr ⟨hb, Or.inr e⟩)) w
end Go.Proofs.YthdlpeejmmobmaaGreat.Mk

namespace Go.Proofs.YthdlpeejmmobmaaGreat.Mk
open Go.RowKit
set_option maxRecDepth 100000
set_option linter.unusedVariables false
structure En where
 n : Int
 s : ByteArray
def hit (s : ByteArray) (e : En) : Bool := decide (e.n ≠ 0) && (e.s.toList == s.toList)
end Go.Proofs.YthdlpeejmmobmaaGreat.Mk

namespace Go.Proofs.YthdlpeejmmobmaaGreat.Mk
open Go.RowKit
set_option maxRecDepth 100000
set_option linter.unusedVariables false
def encL (E : List En) : List Int := E.flatMap (fun e => entL e.n e.s)
theorem encL_len : ∀ E : List En, (∀ e ∈ E, EMay e.n e.s) → (encL E).length = 16 * E.length
 | [], _ => rfl
 | e :: l, h => by
  have h1 := entL_len e.n e.s (emay_size (h e List.mem_cons_self))
  have h2 := encL_len l (fun x hx => h x (List.mem_cons_of_mem _ hx))
  unfold encL at *
  rw [List.flatMap_cons, List.length_append, h1, h2, List.length_cons]
  omega
theorem encL_snoc (E : List En) (e : En) : encL (E ++ [e]) = encL E ++ entL e.n e.s := by simp [encL]
theorem byt_append {xs ys : List Int} (h1 : Num.Byt xs) (h2 : Num.Byt ys) : Num.Byt (xs ++ ys) := by
 intro i
 rw [List.getD_eq_getElem?_getD, List.getElem?_append]
 split
 ·have := h1 i; rwa [List.getD_eq_getElem?_getD] at this
 ·have := h2 (i - xs.length); rwa [List.getD_eq_getElem?_getD] at this
theorem encL_byt : ∀ E : List En, Num.Byt (encL E)
 | [] => fun i => by simp [encL]
 | e :: l => by
  have h1 := entL_byt e.n e.s
  have h2 := encL_byt l
  unfold encL at *
  rw [List.flatMap_cons]
  exact byt_append h1 h2
def Rw (B : Nat) (w : World) (v : Value) (xs : List Int) : Prop := w.ownsRow B 5 1 v xs.length (xs.map (Value.int .u8))
theorem Rw.bi {w : World} {B : Nat} {v : Value} {zs : List Int} (h : Rw B w v zs) (hn : zs.length ≤ 140737488355328) (hf : Num.Byt zs) : ∃ p c, v = .slice p zs.length c ∧ BI w p zs.length zs := by
 rcases h.2 with ⟨e, e0⟩ | ⟨g, cap, cur, e, k⟩
 ·rw [e, e0]
  have : zs = [] := List.length_eq_zero_iff.1 e0
  subst this
  exact ⟨none, 0, rfl, rfl, by simp, fun i => by simp, fun h => by simp at h⟩
 ·refine ⟨_, _, e, rfl, hn, hf, fun _ => ⟨g, 0, rfl, fun i hi => ?_⟩⟩
  have h' : Own B w g zs.length cap zs := by rw [e] at h; exact h
  rw [Nat.zero_add]
  exact h'.cell i hi
theorem Rw.lt {w : World} {B : Nat} {v : Value} {zs : List Int} (h : Rw B w v zs) : ∀ g, v.ownBlock = some g → B ≤ g ∧ g < w.heap.size := fun g hg => World.ownsRow.lt h g hg
theorem Rw.kept {w w' : World} {B : Nat} {v : Value} {zs : List Int} (h : Rw B w v zs) (hb : Below w.heap.size w w') : Rw B w' v zs := by
 refine ⟨h.1, ?_⟩
 rcases h.2 with h' | ⟨g, cap, cur, e, hB, hg, rest⟩
 ·exact .inl h'
 ·exact .inr ⟨g, cap, cur, e, hB, (hb.block _ (Array.getElem?_eq_some_iff.1 hg).1).trans hg, rest⟩
set_option maxRecDepth 20000 in
theorem rw_app {B : Nat} {w : World} {v1 : Value} {A : List Int} (h1 : Rw B w v1 A) {a : Addr} {m c : Nat} {C : List Int} (h2 : BI w (some a) m C) (hB : B ≤ w.heap.size) (hl : A.length + m ≤ 140737488355328) (ty : TypeId) :
  ∃ v' w', (Builtin.append_ #[42, 42] ty #[v1, .slice (some a) m c]).run Tryz.prog w = .ok v' w' ∧ Rw B w' v' (A ++ C) ∧ w.grownBy w' v1.ownBlock := by
 obtain ⟨i0, hi, hz0, hz1, hz2⟩ := info_parts info5
 have hlen := h2.len
 ·have hcell : ∀ j u, (C.map (Value.int .u8))[j]? = some u → w.cell? (a.add j) = some u := fun j u hu => by
   have hj : j < m := by have := (List.getElem?_eq_some_iff.1 hu).1; rw [← hlen]; simpa using this
   obtain ⟨b, o, e, hc⟩ := h2.cells (by omega)
   injection e with e
   subst e
   rw [Addr.add_mid, hc j hj]
   rw [List.getElem?_map] at hu
   rw [List.getD_eq_getElem?_getD]
   cases e : C[j]? with
   | none => rw [e] at hu; cases hu
   | some y => rw [e] at hu; simpa using hu
  obtain ⟨v', w', hr, ho, hgr, _, hb⟩ := run_append_own_at (P := Tryz.prog) w B 42 ty 5 i0 (.int .u8 0) 1 1 Tryz.underlying42 hi hz0 hz1 hz2 rfl (by decide) v1 A.length (A.map (Value.int .u8)) h1 a m c (C.map (Value.int .u8)) (by simp [hlen]) hcell (fun u hu => by obtain ⟨x, _, rfl⟩ := List.mem_map.1 hu; rfl) (by unfold maxLen; omega) (by omega) hB
  refine ⟨v', w', hr, ?_, hgr⟩
  unfold Rw
  rw [List.length_append, List.map_append, hlen]
  exact ho
theorem grown_bel {w w1 w2 : World} {r : Option Nat} (h : Below w.heap.size w w1) (hg : w1.grownBy w2 r) (hr : ∀ g, r = some g → w.heap.size ≤ g) : Below w.heap.size w w2 :=
 h.trans ⟨hg.os, hg.tape, hg.output, hg.size, fun i hi => hg.block i (Nat.lt_of_lt_of_le hi h.size) (fun e => by have := hr i e.symm; omega)⟩
theorem wp_append {P : Program} {o : Oper} {a : Act} {w w' : World} {K : Act → World → Prop} {Q : Exit → Act → World → Prop} {t u : TypeId} (s x : Operand) (ho : o.op = .call { callee := .builtin .append, args := #[s, x], argTypes := #[t, u] }) {v1 v2 v' : Value}
  (hs : a.eval s = v1) (hx : a.eval x = v2) (hr : (Builtin.append_ #[t, u] o.type #[v1, v2]).run P w = .ok v' w') (h : K (a.put o.dst v') w') : o.wp P a w K Q := by
 unfold Oper.wp execOp
 simp only [ho, resolve, invoke, builtin, Sem.run_bind, Sem.run_pure, Result.andThen_ok, List.map_toArray, List.map_cons, List.map_nil, hs, hx, hr]
 exact h
theorem wpList_append_run2 {P : Program} {ops : Array Oper} {rest : List Oper} {o : Oper} {a : Act} {Q : Exit → Act → World → Prop} {w w' : World} (hgd : o.guard = none) (s x : Operand) (t u : TypeId) (ho : o.op = .call { callee := .builtin .append, args := #[s, x], argTypes := #[t, u] }) {v1 v2 v' : Value}
  (hs : a.eval s = v1) (hx : a.eval x = v2) (hr : (Builtin.append_ #[t, u] o.type #[v1, v2]).run P w = .ok v' w') (h : wpList P ops Q rest (a.put o.dst v') w') : wpList P ops Q (o :: rest) a w :=
 wpList_plain hgd fun K hK => wp_append s x ho hs hx hr (hK _ _ h)
end Go.Proofs.YthdlpeejmmobmaaGreat.Mk

namespace Go.Proofs.YthdlpeejmmobmaaGreat.Mk
open Go.RowKit
set_option maxRecDepth 100000
set_option linter.unusedVariables false
def clR : List En → Bool
 | [] => false
 | e :: r => clR r || (decide (e.n ≠ 0) && r.any (hit e.s))
def clB (E : List En) : Bool := clR E.reverse
theorem clB_snoc (E : List En) (e : En) : clB (E ++ [e]) = (clB E || (decide (e.n ≠ 0) && E.any (hit e.s))) := by
 simp [clB, clR]
def ent00 : En := ⟨0, ⟨#[]⟩⟩
end Go.Proofs.YthdlpeejmmobmaaGreat.Mk

namespace Go.Proofs.YthdlpeejmmobmaaGreat.Mk
open Go.RowKit
set_option maxRecDepth 100000
set_option linter.unusedVariables false
theorem bi_nil (w : World) : BI w none 0 [] := ⟨rfl, by omega, (fun i => by simp), fun h => by omega⟩
end Go.Proofs.YthdlpeejmmobmaaGreat.Mk

namespace Go.Proofs.YthdlpeejmmobmaaGreat.Mk
open Go.RowKit
set_option maxRecDepth 100000
set_option linter.unusedVariables false
structure EI (w : World) (p : Option Addr) (n : Nat) (L : List En) : Prop where
 len : L.length = n
 big : n ≤ 140737488355328
 cells : 0 < n → ∃ b o, p = some ⟨b, o, none⟩ ∧ ∀ i e, L[i]? = some e → w.cell? ⟨b, o + i * 2, none⟩ = some (.int .i64 e.n) ∧ w.cell? ⟨b, o + i * 2 + 1, none⟩ = some (.string e.s)
theorem EI.kept {w w' : World} {p : Option Addr} {n : Nat} {L : List En} (h : EI w p n L) (hb : Below w.heap.size w w') : EI w' p n L := by
 refine ⟨h.len, h.big, fun hn => ?_⟩
 obtain ⟨b, o, rfl, hc⟩ := h.cells hn
 refine ⟨b, o, rfl, fun i e he => ?_⟩
 obtain ⟨h1, h2⟩ := hc i e he
 have hl : b < w.heap.size := lt_of_cell h1
 exact ⟨(hb.cell (p := ⟨b, o + i * 2, none⟩) hl).trans h1, (hb.cell (p := ⟨b, o + i * 2 + 1, none⟩) hl).trans h2⟩
theorem clB_app : ∀ (B A : List En), clB (A ++ B) = false → clB A = false
 | [], A, h => by rwa [List.append_nil] at h
 | b :: B, A, h => by
  have h1 := clB_app B (A ++ [b]) (by rwa [List.append_assoc])
  rw [clB_snoc, Bool.or_eq_false_iff] at h1
  exact h1.1
theorem clB_take {L : List En} (j : Nat) (h : clB L = false) : clB (L.take j) = false := clB_app (L.drop j) _ (by rw [List.take_append_drop]; exact h)
theorem clB_hit {L : List En} {j k : Nat} {e x : En} (he : L[j]? = some e) (hx : L[k]? = some x) (hkj : k < j) (h0 : e.n ≠ 0) (hh : hit e.s x = true) : clB L = true := by
 cases hc : clB L with
 | true => rfl
 | false =>
  have h1 := clB_take (j + 1) hc
  rw [List.take_add_one, he] at h1
  have h2 : clB (L.take j ++ [e]) = false := h1
  rw [clB_snoc, Bool.or_eq_false_iff, decide_eq_true h0, Bool.true_and, List.any_eq_false] at h2
  have hm : x ∈ L.take j := List.mem_of_getElem? (i := k) (by rw [List.getElem?_take, if_pos hkj]; exact hx)
  exact absurd hh (h2.2 x hm)
set_option maxRecDepth 20000 in
set_option maxHeartbeats 2000000 in
theorem clash_ok (p : Option Addr) (n c : Nat) (L : List En) (w : World) (h : EI w p n L) (hnc : n ≤ c) (hc2 : c ≤ 9223372036854775807) :
  Calls Tryz.prog 186 #[.slice p n c] w fun e w' => e = .returned (.bool (clB L)) ∧ Below w.heap.size w w' := by
 have hlen := h.len
 have hbig := h.big
 go_enter Tryz.func186, Tryz.ntmps186
 go_wp2_with fail
 go_loopw [9] (fun i wr => ∃ j : Nat, j ≤ n ∧ i = .int .i64 (j : Int) ∧ Below w.heap.size w wr ∧ clB (L.take j) = false) (fun i _ => n - (intOf i).toNat)
 case atStart => exact ⟨0, by omega, rfl, Below.refl _ _, rfl⟩
 case round =>
  rename World => wo
  obtain ⟨j, hj, rfl, hb, hcl⟩ := hrel
  have HC : Hid _ := And.intro hb hcl
  by_cases hlt : j < n
  ·obtain ⟨b, o, rfl, hcs⟩ := (h.kept hb).cells (by omega)
   obtain ⟨N, S, he⟩ : ∃ N S, L[j]? = some ⟨N, S⟩ := ⟨_, _, List.getElem?_eq_getElem (by omega)⟩
   obtain ⟨c0, c1⟩ := hcs j _ he
   have hjI : (j : Int) < (n : Int) := by omega
   have hj0 : (0 : Int) ≤ (j : Int) := by omega
   have HCS : Hid _ := hcs
   have HE : Hid _ := he
   have hlb : b < wo.heap.size := lt_of_cell c0
   clear hb hcl hcs he
   go_wp2_with fail
   have hbo : Below wo.heap.size wo (wo.alloc (entO N S)) := grew_alloc _ _
   have hxe := heap_new wo (entO N S)
   have HO : Hid _ := And.intro hbo hxe
   clear c0 c1 hbo hxe
   go_loopw [18] (fun i wr => ∃ k : Nat, k ≤ j ∧ i = .int .i64 (k : Int) ∧ Below (wo.alloc (entO N S)).heap.size (wo.alloc (entO N S)) wr ∧ (decide (N ≠ 0) && (L.take k).any (hit S)) = false) (fun i _ => j - (intOf i).toNat)
   case atStart => exact ⟨0, by omega, rfl, Below.refl _ _, by simp⟩
   case round =>
    obtain ⟨k, hk, rfl, hbk, hno⟩ := hrel
    have HK : Hid _ := And.intro hbk hno
    have hbx := grew_trans HO.out.1 hbk
    have hxk := (hbk.block _ (Array.getElem?_eq_some_iff.1 HO.out.2).1).trans HO.out.2
    by_cases hkl : k < j
    ·obtain ⟨M, T, hx⟩ : ∃ M T, L[k]? = some ⟨M, T⟩ := ⟨_, _, List.getElem?_eq_getElem (by omega)⟩
     obtain ⟨d0, d1⟩ := HCS.out k _ hx
     have d0' : wr.cell? ⟨b, o + k * 2, none⟩ = some (.int .i64 M) := (hbx.cell (p := ⟨b, o + k * 2, none⟩) hlb).trans d0
     have d1' : wr.cell? ⟨b, o + k * 2 + 1, none⟩ = some (.string T) := (hbx.cell (p := ⟨b, o + k * 2 + 1, none⟩) hlb).trans d1
     have hkI : (k : Int) < (j : Int) := by omega
     have hk0 : (0 : Int) ≤ (k : Int) := by omega
     have hbV := grew_alloc wr (entO M T)
     have hxV := (hbV.block _ (Array.getElem?_eq_some_iff.1 hxk).1).trans hxk
     have y0 : (wr.alloc (entO M T)).cell? ⟨wo.heap.size, 0, none⟩ = some (.int .i64 N) := cell_row hxV 0 _ rfl
     have y1 : (wr.alloc (entO M T)).cell? ⟨wo.heap.size, 1, none⟩ = some (.string S) := cell_row hxV 1 _ rfl
     have HX : Hid _ := hx
     have HV : Hid _ := grew_trans hbk hbV
     have HF : Hid _ := grew_trans HC.out.1 (grew_trans hbx hbV)
     have hstep : ∀ p : En → Bool, (L.take (k + 1)).any p = ((L.take k).any p || p ⟨M, T⟩) := fun p => by rw [List.take_add_one, hx]; simp
     clear hbk hno hx d0 d1 hbx hxk hbV hxV
     by_cases h0 : N = 0
     ·subst h0
      have hnx : (decide ((0 : Int) ≠ 0) && (L.take (k + 1)).any (hit S)) = false := by simp
      clear hstep
      have HN : Hid _ := hnx
      clear hnx
      go_wp2_with fail
      go_roundw
      case rel => exact ⟨k + 1, by omega, by go_num, HV.out, HN.out⟩
      case measure => simp [intOf]; omega
     ·by_cases h1 : M = 0
      ·subst h1
       have hnx : (decide (N ≠ 0) && (L.take (k + 1)).any (hit S)) = false := by
        rw [hstep, Bool.and_or_distrib_left, HK.out.2]
        simp [hit]
       clear hstep
       have HN : Hid _ := hnx
       clear hnx
       go_wp2_with fail
       go_roundw
       case rel => exact ⟨k + 1, by omega, by go_num, HV.out, HN.out⟩
       case measure => simp [intOf]; omega
      ·cases hS : (S.toList == T.toList) with
       | true =>
        have hh : clB L = true := clB_hit HE.out HX.out hkl h0 (by
         rw [beq_iff_eq] at hS
         simp [hit, h1, hS])
        have HH : Hid _ := hh
        have hN : (N != 0) = true := by simpa using h0
        have hM : (M != 0) = true := by simpa using h1
        clear hh hstep
        go_wp2_with fail
        go_ret
        exact ⟨by rw [HH.out]; rfl, HF.out⟩
       | false =>
        have hnx : (decide (N ≠ 0) && (L.take (k + 1)).any (hit S)) = false := by
         rw [hstep, Bool.and_or_distrib_left, HK.out.2]
         have h2 : (T.toList == S.toList) = false := by
          rw [beq_eq_false_iff_ne] at hS ⊢
          exact fun e => hS e.symm
         simp [hit, h2]
        clear hstep
        have HN : Hid _ := hnx
        clear hnx
        go_wp2_with fail
        go_roundw
        case rel => exact ⟨k + 1, by omega, by go_num, HV.out, HN.out⟩
        case measure => simp [intOf]; omega
    ·obtain rfl : k = j := by omega
     have hnt : ¬ (k : Int) < (k : Int) := by omega
     have hnx : clB (L.take (k + 1)) = false := by
      rw [List.take_add_one, HE.out]
      show clB (L.take k ++ [⟨N, S⟩]) = false
      rw [clB_snoc, HC.out.2, Bool.false_or]
      exact hno
     have HN : Hid _ := And.intro hnx (grew_trans HC.out.1 hbx)
     clear hnx hbk hno hbx hxk
     go_wp2_with fail
     go_roundw
     case rel => exact ⟨k + 1, by omega, by go_num, HN.out.2, HN.out.1⟩
     case measure => simp [intOf]; omega
  ·obtain rfl : j = n := by omega
   have hnt : ¬ (j : Int) < (j : Int) := by omega
   have hcl' : clB L = false := by rwa [List.take_of_length_le (by omega)] at hcl
   have HH : Hid _ := hcl'
   clear hcl hcl'
   go_wp2_with fail
   go_ret
   exact ⟨by rw [HH.out]; rfl, hb⟩
end Go.Proofs.YthdlpeejmmobmaaGreat.Mk
