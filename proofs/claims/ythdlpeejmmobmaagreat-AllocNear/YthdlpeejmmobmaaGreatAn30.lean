/- KEEnt KREnt KD1 KD2 -/
import Derived.Test.YthdlpeejmmobmaaGreatAn29

/- Entries as bytes, by the program. -/
namespace Go.Proofs.YthdlpeejmmobmaaGreat.Mk
open Go.RowKit
set_option maxRecDepth 100000
set_option linter.unusedVariables false

theorem info90 : (Tryz.prog.info? 267).map (·.size) = some 16 := by kernel_rfl
theorem array90 (p : Option Addr) (c : Nat) (w : World) : (Instr.arrayAt 267 (.slice p 16 c)).run Tryz.prog w = .ok (.pointer p) w := by
  simp [Instr.arrayAt, Sem.run_bind, run_underlying Tryz.underlying267]
abbrev rawA (xs : List Int) : Array Value := (xs.map (Value.int .u8)).toArray
theorem zero90 : rawA (zers 16) = #[.int .u8 0, .int .u8 0, .int .u8 0, .int .u8 0, .int .u8 0, .int .u8 0, .int .u8 0, .int .u8 0, .int .u8 0, .int .u8 0, .int .u8 0, .int .u8 0, .int .u8 0, .int .u8 0, .int .u8 0, .int .u8 0] := rfl
theorem raw_one (xs : List Int) : (rawA xs).all (·.oneCell') = true := by
  rw [Array.all_eq_true]
  intro i hi
  simp
  rfl

theorem raw_bi {w : World} {b n : Nat} {xs : List Int} {t : TypeId} (h : w.heap[b]? = some (.cells (rawA xs) t (0, 0))) (hl : xs.length = n) (hn : n ≤ 140737488355328) (hy : Num.Byt xs) : BI w (some ⟨b, 0, none⟩) n xs := by
  refine ⟨hl, hn, hy, fun _ => ⟨_, _, rfl, fun i hi => ?_⟩⟩
  rw [Nat.zero_add]
  refine cell_row h i _ ?_
  have e : xs[i]? = some (xs.getD i 0) := by rw [List.getD_eq_getElem?_getD, List.getElem?_eq_getElem (by omega)]; rfl
  generalize xs.getD i 0 = z at *
  unfold rawA
  rw [List.getElem?_toArray, List.getElem?_map, e]
  rfl
theorem ptext_any {B : Nat} {w : World} {pb g N a : Nat} {xs : List Int} (h : Pg B w pb g N a xs) (t : ByteArray) (h2 : a + t.size ≤ N) :
    Calls Tryz.prog 231 #[.pointer (some ⟨pb, 0, none⟩), .string t] w fun e w' => e = .returned (.tuple #[]) ∧ Pg B w' pb g N (a + t.size) (splice xs a (numsOf t)) ∧ Below B w w' := by
  by_cases h0 : t.size = 0
  · have e1 : numsOf t = [] := List.eq_nil_of_length_eq_zero (by rw [numsOf_len]; exact h0)
    have e2 : splice xs a [] = xs := by unfold splice; simp
    rw [e1, e2, h0, Nat.add_zero]
    exact ptext_none h t h0 (by omega)
  · exact ptext_ok h t (by omega) h2

set_option maxRecDepth 10000 in
set_option maxHeartbeats 1000000 in
theorem writeEntry_ok (N : Int) (s : ByteArray) (h : EMay N s) (w : World) : Calls Tryz.prog 166 #[entV N s] w fun e w' => e = .returned (.agg (rawA (entL N s))) ∧ Below w.heap.size w w' := by
  have hi := emay_ino h
  have hsz := emay_size h
  have HB0 := grew_alloc w (entO N s)
  have hx0 := heap_new w (entO N s)
  have hB1 := grew_trans HB0 (grew_alloc (w.alloc (entO N s)) (.cells (rawA (zers 16)) 267))
  have hx1 : ((w.alloc (entO N s)).alloc (.cells (rawA (zers 16)) 267)).heap[w.heap.size]? = some (entO N s) := by
    rw [Below.heap_alloc _ _ _ (by rw [size_alloc]; omega)]; exact hx0
  have hz1 : ((w.alloc (entO N s)).alloc (.cells (rawA (zers 16)) 267)).heap[w.heap.size + 1]? = some (.cells (rawA (zers 16)) 267 (0, 0)) := by
    have := heap_new (w.alloc (entO N s)) (.cells (rawA (zers 16)) 267)
    rwa [size_alloc] at this
  clear hx0 HB0 h
  rw [zero90] at *
  go_enter Tryz.func166, Tryz.ntmps166
  go_wp2_with fail
  rw [← zero90] at *
  have hsz2 : w.heap.size + 2 = ((w.alloc (entO N s)).alloc (.cells (rawA (zers 16)) 267)).heap.size := by rw [size_alloc, size_alloc]
  generalize (w.alloc (entO N s)).alloc (.cells (rawA (zers 16)) 267) = w2 at *
  have hle : w.heap.size ≤ w2.heap.size := by omega
  have hl1 : w.heap.size < w2.heap.size := by omega
  have hl2 : w.heap.size + 1 < w2.heap.size := by omega
  clear hsz2
  refine Calls.mono (newPage_ok 16 (by omega) w2.heap.size w2 (Nat.le_refl _)) ?_
  rintro e w3 ⟨pb, g, rfl, hp, hb⟩
  have c0 : w3.cell? ⟨w.heap.size, 0, none⟩ = some (.int .i64 N) := cell_row ((hb.block _ hl1).trans hx1) 0 _ rfl
  have hB3 := grew_trans hB1 hb
  have k1 := pnum_ok hp 2 N (by omega) (by omega) (by omega) (by omega) (by omega)
  go_wp2_with fail
  refine Calls.mono k1 ?_
  clear k1 c0
  rintro e w4 ⟨rfl, hp4, hb4⟩
  have c1 : w4.cell? ⟨w.heap.size, 1, none⟩ = some (.string s) := cell_row (((hb.trans hb4).block _ hl1).trans hx1) 1 _ rfl
  have k2 := pnum_ok hp4 1 (s.size : Int) (by omega) (by omega) (by omega) (by omega) (by omega)
  go_wp2_with fail
  refine Calls.mono k2 ?_
  clear k2 c1
  rintro e w5 ⟨rfl, hp5, hb5⟩
  have c1 : w5.cell? ⟨w.heap.size, 1, none⟩ = some (.string s) := cell_row ((((hb.trans hb4).trans hb5).block _ hl1).trans hx1) 1 _ rfl
  have k3 := ptext_any hp5 s (by omega)
  go_wp2_with fail
  refine Calls.mono k3 ?_
  clear k3 c1
  rintro e w6 ⟨rfl, hp6, hb6⟩
  have hbb := ((hb.trans hb4).trans hb5).trans hb6
  have hz6 : w6.heap[w.heap.size + 1]? = some (.cells (rawA (zers 16)) 267 (0, 0)) := (hbb.block _ hl2).trans hz1
  have hB6 := grew_trans hB1 hbb
  have hr6 := bi_range hp6.bi
  have c06 := hp6.c0
  have hat := array90
  have hee : splice (Num.putTo (Num.putTo (zers 16) 0 N 2) (0 + 2) (s.size : Int) 1) (0 + 2 + 1) (numsOf s) = entL N s := rfl
  rw [hee] at hr6
  have hll := entL_len N s hsz
  clear hee hp hp4 hp5 hp6 hb hb4 hb5 hb6 hbb hx1 hz1 hB1 hB3 hi hsz
  generalize hL : entL N s = L at *
  have HL := (show Hid _ from hL)
  clear hL
  have hi36 : (Tryz.prog.info? 267).map (·.size) = some (L.map (Value.int .u8)).length := by rw [List.length_map, hll]; exact info90
  go_wp2_with (first
    | (refine wpList_load_mid rfl 267 _ rfl g 0 rfl _ _ hr6 Tryz.underlying267 rfl hi36 ?_)
    | (refine wpList_store_row rfl 267 _ _ rfl (w.heap.size + 1) _ rfl rfl 267 _ hz6 (by rw [hi36]; simp) (by simp [zers_len, hll]) (raw_one L) ?_))
  refine bodyPost_ret (v := .agg (rawA L)) (results_cell_row (p := 2) (ty := 267) Tryz.results166 _ _ (w.heap.size + 1) 267 _ (0, 0) _ rfl (setRow_heap _ _ _ _ _ _ hz6) Tryz.underlying267 rfl (by rw [hi36]; simp)) rfl ?_
  exact ⟨by rw [HL.out], below_setRow hB6 (by omega) _⟩

set_option maxHeartbeats 400000 in
theorem encodeEntry_no (N : Int) (s : ByteArray) (hs : s.size ≤ 140737488355328) (h : ¬ EMay N s) (w : World) : Calls Tryz.prog 93 #[entV N s] w fun e w' => e = .returned (.tuple #[.slice none 0 0, .int .i64 1]) ∧ Below w.heap.size w w' := by
  have HB := grew_alloc w (entO N s)
  have hm := entryMay_ok N s (w.alloc (entO N s)) hs
  rw [decide_eq_false h] at hm
  go_enter Tryz.func93, Tryz.ntmps93
  go_wp2_with (first | (go_at_call 165; refine grew_at hm ?_; intro wn hbn; have HB := grew_trans HB hbn))
  go_ret2
  exact ⟨rfl, HB⟩
set_option maxRecDepth 10000 in
set_option maxHeartbeats 1000000 in
theorem encodeEntry_yes (N : Int) (s : ByteArray) (h : EMay N s) (w : World) : Calls Tryz.prog 93 #[entV N s] w fun e w' => ∃ p c, e = .returned (.tuple #[.slice p 16 c, .int .i64 0]) ∧ BI w' p 16 (entL N s) ∧ Below w.heap.size w w' := by
  have HB := grew_alloc w (entO N s)
  have hsz := emay_size h
  have hm := entryMay_ok N s (w.alloc (entO N s)) (by omega)
  have hx := heap_new w (entO N s)
  rw [decide_eq_true h] at hm
  have hw := writeEntry_ok N s h
  have hll := entL_len N s hsz
  have hby := entL_byt N s
  generalize hL : entL N s = L at *
  have HL := (show Hid _ from hL)
  clear hL h
  have hi36 : (Tryz.prog.info? 267).map (·.size) = some (rawA L).size := by rw [show (rawA L).size = 16 by simp [hll]]; exact info90
  have hs16 : (rawA (zers 16)).size = (rawA L).size := by simp [zers_len, hll]
  rw [zero90] at hs16
  have hone := raw_one L
  go_enter Tryz.func93, Tryz.ntmps93
  go_wp2_with (first
    | (go_at_call 165; refine grew_at hm ?_; intro wn hbn; have HB := grew_trans HB hbn; have hx : wn.heap[w.heap.size]? = some (entO N s) := (hbn.block _ (Array.getElem?_eq_some_iff.1 hx).1).trans hx)
    | (refine wpList_load_row rfl 107 (.tmp 1) rfl w.heap.size rfl 107 _ (0, 0) _ hx Tryz.underlying107 rfl (by kernel_rfl) ?_)
    | (go_at_call 166; refine grew_at (hw _) ?_; intro wm hbm; have HB := grew_trans HB hbm)
    | (refine wpList_store_row rfl 267 (.tmp 4) (.tmp 9) rfl wm.heap.size _ rfl rfl 267 _ (heap_new wm _) hi36 hs16 hone ?_))
  go_ret2
  rw [← zero90]
  refine ⟨_, _, rfl, raw_bi (setRow_heap _ _ _ _ _ _ (heap_new wm _)) hll (by omega) hby, below_setRow (grew_trans HB (grew_alloc wm _)) HB.size _⟩
end Go.Proofs.YthdlpeejmmobmaaGreat.Mk

/- The document's entries as bytes. -/
namespace Go.Proofs.YthdlpeejmmobmaaGreat.Mk
open Go.RowKit
set_option maxRecDepth 100000
set_option linter.unusedVariables false
set_option maxRecDepth 10000 in
set_option maxHeartbeats 400000 in
theorem rencodeEntry_none (s : ByteArray) (h : s.size = 0) (w : World) : Calls Tryz.prog 187 #[entV 0 s] w fun e w' => ∃ p c, e = .returned (.tuple #[.slice p 16 c, .int .i64 0]) ∧ BI w' p 16 (entL 0 s) ∧ Below w.heap.size w w' := by
  obtain ⟨i0, hi0, hz0, hz1, hz2⟩ := info_parts info5
  have HB := grew_alloc w (entO 0 s)
  have hx := heap_new w (entO 0 s)
  have hl := toList_empty h
  have hee := entL_none s h
  have HE := (show Hid _ from hee)
  clear hee h
  go_enter Tryz.func187, Tryz.ntmps187
  go_wp2_with (first
    | (at_make; generalize w.alloc (entO 0 s) = wa at *; refine wpList_make_full _ rfl _ _ 42 rfl wa.heap.size 5 i0 (.int .u8 0) 1 Tryz.underlying42 hi0 hz0 hz1 .i64 .i64 _ _ 16 rfl rfl rfl rfl (by rw [hz2]; omega) (by unfold maxLen; omega) (Nat.le_refl _) ?_; intro w1 hown1 hgrow1; have hb1 := (Below.refl _ wa).grown hgrow1 (Nat.le_refl _) (by intro k hk; cases hk); have hrow := own_row hown1; rw [made_zers 16] at hrow; have HB := grew_trans HB hb1; have hx := (hb1.block _ (Array.getElem?_eq_some_iff.1 hx).1).trans hx; have c0 : w1.cell? ⟨w.heap.size, 0, none⟩ = some (.int .i64 0) := cell_row hx 0 _ rfl; have c1 : w1.cell? ⟨w.heap.size, 1, none⟩ = some (.string s) := cell_row hx 1 _ rfl; clear hown1 hgrow1 hb1))
  go_ret2
  rw [HE.out]
  exact ⟨_, _, rfl, raw_bi hrow (zers_len 16) (by omega) (zers_byt 16), HB⟩
set_option maxRecDepth 10000 in
set_option maxHeartbeats 200000 in
theorem rencodeEntry_zero (s : ByteArray) (hs : s.size ≤ 140737488355328) (h0 : ¬ s.size = 0) (w : World) : Calls Tryz.prog 187 #[entV 0 s] w fun e w' => e = .returned (.tuple #[.slice none 0 0, .int .i64 1]) ∧ Below w.heap.size w w' := by
  obtain ⟨i0, hi0, hz0, hz1, hz2⟩ := info_parts info5
  have HB := grew_alloc w (entO 0 s)
  have hx := heap_new w (entO 0 s)
  have hl := toList_not h0
  clear h0
  go_enter Tryz.func187, Tryz.ntmps187
  go_wp2_with (first
    | (at_make; generalize w.alloc (entO 0 s) = wa at *; refine wpList_make_full _ rfl _ _ 42 rfl wa.heap.size 5 i0 (.int .u8 0) 1 Tryz.underlying42 hi0 hz0 hz1 .i64 .i64 _ _ 16 rfl rfl rfl rfl (by rw [hz2]; omega) (by unfold maxLen; omega) (Nat.le_refl _) ?_; intro w1 hown1 hgrow1; have hb1 := (Below.refl _ wa).grown hgrow1 (Nat.le_refl _) (by intro k hk; cases hk); have hrow := own_row hown1; rw [made_zers 16] at hrow; have ho := own_of_row (Nat.le_refl wa.heap.size) (by decide) (zers_len 16) hrow; have HB := grew_trans HB hb1; have hx := (hb1.block _ (Array.getElem?_eq_some_iff.1 hx).1).trans hx; have c0 : w1.cell? ⟨w.heap.size, 0, none⟩ = some (.int .i64 0) := cell_row hx 0 _ rfl; have c1 : w1.cell? ⟨w.heap.size, 1, none⟩ = some (.string s) := cell_row hx 1 _ rfl; clear hown1 hgrow1 hb1))
  go_ret2
  exact ⟨rfl, HB⟩
set_option maxRecDepth 10000 in
set_option maxHeartbeats 200000 in
theorem rencodeEntry_low (N : Int) (s : ByteArray) (hs : s.size ≤ 140737488355328) (h : N < 1) (hN : ¬ N = 0) (w : World) : Calls Tryz.prog 187 #[entV N s] w fun e w' => e = .returned (.tuple #[.slice none 0 0, .int .i64 1]) ∧ Below w.heap.size w w' := by
  obtain ⟨i0, hi0, hz0, hz1, hz2⟩ := info_parts info5
  have HB := grew_alloc w (entO N s)
  have hx := heap_new w (entO N s)
  go_enter Tryz.func187, Tryz.ntmps187
  go_wp2_with (first
    | (at_make; generalize w.alloc (entO N s) = wa at *; refine wpList_make_full _ rfl _ _ 42 rfl wa.heap.size 5 i0 (.int .u8 0) 1 Tryz.underlying42 hi0 hz0 hz1 .i64 .i64 _ _ 16 rfl rfl rfl rfl (by rw [hz2]; omega) (by unfold maxLen; omega) (Nat.le_refl _) ?_; intro w1 hown1 hgrow1; have hb1 := (Below.refl _ wa).grown hgrow1 (Nat.le_refl _) (by intro k hk; cases hk); have hrow := own_row hown1; rw [made_zers 16] at hrow; have ho := own_of_row (Nat.le_refl wa.heap.size) (by decide) (zers_len 16) hrow; have HB := grew_trans HB hb1; have hx := (hb1.block _ (Array.getElem?_eq_some_iff.1 hx).1).trans hx; have c0 : w1.cell? ⟨w.heap.size, 0, none⟩ = some (.int .i64 N) := cell_row hx 0 _ rfl; have c1 : w1.cell? ⟨w.heap.size, 1, none⟩ = some (.string s) := cell_row hx 1 _ rfl; clear hown1 hgrow1 hb1))
  go_ret2
  exact ⟨rfl, HB⟩
set_option maxRecDepth 10000 in
set_option maxHeartbeats 200000 in
theorem rencodeEntry_high (N : Int) (s : ByteArray) (hs : s.size ≤ 140737488355328) (h : 511 < N) (w : World) : Calls Tryz.prog 187 #[entV N s] w fun e w' => e = .returned (.tuple #[.slice none 0 0, .int .i64 1]) ∧ Below w.heap.size w w' := by
  obtain ⟨i0, hi0, hz0, hz1, hz2⟩ := info_parts info5
  have HB := grew_alloc w (entO N s)
  have hx := heap_new w (entO N s)
  have hN : ¬ N = 0 := by omega
  have hN1 : ¬ N < 1 := by omega
  go_enter Tryz.func187, Tryz.ntmps187
  go_wp2_with (first
    | (at_make; generalize w.alloc (entO N s) = wa at *; refine wpList_make_full _ rfl _ _ 42 rfl wa.heap.size 5 i0 (.int .u8 0) 1 Tryz.underlying42 hi0 hz0 hz1 .i64 .i64 _ _ 16 rfl rfl rfl rfl (by rw [hz2]; omega) (by unfold maxLen; omega) (Nat.le_refl _) ?_; intro w1 hown1 hgrow1; have hb1 := (Below.refl _ wa).grown hgrow1 (Nat.le_refl _) (by intro k hk; cases hk); have hrow := own_row hown1; rw [made_zers 16] at hrow; have ho := own_of_row (Nat.le_refl wa.heap.size) (by decide) (zers_len 16) hrow; have HB := grew_trans HB hb1; have hx := (hb1.block _ (Array.getElem?_eq_some_iff.1 hx).1).trans hx; have c0 : w1.cell? ⟨w.heap.size, 0, none⟩ = some (.int .i64 N) := cell_row hx 0 _ rfl; have c1 : w1.cell? ⟨w.heap.size, 1, none⟩ = some (.string s) := cell_row hx 1 _ rfl; clear hown1 hgrow1 hb1))
  go_ret2
  exact ⟨rfl, HB⟩
set_option maxRecDepth 10000 in
set_option maxHeartbeats 200000 in
theorem rencodeEntry_name (N : Int) (s : ByteArray) (hs : s.size ≤ 140737488355328) (h : 1 ≤ N ∧ N ≤ 511) (hd : dots s = false) (hm : ¬ Nm s) (w : World) : Calls Tryz.prog 187 #[entV N s] w fun e w' => e = .returned (.tuple #[.slice none 0 0, .int .i64 1]) ∧ Below w.heap.size w w' := by
  obtain ⟨i0, hi0, hz0, hz1, hz2⟩ := info_parts info5
  have HB := grew_alloc w (entO N s)
  have hx := heap_new w (entO N s)
  have hn := fun w => risName_ok s w hs
  rw [decide_eq_false hm] at hn
  have hN : ¬ N = 0 := by omega
  have hN1 : ¬ N < 1 := by omega
  have hN2 : ¬ 511 < N := by omega
  have h3 : (s.toList == [46]) = false := by
    unfold dots at hd
    simp at hd
    simpa using hd.1
  have h4 : (s.toList == [46, 46]) = false := by
    unfold dots at hd
    simp at hd
    simpa using hd.2
  have h3' : (s.toList != [46]) = true := by simp [bne, h3]
  have h4' : (s.toList != [46, 46]) = true := by simp [bne, h4]
  clear hd hm
  go_enter Tryz.func187, Tryz.ntmps187
  go_wp2_with (first
    | (at_make; generalize w.alloc (entO N s) = wa at *; refine wpList_make_full _ rfl _ _ 42 rfl wa.heap.size 5 i0 (.int .u8 0) 1 Tryz.underlying42 hi0 hz0 hz1 .i64 .i64 _ _ 16 rfl rfl rfl rfl (by rw [hz2]; omega) (by unfold maxLen; omega) (Nat.le_refl _) ?_; intro w1 hown1 hgrow1; have hb1 := (Below.refl _ wa).grown hgrow1 (Nat.le_refl _) (by intro k hk; cases hk); have hrow := own_row hown1; rw [made_zers 16] at hrow; have ho := own_of_row (Nat.le_refl wa.heap.size) (by decide) (zers_len 16) hrow; have HB := grew_trans HB hb1; have hx := (hb1.block _ (Array.getElem?_eq_some_iff.1 hx).1).trans hx; have c0 : w1.cell? ⟨w.heap.size, 0, none⟩ = some (.int .i64 N) := cell_row hx 0 _ rfl; have c1 : w1.cell? ⟨w.heap.size, 1, none⟩ = some (.string s) := cell_row hx 1 _ rfl; clear hown1 hgrow1 hb1)
    | (go_at_call 259; refine same_at (hn _) ?_))
  go_ret2
  exact ⟨rfl, HB⟩

/-- The row of an entry, its text laid in. -/
theorem ent_copy {w : World} {B g cap : Nat} {L : List Int} (ho : Own B w g 16 cap L) (s : ByteArray) (h : s.size ≤ 13) (hy : Num.Byt L) :
    ∃ A : Array Value, (∀ ty, (Builtin.copy_ #[42, 9] ty #[.slice (some ⟨g, 3, none⟩) 13 (cap - 3), .string s]).run Tryz.prog w = .ok (goInt s.size) (w.setRow g A)) ∧ BI (w.setRow g A) (some ⟨g, 0, none⟩) 16 (splice L 3 (numsOf s)) := by
  have hl : L.length = 16 := by have := ho.1; simpa using this
  rcases ho.2 with ⟨e, _⟩ | ⟨g', cap', cur, e, hB, hg, hc, _, hcs, ht⟩
  · cases e
  · cases e
    rw [Nat.mul_one] at ht hcs
    refine ⟨_, fun ty => Lib.run_copy_row_string (P := Tryz.prog) w 42 9 ty 5 g 3 13 (cap - 3) s _ 5 Tryz.underlying42 size5 hg h (by omega), ?_⟩
    have hA : cur.toList.take 3 ++ Lib.byteCells s.data.toList ++ cur.toList.drop (3 + s.size) = (splice L 3 (numsOf s)).map (Value.int .u8) ++ cur.toList.drop 16 := by
      have hcur : cur.toList = L.map (Value.int .u8) ++ cur.toList.drop 16 := by rw [← ht, List.take_append_drop]
      have hbc : Lib.byteCells s.data.toList = (numsOf s).map (Value.int .u8) := by simp [Lib.byteCells, numsOf]
      rw [hbc, ← splice_map]
      generalize cur.toList.drop 16 = R at hcur
      rw [hcur]
      unfold splice
      rw [List.length_map, numsOf_len, List.take_append_of_le_length (by simp; omega), List.drop_append_of_le_length (by simp; omega)]
      simp only [List.append_assoc]
    rw [hA]
    have hsl : (splice L 3 (numsOf s)).length = 16 := by rw [splice_len _ _ _ (by rw [numsOf_len]; omega), hl]
    refine ⟨hsl, by omega, splice_byt hy (numsOf_byt s) 3, fun _ => ⟨_, _, rfl, fun i hi => ?_⟩⟩
    rw [Nat.zero_add]
    refine cell_row (setRow_heap _ _ _ _ _ _ hg) i _ ?_
    have e : (splice L 3 (numsOf s))[i]? = some ((splice L 3 (numsOf s)).getD i 0) := by rw [List.getD_eq_getElem?_getD, List.getElem?_eq_getElem (by omega)]; rfl
    rw [List.getElem?_toArray, List.getElem?_append_left (by simp; omega), List.getElem?_map, e]
    rfl
theorem Own.base_le {B : Nat} {w : World} {g n cap : Nat} {xs : List Int} (h : Own B w g n cap xs) : B ≤ g := (World.ownsRow.lt h g rfl).1

set_option maxRecDepth 10000 in
set_option maxHeartbeats 1000000 in
theorem rencodeEntry_used (N : Int) (s : ByteArray) (h : 1 ≤ N ∧ N ≤ 511) (hd : dots s = true ∨ Nm s) (w : World) : Calls Tryz.prog 187 #[entV N s] w fun e w' => ∃ p c, e = .returned (.tuple #[.slice p 16 c, .int .i64 0]) ∧ BI w' p 16 (entL N s) ∧ Below w.heap.size w w' := by
  have hsz := emay_size (Or.inr ⟨h, hd⟩ : EMay N s)
  have hs : s.size ≤ 140737488355328 := by omega
  obtain ⟨i0, hi0, hz0, hz1, hz2⟩ := info_parts info5
  have HB := grew_alloc w (entO N s)
  have hx := heap_new w (entO N s)
  have hn := fun w => risName_ok s w hs
  have hN : ¬ N = 0 := by omega
  have hN1 : ¬ N < 1 := by omega
  have hN2 : ¬ 511 < N := by omega
  obtain ⟨h1, h2⟩ := h
  go_enter Tryz.func187, Tryz.ntmps187
  by_cases hm : Nm s
  · rw [decide_eq_true hm] at hn
    clear hd hm
    go_wp2_with (first
      | (at_make; generalize w.alloc (entO N s) = wa at *; refine wpList_make_full _ rfl _ _ 42 rfl wa.heap.size 5 i0 (.int .u8 0) 1 Tryz.underlying42 hi0 hz0 hz1 .i64 .i64 _ _ 16 rfl rfl rfl rfl (by rw [hz2]; omega) (by unfold maxLen; omega) (Nat.le_refl _) ?_; intro w1 hown1 hgrow1; have hb1 := (Below.refl _ wa).grown hgrow1 (Nat.le_refl _) (by intro k hk; cases hk); have hrow := own_row hown1; rw [made_zers 16] at hrow; have ho := own_of_row (Nat.le_refl wa.heap.size) (by decide) (zers_len 16) hrow; have HB := grew_trans HB hb1; have hx := (hb1.block _ (Array.getElem?_eq_some_iff.1 hx).1).trans hx; have c0 : w1.cell? ⟨w.heap.size, 0, none⟩ = some (.int .i64 N) := cell_row hx 0 _ rfl; have c1 : w1.cell? ⟨w.heap.size, 1, none⟩ = some (.string s) := cell_row hx 1 _ rfl; clear hown1 hgrow1 hb1)
      | (go_at_call 259; refine same_at (hn _) ?_))
    refine Calls.mono (rnumber_ok _ 16 _ _ 0 2 N _ (ho.bi (by omega) (zers_byt 16)) (by omega) (by omega) (by omega) (by omega) (by omega)) ?_
    rintro e w2 ⟨g2, cap2, rfl, ho2, hb2⟩
    have HB2 := grew_trans HB hb2
    have hx2 := (hb2.block _ (Array.getElem?_eq_some_iff.1 hx).1).trans hx
    have c1 : w2.cell? ⟨w.heap.size, 1, none⟩ = some (.string s) := cell_row hx2 1 _ rfl
    clear hb2 ho hrow c0 hx
    go_wp2_with fail
    refine Calls.mono (rnumber_ok _ 16 _ _ 2 1 (s.size : Int) _ (ho2.bi (by omega) (Num.putTo_byt (zers_byt 16) _ _ _)) (by omega) (by omega) (by omega) (by omega) (by omega)) ?_
    rintro e w3 ⟨g3, cap3, rfl, ho3, hb3⟩
    have HB3 := grew_trans HB2 hb3
    have hx3 := (hb3.block _ (Array.getElem?_eq_some_iff.1 hx2).1).trans hx2
    have hg3 : w.heap.size < g3 := Nat.lt_of_lt_of_le (Array.getElem?_eq_some_iff.1 hx2).1 ho3.base_le
    have c1 : w3.cell? ⟨w.heap.size, 1, none⟩ = some (.string s) := cell_row hx3 1 _ rfl
    have hcap : 16 ≤ cap3 := ho3.room.1
    obtain ⟨A, hrun, hbi⟩ := ent_copy (w := w3.drew) ho3 s hsz (Num.putTo_byt (Num.putTo_byt (zers_byt 16) _ _ _) _ _ _)
    have hxA : (w3.drew.setRow g3 A).heap[w.heap.size]? = some (entO N s) := by rw [setRow_other _ _ _ _ (by omega)]; exact hx3
    have cA : (w3.drew.setRow g3 A).cell? ⟨w.heap.size, 1, none⟩ = some (.string s) := cell_row hxA 1 _ rfl
    have hBA := below_setRow HB3.drew (Nat.le_of_lt hg3) A
    have hcI : (3 : Int) ≤ (cap3 : Int) := by omega
    have hc3 : ¬ cap3 = 3 := by omega
    have HBI := (show Hid _ from hbi)
    clear hbi hb3 ho2 ho3 hx2 hx3 HB2
    go_wp2_with fail
    go_region_held3 (fun w' => w'.cell? ⟨w.heap.size, 1, none⟩ = some (.string s)) (first | exact c1 | exact cA) (fail)
    go_wp2_with fail
    go_ret2
    exact ⟨_, _, rfl, HBI.out, hBA⟩
  · rw [decide_eq_false hm] at hn
    have hd := guard_name (hd.resolve_right hm)
    clear hm
    rcases hd with hd | hd
    · have e1 : (s.toList == [46]) = true := by rw [hd]; rfl
      clear hd
      go_wp2_with (first
        | (at_make; generalize w.alloc (entO N s) = wa at *; refine wpList_make_full _ rfl _ _ 42 rfl wa.heap.size 5 i0 (.int .u8 0) 1 Tryz.underlying42 hi0 hz0 hz1 .i64 .i64 _ _ 16 rfl rfl rfl rfl (by rw [hz2]; omega) (by unfold maxLen; omega) (Nat.le_refl _) ?_; intro w1 hown1 hgrow1; have hb1 := (Below.refl _ wa).grown hgrow1 (Nat.le_refl _) (by intro k hk; cases hk); have hrow := own_row hown1; rw [made_zers 16] at hrow; have ho := own_of_row (Nat.le_refl wa.heap.size) (by decide) (zers_len 16) hrow; have HB := grew_trans HB hb1; have hx := (hb1.block _ (Array.getElem?_eq_some_iff.1 hx).1).trans hx; have c0 : w1.cell? ⟨w.heap.size, 0, none⟩ = some (.int .i64 N) := cell_row hx 0 _ rfl; have c1 : w1.cell? ⟨w.heap.size, 1, none⟩ = some (.string s) := cell_row hx 1 _ rfl; clear hown1 hgrow1 hb1)
        | (go_at_call 259; refine same_at (hn _) ?_))
      refine Calls.mono (rnumber_ok _ 16 _ _ 0 2 N _ (ho.bi (by omega) (zers_byt 16)) (by omega) (by omega) (by omega) (by omega) (by omega)) ?_
      rintro e w2 ⟨g2, cap2, rfl, ho2, hb2⟩
      have HB2 := grew_trans HB hb2
      have hx2 := (hb2.block _ (Array.getElem?_eq_some_iff.1 hx).1).trans hx
      have c1 : w2.cell? ⟨w.heap.size, 1, none⟩ = some (.string s) := cell_row hx2 1 _ rfl
      clear hb2 ho hrow c0 hx
      go_wp2_with fail
      refine Calls.mono (rnumber_ok _ 16 _ _ 2 1 (s.size : Int) _ (ho2.bi (by omega) (Num.putTo_byt (zers_byt 16) _ _ _)) (by omega) (by omega) (by omega) (by omega) (by omega)) ?_
      rintro e w3 ⟨g3, cap3, rfl, ho3, hb3⟩
      have HB3 := grew_trans HB2 hb3
      have hx3 := (hb3.block _ (Array.getElem?_eq_some_iff.1 hx2).1).trans hx2
      have hg3 : w.heap.size < g3 := Nat.lt_of_lt_of_le (Array.getElem?_eq_some_iff.1 hx2).1 ho3.base_le
      have c1 : w3.cell? ⟨w.heap.size, 1, none⟩ = some (.string s) := cell_row hx3 1 _ rfl
      have hcap : 16 ≤ cap3 := ho3.room.1
      obtain ⟨A, hrun, hbi⟩ := ent_copy (w := w3.drew) ho3 s hsz (Num.putTo_byt (Num.putTo_byt (zers_byt 16) _ _ _) _ _ _)
      have hxA : (w3.drew.setRow g3 A).heap[w.heap.size]? = some (entO N s) := by rw [setRow_other _ _ _ _ (by omega)]; exact hx3
      have cA : (w3.drew.setRow g3 A).cell? ⟨w.heap.size, 1, none⟩ = some (.string s) := cell_row hxA 1 _ rfl
      have hBA := below_setRow HB3.drew (Nat.le_of_lt hg3) A
      have hcI : (3 : Int) ≤ (cap3 : Int) := by omega
      have hc3 : ¬ cap3 = 3 := by omega
      have HBI := (show Hid _ from hbi)
      clear hbi hb3 ho2 ho3 hx2 hx3 HB2
      go_wp2_with fail
      go_region_held3 (fun w' => w'.cell? ⟨w.heap.size, 1, none⟩ = some (.string s)) (first | exact c1 | exact cA) (fail)
      go_wp2_with fail
      go_ret2
      exact ⟨_, _, rfl, HBI.out, hBA⟩
    · have e1 : (s.toList == [46]) = false := by rw [hd]; rfl
      have e2 : (s.toList == [46, 46]) = true := by rw [hd]; rfl
      clear hd
      go_wp2_with (first
        | (at_make; generalize w.alloc (entO N s) = wa at *; refine wpList_make_full _ rfl _ _ 42 rfl wa.heap.size 5 i0 (.int .u8 0) 1 Tryz.underlying42 hi0 hz0 hz1 .i64 .i64 _ _ 16 rfl rfl rfl rfl (by rw [hz2]; omega) (by unfold maxLen; omega) (Nat.le_refl _) ?_; intro w1 hown1 hgrow1; have hb1 := (Below.refl _ wa).grown hgrow1 (Nat.le_refl _) (by intro k hk; cases hk); have hrow := own_row hown1; rw [made_zers 16] at hrow; have ho := own_of_row (Nat.le_refl wa.heap.size) (by decide) (zers_len 16) hrow; have HB := grew_trans HB hb1; have hx := (hb1.block _ (Array.getElem?_eq_some_iff.1 hx).1).trans hx; have c0 : w1.cell? ⟨w.heap.size, 0, none⟩ = some (.int .i64 N) := cell_row hx 0 _ rfl; have c1 : w1.cell? ⟨w.heap.size, 1, none⟩ = some (.string s) := cell_row hx 1 _ rfl; clear hown1 hgrow1 hb1)
        | (go_at_call 259; refine same_at (hn _) ?_))
      refine Calls.mono (rnumber_ok _ 16 _ _ 0 2 N _ (ho.bi (by omega) (zers_byt 16)) (by omega) (by omega) (by omega) (by omega) (by omega)) ?_
      rintro e w2 ⟨g2, cap2, rfl, ho2, hb2⟩
      have HB2 := grew_trans HB hb2
      have hx2 := (hb2.block _ (Array.getElem?_eq_some_iff.1 hx).1).trans hx
      have c1 : w2.cell? ⟨w.heap.size, 1, none⟩ = some (.string s) := cell_row hx2 1 _ rfl
      clear hb2 ho hrow c0 hx
      go_wp2_with fail
      refine Calls.mono (rnumber_ok _ 16 _ _ 2 1 (s.size : Int) _ (ho2.bi (by omega) (Num.putTo_byt (zers_byt 16) _ _ _)) (by omega) (by omega) (by omega) (by omega) (by omega)) ?_
      rintro e w3 ⟨g3, cap3, rfl, ho3, hb3⟩
      have HB3 := grew_trans HB2 hb3
      have hx3 := (hb3.block _ (Array.getElem?_eq_some_iff.1 hx2).1).trans hx2
      have hg3 : w.heap.size < g3 := Nat.lt_of_lt_of_le (Array.getElem?_eq_some_iff.1 hx2).1 ho3.base_le
      have c1 : w3.cell? ⟨w.heap.size, 1, none⟩ = some (.string s) := cell_row hx3 1 _ rfl
      have hcap : 16 ≤ cap3 := ho3.room.1
      obtain ⟨A, hrun, hbi⟩ := ent_copy (w := w3.drew) ho3 s hsz (Num.putTo_byt (Num.putTo_byt (zers_byt 16) _ _ _) _ _ _)
      have hxA : (w3.drew.setRow g3 A).heap[w.heap.size]? = some (entO N s) := by rw [setRow_other _ _ _ _ (by omega)]; exact hx3
      have cA : (w3.drew.setRow g3 A).cell? ⟨w.heap.size, 1, none⟩ = some (.string s) := cell_row hxA 1 _ rfl
      have hBA := below_setRow HB3.drew (Nat.le_of_lt hg3) A
      have hcI : (3 : Int) ≤ (cap3 : Int) := by omega
      have hc3 : ¬ cap3 = 3 := by omega
      have HBI := (show Hid _ from hbi)
      clear hbi hb3 ho2 ho3 hx2 hx3 HB2
      go_wp2_with fail
      go_region_held3 (fun w' => w'.cell? ⟨w.heap.size, 1, none⟩ = some (.string s)) (first | exact c1 | exact cA) (fail)
      go_wp2_with fail
      go_ret2
      exact ⟨_, _, rfl, HBI.out, hBA⟩

theorem rencodeEntry_yes (N : Int) (s : ByteArray) (h : EMay N s) (w : World) : Calls Tryz.prog 187 #[entV N s] w fun e w' => ∃ p c, e = .returned (.tuple #[.slice p 16 c, .int .i64 0]) ∧ BI w' p 16 (entL N s) ∧ Below w.heap.size w w' := by
  rcases h with ⟨rfl, h⟩ | ⟨h1, h2⟩
  · exact rencodeEntry_none s h w
  · exact rencodeEntry_used N s h1 h2 w
theorem rencodeEntry_no (N : Int) (s : ByteArray) (hs : s.size ≤ 140737488355328) (h : ¬ EMay N s) (w : World) : Calls Tryz.prog 187 #[entV N s] w fun e w' => e = .returned (.tuple #[.slice none 0 0, .int .i64 1]) ∧ Below w.heap.size w w' := by
  by_cases h1 : 511 < N
  · exact rencodeEntry_high N s hs h1 w
  · by_cases h2 : N < 1
    · by_cases h3 : N = 0
      · subst h3
        exact rencodeEntry_zero s hs (fun e => h (Or.inl ⟨rfl, e⟩)) w
      · exact rencodeEntry_low N s hs h2 h3 w
    · have hb : 1 ≤ N ∧ N ≤ 511 := by omega
      refine rencodeEntry_name N s hs hb (Bool.eq_false_iff.2 fun e => h (Or.inr ⟨hb, Or.inl e⟩)) (fun e => h (Or.inr ⟨hb, Or.inr e⟩)) w
end Go.Proofs.YthdlpeejmmobmaaGreat.Mk

/- dirs: what an entry is good for. -/
namespace Go.Proofs.YthdlpeejmmobmaaGreat.Mk
open Go.RowKit
set_option maxRecDepth 100000
set_option linter.unusedVariables false

/-- What an entry is good for. -/
def kd (N : Int) (s : ByteArray) : Int := if EMay N s then (if N = 0 then 1 else 2) else 0

theorem str_none {s : ByteArray} (h : s.size = 0) : s = ⟨#[]⟩ := by
  cases s with
  | mk a =>
    have : a.size = 0 := h
    rw [Array.eq_empty_of_size_eq_zero this]

set_option maxRecDepth 10000 in
set_option maxHeartbeats 400000 in
theorem kindOf_ok (N : Int) (s : ByteArray) (hs : s.size ≤ 140737488355328) (w : World) : Calls Tryz.prog 308 #[entV N s] w fun e w' => e = .returned (.int .i64 (kd N s)) ∧ Below w.heap.size w w' := by
  have HB := grew_alloc w (entO N s)
  have hx := heap_new w (entO N s)
  by_cases hm : EMay N s
  · have he := encodeEntry_yes N s hm (w.alloc (entO N s))
    by_cases h0 : N = 0
    · have hsz : s = ⟨#[]⟩ := by
        have : s.size = 0 := by
          rcases hm with h | h
          · exact h.2
          · omega
        exact str_none this
      have hkd : kd N s = 1 := by unfold kd; rw [if_pos hm, if_pos h0]
      rw [hkd]
      clear hkd hm hs
      subst h0 hsz
      go_enter Tryz.func308, Tryz.ntmps308
      go_wp2_with fail
      refine he.mono ?_
      rintro _ w1 ⟨p, c, rfl, hB, hb⟩
      clear he
      have hx1 := (hb.block _ (Array.getElem?_eq_some_iff.1 hx).1).trans hx
      have x0 : w1.cell? ⟨w.heap.size, 0, none⟩ = some (.int .i64 0) := cell_row hx1 0 _ rfl
      have x1 : w1.cell? ⟨w.heap.size, 1, none⟩ = some (.string ⟨#[]⟩) := cell_row hx1 1 _ rfl
      clear hx hx1
      dsimp only
      go_wp2_with fail
      go_ret
      exact ⟨rfl, grew_trans HB hb⟩
    · have hkd : kd N s = 2 := by unfold kd; rw [if_pos hm, if_neg h0]
      rw [hkd]
      clear hkd hm
      go_enter Tryz.func308, Tryz.ntmps308
      go_wp2_with fail
      refine he.mono ?_
      rintro _ w1 ⟨p, c, rfl, hB, hb⟩
      clear he
      have hx1 := (hb.block _ (Array.getElem?_eq_some_iff.1 hx).1).trans hx
      have x0 : w1.cell? ⟨w.heap.size, 0, none⟩ = some (.int .i64 N) := cell_row hx1 0 _ rfl
      have x1 : w1.cell? ⟨w.heap.size, 1, none⟩ = some (.string s) := cell_row hx1 1 _ rfl
      clear hx hx1
      dsimp only
      go_wp2_with fail
      go_ret
      exact ⟨rfl, grew_trans HB hb⟩
  · have he := encodeEntry_no N s hs hm (w.alloc (entO N s))
    go_enter Tryz.func308, Tryz.ntmps308
    go_wp2_with fail
    refine he.mono ?_
    rintro _ w1 ⟨rfl, hb⟩
    clear he
    dsimp only
    go_wp2_with fail
    go_ret
    exact ⟨by unfold kd; rw [if_neg hm]; rfl, grew_trans HB hb⟩
end Go.Proofs.YthdlpeejmmobmaaGreat.Mk

/- dirs: a page of entries: find, free. -/
namespace Go.Proofs.YthdlpeejmmobmaaGreat.Mk
open Go.RowKit
set_option maxRecDepth 100000
set_option linter.unusedVariables false

/-- An entry. -/
structure En where
  n : Int
  s : ByteArray
def flat2 : List En → List Value
  | [] => []
  | e :: l => .int .i64 e.n :: .string e.s :: flat2 l
theorem flat2_len : ∀ E : List En, (flat2 E).length = 2 * E.length
  | [] => rfl
  | e :: l => by simp only [flat2, List.length_cons, flat2_len l]; omega
theorem flat2_n : ∀ (E : List En) (i : Nat) (e : En), E[i]? = some e → (flat2 E)[i * 2]? = some (.int .i64 e.n)
  | [], _, _, h => by simp at h
  | x :: l, 0, e, h => by simp at h; subst h; rfl
  | x :: l, i + 1, e, h => by
    have := flat2_n l i e (by simpa using h)
    rw [show (i + 1) * 2 = i * 2 + 2 by omega]
    simpa [flat2] using this
theorem flat2_s : ∀ (E : List En) (i : Nat) (e : En), E[i]? = some e → (flat2 E)[i * 2 + 1]? = some (.string e.s)
  | [], _, _, h => by simp at h
  | x :: l, 0, e, h => by simp at h; subst h; rfl
  | x :: l, i + 1, e, h => by
    have := flat2_s l i e (by simpa using h)
    rw [show (i + 1) * 2 + 1 = i * 2 + 1 + 2 by omega]
    simpa [flat2] using this
/-- Eight entries in block b; one without a number has no name. -/
structure Pge (w : World) (b : Nat) (E : List En) : Prop where
  row : w.heap[b]? = some (.cells (flat2 E).toArray 352 (0, 0))
  len : E.length = 8
  non : ∀ e ∈ E, e.n = 0 → e.s = ⟨#[]⟩
theorem Pge.c0 {w : World} {b : Nat} {E : List En} (h : Pge w b E) {i : Nat} {e : En} (he : E[i]? = some e) : w.cell? ⟨b, i * 2, none⟩ = some (.int .i64 e.n) := cell_row h.row _ _ (by rw [List.getElem?_toArray]; exact flat2_n E i e he)
theorem Pge.c1 {w : World} {b : Nat} {E : List En} (h : Pge w b E) {i : Nat} {e : En} (he : E[i]? = some e) : w.cell? ⟨b, i * 2 + 1, none⟩ = some (.string e.s) := cell_row h.row _ _ (by rw [List.getElem?_toArray]; exact flat2_s E i e he)
theorem Pge.kept {w w' : World} {b : Nat} {E : List En} (h : Pge w b E) (hb : Below w.heap.size w w') : Pge w' b E :=
  ⟨(hb.block _ (Array.getElem?_eq_some_iff.1 h.row).1).trans h.row, h.len, h.non⟩

/-- Whether an entry has the name. -/
def hit (s : ByteArray) (e : En) : Bool := decide (e.n ≠ 0) && (e.s.toList == s.toList)
/-- Whether an entry is empty. -/
def emp (e : En) : Bool := decide (e.n = 0)

theorem idx_hit {E : List En} {p : En → Bool} {j : Nat} {e : En} (h : (E.take j).findIdx? p = none) (he : E[j]? = some e) (hp : p e = true) : E.findIdx? p = some j := by
  rw [List.findIdx?_eq_some_iff_getElem]
  obtain ⟨hl, rfl⟩ := List.getElem?_eq_some_iff.1 he
  refine ⟨hl, hp, fun i hi => ?_⟩
  rw [List.findIdx?_eq_none_iff] at h
  have h2 : i < (E.take j).length := by rw [List.length_take]; omega
  have := h ((E.take j)[i]'h2) (List.getElem_mem _)
  rw [List.getElem_take] at this
  rw [this]
  simp
theorem idx_next {E : List En} {p : En → Bool} {j : Nat} {e : En} (h : (E.take j).findIdx? p = none) (he : E[j]? = some e) (hp : p e = false) : (E.take (j + 1)).findIdx? p = none := by
  rw [List.findIdx?_eq_none_iff] at h ⊢
  intro x hx
  rw [List.take_add_one, he] at hx
  rcases List.mem_append.1 hx with hx | hx
  · exact h x hx
  · simp at hx; subst hx; exact hp

theorem box_drew {w wr : World} (hb : Below w.heap.size w wr) (o : Obj) : Below w.heap.size w (wr.alloc o).drew := (hb.alloc hb.size o).drew

set_option maxRecDepth 20000 in
set_option maxHeartbeats 1000000 in
theorem find_ok {w : World} {b : Nat} {E : List En} (h : Pge w b E) (s : ByteArray) :
    Calls Tryz.prog 248 #[.pointer (some ⟨b, 0, none⟩), .string s] w fun e w' => e = .returned (.tuple #[.int .i64 (((E.findIdx? (hit s)).getD 0 : Nat) : Int), .bool (E.findIdx? (hit s)).isSome]) ∧ Below w.heap.size w w' := by
  go_enter Tryz.func248, Tryz.ntmps248
  go_wp2_with fail
  go_loopw [10] (fun i wr => ∃ j : Nat, j ≤ 8 ∧ i = .int .i64 (j : Int) ∧ Below w.heap.size w wr ∧ (E.take j).findIdx? (hit s) = none) (fun i _ => 8 - (intOf i).toNat)
  case atStart => exact ⟨0, by omega, rfl, Below.refl _ _, by simp⟩
  case round =>
    obtain ⟨j, hj, rfl, hb, hno⟩ := hrel
    have HN : Hid _ := hno
    clear hno
    by_cases hlt : j < 8
    · obtain ⟨e, he⟩ : ∃ e, E[j]? = some e := ⟨_, List.getElem?_eq_getElem (by have := h.len; omega)⟩
      have hP := h.kept hb
      have c0 := hP.c0 he
      have c1 := hP.c1 he
      have hnon := h.non e (List.mem_of_getElem? he)
      have hjI : (j : Int) < 8 := by omega
      have hj0 : (0 : Int) ≤ (j : Int) := by omega
      have hlb : b < wr.heap.size := (Array.getElem?_eq_some_iff.1 hP.row).1
      have HBr : Hid _ := hb
      have HE : Hid _ := he
      clear hP hb he
      have key : ∀ (N : Int) (S : ByteArray), wr.cell? ⟨b, j * 2, none⟩ = some (.int .i64 N) → wr.cell? ⟨b, j * 2 + 1, none⟩ = some (.string S) →
          (wr.drew.cell? ⟨b, j * 2, none⟩ = some (.int .i64 N) ∧ wr.drew.cell? ⟨b, j * 2 + 1, none⟩ = some (.string S)) ∧
          ∀ o : Obj, (wr.drew.alloc o).cell? ⟨b, j * 2, none⟩ = some (.int .i64 N) ∧ (wr.drew.alloc o).cell? ⟨b, j * 2 + 1, none⟩ = some (.string S) := fun N S c0 c1 => ⟨⟨c0, c1⟩, fun o => by
        have hbo : Below wr.drew.heap.size wr.drew (wr.drew.alloc o) := grew_alloc _ o
        exact ⟨(hbo.cell (p := ⟨b, j * 2, none⟩) hlb).trans c0, (hbo.cell (p := ⟨b, j * 2 + 1, none⟩) hlb).trans c1⟩⟩
      by_cases h0 : e.n = 0
      · rw [h0] at c0
        rw [hnon h0] at c1
        obtain ⟨S0, S1⟩ := key _ _ c0 c1
        have hh : hit s e = false := by unfold hit; rw [decide_eq_false (by simpa using h0)]; rfl
        have hnx := idx_next HN.out HE.out hh
        clear hnon h0 hh key
        go_wp2_with fail
        go_region_held3 (fun w' => w'.cell? ⟨b, j * 2, none⟩ = some (.int .i64 0) ∧ w'.cell? ⟨b, j * 2 + 1, none⟩ = some (.string ⟨#[]⟩)) (first | exact S0 | exact S1 _) (fail)
        have HNX : Hid _ := hnx
        clear hnx
        go_wp2_with fail
        go_roundw
        case rel => exact ⟨j + 1, by omega, by go_num, box_drew HBr.out _, HNX.out⟩
        case measure => simp [intOf]; omega
      · obtain ⟨S0, S1⟩ := key _ _ c0 c1
        cases hs : (e.s.toList == s.toList) with
        | true =>
          have hh : hit s e = true := by unfold hit; rw [decide_eq_true h0, hs]; rfl
          have hnx := idx_hit HN.out HE.out hh
          clear hnon hh key
          have HNX : Hid _ := hnx
          clear hnx
          generalize e.n = N at *
          go_wp2_with fail
          go_region_held3 (fun w' => w'.cell? ⟨b, j * 2, none⟩ = some (.int .i64 N) ∧ w'.cell? ⟨b, j * 2 + 1, none⟩ = some (.string e.s)) (first | exact S0 | exact S1 _) (fail)
          go_wp2_with fail
          go_ret2
          exact ⟨by rw [HNX.out]; rfl, box_drew HBr.out _⟩
        | false =>
          have hh : hit s e = false := by unfold hit; rw [hs, Bool.and_false]
          have hnx := idx_next HN.out HE.out hh
          have HNX : Hid _ := hnx
          clear hnon hh key hnx
          generalize e.n = N at *
          go_wp2_with fail
          go_region_held3 (fun w' => w'.cell? ⟨b, j * 2, none⟩ = some (.int .i64 N) ∧ w'.cell? ⟨b, j * 2 + 1, none⟩ = some (.string e.s)) (first | exact S0 | exact S1 _) (fail)
          go_wp2_with fail
          go_roundw
          case rel => exact ⟨j + 1, by omega, by go_num, box_drew HBr.out _, HNX.out⟩
          case measure => simp [intOf]; omega
    · obtain rfl : j = 8 := by omega
      have hr := HN.out
      rw [List.take_of_length_le (by have := h.len; omega)] at hr
      have HNX : Hid _ := hr
      clear hr
      go_wp2_with fail
      go_ret2
      exact ⟨by rw [HNX.out]; rfl, hb⟩
end Go.Proofs.YthdlpeejmmobmaaGreat.Mk
