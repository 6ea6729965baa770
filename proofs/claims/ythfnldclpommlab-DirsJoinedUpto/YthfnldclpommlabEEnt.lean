/- Entries as bytes, by the program. -/
import Derived.Test.YthfnldclpommlabEntry
namespace Go.Proofs.Ythfnldclpommlab
open Go.RowKit
set_option linter.unusedVariables false

theorem info90 : (Try.prog.info? 76).map (·.size) = some 16 := by kernel_rfl
theorem array90 (p : Option Addr) (c : Nat) (w : World) : (Instr.arrayAt 76 (.slice p 16 c)).run Try.prog w = .ok (.pointer p) w := by
  simp [Instr.arrayAt, Sem.run_bind, run_underlying Try.underlying76]
abbrev rawA (xs : List Int) : Array Value := (xs.map (Value.int .u8)).toArray
theorem zero90 : rawA (zers 16) = #[.int .u8 0, .int .u8 0, .int .u8 0, .int .u8 0, .int .u8 0, .int .u8 0, .int .u8 0, .int .u8 0, .int .u8 0, .int .u8 0, .int .u8 0, .int .u8 0, .int .u8 0, .int .u8 0, .int .u8 0, .int .u8 0] := rfl
theorem raw_one (xs : List Int) : (rawA xs).all (·.oneCell') = true := by
  rw [Array.all_eq_true]
  intro i hi
  simp
  rfl

theorem raw_bi {w : World} {b n : Nat} {xs : List Int} {t : TypeId} (h : w.heap[b]? = some (.cells (rawA xs) t (0, 0))) (hl : xs.length = n) (hn : n ≤ 140737488355328) (hy : Num.Byt xs) : BI w (some ⟨b, 0, none⟩) n xs := by
  refine ⟨hl, hn, hy, fun _ => ⟨_, _, rfl, fun i hi => ?_⟩⟩
  rw [Nat.zero_add]
  refine cell_row h i _ ?_
  have e : xs[i]? = some (xs.getD i 0) := by rw [List.getD_eq_getElem?_getD, List.getElem?_eq_getElem (by omega)]; rfl
  generalize xs.getD i 0 = z at *
  unfold rawA
  rw [List.getElem?_toArray, List.getElem?_map, e]
  rfl
theorem ptext_any {B : Nat} {w : World} {pb g N a : Nat} {xs : List Int} (h : Pg B w pb g N a xs) (t : ByteArray) (h2 : a + t.size ≤ N) :
    Calls Try.prog 66 #[.pointer (some ⟨pb, 0, none⟩), .string t] w fun e w' => e = .returned (.tuple #[]) ∧ Pg B w' pb g N (a + t.size) (splice xs a (numsOf t)) ∧ Below B w w' := by
  by_cases h0 : t.size = 0
  · have e1 : numsOf t = [] := List.eq_nil_of_length_eq_zero (by rw [numsOf_len]; exact h0)
    have e2 : splice xs a [] = xs := by unfold splice; simp
    rw [e1, e2, h0, Nat.add_zero]
    exact ptext_none h t h0 (by omega)
  · exact ptext_ok h t (by omega) h2

set_option maxRecDepth 10000 in
set_option maxHeartbeats 1000000 in
theorem writeEntry_ok (N : Int) (s : ByteArray) (h : EMay N s) (w : World) : Calls Try.prog 55 #[entV N s] w fun e w' => e = .returned (.agg (rawA (entL N s))) ∧ Below w.heap.size w w' := by
  have hi := emay_ino h
  have hsz := emay_size h
  have HB0 := grew_alloc w (entO N s)
  have hx0 := heap_new w (entO N s)
  have hB1 := grew_trans HB0 (grew_alloc (w.alloc (entO N s)) (.cells (rawA (zers 16)) 76))
  have hx1 : ((w.alloc (entO N s)).alloc (.cells (rawA (zers 16)) 76)).heap[w.heap.size]? = some (entO N s) := by
    rw [Below.heap_alloc _ _ _ (by rw [size_alloc]; omega)]; exact hx0
  have hz1 : ((w.alloc (entO N s)).alloc (.cells (rawA (zers 16)) 76)).heap[w.heap.size + 1]? = some (.cells (rawA (zers 16)) 76 (0, 0)) := by
    have := heap_new (w.alloc (entO N s)) (.cells (rawA (zers 16)) 76)
    rwa [size_alloc] at this
  clear hx0 HB0 h
  rw [zero90] at *
  go_enter Try.func55, Try.ntmps55
  go_wp2_with fail
  rw [← zero90] at *
  have hsz2 : w.heap.size + 2 = ((w.alloc (entO N s)).alloc (.cells (rawA (zers 16)) 76)).heap.size := by rw [size_alloc, size_alloc]
  generalize (w.alloc (entO N s)).alloc (.cells (rawA (zers 16)) 76) = w2 at *
  have hle : w.heap.size ≤ w2.heap.size := by omega
  have hl1 : w.heap.size < w2.heap.size := by omega
  have hl2 : w.heap.size + 1 < w2.heap.size := by omega
  clear hsz2
  refine Calls.mono (newPage_ok 16 (by omega) w2.heap.size w2 (Nat.le_refl _)) ?_
  rintro e w3 ⟨pb, g, rfl, hp, hb⟩
  have c0 : w3.cell? ⟨w.heap.size, 0, none⟩ = some (.int .i64 N) := cell_row ((hb.block _ hl1).trans hx1) 0 _ rfl
  have hB3 := grew_trans hB1 hb
  have k1 := pnum_ok hp 2 N (by omega) (by omega) (by omega) (by omega) (by omega)
  go_wp2_with fail
  refine Calls.mono k1 ?_
  clear k1 c0
  rintro e w4 ⟨rfl, hp4, hb4⟩
  have c1 : w4.cell? ⟨w.heap.size, 1, none⟩ = some (.string s) := cell_row (((hb.trans hb4).block _ hl1).trans hx1) 1 _ rfl
  have k2 := pnum_ok hp4 1 (s.size : Int) (by omega) (by omega) (by omega) (by omega) (by omega)
  go_wp2_with fail
  refine Calls.mono k2 ?_
  clear k2 c1
  rintro e w5 ⟨rfl, hp5, hb5⟩
  have c1 : w5.cell? ⟨w.heap.size, 1, none⟩ = some (.string s) := cell_row ((((hb.trans hb4).trans hb5).block _ hl1).trans hx1) 1 _ rfl
  have k3 := ptext_any hp5 s (by omega)
  go_wp2_with fail
  refine Calls.mono k3 ?_
  clear k3 c1
  rintro e w6 ⟨rfl, hp6, hb6⟩
  have hbb := ((hb.trans hb4).trans hb5).trans hb6
  have hz6 : w6.heap[w.heap.size + 1]? = some (.cells (rawA (zers 16)) 76 (0, 0)) := (hbb.block _ hl2).trans hz1
  have hB6 := grew_trans hB1 hbb
  have hr6 := bi_range hp6.bi
  have c06 := hp6.c0
  have hat := array90
  have hee : splice (Num.putTo (Num.putTo (zers 16) 0 N 2) (0 + 2) (s.size : Int) 1) (0 + 2 + 1) (numsOf s) = entL N s := rfl
  rw [hee] at hr6
  have hll := entL_len N s hsz
  clear hee hp hp4 hp5 hp6 hb hb4 hb5 hb6 hbb hx1 hz1 hB1 hB3 hi hsz
  generalize hL : entL N s = L at *
  have HL := (show Hid _ from hL)
  clear hL
  have hi36 : (Try.prog.info? 76).map (·.size) = some (L.map (Value.int .u8)).length := by rw [List.length_map, hll]; exact info90
  go_wp2_with (first
    | (refine wpList_load_mid rfl 76 _ rfl g 0 rfl _ _ hr6 Try.underlying76 rfl hi36 ?_)
    | (refine wpList_store_row rfl 76 _ _ rfl (w.heap.size + 1) _ rfl rfl 76 _ hz6 (by rw [hi36]; simp) (by simp [zers_len, hll]) (raw_one L) ?_))
  refine bodyPost_ret (v := .agg (rawA L)) (results_cell_row (p := 2) (ty := 76) Try.results55 _ _ (w.heap.size + 1) 76 _ (0, 0) _ rfl (setRow_heap _ _ _ _ _ _ hz6) Try.underlying76 rfl (by rw [hi36]; simp)) rfl ?_
  exact ⟨by rw [HL.out], below_setRow hB6 (by omega) _⟩

set_option maxHeartbeats 400000 in
theorem encodeEntry_no (N : Int) (s : ByteArray) (hs : s.size ≤ 140737488355328) (h : ¬ EMay N s) (w : World) : Calls Try.prog 45 #[entV N s] w fun e w' => e = .returned (.tuple #[.slice none 0 0, .int .i64 1]) ∧ Below w.heap.size w w' := by
  have HB := grew_alloc w (entO N s)
  have hm := entryMay_ok N s (w.alloc (entO N s)) hs
  rw [decide_eq_false h] at hm
  go_enter Try.func45, Try.ntmps45
  go_wp2_with (first | (go_at_call 54; refine grew_at hm ?_; intro wn hbn; have HB := grew_trans HB hbn))
  go_ret2
  exact ⟨rfl, HB⟩
set_option maxRecDepth 10000 in
set_option maxHeartbeats 1000000 in
theorem encodeEntry_yes (N : Int) (s : ByteArray) (h : EMay N s) (w : World) : Calls Try.prog 45 #[entV N s] w fun e w' => ∃ p c, e = .returned (.tuple #[.slice p 16 c, .int .i64 0]) ∧ BI w' p 16 (entL N s) ∧ Below w.heap.size w w' := by
  have HB := grew_alloc w (entO N s)
  have hsz := emay_size h
  have hm := entryMay_ok N s (w.alloc (entO N s)) (by omega)
  have hx := heap_new w (entO N s)
  rw [decide_eq_true h] at hm
  have hw := writeEntry_ok N s h
  have hll := entL_len N s hsz
  have hby := entL_byt N s
  generalize hL : entL N s = L at *
  have HL := (show Hid _ from hL)
  clear hL h
  have hi36 : (Try.prog.info? 76).map (·.size) = some (rawA L).size := by rw [show (rawA L).size = 16 by simp [hll]]; exact info90
  have hs16 : (rawA (zers 16)).size = (rawA L).size := by simp [zers_len, hll]
  rw [zero90] at hs16
  have hone := raw_one L
  go_enter Try.func45, Try.ntmps45
  go_wp2_with (first
    | (go_at_call 54; refine grew_at hm ?_; intro wn hbn; have HB := grew_trans HB hbn; have hx : wn.heap[w.heap.size]? = some (entO N s) := (hbn.block _ (Array.getElem?_eq_some_iff.1 hx).1).trans hx)
    | (refine wpList_load_row rfl 32 (.tmp 1) rfl w.heap.size rfl 32 _ (0, 0) _ hx Try.underlying32 rfl (by kernel_rfl) ?_)
    | (go_at_call 55; refine grew_at (hw _) ?_; intro wm hbm; have HB := grew_trans HB hbm)
    | (refine wpList_store_row rfl 76 (.tmp 4) (.tmp 9) rfl wm.heap.size _ rfl rfl 76 _ (heap_new wm _) hi36 hs16 hone ?_))
  go_ret2
  rw [← zero90]
  refine ⟨_, _, rfl, raw_bi (setRow_heap _ _ _ _ _ _ (heap_new wm _)) hll (by omega) hby, below_setRow (grew_trans HB (grew_alloc wm _)) HB.size _⟩
end Go.Proofs.Ythfnldclpommlab
