/- KEDin KRDinM KRDin KTake -/
import Derived.Test.YthdlpeejmmobmaaGreatYG21

namespace Go.Proofs.YthdlpeejmmobmaaGreat.Mk
open Go.RowKit
set_option maxRecDepth 100000
set_option linter.unusedVariables false
def dinL (m l s a b c d i j : Int) : List Int := Num.putTo (Num.putTo (putsTo (Num.putTo (Num.putTo (Num.putTo (zers 32) 0 m 1) 2 l 2) 4 s 4) 8 2 [a, b, c, d] 4) 16 i 2) 18 j 2
def dinS (m l s a b c d i j : Int) : List Int := sealL (dinL m l s a b c d i j)
def dinB (m l s a b c d i j : Int) : List Int := if m = 0 then zers 32 else dinS m l s a b c d i j
theorem dinL_len (m l s a b c d i j : Int) : (dinL m l s a b c d i j).length = 32 := by
 unfold dinL
 simp only [Num.putTo_length, putsTo_len, zers_len]
theorem dinL_byt (m l s a b c d i j : Int) : Num.Byt (dinL m l s a b c d i j) :=
 Num.putTo_byt (Num.putTo_byt (putsTo_byt (Num.putTo_byt (Num.putTo_byt (Num.putTo_byt (zers_byt _) _ _ _) _ _ _) _ _ _) _ _ _ _) _ _ _) _ _ _
theorem dinB_len (m l s a b c d i j : Int) : (dinB m l s a b c d i j).length = 32 := by
 unfold dinB
 split
 ·exact zers_len 32
 ·unfold dinS sealL
  rw [Num.putTo_length, dinL_len]
theorem dinB_byt (m l s a b c d i j : Int) : Num.Byt (dinB m l s a b c d i j) := by
 unfold dinB
 split
 ·exact zers_byt 32
 ·exact Num.putTo_byt (dinL_byt m l s a b c d i j) _ _ _
set_option maxHeartbeats 400000 in
theorem encodeDinode_no (m l s a b c d i j : Int) (h : ¬ DMay m l s a b c d i j) (w : World) : Calls Tryz.prog 87 #[dinV m l s a b c d i j] w fun e w' => e = .returned (.tuple #[.slice none 0 0, .int .i64 1]) ∧ Below w.heap.size w w' := by
 have HB := grew_alloc w (dinO m l s a b c d i j)
 have hm := dinodeMay_ok m l s a b c d i j
 rw [decide_eq_false h] at hm
 go_enter Tryz.func87, Tryz.ntmps87
 go_wp2_with (first | (go_at_call 155; refine grew_at (hm _) ?_; intro wn hbn; have HB := grew_trans HB hbn))
 go_ret2
 exact ⟨rfl, HB⟩
theorem din_all (w : World) (m l s a b c d i j : Int) : (w.alloc (dinO m l s a b c d i j)).cell? ⟨w.heap.size, 0, none⟩ = some (.int .i64 m) ∧ (w.alloc (dinO m l s a b c d i j)).cell? ⟨w.heap.size, 1, none⟩ = some (.int .i64 l) ∧ (w.alloc (dinO m l s a b c d i j)).cell? ⟨w.heap.size, 2, none⟩ = some (.int .i64 s) ∧ (w.alloc (dinO m l s a b c d i j)).cell? ⟨w.heap.size, 7, none⟩ = some (.int .i64 i) ∧ (w.alloc (dinO m l s a b c d i j)).cell? ⟨w.heap.size, 8, none⟩ = some (.int .i64 j) :=
 ⟨cell_row (heap_new w _) 0 _ rfl, cell_row (heap_new w _) 1 _ rfl, cell_row (heap_new w _) 2 _ rfl, cell_row (heap_new w _) 7 _ rfl, cell_row (heap_new w _) 8 _ rfl⟩
theorem info45 : (Tryz.prog.info? 75).map (·.size) = some 9 := by kernel_rfl
set_option maxRecDepth 10000 in
set_option maxHeartbeats 1000000 in
theorem encodeDinode_free (w : World) : Calls Tryz.prog 87 #[dinV 0 0 0 0 0 0 0 0 0] w fun e w' => ∃ g cap, e = .returned (.tuple #[.slice (some ⟨g, 0, none⟩) 32 cap, .int .i64 0]) ∧ Own w.heap.size w' g 32 cap (zers 32) ∧ Below w.heap.size w w' := by
 obtain ⟨i0, hi, hz0, hz1, hz2⟩ := info_parts info5
 have HB := grew_alloc w (dinO 0 0 0 0 0 0 0 0 0)
 have hx := heap_new w (dinO 0 0 0 0 0 0 0 0 0)
 have hm := dinodeMay_ok 0 0 0 0 0 0 0 0 0
 rw [decide_eq_true (by unfold DMay; omega)] at hm
 have hq := fun w => eq45 0 0 0 0 0 0 0 0 0 0 0 0 0 0 0 0 0 0 w
 simp only [and_self, decide_true] at hq
 go_enter Tryz.func87, Tryz.ntmps87
 go_wp2_with (first
  | (go_at_call 155; refine grew_at (hm _) ?_; intro wn hbn; have HB := grew_trans HB hbn; have hx : wn.heap[w.heap.size]? = some (dinO 0 0 0 0 0 0 0 0 0) := (hbn.block _ (by rw [size_alloc]; omega)).trans hx)
  | (refine wpList_load_row rfl 75 (.tmp 1) rfl w.heap.size rfl 75 _ (0, 0) _ hx Tryz.underlying75 rfl info45 ?_)
  | (refine wpList_eql_wanted (by rfl) 75 (.tmp 10) (.tmp 11) rfl _ _ rfl rfl guard45 _ (hq _) ?_)
  | (at_make; refine wpList_make_full _ rfl _ _ 42 rfl wn.heap.size 5 i0 (.int .u8 0) 1 Tryz.underlying42 hi hz0 hz1 .i64 .i64 _ _ 32 rfl rfl rfl rfl (by rw [hz2]; omega) (by unfold maxLen; omega) (Nat.le_refl _) ?_; intro w1 hown1 hgrow1; have hb1 := (Below.refl wn.heap.size wn).grown hgrow1 (Nat.le_refl _) (by intro k hk; cases hk)))
 go_ret2
 have hrow := own_row hown1
 rw [made_zers 32] at hrow
 exact ⟨_, _, rfl, own_of_row HB.size (by decide) (zers_len 32) hrow, grew_trans HB hb1⟩
set_option maxRecDepth 10000 in
set_option maxHeartbeats 2000000 in
theorem encodeDinode_used (m l s a b c d i j : Int) (h : DMay m l s a b c d i j) (h0 : ¬ m = 0) (w : World) : Calls Tryz.prog 87 #[dinV m l s a b c d i j] w fun e w' => ∃ g cap, e = .returned (.tuple #[.slice (some ⟨g, 0, none⟩) 32 cap, .int .i64 0]) ∧ Own w.heap.size w' g 32 cap (dinS m l s a b c d i j) ∧ Below w.heap.size w w' := by
 have HB := grew_alloc w (dinO m l s a b c d i j)
 have hx := heap_new w (dinO m l s a b c d i j)
 have hm := dinodeMay_ok m l s a b c d i j
 rw [decide_eq_true h] at hm
 obtain ⟨c0, c1, c2, c7, c8⟩ := din_all w m l s a b c d i j
 have hq := fun w => eq45 m l s a b c d i j 0 0 0 0 0 0 0 0 0 w
 rw [decide_eq_false (fun k => h0 k.1)] at hq
 have hmm : m = 1 ∨ m = 2 := by unfold DMay at h; omega
 have hU : UMay l s a b c d i j := by
  unfold DMay at h
  rcases h with h | h | h
  ·exact absurd h.1 h0
  ·exact h.2
  ·exact h.2.1
 have hl := hU.1
 have hs := hU.2.1
 have hA : ∀ k, k < 4 → 0 ≤ [a, b, c, d].getD k 0 ∧ [a, b, c, d].getD k 0 < 256 ^ 2 := by
  intro k hk
  have := hU.2.2.1 ([a, b, c, d].getD k 0) (by rcases (by omega : k = 0 ∨ k = 1 ∨ k = 2 ∨ k = 3) with rfl | rfl | rfl | rfl <;> simp)
  omega
 have hi := hU.2.2.2 i (by simp)
 have hj := hU.2.2.2 j (by simp)
 clear hU h
 go_enter Tryz.func87, Tryz.ntmps87
 go_wp2_with (first
  | (go_at_call 155; refine grew_at (hm _) ?_; intro wn hbn; have HB := grew_trans HB hbn; have c0 := cell_kept c0 hbn; have c1 := cell_kept c1 hbn; have c2 := cell_kept c2 hbn; have c7 := cell_kept c7 hbn; have c8 := cell_kept c8 hbn; have hx : wn.heap[w.heap.size]? = some (dinO m l s a b c d i j) := (hbn.block _ (by rw [size_alloc]; omega)).trans hx)
  | (refine wpList_load_row rfl 75 (.tmp 1) rfl w.heap.size rfl 75 _ (0, 0) _ hx Tryz.underlying75 rfl info45 ?_)
  | (refine wpList_eql_wanted (by rfl) 75 (.tmp 10) (.tmp 11) rfl _ _ rfl rfl guard45 _ (hq _) ?_))
 have hsz : w.heap.size + 1 ≤ wn.heap.size := (Array.getElem?_eq_some_iff.1 hx).1
 refine Calls.mono (newPage_ok 32 (by omega) (w.heap.size + 1) _ hsz) ?_
 rintro e wm ⟨pb, g, rfl, pg, bn⟩
 have c0 := cell_under c0 bn (by omega); have c1 := cell_under c1 bn (by omega); have c2 := cell_under c2 bn (by omega); have c7 := cell_under c7 bn (by omega); have c8 := cell_under c8 bn (by omega); have hx : wm.heap[w.heap.size]? = some (dinO m l s a b c d i j) := (bn.block _ (by omega)).trans hx; have HB := HB.trans (bn.mono (by omega)); clear bn
 go_wp2_with (first
  | (go_at_call 158; refine Calls.mono (pskip_ok pg 1 (by omega) (by decide)) ?_; rintro e wm ⟨rfl, pg, bn⟩; have c0 := cell_under c0 bn (by omega); have c1 := cell_under c1 bn (by omega); have c2 := cell_under c2 bn (by omega); have c7 := cell_under c7 bn (by omega); have c8 := cell_under c8 bn (by omega); have hx : wm.heap[w.heap.size]? = some (dinO m l s a b c d i j) := (bn.block _ (by omega)).trans hx; have HB := HB.trans (bn.mono (by omega)); clear bn)
  | (go_at_call_of 157 m; refine Calls.mono (pnum_ok pg 1 m (by omega) (by omega) (by decide) (by omega) (by omega)) ?_; rintro e wm ⟨rfl, pg, bn⟩; have c0 := cell_under c0 bn (by omega); have c1 := cell_under c1 bn (by omega); have c2 := cell_under c2 bn (by omega); have c7 := cell_under c7 bn (by omega); have c8 := cell_under c8 bn (by omega); have hx : wm.heap[w.heap.size]? = some (dinO m l s a b c d i j) := (bn.block _ (by omega)).trans hx; have HB := HB.trans (bn.mono (by omega)); clear bn; have d0 := pg.c0)
  | (go_at_call_of 157 l; refine Calls.mono (pnum_ok pg 2 l (by omega) (by omega) (by decide) (by omega) (by omega)) ?_; rintro e wm ⟨rfl, pg, bn⟩; have c0 := cell_under c0 bn (by omega); have c1 := cell_under c1 bn (by omega); have c2 := cell_under c2 bn (by omega); have c7 := cell_under c7 bn (by omega); have c8 := cell_under c8 bn (by omega); have hx : wm.heap[w.heap.size]? = some (dinO m l s a b c d i j) := (bn.block _ (by omega)).trans hx; have HB := HB.trans (bn.mono (by omega)); clear bn; have d0 := pg.c0)
  | (go_at_call_of 157 s; refine Calls.mono (pnum_ok pg 4 s (by omega) (by omega) (by decide) (by omega) (by omega)) ?_; rintro e wm ⟨rfl, pg, bn⟩; have c0 := cell_under c0 bn (by omega); have c1 := cell_under c1 bn (by omega); have c2 := cell_under c2 bn (by omega); have c7 := cell_under c7 bn (by omega); have c8 := cell_under c8 bn (by omega); have hx : wm.heap[w.heap.size]? = some (dinO m l s a b c d i j) := (bn.block _ (by omega)).trans hx; have HB := HB.trans (bn.mono (by omega)); clear bn; have d0 := pg.c0)
  | (go_at_call 159; refine Calls.mono (pnums_ok pg 2 (by omega) (by omega) _ 4 4 _ (din_ii hx) (by intro b o e; cases e; omega) (by decide) hA) ?_; rintro e wm ⟨rfl, pg, bn⟩; have c0 := cell_under c0 bn (by omega); have c1 := cell_under c1 bn (by omega); have c2 := cell_under c2 bn (by omega); have c7 := cell_under c7 bn (by omega); have c8 := cell_under c8 bn (by omega); have hx : wm.heap[w.heap.size]? = some (dinO m l s a b c d i j) := (bn.block _ (by omega)).trans hx; have HB := HB.trans (bn.mono (by omega)); clear bn; have d0 := pg.c0)
  | (go_at_call_of 157 i; refine Calls.mono (pnum_ok pg 2 i (by omega) (by omega) (by decide) (by omega) (by omega)) ?_; rintro e wm ⟨rfl, pg, bn⟩; have c0 := cell_under c0 bn (by omega); have c1 := cell_under c1 bn (by omega); have c2 := cell_under c2 bn (by omega); have c7 := cell_under c7 bn (by omega); have c8 := cell_under c8 bn (by omega); have hx : wm.heap[w.heap.size]? = some (dinO m l s a b c d i j) := (bn.block _ (by omega)).trans hx; have HB := HB.trans (bn.mono (by omega)); clear bn; have d0 := pg.c0)
  | (go_at_call_of 157 j; refine Calls.mono (pnum_ok pg 2 j (by omega) (by omega) (by decide) (by omega) (by omega)) ?_; rintro e wm ⟨rfl, pg, bn⟩; have c0 := cell_under c0 bn (by omega); have c1 := cell_under c1 bn (by omega); have c2 := cell_under c2 bn (by omega); have c7 := cell_under c7 bn (by omega); have c8 := cell_under c8 bn (by omega); have hx : wm.heap[w.heap.size]? = some (dinO m l s a b c d i j) := (bn.block _ (by omega)).trans hx; have HB := HB.trans (bn.mono (by omega)); clear bn; have d0 := pg.c0)
  | (go_at_call 160; refine Calls.mono (seal_ok _ 32 32 _ _ pg.bi (Nat.le_refl _) (by omega)) ?_; rintro e wz ⟨g2, cap, rfl, ho, hb⟩))
 go_ret2
 refine ⟨g2, cap, rfl, ?_, HB.trans (hb.mono HB.size)⟩
 have ho := ho.base HB.size
 unfold dinS sealL
 rw [dinL_len]
 exact ho
end Go.Proofs.YthdlpeejmmobmaaGreat.Mk

namespace Go.Proofs.YthdlpeejmmobmaaGreat.Mk
open Go.RowKit
set_option maxRecDepth 100000
set_option linter.unusedVariables false
theorem address_ok (n : Int) (w : World) : Calls Tryz.prog 256 #[.int .i64 n] w fun e w' => e = .returned (.bool (decide (0 ≤ n ∧ n ≤ 2047))) ∧ w' = w := by
 go_enter Tryz.func256, Tryz.ntmps256
 go_wp2
 all_goals
  go_ret
  refine ⟨ret_bool ?_, rfl⟩
  rw [Bool.eq_iff_iff]
  simp
  omega
theorem din_five (w : World) (m l s a b c d i j : Int) : (w.alloc (dinO m l s a b c d i j)).cell? ⟨w.heap.size, 3, none⟩ = some (.int .i64 a) ∧ (w.alloc (dinO m l s a b c d i j)).cell? ⟨w.heap.size, 4, none⟩ = some (.int .i64 b) ∧ (w.alloc (dinO m l s a b c d i j)).cell? ⟨w.heap.size, 5, none⟩ = some (.int .i64 c) ∧ (w.alloc (dinO m l s a b c d i j)).cell? ⟨w.heap.size, 6, none⟩ = some (.int .i64 d) :=
 ⟨cell_row (heap_new w _) 3 _ rfl, cell_row (heap_new w _) 4 _ rfl, cell_row (heap_new w _) 5 _ rfl, cell_row (heap_new w _) 6 _ rfl⟩
theorem idx43 (a b c d : Int) (k : Nat) (hk : k < 4) (w : World) : (Instr.index 73 (.agg #[.int .i64 a, .int .i64 b, .int .i64 c, .int .i64 d]) (.int .i64 (k : Int))).run Tryz.prog w = .ok (.int .i64 ([a, b, c, d].getD k 0)) w := by
 rcases (by omega : k = 0 ∨ k = 1 ∨ k = 2 ∨ k = 3) with rfl | rfl | rfl | rfl <;> kernel_rfl
theorem ads_step {zs : List Int} {k : Nat} (hk : k < zs.length) (h : Ads (zs.take k)) (h1 : 0 ≤ zs.getD k 0 ∧ zs.getD k 0 ≤ 2047) : Ads (zs.take (k + 1)) := by
 intro y hy
 rw [List.take_add_one, List.getElem?_eq_getElem hk] at hy
 rcases List.mem_append.1 hy with h' | h'
 ·exact h y h'
 ·simp at h'
  subst h'
  simpa [List.getD_eq_getElem?_getD, List.getElem?_eq_getElem hk] using h1
theorem ads_two (i j : Int) : Ads [i, j] ↔ (0 ≤ i ∧ i ≤ 2047) ∧ (0 ≤ j ∧ j ≤ 2047) := by
 simp [Ads]
set_option maxRecDepth 10000 in
set_option maxHeartbeats 2000000 in
theorem rmay_used (m l s a b c d i j : Int) (hm : m = 1 ∨ m = 2) (hl : 0 ≤ l ∧ l ≤ 1000) (hs : 0 ≤ s ∧ s ≤ 532992) (w : World) : Calls Tryz.prog 183 #[dinV m l s a b c d i j] w fun e w' => e = .returned (.bool (decide (DMay m l s a b c d i j))) ∧ Below w.heap.size w w' := by
 have HB := grew_alloc w (dinO m l s a b c d i j)
 obtain ⟨c0, c1, c2, c7, c8⟩ := din_all w m l s a b c d i j
 have hm0 : ¬ m = 0 := by omega
 have hX : decide (DMay m l s a b c d i j) = decide (Ads [a, b, c, d] ∧ Ads [i, j] ∧ (m = 2 → s % 128 = 0)) := by
  apply decide_eq_decide.2
  unfold DMay UMay
  constructor
  ·rintro (h | h | h)
   ·omega
   ·exact ⟨h.2.2.2.1, h.2.2.2.2, by omega⟩
   ·exact ⟨h.2.1.2.2.1, h.2.1.2.2.2, fun _ => h.2.2⟩
  ·rintro ⟨h1, h2, h3⟩
   rcases hm with rfl | rfl
   ·exact .inr (.inl ⟨rfl, hl, hs, h1, h2⟩)
   ·exact .inr (.inr ⟨rfl, ⟨hl, hs, h1, h2⟩, h3 rfl⟩)
 rw [hX]
 clear hX
 rcases hm with rfl | rfl
 ·rw [show decide (Ads [a, b, c, d] ∧ Ads [i, j] ∧ ((1 : Int) = 2 → s % 128 = 0)) = decide (Ads [a, b, c, d] ∧ Ads [i, j]) from decide_eq_decide.2 (by simp)]
  go_enter Tryz.func183, Tryz.ntmps183
  go_wp2_with fail
  generalize w.alloc (dinO 1 l s a b c d i j) = w0 at *
  go_loopw [41] (fun x wr => ∃ k : Nat, k ≤ 4 ∧ x = .int .i64 (k : Int) ∧ Ads ([a, b, c, d].take k) ∧ wr = w0) (fun x _ => 4 - (intOf x).toNat)
  case atStart => exact ⟨0, by omega, rfl, by simp [Ads], rfl⟩
  case round =>
   obtain ⟨k, hk, rfl, hA, rfl⟩ := hrel
   by_cases hlt : k < 4
   ·have hd := idx43 a b c d k hlt wr
    have hst := fun h1 => ads_step (zs := [a, b, c, d]) hlt hA h1
    have hno : ¬ (0 ≤ [a, b, c, d].getD k 0 ∧ [a, b, c, d].getD k 0 ≤ 2047) → ¬ Ads [a, b, c, d] := fun hh hh2 => hh (hh2 _ (by
     rcases (by omega : k = 0 ∨ k = 1 ∨ k = 2 ∨ k = 3) with rfl | rfl | rfl | rfl <;> simp))
    have HS := (show Hid _ from hst)
    have HN := (show Hid _ from hno)
    clear hst hno
    generalize [a, b, c, d].getD k 0 = z at *
    have hq := address_ok z wr
    have hkI : (k : Int) < 4 := by omega
    by_cases hz : 0 ≤ z ∧ z ≤ 2047
    ·rw [decide_eq_true hz] at hq
     have hA2 := HS.out hz
     clear hz HS HN
     go_wp2_with (first | (go_at_call 256; refine same_at hq ?_))
     go_roundw
     case rel => exact ⟨k + 1, by omega, by go_num, hA2, by first | rfl | trivial⟩
     case measure => simp [intOf]; omega
    ·rw [decide_eq_false hz] at hq
     have hno := HN.out hz
     clear hz HS HN
     go_wp2_with (first | (go_at_call 256; refine same_at hq ?_))
     go_ret
     rw [show decide (Ads [a, b, c, d] ∧ Ads [i, j]) = false from decide_eq_false (fun h => hno h.1)]
     exact ⟨rfl, HB⟩
   ·have e : k = 4 := by omega
    subst e
    have hA4 : Ads [a, b, c, d] := hA
    have hpost : decide (Ads [a, b, c, d] ∧ Ads [i, j]) = decide (Ads [i, j]) := decide_eq_decide.2 ⟨fun h => h.2, fun h => ⟨hA4, h⟩⟩
    have HP := (show Hid _ from hpost)
    clear hpost hA
    go_wp2_with (first | (go_at_call 256; refine same_at (address_ok _ _) ?_))
    all_goals go_ret
    all_goals
     refine ⟨?_, HB⟩
     rw [HP.out]
     refine ret_bool ?_
     rw [Bool.eq_iff_iff]
     simp only [ads_two]
     simp [*]
     done
 ·rw [show decide (Ads [a, b, c, d] ∧ Ads [i, j] ∧ ((2 : Int) = 2 → s % 128 = 0)) = decide (Ads [a, b, c, d] ∧ Ads [i, j] ∧ s % 128 = 0) from decide_eq_decide.2 (by simp)]
  go_enter Tryz.func183, Tryz.ntmps183
  go_wp2_with fail
  generalize w.alloc (dinO 2 l s a b c d i j) = w0 at *
  go_loopw [41] (fun x wr => ∃ k : Nat, k ≤ 4 ∧ x = .int .i64 (k : Int) ∧ Ads ([a, b, c, d].take k) ∧ wr = w0) (fun x _ => 4 - (intOf x).toNat)
  case atStart => exact ⟨0, by omega, rfl, by simp [Ads], rfl⟩
  case round =>
   obtain ⟨k, hk, rfl, hA, rfl⟩ := hrel
   by_cases hlt : k < 4
   ·have hd := idx43 a b c d k hlt wr
    have hst := fun h1 => ads_step (zs := [a, b, c, d]) hlt hA h1
    have hno : ¬ (0 ≤ [a, b, c, d].getD k 0 ∧ [a, b, c, d].getD k 0 ≤ 2047) → ¬ Ads [a, b, c, d] := fun hh hh2 => hh (hh2 _ (by
     rcases (by omega : k = 0 ∨ k = 1 ∨ k = 2 ∨ k = 3) with rfl | rfl | rfl | rfl <;> simp))
    have HS := (show Hid _ from hst)
    have HN := (show Hid _ from hno)
    clear hst hno
    generalize [a, b, c, d].getD k 0 = z at *
    have hq := address_ok z wr
    have hkI : (k : Int) < 4 := by omega
    by_cases hz : 0 ≤ z ∧ z ≤ 2047
    ·rw [decide_eq_true hz] at hq
     have hA2 := HS.out hz
     clear hz HS HN
     go_wp2_with (first | (go_at_call 256; refine same_at hq ?_))
     go_roundw
     case rel => exact ⟨k + 1, by omega, by go_num, hA2, by first | rfl | trivial⟩
     case measure => simp [intOf]; omega
    ·rw [decide_eq_false hz] at hq
     have hno := HN.out hz
     clear hz HS HN
     go_wp2_with (first | (go_at_call 256; refine same_at hq ?_))
     go_ret
     rw [show decide (Ads [a, b, c, d] ∧ Ads [i, j] ∧ s % 128 = 0) = false from decide_eq_false (fun h => hno h.1)]
     exact ⟨rfl, HB⟩
   ·have e : k = 4 := by omega
    subst e
    have hA4 : Ads [a, b, c, d] := hA
    have hpost : decide (Ads [a, b, c, d] ∧ Ads [i, j] ∧ s % 128 = 0) = decide (Ads [i, j] ∧ s % 128 = 0) := decide_eq_decide.2 ⟨fun h => h.2, fun h => ⟨hA4, h⟩⟩
    have HP := (show Hid _ from hpost)
    clear hpost hA
    go_wp2_with (first | (go_at_call 256; refine same_at (address_ok _ _) ?_))
    all_goals go_ret
    all_goals
     refine ⟨?_, HB⟩
     rw [HP.out]
     refine ret_bool ?_
     rw [Bool.eq_iff_iff]
     simp only [ads_two]
     simp [*]
     done
set_option maxRecDepth 10000 in
set_option maxHeartbeats 2000000 in
theorem rmayD_ok (m l s a b c d i j : Int) (w : World) : Calls Tryz.prog 183 #[dinV m l s a b c d i j] w fun e w' => e = .returned (.bool (decide (DMay m l s a b c d i j))) ∧ Below w.heap.size w w' := by
 by_cases hm : m = 1 ∨ m = 2
 ·by_cases hl : 0 ≤ l ∧ l ≤ 1000
  ·by_cases hs : 0 ≤ s ∧ s ≤ 532992
   ·exact rmay_used m l s a b c d i j hm hl hs w
   ·have HB := grew_alloc w (dinO m l s a b c d i j)
    obtain ⟨c0, c1, c2, c7, c8⟩ := din_all w m l s a b c d i j
    rw [decide_eq_false (by unfold DMay UMay; omega)]
    go_enter Tryz.func183, Tryz.ntmps183
    rcases hm with rfl | rfl
    all_goals
     go_wp2_with fail
    all_goals
     go_ret
     exact ⟨rfl, HB⟩
  ·have HB := grew_alloc w (dinO m l s a b c d i j)
   obtain ⟨c0, c1, c2, c7, c8⟩ := din_all w m l s a b c d i j
   rw [decide_eq_false (by unfold DMay UMay; omega)]
   go_enter Tryz.func183, Tryz.ntmps183
   rcases hm with rfl | rfl
   all_goals
    go_wp2_with fail
   all_goals
    go_ret
    exact ⟨rfl, HB⟩
 ·have HB := grew_alloc w (dinO m l s a b c d i j)
  obtain ⟨c0, c1, c2, c7, c8⟩ := din_all w m l s a b c d i j
  by_cases h0 : m = 0
  ·subst h0
   rw [show decide (DMay 0 l s a b c d i j) = decide ((0 : Int) = 0 ∧ l = 0 ∧ s = 0 ∧ (a = 0 ∧ b = 0 ∧ c = 0 ∧ d = 0) ∧ i = 0 ∧ j = 0) from decide_eq_decide.2 (by unfold DMay; omega)]
   have hq := eq45 0 l s a b c d i j 0 0 0 0 0 0 0 0 0 (w.alloc (dinO 0 l s a b c d i j))
   go_enter Tryz.func183, Tryz.ntmps183
   go_wp2_with (first
    | (refine wpList_eql_wanted (by rfl) 75 (.tmp 8) (.tmp 9) rfl _ _ rfl rfl guard45 _ hq ?_))

   go_ret
   exact ⟨rfl, HB⟩
  ·rw [decide_eq_false (by unfold DMay; omega)]
   have h1 : ¬ m = 1 := by omega
   have h2 : ¬ m = 2 := by omega
   go_enter Tryz.func183, Tryz.ntmps183
   go_wp2_with fail
   all_goals
    go_ret
    exact ⟨rfl, HB⟩
end Go.Proofs.YthdlpeejmmobmaaGreat.Mk

namespace Go.Proofs.YthdlpeejmmobmaaGreat.Mk
open Go.RowKit
set_option maxRecDepth 100000
set_option linter.unusedVariables false
set_option maxRecDepth 10000 in
set_option maxHeartbeats 2000000 in
theorem rencodeDinode_used (m l s a b c d i j : Int) (h : DMay m l s a b c d i j) (h0 : ¬ m = 0) (w : World) : Calls Tryz.prog 105 #[dinV m l s a b c d i j] w fun e w' => ∃ g cap, e = .returned (.tuple #[.slice (some ⟨g, 0, none⟩) 32 cap, .int .i64 0]) ∧ Own w.heap.size w' g 32 cap (dinS m l s a b c d i j) ∧ Below w.heap.size w w' := by
 obtain ⟨i0, hi0, hz0, hz1, hz2⟩ := info_parts info5
 have HB := grew_alloc w (dinO m l s a b c d i j)
 have hx := heap_new w (dinO m l s a b c d i j)
 have hm := rmayD_ok m l s a b c d i j
 rw [decide_eq_true h] at hm
 obtain ⟨c0, c1, c2, c7, c8⟩ := din_all w m l s a b c d i j
 obtain ⟨c3, c4, c5, c6⟩ := din_five w m l s a b c d i j
 have hmm : m = 1 ∨ m = 2 := by unfold DMay at h; omega
 have hU : UMay l s a b c d i j := by
  unfold DMay at h
  rcases h with h | h | h
  ·exact absurd h.1 h0
  ·exact h.2
  ·exact h.2.1
 have hl := hU.1
 have hs := hU.2.1
 have hA : ∀ k, k < 4 → 0 ≤ [a, b, c, d].getD k 0 ∧ [a, b, c, d].getD k 0 < 256 ^ 2 := by
  intro k hk
  have := hU.2.2.1 ([a, b, c, d].getD k 0) (by rcases (by omega : k = 0 ∨ k = 1 ∨ k = 2 ∨ k = 3) with rfl | rfl | rfl | rfl <;> simp)
  omega
 have hi := hU.2.2.2 i (by simp)
 have hj := hU.2.2.2 j (by simp)
 clear hU h
 have HA := (show Hid _ from hA)
 clear hA
 go_enter Tryz.func105, Tryz.ntmps105
 go_wp2_with (first
  | (go_at_call 183; refine grew_at (hm _) ?_; intro wn hbn; have HB := grew_trans HB hbn; have c0 := cell_kept c0 hbn; have c1 := cell_kept c1 hbn; have c2 := cell_kept c2 hbn; have c7 := cell_kept c7 hbn; have c3 := cell_kept c3 hbn; have c4 := cell_kept c4 hbn; have c5 := cell_kept c5 hbn; have c6 := cell_kept c6 hbn; have c8 := cell_kept c8 hbn; have hx : wn.heap[w.heap.size]? = some (dinO m l s a b c d i j) := (hbn.block _ (by rw [size_alloc]; omega)).trans hx)
  | (at_make; refine wpList_make_full _ rfl _ _ 42 rfl wn.heap.size 5 i0 (.int .u8 0) 1 Tryz.underlying42 hi0 hz0 hz1 .i64 .i64 _ _ 32 rfl rfl rfl rfl (by rw [hz2]; omega) (by unfold maxLen; omega) (Nat.le_refl _) ?_; intro w1 hown1 hgrow1; have hbn := (Below.refl wn.heap.size wn).grown hgrow1 (Nat.le_refl _) (by intro k hk; cases hk); have hrow := own_row hown1; rw [made_zers 32] at hrow; have ho := own_of_row HB.size (by decide) (zers_len 32) hrow; have HB := grew_trans HB hbn; have c0 := cell_kept c0 hbn; have c1 := cell_kept c1 hbn; have c2 := cell_kept c2 hbn; have c7 := cell_kept c7 hbn; have c3 := cell_kept c3 hbn; have c4 := cell_kept c4 hbn; have c5 := cell_kept c5 hbn; have c6 := cell_kept c6 hbn; have c8 := cell_kept c8 hbn; have hx : w1.heap[w.heap.size]? = some (dinO m l s a b c d i j) := (hbn.block _ (Array.getElem?_eq_some_iff.1 hx).1).trans hx; have hy := zers_byt 32; clear hown1 hgrow1 hrow)
  | (go_at_call_of 184 m; refine Calls.mono (rnumber_ok _ 32 _ _ 0 1 m _ (ho.bi (by omega) hy) (by omega) (by omega) (by omega) (by omega) (by omega)) ?_; rintro e wm ⟨g, cap, rfl, ho, hbn⟩; have hy := Num.putTo_byt hy 0 m 1; have ho := ho.base HB.size; have HB := grew_trans HB hbn; have c0 := cell_kept c0 hbn; have c1 := cell_kept c1 hbn; have c2 := cell_kept c2 hbn; have c7 := cell_kept c7 hbn; have c3 := cell_kept c3 hbn; have c4 := cell_kept c4 hbn; have c5 := cell_kept c5 hbn; have c6 := cell_kept c6 hbn; have c8 := cell_kept c8 hbn; have hx : wm.heap[w.heap.size]? = some (dinO m l s a b c d i j) := (hbn.block _ (Array.getElem?_eq_some_iff.1 hx).1).trans hx; clear hbn)
  | (go_at_call_of 184 l; refine Calls.mono (rnumber_ok _ 32 _ _ 2 2 l _ (ho.bi (by omega) hy) (by omega) (by omega) (by omega) (by omega) (by omega)) ?_; rintro e wm ⟨g, cap, rfl, ho, hbn⟩; have hy := Num.putTo_byt hy 2 l 2; have ho := ho.base HB.size; have HB := grew_trans HB hbn; have c0 := cell_kept c0 hbn; have c1 := cell_kept c1 hbn; have c2 := cell_kept c2 hbn; have c7 := cell_kept c7 hbn; have c3 := cell_kept c3 hbn; have c4 := cell_kept c4 hbn; have c5 := cell_kept c5 hbn; have c6 := cell_kept c6 hbn; have c8 := cell_kept c8 hbn; have hx : wm.heap[w.heap.size]? = some (dinO m l s a b c d i j) := (hbn.block _ (Array.getElem?_eq_some_iff.1 hx).1).trans hx; clear hbn)
  | (go_at_call_of 184 s; refine Calls.mono (rnumber_ok _ 32 _ _ 4 4 s _ (ho.bi (by omega) hy) (by omega) (by omega) (by omega) (by omega) (by omega)) ?_; rintro e wm ⟨g, cap, rfl, ho, hbn⟩; have hy := Num.putTo_byt hy 4 s 4; have ho := ho.base HB.size; have HB := grew_trans HB hbn; have c0 := cell_kept c0 hbn; have c1 := cell_kept c1 hbn; have c2 := cell_kept c2 hbn; have c7 := cell_kept c7 hbn; have c3 := cell_kept c3 hbn; have c4 := cell_kept c4 hbn; have c5 := cell_kept c5 hbn; have c6 := cell_kept c6 hbn; have c8 := cell_kept c8 hbn; have hx : wm.heap[w.heap.size]? = some (dinO m l s a b c d i j) := (hbn.block _ (Array.getElem?_eq_some_iff.1 hx).1).trans hx; clear hbn))
 have c7' := c7
 have c8' := c8
 have HB0 := HB
 have hb0 := Below.refl wm.heap.size wm
 clear hx c0 c1 c2 c3 c4 c5 c6 hm
 go_loopw [4, 29] (fun v x wr => ∃ (k g cap : Nat), k ≤ 4 ∧ x = .int .i64 (k : Int) ∧ v = .slice (some ⟨g, 0, none⟩) 32 cap ∧ Own w.heap.size wr g 32 cap (putsTo (Num.putTo (Num.putTo (Num.putTo (zers 32) 0 m 1) 2 l 2) 4 s 4) 8 2 [a, b, c, d] k) ∧ Below w.heap.size w wr ∧ wr.cell? ⟨w.heap.size, 7, none⟩ = some (.int .i64 i) ∧ wr.cell? ⟨w.heap.size, 8, none⟩ = some (.int .i64 j)) (fun _ x _ => 4 - (intOf x).toNat)
 case atStart => exact ⟨0, _, _, by omega, rfl, rfl, ho, HB, c7, c8⟩
 case round =>
  obtain ⟨k, g, cap, hk, rfl, rfl, ho, HB, c7, c8⟩ := hrel
  have hy := putsTo_byt hy 8 2 [a, b, c, d] k
  by_cases hlt : k < 4
  ·have hd := idx43 a b c d k hlt wr
   have hv := HA.out k hlt
   have hst : putsTo (Num.putTo (Num.putTo (Num.putTo (zers 32) 0 m 1) 2 l 2) 4 s 4) 8 2 [a, b, c, d] (k + 1) = Num.putTo (putsTo (Num.putTo (Num.putTo (Num.putTo (zers 32) 0 m 1) 2 l 2) 4 s 4) 8 2 [a, b, c, d] k) (8 + 2 * k) ([a, b, c, d].getD k 0) 2 := rfl
   have HS := (show Hid _ from hst)
   clear hst
   generalize putsTo (Num.putTo (Num.putTo (Num.putTo (zers 32) 0 m 1) 2 l 2) 4 s 4) 8 2 [a, b, c, d] k = L at *
   generalize [a, b, c, d].getD k 0 = z at *
   have hq := rnumber_ok _ 32 cap _ (8 + 2 * k) 2 z wr (ho.bi (by omega) hy) (by omega) (by omega) (by omega) hv.1 hv.2
   rw [show (((8 + 2 * k : Nat) : Int)) = 8 + 2 * (k : Int) by omega] at hq
   have hkI : (k : Int) < 4 := by omega
   clear hv
   go_wp2_with (first | (go_at_call 184; refine Calls.mono hq ?_; rintro e wm ⟨g, cap, rfl, ho, hbn⟩; have ho := ho.base HB.size; have HB := grew_trans HB hbn; have c7 := cell_kept c7 hbn; have c8 := cell_kept c8 hbn))
   go_roundw
   case rel => exact ⟨k + 1, g, cap, by omega, by go_num, rfl, by rw [HS.out]; exact ho, HB, c7, c8⟩
   case measure => simp [intOf]; omega
  ·have e : k = 4 := by omega
   subst e
   generalize hL : putsTo (Num.putTo (Num.putTo (Num.putTo (zers 32) 0 m 1) 2 l 2) 4 s 4) 8 2 [a, b, c, d] 4 = L at *
   have HL := (show Hid _ from hL)
   clear hL
   go_wp2_with (first
    | (go_at_call_of 184 i; refine Calls.mono (rnumber_ok _ 32 _ _ 16 2 i _ (ho.bi (by omega) hy) (by omega) (by omega) (by omega) (by omega) (by omega)) ?_; rintro e wm ⟨g, cap, rfl, ho, hbn⟩; have hy := Num.putTo_byt hy 16 i 2; have ho := ho.base HB.size; have HB := grew_trans HB hbn; have c7 := cell_kept c7 hbn; have c8 := cell_kept c8 hbn; clear hbn)
    | (go_at_call_of 184 j; refine Calls.mono (rnumber_ok _ 32 _ _ 18 2 j _ (ho.bi (by omega) hy) (by omega) (by omega) (by omega) (by omega) (by omega)) ?_; rintro e wm ⟨g, cap, rfl, ho, hbn⟩; have hy := Num.putTo_byt hy 18 j 2; have ho := ho.base HB.size; have HB := grew_trans HB hbn; have c7 := cell_kept c7 hbn; have c8 := cell_kept c8 hbn; clear hbn)
    | (go_at_call 185; refine Calls.mono (rseal_ok _ 32 _ _ _ (ho.bi (by omega) hy) ho.room.1 (by omega)) ?_; rintro e wz ⟨g2, cap2, rfl, ho2, hb⟩))
   go_ret2
   refine ⟨g2, cap2, rfl, ?_, HB.trans (hb.mono HB.size)⟩
   have ho2 := ho2.base HB.size
   have e1 := dinL_len m l s a b c d i j
   unfold dinS sealL
   rw [e1]
   unfold dinL
   rw [HL.out]
   exact ho2
end Go.Proofs.YthdlpeejmmobmaaGreat.Mk

namespace Go.Proofs.YthdlpeejmmobmaaGreat.Mk
open Go.RowKit
set_option maxRecDepth 100000
set_option linter.unusedVariables false
structure Two (w w' : World) (rb ib : Nat) : Prop where
 os : w'.os = w.os
 tape : w'.tape = w.tape
 output : w'.output = w.output
 size : w.heap.size ≤ w'.heap.size
 block : ∀ k, k < w.heap.size → k ≠ rb → k ≠ ib → w'.heap[k]? = w.heap[k]?
theorem Two.refl (w : World) (rb ib : Nat) : Two w w rb ib := ⟨rfl, rfl, rfl, Nat.le_refl _, fun _ _ _ _ => rfl⟩
theorem Two.grown {w w1 w2 : World} {rb ib : Nat} (h : Two w w1 rb ib) (g : w1.grownBy w2 (some rb)) : Two w w2 rb ib :=
 ⟨g.os.trans h.os, g.tape.trans h.tape, g.output.trans h.output, Nat.le_trans h.size g.size, fun k hk h1 h2 => (g.block k (Nat.lt_of_lt_of_le hk h.size) (by simpa using h1)).trans (h.block k hk h1 h2)⟩
theorem Two.set {w w1 : World} {rb ib : Nat} (h : Two w w1 rb ib) (i : Nat) (v : Value) : Two w (w1.setCell ⟨ib, i, none⟩ v) rb ib :=
 ⟨h.os, h.tape, h.output, by simpa [World.setCell] using h.size, fun k hk h1 h2 => (Below.heap_setCell _ _ _ _ h2).trans (h.block k hk h1 h2)⟩
theorem Two.below {w w1 : World} {rb ib : Nat} (h : Two w w1 rb ib) {B : Nat} (h1 : B ≤ rb) (h2 : B ≤ ib) (h3 : B ≤ w.heap.size) : Below B w w1 :=
 ⟨h.os, h.tape, h.output, h.size, fun k hk => h.block k (by omega) (by omega) (by omega)⟩
def fill (cs : Array Value) (o : Nat) (f : Nat → Int) : Nat → Array Value
 | 0 => cs
 | j + 1 => (fill cs o f j).setIfInBounds (o + j) (.int .i64 (f j))
theorem fill_size (cs : Array Value) (o : Nat) (f : Nat → Int) (j : Nat) : (fill cs o f j).size = cs.size := by
 induction j with
 | zero => rfl
 | succ j ih => rw [fill, Array.size_setIfInBounds, ih]
theorem fill_no {cs : Array Value} (hno : ∀ (x : Int) (j : Nat), cs[j]? ≠ some (Value.int .u8 x)) (o : Nat) (f : Nat → Int) (n : Nat) : ∀ (x : Int) (j : Nat), (fill cs o f n)[j]? ≠ some (Value.int .u8 x) := by
 induction n with
 | zero => exact hno
 | succ n ih =>
  intro x j
  rw [fill, Array.getElem?_setIfInBounds]
  split
  ·split
   ·simp
   ·simp
  ·exact ih x j
theorem fill_after (cs : Array Value) (o : Nat) (f : Nat → Int) (n k : Nat) (hk : o + n ≤ k) : (fill cs o f n)[k]? = cs[k]? := by
 induction n with
 | zero => rfl
 | succ n ih => rw [fill, Array.getElem?_setIfInBounds_ne (by omega), ih (by omega)]
set_option maxHeartbeats 400000 in
theorem takeAll_ok (w : World) (rb ib o n k N cap : Nat) (xs : List Int) (cs : Array Value) (t : TypeId) (h : Rest w rb N xs 0) (hc : w.heap[ib]? = some (.cells cs t (0, 0))) (hno : ∀ (x : Int) (j : Nat), cs[j]? ≠ some (Value.int .u8 x)) (hne : rb ≠ ib)
  (h1 : 1 ≤ k) (h4 : k ≤ 4) (hN : k * n ≤ N) (hn : n ≤ 4096) (hcs : ∀ j, j < n → ∃ z, cs[o + j]? = some (.int .i64 z)) :
  Calls Tryz.prog 235 #[.pointer (some ⟨rb, 0, none⟩), .int .i64 (k : Int), .slice (some ⟨ib, o, none⟩) n cap] w fun e w' => e = .returned (.tuple #[]) ∧ w'.heap[ib]? = some (.cells (fill cs o (fun j => Num.numD xs (k * j) k) n) t (0, 0)) ∧ Rest w' rb (N - k * n) (xs.drop (k * n)) 0 ∧ Two w w' rb ib := by
 go_enter Tryz.func235, Tryz.ntmps235
 go_wp2_with fail
 go_loopw [9] (fun x wr => ∃ j : Nat, j ≤ n ∧ x = .int .i64 (j : Int) ∧ wr.heap[ib]? = some (.cells (fill cs o (fun j => Num.numD xs (k * j) k) j) t (0, 0)) ∧ Rest wr rb (N - k * j) (xs.drop (k * j)) 0 ∧ Two w wr rb ib) (fun x _ => n - (intOf x).toNat)
 case atStart => exact ⟨0, by omega, rfl, hc, h, Two.refl _ _ _⟩
 case round =>
  obtain ⟨j, hj, rfl, hi, hr, ht⟩ := hrel
  by_cases hlt : j < n
  ·obtain ⟨z, hz⟩ := hcs j hlt
   have hle : k * (j + 1) ≤ k * n := Nat.mul_le_mul_left k hlt
   rw [Nat.mul_succ] at hle
   have tk := take_yes wr rb (N - k * j) k _ hr h1 h4 (by omega)
   rw [numD_drop xs (k * j) k 0] at tk
   have hfz := fill_after cs o (fun j => Num.numD xs (k * j) k) j (o + j) (by omega)
   have hfn := fill_no hno o (fun j => Num.numD xs (k * j) k) j
   have hst : fill cs o (fun j => Num.numD xs (k * j) k) (j + 1) = (fill cs o (fun j => Num.numD xs (k * j) k) j).setIfInBounds (o + j) (.int .i64 (Num.numD xs (k * j) k)) := rfl
   rw [Nat.add_zero] at tk
   generalize fill cs o (fun j => Num.numD xs (k * j) k) j = F at *
   generalize Num.numD xs (k * j) k = v at *
   have hjI : (j : Int) < (n : Int) := by omega
   rw [hz] at hfz
   have HF := (show Hid _ from hfn)
   have HS := (show Hid _ from hst)
   have HZ := (show Hid _ from hz)
   clear hz hfn hst hcs h hc hno
   go_wp2_with (first | (go_at_call 228; refine Calls.mono tk ?_; rintro e wm ⟨rfl, hg, hr2⟩; have hi2 := grown_cells hg hi (fun e => hne e.symm); have hcell := cell_row hi2 (o + j) _ hfz; have hfr := frozen_of_row _ _ (o + j) _ _ hi2))
   go_roundw
   case rel =>
    refine ⟨j + 1, by omega, by go_num, ?_, ?_, (ht.grown hg).set _ _⟩
    ·rw [heap_set hi2, HS.out]
    ·rw [Nat.mul_succ, ← Nat.sub_sub, ← List.drop_drop]
     exact rest_set hr2 hi2 HF.out hne _ _
   case measure => simp [intOf]; omega
  ·obtain rfl : j = n := by omega
   go_wp2
   go_end0
   exact ⟨rfl, hi, hr, ht⟩
end Go.Proofs.YthdlpeejmmobmaaGreat.Mk
