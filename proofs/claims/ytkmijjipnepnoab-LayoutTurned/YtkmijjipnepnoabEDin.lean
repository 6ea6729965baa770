/- Inodes as bytes, by the program. -/
import Derived.Test.YtkmijjipnepnoabDinode
namespace Go.Proofs.Ytkmijjipnepnoab
open Go.RowKit
set_option linter.unusedVariables false

/-- An inode's bytes, but for the sum. -/
def dinL (m l s a b c d i j : Int) : List Int := Num.putTo (Num.putTo (putsTo (Num.putTo (Num.putTo (Num.putTo (zers 32) 0 m 1) 2 l 2) 4 s 4) 8 2 [a, b, c, d] 4) 16 i 2) 18 j 2
def dinS (m l s a b c d i j : Int) : List Int := sealL (dinL m l s a b c d i j)
/-- An inode's bytes: a free one's are all 0. -/
def dinB (m l s a b c d i j : Int) : List Int := if m = 0 then zers 32 else dinS m l s a b c d i j

theorem dinL_len (m l s a b c d i j : Int) : (dinL m l s a b c d i j).length = 32 := by
  unfold dinL
  simp only [Num.putTo_length, putsTo_len, zers_len]
theorem dinL_byt (m l s a b c d i j : Int) : Num.Byt (dinL m l s a b c d i j) :=
  Num.putTo_byt (Num.putTo_byt (putsTo_byt (Num.putTo_byt (Num.putTo_byt (Num.putTo_byt (zers_byt _) _ _ _) _ _ _) _ _ _) _ _ _ _) _ _ _) _ _ _
theorem dinB_len (m l s a b c d i j : Int) : (dinB m l s a b c d i j).length = 32 := by
  unfold dinB
  split
  · exact zers_len 32
  · unfold dinS sealL
    rw [Num.putTo_length, dinL_len]
theorem dinB_byt (m l s a b c d i j : Int) : Num.Byt (dinB m l s a b c d i j) := by
  unfold dinB
  split
  · exact zers_byt 32
  · exact Num.putTo_byt (dinL_byt m l s a b c d i j) _ _ _

set_option maxHeartbeats 400000 in
theorem encodeDinode_no (m l s a b c d i j : Int) (h : ¬ DMay m l s a b c d i j) (w : World) : Calls Try.prog 12 #[dinV m l s a b c d i j] w fun e w' => e = .returned (.tuple #[.slice none 0 0, .int .i64 1]) ∧ Below w.heap.size w w' := by
  have HB := grew_alloc w (dinO m l s a b c d i j)
  have hm := dinodeMay_ok m l s a b c d i j
  rw [decide_eq_false h] at hm
  go_enter Try.func12, Try.ntmps12
  go_wp2_with (first | (go_at_call 51; refine grew_at (hm _) ?_; intro wn hbn; have HB := grew_trans HB hbn))
  go_ret2
  exact ⟨rfl, HB⟩

theorem din_all (w : World) (m l s a b c d i j : Int) : (w.alloc (dinO m l s a b c d i j)).cell? ⟨w.heap.size, 0, none⟩ = some (.int .i64 m) ∧ (w.alloc (dinO m l s a b c d i j)).cell? ⟨w.heap.size, 1, none⟩ = some (.int .i64 l) ∧ (w.alloc (dinO m l s a b c d i j)).cell? ⟨w.heap.size, 2, none⟩ = some (.int .i64 s) ∧ (w.alloc (dinO m l s a b c d i j)).cell? ⟨w.heap.size, 7, none⟩ = some (.int .i64 i) ∧ (w.alloc (dinO m l s a b c d i j)).cell? ⟨w.heap.size, 8, none⟩ = some (.int .i64 j) :=
  ⟨cell_row (heap_new w _) 0 _ rfl, cell_row (heap_new w _) 1 _ rfl, cell_row (heap_new w _) 2 _ rfl, cell_row (heap_new w _) 7 _ rfl, cell_row (heap_new w _) 8 _ rfl⟩
theorem info45 : (Try.prog.info? 28).map (·.size) = some 9 := by kernel_rfl

set_option maxRecDepth 10000 in
set_option maxHeartbeats 1000000 in
theorem encodeDinode_free (w : World) : Calls Try.prog 12 #[dinV 0 0 0 0 0 0 0 0 0] w fun e w' => ∃ g cap, e = .returned (.tuple #[.slice (some ⟨g, 0, none⟩) 32 cap, .int .i64 0]) ∧ Own w.heap.size w' g 32 cap (zers 32) ∧ Below w.heap.size w w' := by
  obtain ⟨i0, hi, hz0, hz1, hz2⟩ := info_parts info5
  have HB := grew_alloc w (dinO 0 0 0 0 0 0 0 0 0)
  have hx := heap_new w (dinO 0 0 0 0 0 0 0 0 0)
  have hm := dinodeMay_ok 0 0 0 0 0 0 0 0 0
  rw [decide_eq_true (by unfold DMay; omega)] at hm
  have hq := fun w => eq45 0 0 0 0 0 0 0 0 0 0 0 0 0 0 0 0 0 0 w
  simp only [and_self, decide_true] at hq
  go_enter Try.func12, Try.ntmps12
  go_wp2_with (first
    | (go_at_call 51; refine grew_at (hm _) ?_; intro wn hbn; have HB := grew_trans HB hbn; have hx : wn.heap[w.heap.size]? = some (dinO 0 0 0 0 0 0 0 0 0) := (hbn.block _ (by rw [size_alloc]; omega)).trans hx)
    | (refine wpList_load_row rfl 28 (.tmp 1) rfl w.heap.size rfl 28 _ (0, 0) _ hx Try.underlying28 rfl info45 ?_)
    | (refine wpList_eql_wanted (by rfl) 28 (.tmp 10) (.tmp 11) rfl _ _ rfl rfl guard45 _ (hq _) ?_)
    | (at_make; refine wpList_make_full _ rfl _ _ 29 rfl wn.heap.size 5 i0 (.int .u8 0) 1 Try.underlying29 hi hz0 hz1 .i64 .i64 _ _ 32 rfl rfl rfl rfl (by rw [hz2]; omega) (by unfold maxLen; omega) (Nat.le_refl _) ?_; intro w1 hown1 hgrow1; have hb1 := (Below.refl wn.heap.size wn).grown hgrow1 (Nat.le_refl _) (by intro k hk; cases hk)))
  go_ret2
  have hrow := own_row hown1
  rw [made_zers 32] at hrow
  exact ⟨_, _, rfl, own_of_row HB.size (by decide) (zers_len 32) hrow, grew_trans HB hb1⟩

set_option maxRecDepth 10000 in
set_option maxHeartbeats 2000000 in
theorem encodeDinode_used (m l s a b c d i j : Int) (h : DMay m l s a b c d i j) (h0 : ¬ m = 0) (w : World) : Calls Try.prog 12 #[dinV m l s a b c d i j] w fun e w' => ∃ g cap, e = .returned (.tuple #[.slice (some ⟨g, 0, none⟩) 32 cap, .int .i64 0]) ∧ Own w.heap.size w' g 32 cap (dinS m l s a b c d i j) ∧ Below w.heap.size w w' := by
  have HB := grew_alloc w (dinO m l s a b c d i j)
  have hx := heap_new w (dinO m l s a b c d i j)
  have hm := dinodeMay_ok m l s a b c d i j
  rw [decide_eq_true h] at hm
  obtain ⟨c0, c1, c2, c7, c8⟩ := din_all w m l s a b c d i j
  have hq := fun w => eq45 m l s a b c d i j 0 0 0 0 0 0 0 0 0 w
  rw [decide_eq_false (fun k => h0 k.1)] at hq
  have hmm : m = 1 ∨ m = 2 := by unfold DMay at h; omega
  have hU : UMay l s a b c d i j := by
    unfold DMay at h
    rcases h with h | h | h
    · exact absurd h.1 h0
    · exact h.2
    · exact h.2.1
  have hl := hU.1
  have hs := hU.2.1
  have hA : ∀ k, k < 4 → 0 ≤ [a, b, c, d].getD k 0 ∧ [a, b, c, d].getD k 0 < 256 ^ 2 := by
    intro k hk
    have := hU.2.2.1 ([a, b, c, d].getD k 0) (by rcases (by omega : k = 0 ∨ k = 1 ∨ k = 2 ∨ k = 3) with rfl | rfl | rfl | rfl <;> simp)
    omega
  have hi := hU.2.2.2 i (by simp)
  have hj := hU.2.2.2 j (by simp)
  clear hU h
  go_enter Try.func12, Try.ntmps12
  go_wp2_with (first
    | (go_at_call 51; refine grew_at (hm _) ?_; intro wn hbn; have HB := grew_trans HB hbn; have c0 := cell_kept c0 hbn; have c1 := cell_kept c1 hbn; have c2 := cell_kept c2 hbn; have c7 := cell_kept c7 hbn; have c8 := cell_kept c8 hbn; have hx : wn.heap[w.heap.size]? = some (dinO m l s a b c d i j) := (hbn.block _ (by rw [size_alloc]; omega)).trans hx)
    | (refine wpList_load_row rfl 28 (.tmp 1) rfl w.heap.size rfl 28 _ (0, 0) _ hx Try.underlying28 rfl info45 ?_)
    | (refine wpList_eql_wanted (by rfl) 28 (.tmp 10) (.tmp 11) rfl _ _ rfl rfl guard45 _ (hq _) ?_))
  have hsz : w.heap.size + 1 ≤ wn.heap.size := (Array.getElem?_eq_some_iff.1 hx).1
  refine Calls.mono (newPage_ok 32 (by omega) (w.heap.size + 1) _ hsz) ?_
  rintro e wm ⟨pb, g, rfl, pg, bn⟩
  have c0 := cell_under c0 bn (by omega); have c1 := cell_under c1 bn (by omega); have c2 := cell_under c2 bn (by omega); have c7 := cell_under c7 bn (by omega); have c8 := cell_under c8 bn (by omega); have hx : wm.heap[w.heap.size]? = some (dinO m l s a b c d i j) := (bn.block _ (by omega)).trans hx; have HB := HB.trans (bn.mono (by omega)); clear bn
  go_wp2_with (first
    | (go_at_call 42; refine Calls.mono (pskip_ok pg 1 (by omega) (by decide)) ?_; rintro e wm ⟨rfl, pg, bn⟩; have c0 := cell_under c0 bn (by omega); have c1 := cell_under c1 bn (by omega); have c2 := cell_under c2 bn (by omega); have c7 := cell_under c7 bn (by omega); have c8 := cell_under c8 bn (by omega); have hx : wm.heap[w.heap.size]? = some (dinO m l s a b c d i j) := (bn.block _ (by omega)).trans hx; have HB := HB.trans (bn.mono (by omega)); clear bn)
    | (go_at_call_of 41 m; refine Calls.mono (pnum_ok pg 1 m (by omega) (by omega) (by decide) (by omega) (by omega)) ?_; rintro e wm ⟨rfl, pg, bn⟩; have c0 := cell_under c0 bn (by omega); have c1 := cell_under c1 bn (by omega); have c2 := cell_under c2 bn (by omega); have c7 := cell_under c7 bn (by omega); have c8 := cell_under c8 bn (by omega); have hx : wm.heap[w.heap.size]? = some (dinO m l s a b c d i j) := (bn.block _ (by omega)).trans hx; have HB := HB.trans (bn.mono (by omega)); clear bn; have d0 := pg.c0)
    | (go_at_call_of 41 l; refine Calls.mono (pnum_ok pg 2 l (by omega) (by omega) (by decide) (by omega) (by omega)) ?_; rintro e wm ⟨rfl, pg, bn⟩; have c0 := cell_under c0 bn (by omega); have c1 := cell_under c1 bn (by omega); have c2 := cell_under c2 bn (by omega); have c7 := cell_under c7 bn (by omega); have c8 := cell_under c8 bn (by omega); have hx : wm.heap[w.heap.size]? = some (dinO m l s a b c d i j) := (bn.block _ (by omega)).trans hx; have HB := HB.trans (bn.mono (by omega)); clear bn; have d0 := pg.c0)
    | (go_at_call_of 41 s; refine Calls.mono (pnum_ok pg 4 s (by omega) (by omega) (by decide) (by omega) (by omega)) ?_; rintro e wm ⟨rfl, pg, bn⟩; have c0 := cell_under c0 bn (by omega); have c1 := cell_under c1 bn (by omega); have c2 := cell_under c2 bn (by omega); have c7 := cell_under c7 bn (by omega); have c8 := cell_under c8 bn (by omega); have hx : wm.heap[w.heap.size]? = some (dinO m l s a b c d i j) := (bn.block _ (by omega)).trans hx; have HB := HB.trans (bn.mono (by omega)); clear bn; have d0 := pg.c0)
    | (go_at_call 52; refine Calls.mono (pnums_ok pg 2 (by omega) (by omega) _ 4 4 _ (din_ii hx) (by intro b o e; cases e; omega) (by decide) hA) ?_; rintro e wm ⟨rfl, pg, bn⟩; have c0 := cell_under c0 bn (by omega); have c1 := cell_under c1 bn (by omega); have c2 := cell_under c2 bn (by omega); have c7 := cell_under c7 bn (by omega); have c8 := cell_under c8 bn (by omega); have hx : wm.heap[w.heap.size]? = some (dinO m l s a b c d i j) := (bn.block _ (by omega)).trans hx; have HB := HB.trans (bn.mono (by omega)); clear bn; have d0 := pg.c0)
    | (go_at_call_of 41 i; refine Calls.mono (pnum_ok pg 2 i (by omega) (by omega) (by decide) (by omega) (by omega)) ?_; rintro e wm ⟨rfl, pg, bn⟩; have c0 := cell_under c0 bn (by omega); have c1 := cell_under c1 bn (by omega); have c2 := cell_under c2 bn (by omega); have c7 := cell_under c7 bn (by omega); have c8 := cell_under c8 bn (by omega); have hx : wm.heap[w.heap.size]? = some (dinO m l s a b c d i j) := (bn.block _ (by omega)).trans hx; have HB := HB.trans (bn.mono (by omega)); clear bn; have d0 := pg.c0)
    | (go_at_call_of 41 j; refine Calls.mono (pnum_ok pg 2 j (by omega) (by omega) (by decide) (by omega) (by omega)) ?_; rintro e wm ⟨rfl, pg, bn⟩; have c0 := cell_under c0 bn (by omega); have c1 := cell_under c1 bn (by omega); have c2 := cell_under c2 bn (by omega); have c7 := cell_under c7 bn (by omega); have c8 := cell_under c8 bn (by omega); have hx : wm.heap[w.heap.size]? = some (dinO m l s a b c d i j) := (bn.block _ (by omega)).trans hx; have HB := HB.trans (bn.mono (by omega)); clear bn; have d0 := pg.c0)
    | (go_at_call 43; refine Calls.mono (seal_ok _ 32 32 _ _ pg.bi (Nat.le_refl _) (by omega)) ?_; rintro e wz ⟨g2, cap, rfl, ho, hb⟩))
  go_ret2
  refine ⟨g2, cap, rfl, ?_, HB.trans (hb.mono HB.size)⟩
  have ho := ho.base HB.size
  unfold dinS sealL
  rw [dinL_len]
  exact ho
end Go.Proofs.Ytkmijjipnepnoab
