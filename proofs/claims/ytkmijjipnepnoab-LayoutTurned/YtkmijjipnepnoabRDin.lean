/- The document's inodes as bytes. -/
import Derived.Test.YtkmijjipnepnoabRDinM
namespace Go.Proofs.Ytkmijjipnepnoab
open Go.RowKit
set_option linter.unusedVariables false

set_option maxHeartbeats 400000 in
theorem rencodeDinode_no (m l s a b c d i j : Int) (h : ¬ DMay m l s a b c d i j) (w : World) : Calls Try.prog 13 #[dinV m l s a b c d i j] w fun e w' => e = .returned (.tuple #[.slice none 0 0, .int .i64 1]) ∧ Below w.heap.size w w' := by
  have HB := grew_alloc w (dinO m l s a b c d i j)
  have hm := rmayD_ok m l s a b c d i j
  rw [decide_eq_false h] at hm
  go_enter Try.func13, Try.ntmps13
  go_wp2_with (first | (go_at_call 53; refine grew_at (hm _) ?_; intro wn hbn; have HB := grew_trans HB hbn))
  go_ret2
  exact ⟨rfl, HB⟩

set_option maxRecDepth 10000 in
set_option maxHeartbeats 1000000 in
theorem rencodeDinode_free (w : World) : Calls Try.prog 13 #[dinV 0 0 0 0 0 0 0 0 0] w fun e w' => ∃ g cap, e = .returned (.tuple #[.slice (some ⟨g, 0, none⟩) 32 cap, .int .i64 0]) ∧ Own w.heap.size w' g 32 cap (zers 32) ∧ Below w.heap.size w w' := by
  obtain ⟨i0, hi, hz0, hz1, hz2⟩ := info_parts info5
  have HB := grew_alloc w (dinO 0 0 0 0 0 0 0 0 0)
  obtain ⟨c0, c1, c2, c7, c8⟩ := din_all w 0 0 0 0 0 0 0 0 0
  have hm := rmayD_ok 0 0 0 0 0 0 0 0 0
  rw [decide_eq_true (by unfold DMay; omega)] at hm
  go_enter Try.func13, Try.ntmps13
  go_wp2_with (first
    | (go_at_call 53; refine grew_at (hm _) ?_; intro wn hbn; have HB := grew_trans HB hbn; have c0 := cell_kept c0 hbn)
    | (at_make; refine wpList_make_full _ rfl _ _ 29 rfl wn.heap.size 5 i0 (.int .u8 0) 1 Try.underlying29 hi hz0 hz1 .i64 .i64 _ _ 32 rfl rfl rfl rfl (by rw [hz2]; omega) (by unfold maxLen; omega) (Nat.le_refl _) ?_; intro w1 hown1 hgrow1; have hb1 := (Below.refl wn.heap.size wn).grown hgrow1 (Nat.le_refl _) (by intro k hk; cases hk); have c0 := cell_kept c0 hb1))
  go_ret2
  have hrow := own_row hown1
  rw [made_zers 32] at hrow
  exact ⟨_, _, rfl, own_of_row HB.size (by decide) (zers_len 32) hrow, grew_trans HB hb1⟩

set_option maxRecDepth 10000 in
set_option maxHeartbeats 2000000 in
theorem rencodeDinode_used (m l s a b c d i j : Int) (h : DMay m l s a b c d i j) (h0 : ¬ m = 0) (w : World) : Calls Try.prog 13 #[dinV m l s a b c d i j] w fun e w' => ∃ g cap, e = .returned (.tuple #[.slice (some ⟨g, 0, none⟩) 32 cap, .int .i64 0]) ∧ Own w.heap.size w' g 32 cap (dinS m l s a b c d i j) ∧ Below w.heap.size w w' := by
  obtain ⟨i0, hi0, hz0, hz1, hz2⟩ := info_parts info5
  have HB := grew_alloc w (dinO m l s a b c d i j)
  have hx := heap_new w (dinO m l s a b c d i j)
  have hm := rmayD_ok m l s a b c d i j
  rw [decide_eq_true h] at hm
  obtain ⟨c0, c1, c2, c7, c8⟩ := din_all w m l s a b c d i j
  obtain ⟨c3, c4, c5, c6⟩ := din_five w m l s a b c d i j
  have hmm : m = 1 ∨ m = 2 := by unfold DMay at h; omega
  have hU : UMay l s a b c d i j := by
    unfold DMay at h
    rcases h with h | h | h
    · exact absurd h.1 h0
    · exact h.2
    · exact h.2.1
  have hl := hU.1
  have hs := hU.2.1
  have hA : ∀ k, k < 4 → 0 ≤ [a, b, c, d].getD k 0 ∧ [a, b, c, d].getD k 0 < 256 ^ 2 := by
    intro k hk
    have := hU.2.2.1 ([a, b, c, d].getD k 0) (by rcases (by omega : k = 0 ∨ k = 1 ∨ k = 2 ∨ k = 3) with rfl | rfl | rfl | rfl <;> simp)
    omega
  have hi := hU.2.2.2 i (by simp)
  have hj := hU.2.2.2 j (by simp)
  clear hU h
  have HA := (show Hid _ from hA)
  clear hA
  go_enter Try.func13, Try.ntmps13
  go_wp2_with (first
    | (go_at_call 53; refine grew_at (hm _) ?_; intro wn hbn; have HB := grew_trans HB hbn; have c0 := cell_kept c0 hbn; have c1 := cell_kept c1 hbn; have c2 := cell_kept c2 hbn; have c7 := cell_kept c7 hbn; have c3 := cell_kept c3 hbn; have c4 := cell_kept c4 hbn; have c5 := cell_kept c5 hbn; have c6 := cell_kept c6 hbn; have c8 := cell_kept c8 hbn; have hx : wn.heap[w.heap.size]? = some (dinO m l s a b c d i j) := (hbn.block _ (by rw [size_alloc]; omega)).trans hx)
    | (at_make; refine wpList_make_full _ rfl _ _ 29 rfl wn.heap.size 5 i0 (.int .u8 0) 1 Try.underlying29 hi0 hz0 hz1 .i64 .i64 _ _ 32 rfl rfl rfl rfl (by rw [hz2]; omega) (by unfold maxLen; omega) (Nat.le_refl _) ?_; intro w1 hown1 hgrow1; have hbn := (Below.refl wn.heap.size wn).grown hgrow1 (Nat.le_refl _) (by intro k hk; cases hk); have hrow := own_row hown1; rw [made_zers 32] at hrow; have ho := own_of_row HB.size (by decide) (zers_len 32) hrow; have HB := grew_trans HB hbn; have c0 := cell_kept c0 hbn; have c1 := cell_kept c1 hbn; have c2 := cell_kept c2 hbn; have c7 := cell_kept c7 hbn; have c3 := cell_kept c3 hbn; have c4 := cell_kept c4 hbn; have c5 := cell_kept c5 hbn; have c6 := cell_kept c6 hbn; have c8 := cell_kept c8 hbn; have hx : w1.heap[w.heap.size]? = some (dinO m l s a b c d i j) := (hbn.block _ (Array.getElem?_eq_some_iff.1 hx).1).trans hx; have hy := zers_byt 32; clear hown1 hgrow1 hrow)
    | (go_at_call_of 45 m; refine Calls.mono (rnumber_ok _ 32 _ _ 0 1 m _ (ho.bi (by omega) hy) (by omega) (by omega) (by omega) (by omega) (by omega)) ?_; rintro e wm ⟨g, cap, rfl, ho, hbn⟩; have hy := Num.putTo_byt hy 0 m 1; have ho := ho.base HB.size; have HB := grew_trans HB hbn; have c0 := cell_kept c0 hbn; have c1 := cell_kept c1 hbn; have c2 := cell_kept c2 hbn; have c7 := cell_kept c7 hbn; have c3 := cell_kept c3 hbn; have c4 := cell_kept c4 hbn; have c5 := cell_kept c5 hbn; have c6 := cell_kept c6 hbn; have c8 := cell_kept c8 hbn; have hx : wm.heap[w.heap.size]? = some (dinO m l s a b c d i j) := (hbn.block _ (Array.getElem?_eq_some_iff.1 hx).1).trans hx; clear hbn)
    | (go_at_call_of 45 l; refine Calls.mono (rnumber_ok _ 32 _ _ 2 2 l _ (ho.bi (by omega) hy) (by omega) (by omega) (by omega) (by omega) (by omega)) ?_; rintro e wm ⟨g, cap, rfl, ho, hbn⟩; have hy := Num.putTo_byt hy 2 l 2; have ho := ho.base HB.size; have HB := grew_trans HB hbn; have c0 := cell_kept c0 hbn; have c1 := cell_kept c1 hbn; have c2 := cell_kept c2 hbn; have c7 := cell_kept c7 hbn; have c3 := cell_kept c3 hbn; have c4 := cell_kept c4 hbn; have c5 := cell_kept c5 hbn; have c6 := cell_kept c6 hbn; have c8 := cell_kept c8 hbn; have hx : wm.heap[w.heap.size]? = some (dinO m l s a b c d i j) := (hbn.block _ (Array.getElem?_eq_some_iff.1 hx).1).trans hx; clear hbn)
    | (go_at_call_of 45 s; refine Calls.mono (rnumber_ok _ 32 _ _ 4 4 s _ (ho.bi (by omega) hy) (by omega) (by omega) (by omega) (by omega) (by omega)) ?_; rintro e wm ⟨g, cap, rfl, ho, hbn⟩; have hy := Num.putTo_byt hy 4 s 4; have ho := ho.base HB.size; have HB := grew_trans HB hbn; have c0 := cell_kept c0 hbn; have c1 := cell_kept c1 hbn; have c2 := cell_kept c2 hbn; have c7 := cell_kept c7 hbn; have c3 := cell_kept c3 hbn; have c4 := cell_kept c4 hbn; have c5 := cell_kept c5 hbn; have c6 := cell_kept c6 hbn; have c8 := cell_kept c8 hbn; have hx : wm.heap[w.heap.size]? = some (dinO m l s a b c d i j) := (hbn.block _ (Array.getElem?_eq_some_iff.1 hx).1).trans hx; clear hbn))
  have c7' := c7
  have c8' := c8
  have HB0 := HB
  have hb0 := Below.refl wm.heap.size wm
  clear hx c0 c1 c2 c3 c4 c5 c6 hm
  go_loopw [4, 29] (fun v x wr => ∃ (k g cap : Nat), k ≤ 4 ∧ x = .int .i64 (k : Int) ∧ v = .slice (some ⟨g, 0, none⟩) 32 cap ∧ Own w.heap.size wr g 32 cap (putsTo (Num.putTo (Num.putTo (Num.putTo (zers 32) 0 m 1) 2 l 2) 4 s 4) 8 2 [a, b, c, d] k) ∧ Below w.heap.size w wr ∧ wr.cell? ⟨w.heap.size, 7, none⟩ = some (.int .i64 i) ∧ wr.cell? ⟨w.heap.size, 8, none⟩ = some (.int .i64 j)) (fun _ x _ => 4 - (intOf x).toNat)
  case atStart => exact ⟨0, _, _, by omega, rfl, rfl, ho, HB, c7, c8⟩
  case round =>
    obtain ⟨k, g, cap, hk, rfl, rfl, ho, HB, c7, c8⟩ := hrel
    have hy := putsTo_byt hy 8 2 [a, b, c, d] k
    by_cases hlt : k < 4
    · have hd := idx43 a b c d k hlt wr
      have hv := HA.out k hlt
      have hst : putsTo (Num.putTo (Num.putTo (Num.putTo (zers 32) 0 m 1) 2 l 2) 4 s 4) 8 2 [a, b, c, d] (k + 1) = Num.putTo (putsTo (Num.putTo (Num.putTo (Num.putTo (zers 32) 0 m 1) 2 l 2) 4 s 4) 8 2 [a, b, c, d] k) (8 + 2 * k) ([a, b, c, d].getD k 0) 2 := rfl
      have HS := (show Hid _ from hst)
      clear hst
      generalize putsTo (Num.putTo (Num.putTo (Num.putTo (zers 32) 0 m 1) 2 l 2) 4 s 4) 8 2 [a, b, c, d] k = L at *
      generalize [a, b, c, d].getD k 0 = z at *
      have hq := rnumber_ok _ 32 cap _ (8 + 2 * k) 2 z wr (ho.bi (by omega) hy) (by omega) (by omega) (by omega) hv.1 hv.2
      rw [show (((8 + 2 * k : Nat) : Int)) = 8 + 2 * (k : Int) by omega] at hq
      have hkI : (k : Int) < 4 := by omega
      clear hv
      go_wp2_with (first | (go_at_call 45; refine Calls.mono hq ?_; rintro e wm ⟨g, cap, rfl, ho, hbn⟩; have ho := ho.base HB.size; have HB := grew_trans HB hbn; have c7 := cell_kept c7 hbn; have c8 := cell_kept c8 hbn))
      go_roundw
      case rel => exact ⟨k + 1, g, cap, by omega, by go_num, rfl, by rw [HS.out]; exact ho, HB, c7, c8⟩
      case measure => simp [intOf]; omega
    · have e : k = 4 := by omega
      subst e
      generalize hL : putsTo (Num.putTo (Num.putTo (Num.putTo (zers 32) 0 m 1) 2 l 2) 4 s 4) 8 2 [a, b, c, d] 4 = L at *
      have HL := (show Hid _ from hL)
      clear hL
      go_wp2_with (first
        | (go_at_call_of 45 i; refine Calls.mono (rnumber_ok _ 32 _ _ 16 2 i _ (ho.bi (by omega) hy) (by omega) (by omega) (by omega) (by omega) (by omega)) ?_; rintro e wm ⟨g, cap, rfl, ho, hbn⟩; have hy := Num.putTo_byt hy 16 i 2; have ho := ho.base HB.size; have HB := grew_trans HB hbn; have c7 := cell_kept c7 hbn; have c8 := cell_kept c8 hbn; clear hbn)
        | (go_at_call_of 45 j; refine Calls.mono (rnumber_ok _ 32 _ _ 18 2 j _ (ho.bi (by omega) hy) (by omega) (by omega) (by omega) (by omega) (by omega)) ?_; rintro e wm ⟨g, cap, rfl, ho, hbn⟩; have hy := Num.putTo_byt hy 18 j 2; have ho := ho.base HB.size; have HB := grew_trans HB hbn; have c7 := cell_kept c7 hbn; have c8 := cell_kept c8 hbn; clear hbn)
        | (go_at_call 46; refine Calls.mono (rseal_ok _ 32 _ _ _ (ho.bi (by omega) hy) ho.room.1 (by omega)) ?_; rintro e wz ⟨g2, cap2, rfl, ho2, hb⟩))
      go_ret2
      refine ⟨g2, cap2, rfl, ?_, HB.trans (hb.mono HB.size)⟩
      have ho2 := ho2.base HB.size
      have e1 := dinL_len m l s a b c d i j
      unfold dinS sealL
      rw [e1]
      unfold dinL
      rw [HL.out]
      exact ho2
end Go.Proofs.Ytkmijjipnepnoab
