/- The document's inodes out of bytes. -/
import Derived.Test.YtkmijjipnepnoaaDDec
namespace Go.Proofs.Ytkmijjipnepnoaa
open Go.RowKit
set_option linter.unusedVariables false

set_option maxRecDepth 10000 in
set_option maxHeartbeats 600000 in
theorem rdecodeDinode_len (p : Option Addr) (n c : Nat) (w : World) (hn : n ≤ 140737488355328) (h1 : ¬ n = 32) :
    Calls Try.prog 22 #[.slice p n c] w fun e w' => e = .returned (.tuple #[dinV 0 0 0 0 0 0 0 0 0, .int .i64 6]) ∧ Below w.heap.size w w' := by
  have HB := grew_alloc w (dinO 0 0 0 0 0 0 0 0 0)
  have hr0 := heap_new w (dinO 0 0 0 0 0 0 0 0 0)
  have hI : ¬ (n : Int) = 32 := by omega
  go_enter Try.func22, Try.ntmps22
  go_wp2_with (refine wpList_store_row rfl 45 _ _ rfl w.heap.size _ rfl rfl 45 _ hr0 info45 rfl (din_one 0 0 0 0 0 0 0 0 0) ?_)
  refine bodyPost_ret (v := .tuple #[dinV 0 0 0 0 0 0 0 0 0, .int .i64 6]) (results_cell_tmp_row (p := 2) (u := 3) (ty := 45) Try.results22 _ _ w.heap.size 45 _ (0, 0) _ rfl (setRow_heap _ _ _ _ _ _ hr0) Try.underlying45 rfl info45) rfl ?_
  exact ⟨rfl, below_setRow HB (by omega) _⟩

set_option maxRecDepth 10000 in
set_option maxHeartbeats 600000 in
theorem rdecodeDinode_zero (p : Option Addr) (c : Nat) (xs : List Int) (w : World) (h : BI w p 32 xs) (hnc : 32 ≤ c) (hz : xs = zers 32) :
    Calls Try.prog 22 #[.slice p 32 c] w fun e w' => e = .returned (.tuple #[dinV 0 0 0 0 0 0 0 0 0, .int .i64 0]) ∧ Below w.heap.size w w' := by
  obtain ⟨i0, hi, hz0, hz1, hz2⟩ := info_parts info5
  have HB := grew_alloc w (dinO 0 0 0 0 0 0 0 0 0)
  have hr0 := heap_new w (dinO 0 0 0 0 0 0 0 0 0)
  have h0 : BI (w.alloc (dinO 0 0 0 0 0 0 0 0 0)) p 32 xs := h.kept HB
  have hzz : (xs == zers 32) = true := by rw [beq_iff_eq]; exact hz
  clear hz
  go_enter Try.func22, Try.ntmps22
  go_wp2_with (first
    | (at_make; (generalize hwa : w.alloc (dinO 0 0 0 0 0 0 0 0 0) = wa at *; refine wpList_make_full _ rfl _ _ 26 rfl wa.heap.size 5 i0 (.int .u8 0) 1 Try.underlying26 hi hz0 hz1 .i64 .i64 _ _ 32 rfl rfl rfl rfl (by rw [hz2]; omega) (by unfold maxLen; omega) (Nat.le_refl _) ?_; intro w1 hown1 hgrow1; have hb1 := (Below.refl _ wa).grown hgrow1 (Nat.le_refl _) (by intro k hk; cases hk); have hrow := own_row hown1; rw [made_zers 32] at hrow; have ho := own_of_row HB.size (by decide) (zers_len 32) hrow; have hx1 := h0.kept hb1; have hq := same_any p (some ⟨wa.heap.size, 0, none⟩) 32 c 32 32 xs (zers 32) w1 hx1 (ho.bi (by omega) (zers_byt 32)); have HB1 := grew_trans HB hb1; have hr1 : w1.heap[w.heap.size]? = some (dinO 0 0 0 0 0 0 0 0 0) := (by rw [hb1.block _ (Array.getElem?_eq_some_iff.1 hr0).1]; exact hr0); rw [hzz] at hq; clear hown1 hgrow1 hrow ho))
    | (go_at_call 50; refine same_at hq ?_)
    | (refine wpList_store_row rfl 45 _ _ rfl w.heap.size _ rfl rfl 45 _ hr1 info45 rfl (din_one 0 0 0 0 0 0 0 0 0) ?_))
  refine bodyPost_ret (v := .tuple #[dinV 0 0 0 0 0 0 0 0 0, .int .i64 0]) (results_cell_tmp_row (p := 2) (u := 3) (ty := 45) Try.results22 _ _ w.heap.size 45 _ (0, 0) _ rfl (setRow_heap _ _ _ _ _ _ hr1) Try.underlying45 rfl info45) rfl ?_
  exact ⟨rfl, below_setRow HB1 (by omega) _⟩

set_option maxRecDepth 10000 in
set_option maxHeartbeats 600000 in
theorem rdecodeDinode_sum (p : Option Addr) (c : Nat) (xs : List Int) (w : World) (h : BI w p 32 xs) (hnc : 32 ≤ c) (hz : ¬ xs = zers 32) (hs : ¬ (Num.numD xs 28 4 == Num.sum xs 28) = true) :
    Calls Try.prog 22 #[.slice p 32 c] w fun e w' => e = .returned (.tuple #[dinV 0 0 0 0 0 0 0 0 0, .int .i64 30]) ∧ Below w.heap.size w w' := by
  obtain ⟨i0, hi, hz0, hz1, hz2⟩ := info_parts info5
  have HB := grew_alloc w (dinO 0 0 0 0 0 0 0 0 0)
  have hr0 := heap_new w (dinO 0 0 0 0 0 0 0 0 0)
  have h0 : BI (w.alloc (dinO 0 0 0 0 0 0 0 0 0)) p 32 xs := h.kept HB
  have hzz : (xs == zers 32) = false := by rw [beq_eq_false_iff_ne]; exact hz
  have hss : (Num.numD xs (32 - 4) 4 == Num.sum xs (32 - 4)) = false := Bool.eq_false_iff.2 hs
  clear hz hs
  go_enter Try.func22, Try.ntmps22
  go_wp2_with (first
    | (at_make; (generalize hwa : w.alloc (dinO 0 0 0 0 0 0 0 0 0) = wa at *; refine wpList_make_full _ rfl _ _ 26 rfl wa.heap.size 5 i0 (.int .u8 0) 1 Try.underlying26 hi hz0 hz1 .i64 .i64 _ _ 32 rfl rfl rfl rfl (by rw [hz2]; omega) (by unfold maxLen; omega) (Nat.le_refl _) ?_; intro w1 hown1 hgrow1; have hb1 := (Below.refl _ wa).grown hgrow1 (Nat.le_refl _) (by intro k hk; cases hk); have hrow := own_row hown1; rw [made_zers 32] at hrow; have ho := own_of_row HB.size (by decide) (zers_len 32) hrow; have hx1 := h0.kept hb1; have hq := same_any p (some ⟨wa.heap.size, 0, none⟩) 32 c 32 32 xs (zers 32) w1 hx1 (ho.bi (by omega) (zers_byt 32)); have HB1 := grew_trans HB hb1; have hr1 : w1.heap[w.heap.size]? = some (dinO 0 0 0 0 0 0 0 0 0) := (by rw [hb1.block _ (Array.getElem?_eq_some_iff.1 hr0).1]; exact hr0); rw [hzz] at hq; have hse := rsealed_ok p 32 c xs _ hx1 hnc (by omega); rw [hss] at hse; clear hown1 hgrow1 hrow ho))
    | (go_at_call 50; refine same_at hq ?_)
    | (go_at_call 48; refine same_at hse ?_)
    | (refine wpList_store_row rfl 45 _ _ rfl w.heap.size _ rfl rfl 45 _ hr1 info45 rfl (din_one 0 0 0 0 0 0 0 0 0) ?_))
  refine bodyPost_ret (v := .tuple #[dinV 0 0 0 0 0 0 0 0 0, .int .i64 30]) (results_cell_tmp_row (p := 2) (u := 3) (ty := 45) Try.results22 _ _ w.heap.size 45 _ (0, 0) _ rfl (setRow_heap _ _ _ _ _ _ hr1) Try.underlying45 rfl info45) rfl ?_
  exact ⟨rfl, below_setRow HB1 (by omega) _⟩

set_option maxRecDepth 10000 in
set_option maxHeartbeats 600000 in
theorem rdecodeDinode_read (p : Option Addr) (c : Nat) (xs : List Int) (w : World) (h : BI w p 32 xs) (hnc : 32 ≤ c) (res : Value) (hA : Hid (RGood xs → res = .tuple #[rdV xs, .int .i64 0])) (hB : Hid (¬ RGood xs → res = .tuple #[dinV 0 0 0 0 0 0 0 0 0, .int .i64 6])) (hz : ¬ xs = zers 32) (hs : (Num.numD xs 28 4 == Num.sum xs 28) = true) :
    Calls Try.prog 22 #[.slice p 32 c] w fun e w' => e = .returned res ∧ Below w.heap.size w w' := by
  obtain ⟨i0, hi, hz0, hz1, hz2⟩ := info_parts info5
  have HB := grew_alloc w (dinO 0 0 0 0 0 0 0 0 0)
  have hr0 := heap_new w (dinO 0 0 0 0 0 0 0 0 0)
  have h0 : BI (w.alloc (dinO 0 0 0 0 0 0 0 0 0)) p 32 xs := h.kept HB
  have hzz : (xs == zers 32) = false := by rw [beq_eq_false_iff_ne]; exact hz
  have hss : (Num.numD xs (32 - 4) 4 == Num.sum xs (32 - 4)) = true := hs
  clear hz hs
  have hr : ∀ w', BI w' p 32 xs → ∀ a k : Nat, 1 ≤ k → k ≤ 4 → a + k ≤ 32 → Calls Try.prog 49 #[.slice p 32 c, .int .i64 (a : Int), .int .i64 (k : Int)] w' fun e w2 => e = .returned (.int .i64 (Num.numD xs a k)) ∧ w2 = w' := fun w' hb a k h1 h4 h2 => rget_ok' p 32 c xs a k w' hb h1 h4 h2
  have HR := (show Hid _ from hr)
  clear hr
  go_enter Try.func22, Try.ntmps22
  go_wp2_with (first
    | (at_make; (generalize hwa : w.alloc (dinO 0 0 0 0 0 0 0 0 0) = wa at *; refine wpList_make_full _ rfl _ _ 26 rfl wa.heap.size 5 i0 (.int .u8 0) 1 Try.underlying26 hi hz0 hz1 .i64 .i64 _ _ 32 rfl rfl rfl rfl (by rw [hz2]; omega) (by unfold maxLen; omega) (Nat.le_refl _) ?_; intro w1 hown1 hgrow1; have hb1 := (Below.refl _ wa).grown hgrow1 (Nat.le_refl _) (by intro k hk; cases hk); have hrow := own_row hown1; rw [made_zers 32] at hrow; have ho := own_of_row HB.size (by decide) (zers_len 32) hrow; have hx1 := h0.kept hb1; have hq := same_any p (some ⟨wa.heap.size, 0, none⟩) 32 c 32 32 xs (zers 32) w1 hx1 (ho.bi (by omega) (zers_byt 32)); have HB1 := grew_trans HB hb1; have hr1 : w1.heap[w.heap.size]? = some (dinO 0 0 0 0 0 0 0 0 0) := (by rw [hb1.block _ (Array.getElem?_eq_some_iff.1 hr0).1]; exact hr0); rw [hzz] at hq; have hse := rsealed_ok p 32 c xs _ hx1 hnc (by omega); rw [hss] at hse; have g0 : Calls Try.prog 49 #[.slice p 32 c, .int .i64 0, .int .i64 1] w1 fun e w2 => e = .returned (.int .i64 (Num.numD xs 0 1)) ∧ w2 = w1 := HR.out _ hx1 0 1 (by omega) (by omega) (by omega); have g2 : Calls Try.prog 49 #[.slice p 32 c, .int .i64 2, .int .i64 2] w1 fun e w2 => e = .returned (.int .i64 (Num.numD xs 2 2)) ∧ w2 = w1 := HR.out _ hx1 2 2 (by omega) (by omega) (by omega); have g4 : Calls Try.prog 49 #[.slice p 32 c, .int .i64 4, .int .i64 4] w1 fun e w2 => e = .returned (.int .i64 (Num.numD xs 4 4)) ∧ w2 = w1 := HR.out _ hx1 4 4 (by omega) (by omega) (by omega); have g16 : Calls Try.prog 49 #[.slice p 32 c, .int .i64 16, .int .i64 2] w1 fun e w2 => e = .returned (.int .i64 (Num.numD xs 16 2)) ∧ w2 = w1 := HR.out _ hx1 16 2 (by omega) (by omega) (by omega); have g18 : Calls Try.prog 49 #[.slice p 32 c, .int .i64 18, .int .i64 2] w1 fun e w2 => e = .returned (.int .i64 (Num.numD xs 18 2)) ∧ w2 = w1 := HR.out _ hx1 18 2 (by omega) (by omega) (by omega); clear hown1 hgrow1 hrow ho))
    | (go_at_call 50; refine same_at hq ?_)
    | (go_at_call 48; refine same_at hse ?_)
    | (go_at_call 49; first | (refine same_at g0 ?_; clear g0) | (refine same_at g2 ?_; clear g2) | (refine same_at g4 ?_; clear g4) | (refine same_at g16 ?_; clear g16) | (refine same_at g18 ?_; clear g18)))
  have hw2 := heap_new w1 (.cells #[.int .i64 (Num.numD xs 0 1), .int .i64 (Num.numD xs 2 2), .int .i64 (Num.numD xs 4 4), .int .i64 0, .int .i64 0, .int .i64 0, .int .i64 0, .int .i64 (Num.numD xs 16 2), .int .i64 (Num.numD xs 18 2)] 45)
  have hg2 := grew_alloc w1 (.cells #[.int .i64 (Num.numD xs 0 1), .int .i64 (Num.numD xs 2 2), .int .i64 (Num.numD xs 4 4), .int .i64 0, .int .i64 0, .int .i64 0, .int .i64 0, .int .i64 (Num.numD xs 16 2), .int .i64 (Num.numD xs 18 2)] 45)
  have hr2 : (w1.alloc (.cells #[.int .i64 (Num.numD xs 0 1), .int .i64 (Num.numD xs 2 2), .int .i64 (Num.numD xs 4 4), .int .i64 0, .int .i64 0, .int .i64 0, .int .i64 0, .int .i64 (Num.numD xs 16 2), .int .i64 (Num.numD xs 18 2)] 45)).heap[w.heap.size]? = some (dinO 0 0 0 0 0 0 0 0 0) := by rw [hg2.block _ (Array.getElem?_eq_some_iff.1 hr1).1]; exact hr1
  have HB2 := grew_trans HB1 hg2
  have hlt0 : w.heap.size < w1.heap.size := (Array.getElem?_eq_some_iff.1 hr1).1
  generalize w1.alloc (.cells #[.int .i64 (Num.numD xs 0 1), .int .i64 (Num.numD xs 2 2), .int .i64 (Num.numD xs 4 4), .int .i64 0, .int .i64 0, .int .i64 0, .int .i64 0, .int .i64 (Num.numD xs 16 2), .int .i64 (Num.numD xs 18 2)] 45) = w2 at *
  generalize w1.heap.size = db at *
  clear hwa hr0 h0 hb1 hx1 hq hse hr1 HB1 hg2 HB
  go_loopw [31] (fun x wr => ∃ k : Nat, k ≤ 4 ∧ x = .int .i64 (k : Int) ∧ wr.heap[db]? = some (.cells (fill #[.int .i64 (Num.numD xs 0 1), .int .i64 (Num.numD xs 2 2), .int .i64 (Num.numD xs 4 4), .int .i64 0, .int .i64 0, .int .i64 0, .int .i64 0, .int .i64 (Num.numD xs 16 2), .int .i64 (Num.numD xs 18 2)] 3 (fun j => Num.numD xs (8 + 2 * j) 2) k) 45 (0, 0)) ∧ wr.heap[w.heap.size]? = some (dinO 0 0 0 0 0 0 0 0 0) ∧ Below w.heap.size w wr) (fun x _ => 4 - (intOf x).toNat)
  case atStart => exact ⟨0, by omega, rfl, hw2, hr2, HB2⟩
  case round =>
    obtain ⟨k, hk, rfl, hd, hr, HBr⟩ := hrel
    clear hw2 hr2 HB2
    by_cases hlt : k < 4
    · have hg : Calls Try.prog 49 #[.slice p 32 c, .int .i64 (8 + 2 * (k : Int)), .int .i64 2] wr fun e w2 => e = .returned (.int .i64 (Num.numD xs (8 + 2 * k) 2)) ∧ w2 = wr := by
        have := HR.out wr (h.kept HBr) (8 + 2 * k) 2 (by omega) (by omega) (by omega)
        rw [show (((8 + 2 * k : Nat) : Int)) = 8 + 2 * (k : Int) by omega] at this
        exact this
      have hfz := fill_after #[.int .i64 (Num.numD xs 0 1), .int .i64 (Num.numD xs 2 2), .int .i64 (Num.numD xs 4 4), .int .i64 0, .int .i64 0, .int .i64 0, .int .i64 0, .int .i64 (Num.numD xs 16 2), .int .i64 (Num.numD xs 18 2)] 3 (fun j => Num.numD xs (8 + 2 * j) 2) k (3 + k) (by omega)
      have hz : (#[.int .i64 (Num.numD xs 0 1), .int .i64 (Num.numD xs 2 2), .int .i64 (Num.numD xs 4 4), .int .i64 0, .int .i64 0, .int .i64 0, .int .i64 0, .int .i64 (Num.numD xs 16 2), .int .i64 (Num.numD xs 18 2)] : Array Value)[3 + k]? = some (.int .i64 0) := by
        rcases (by omega : k = 0 ∨ k = 1 ∨ k = 2 ∨ k = 3) with rfl | rfl | rfl | rfl <;> rfl
      rw [hz] at hfz
      have hst : fill #[.int .i64 (Num.numD xs 0 1), .int .i64 (Num.numD xs 2 2), .int .i64 (Num.numD xs 4 4), .int .i64 0, .int .i64 0, .int .i64 0, .int .i64 0, .int .i64 (Num.numD xs 16 2), .int .i64 (Num.numD xs 18 2)] 3 (fun j => Num.numD xs (8 + 2 * j) 2) (k + 1) = (fill #[.int .i64 (Num.numD xs 0 1), .int .i64 (Num.numD xs 2 2), .int .i64 (Num.numD xs 4 4), .int .i64 0, .int .i64 0, .int .i64 0, .int .i64 0, .int .i64 (Num.numD xs 16 2), .int .i64 (Num.numD xs 18 2)] 3 (fun j => Num.numD xs (8 + 2 * j) 2) k).setIfInBounds (3 + k) (.int .i64 (Num.numD xs (8 + 2 * k) 2)) := rfl
      generalize fill #[.int .i64 (Num.numD xs 0 1), .int .i64 (Num.numD xs 2 2), .int .i64 (Num.numD xs 4 4), .int .i64 0, .int .i64 0, .int .i64 0, .int .i64 0, .int .i64 (Num.numD xs 16 2), .int .i64 (Num.numD xs 18 2)] 3 (fun j => Num.numD xs (8 + 2 * j) 2) k = F at *
      generalize Num.numD xs (8 + 2 * k) 2 = v at *
      have HS := (show Hid _ from hst)
      have hkI : (k : Int) < 4 := by omega
      have hcell := cell_row hd (3 + k) _ hfz
      have hfr := frozen_of_row _ _ (3 + k) _ _ hd
      clear hz hst hfz
      go_wp2_with (first | (go_at_call 49; refine same_at hg ?_))
      go_roundw
      case rel =>
        refine ⟨k + 1, by omega, by go_num, ?_, ?_, HBr.setCell (Nat.le_of_lt hlt0) _⟩
        · rw [heap_set hd, HS.out]
        · rw [Below.heap_setCell _ _ _ _ (Nat.ne_of_lt hlt0)]; exact hr
      case measure => simp [intOf]; omega
    · obtain rfl : k = 4 := by omega
      have hff : fill #[.int .i64 (Num.numD xs 0 1), .int .i64 (Num.numD xs 2 2), .int .i64 (Num.numD xs 4 4), .int .i64 0, .int .i64 0, .int .i64 0, .int .i64 0, .int .i64 (Num.numD xs 16 2), .int .i64 (Num.numD xs 18 2)] 3 (fun j => Num.numD xs (8 + 2 * j) 2) 4 = #[.int .i64 (Num.numD xs 0 1), .int .i64 (Num.numD xs 2 2), .int .i64 (Num.numD xs 4 4), .int .i64 (Num.numD xs 8 2), .int .i64 (Num.numD xs 10 2), .int .i64 (Num.numD xs 12 2), .int .i64 (Num.numD xs 14 2), .int .i64 (Num.numD xs 16 2), .int .i64 (Num.numD xs 18 2)] := rfl
      rw [hff] at hd
      clear hff
      unfold RGood DGood at hA hB
      unfold rdV at hA
      generalize Num.numD xs 0 1 = m at *
      generalize Num.numD xs 2 2 = l at *
      generalize Num.numD xs 4 4 = s at *
      generalize Num.numD xs 8 2 = x1 at *
      generalize Num.numD xs 10 2 = x2 at *
      generalize Num.numD xs 12 2 = x3 at *
      generalize Num.numD xs 14 2 = x4 at *
      generalize Num.numD xs 16 2 = i at *
      generalize Num.numD xs 18 2 = j at *
      have hbr := h.kept HBr
      by_cases hm : DMay m l s x1 x2 x3 x4 i j
      · have hc := rencodeDinode_yes m l s x1 x2 x3 x4 i j hm wr
        have hby := dinB_byt m l s x1 x2 x3 x4 i j
        by_cases he : dinB m l s x1 x2 x3 x4 i j = xs
        · have hres := hA.out ⟨hm, he⟩
          have hqq : (xs == dinB m l s x1 x2 x3 x4 i j) = true := by rw [beq_iff_eq]; exact he.symm
          clear he hm hA hB
          go_wp2_with (first
            | (refine wpList_load_row rfl 45 _ rfl db rfl 45 _ (0, 0) _ hd Try.underlying45 rfl info45 ?_)
            | (go_at_call 20; refine Calls.mono hc ?_; rintro e w5 ⟨g, cap, rfl, ho, hb5⟩; have hr3 : w5.heap[w.heap.size]? = some (dinO 0 0 0 0 0 0 0 0 0) := (by rw [hb5.block _ (Array.getElem?_eq_some_iff.1 hr).1]; exact hr); have hd : w5.heap[db]? = _ := (hb5.block _ (Array.getElem?_eq_some_iff.1 hd).1).trans hd; have hq := same_any p (some ⟨g, 0, none⟩) 32 c 32 cap xs _ w5 (hbr.kept hb5) (ho.bi (by omega) hby); rw [hqq] at hq; have HB5 := grew_trans HBr hb5; clear ho hb5)
            | (go_at_call 50; refine same_at hq ?_)
            | (refine wpList_store_row rfl 45 _ _ rfl w.heap.size _ rfl rfl 45 _ hr3 info45 rfl (din_one m l s x1 x2 x3 x4 i j) ?_))
          refine bodyPost_ret (v := .tuple #[dinV m l s x1 x2 x3 x4 i j, .int .i64 0]) (results_cell_tmp_row (p := 2) (u := 3) (ty := 45) Try.results22 _ _ w.heap.size 45 _ (0, 0) _ rfl (setRow_heap _ _ _ _ _ _ hr3) Try.underlying45 rfl info45) rfl ?_
          exact ⟨by rw [hres], below_setRow HB5 (by omega) _⟩
        · have hres := hB.out (fun e => he e.2)
          have hqq : (xs == dinB m l s x1 x2 x3 x4 i j) = false := by rw [beq_eq_false_iff_ne]; exact fun e => he e.symm
          clear he hm hA hB
          go_wp2_with (first
            | (refine wpList_load_row rfl 45 _ rfl db rfl 45 _ (0, 0) _ hd Try.underlying45 rfl info45 ?_)
            | (go_at_call 20; refine Calls.mono hc ?_; rintro e w5 ⟨g, cap, rfl, ho, hb5⟩; have hr3 : w5.heap[w.heap.size]? = some (dinO 0 0 0 0 0 0 0 0 0) := (by rw [hb5.block _ (Array.getElem?_eq_some_iff.1 hr).1]; exact hr); have hq := same_any p (some ⟨g, 0, none⟩) 32 c 32 cap xs _ w5 (hbr.kept hb5) (ho.bi (by omega) hby); rw [hqq] at hq; have HB5 := grew_trans HBr hb5; clear ho hb5)
            | (go_at_call 50; refine same_at hq ?_)
            | (refine wpList_store_row rfl 45 _ _ rfl w.heap.size _ rfl rfl 45 _ hr3 info45 rfl (din_one 0 0 0 0 0 0 0 0 0) ?_))
          refine bodyPost_ret (v := .tuple #[dinV 0 0 0 0 0 0 0 0 0, .int .i64 6]) (results_cell_tmp_row (p := 2) (u := 3) (ty := 45) Try.results22 _ _ w.heap.size 45 _ (0, 0) _ rfl (setRow_heap _ _ _ _ _ _ hr3) Try.underlying45 rfl info45) rfl ?_
          exact ⟨by rw [hres], below_setRow HB5 (by omega) _⟩
      · have hc := rencodeDinode_no m l s x1 x2 x3 x4 i j hm wr
        have hres := hB.out (fun e => hm e.1)
        clear hm hA hB
        go_wp2_with (first
          | (refine wpList_load_row rfl 45 _ rfl db rfl 45 _ (0, 0) _ hd Try.underlying45 rfl info45 ?_)
          | (go_at_call 20; refine Calls.mono hc ?_; rintro e w5 ⟨rfl, hb5⟩; have hr3 : w5.heap[w.heap.size]? = some (dinO 0 0 0 0 0 0 0 0 0) := (by rw [hb5.block _ (Array.getElem?_eq_some_iff.1 hr).1]; exact hr); have HB5 := grew_trans HBr hb5; clear hb5)
          | (refine wpList_store_row rfl 45 _ _ rfl w.heap.size _ rfl rfl 45 _ hr3 info45 rfl (din_one 0 0 0 0 0 0 0 0 0) ?_))
        refine bodyPost_ret (v := .tuple #[dinV 0 0 0 0 0 0 0 0 0, .int .i64 6]) (results_cell_tmp_row (p := 2) (u := 3) (ty := 45) Try.results22 _ _ w.heap.size 45 _ (0, 0) _ rfl (setRow_heap _ _ _ _ _ _ hr3) Try.underlying45 rfl info45) rfl ?_
        exact ⟨by rw [hres], below_setRow HB5 (by omega) _⟩

theorem rdecodeDinode_ok (p : Option Addr) (n c : Nat) (xs : List Int) (w : World) (h : BI w p n xs) (hnc : n ≤ c) :
    Calls Try.prog 22 #[.slice p n c] w fun e w' => e = .returned (.tuple #[ddV n xs, .int .i64 (ddE n xs)]) ∧ Below w.heap.size w w' := by
  by_cases h1 : n = 32
  · subst h1
    by_cases hz : xs = zers 32
    · have e : ddE 32 xs = 0 := by unfold ddE; rw [if_neg (by omega), if_pos hz]
      have v : ddV 32 xs = dinV 0 0 0 0 0 0 0 0 0 := by unfold ddV; rw [if_pos e, hz]; unfold rdV; simp only [numD_zers]
      rw [e, v]
      exact rdecodeDinode_zero p c xs w h hnc hz
    · by_cases hs : (Num.numD xs 28 4 == Num.sum xs 28) = true
      · refine rdecodeDinode_read p c xs w h hnc _ ?_ ?_ hz hs
        · refine (show Hid _ from ?_)
          intro hg
          have e : ddE 32 xs = 0 := by unfold ddE; rw [if_neg (by omega), if_neg hz, if_neg (by simpa using hs), if_pos hg]
          have v : ddV 32 xs = rdV xs := by unfold ddV; rw [if_pos e]
          rw [e, v]
        · refine (show Hid _ from ?_)
          intro hg
          have e : ddE 32 xs = 6 := by unfold ddE; rw [if_neg (by omega), if_neg hz, if_neg (by simpa using hs), if_neg hg]
          have v : ddV 32 xs = dinV 0 0 0 0 0 0 0 0 0 := by unfold ddV; rw [if_neg (by rw [e]; decide)]
          rw [e, v]
      · have e : ddE 32 xs = 30 := by unfold ddE; rw [if_neg (by omega), if_neg hz, if_pos hs]
        have v : ddV 32 xs = dinV 0 0 0 0 0 0 0 0 0 := by unfold ddV; rw [if_neg (by rw [e]; decide)]
        rw [e, v]
        exact rdecodeDinode_sum p c xs w h hnc hz hs
  · have e : ddE n xs = 6 := by unfold ddE; rw [if_pos h1]
    have v : ddV n xs = dinV 0 0 0 0 0 0 0 0 0 := by unfold ddV; rw [if_neg (by rw [e]; decide)]
    rw [e, v]
    exact rdecodeDinode_len p n c w h.big h1
end Go.Proofs.Ytkmijjipnepnoaa
