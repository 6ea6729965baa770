/- The document's superblocks out of bytes. -/
import Derived.Test.YtkmijjipnepnoaaForm
namespace Go.Proofs.Ytkmijjipnepnoaa
open Go.RowKit
set_option linter.unusedVariables false

theorem gE_ok (n a k : Nat) (h1 : 1 ≤ k) (h4 : k ≤ 4) (h2 : a + k ≤ n) : Num.gE n (a : Int) (k : Int) = 0 := by
  unfold Num.gE
  rw [if_neg (by omega), if_neg (by omega)]

theorem rget_ok' (p : Option Addr) (n c : Nat) (xs : List Int) (a k : Nat) (w : World) (h : BI w p n xs) (h1 : 1 ≤ k) (h4 : k ≤ 4) (h2 : a + k ≤ n) :
    Calls Try.prog 49 #[.slice p n c, .int .i64 (a : Int), .int .i64 (k : Int)] w fun e w' => e = .returned (.int .i64 (Num.numD xs a k)) ∧ w' = w := by
  have hg := rget_any p n c xs a k w h
  rw [Num.gN, gE_ok n a k h1 h4 h2, if_pos rfl, Int.toNat_natCast, Int.toNat_natCast] at hg
  generalize Num.numD xs a k = v at *
  go_enter Try.func49, Try.ntmps49
  go_wp2_with fail
  refine same_at hg ?_
  go_wp2
  go_ret
  exact ⟨rfl, rfl⟩

theorem same_any (p q : Option Addr) (n c m d : Nat) (xs ys : List Int) (w : World) (h : BI w p n xs) (k : BI w q m ys) :
    Calls Try.prog 50 #[.slice p n c, .slice q m d] w fun e w' => e = .returned (.bool (xs == ys)) ∧ w' = w := by
  have h1 := h.conv c
  have h2 := k.conv d
  go_enter Try.func50, Try.ntmps50
  go_wp2
  go_ret
  exact ⟨ret_bool (str_beq h.byt k.byt), rfl⟩

theorem boll_str {xs : List Int} (h : Num.Byt xs) : ((strOfNums xs).toList == [98, 111, 108, 108]) = (xs == [98, 111, 108, 108]) := by
  have := str_beq h (ys := [98, 111, 108, 108]) (Num.byt_of_wf (by decide))
  rw [show (strOfNums [98, 111, 108, 108]).toList = [98, 111, 108, 108] from Lib.strOfNums_toList _] at this
  exact this

set_option maxRecDepth 10000 in
set_option maxHeartbeats 1000000 in
theorem rdecodeSuper_magic (p : Option Addr) (c : Nat) (xs : List Int) (w : World) (h : BI w p 128 xs) (hnc : 128 ≤ c) (h2 : ¬ xs.take 4 = [98, 111, 108, 108]) :
    Calls Try.prog 13 #[.slice p 128 c] w fun e w' => e = .returned (.tuple #[superV 0 0 0 0, .int .i64 31]) ∧ Below w.heap.size w w' := by
  have HB := grew_alloc w (superO 0 0 0 0)
  have hr0 := heap_new w (superO 0 0 0 0)
  have h0 : BI (w.alloc (superO 0 0 0 0)) p 128 xs := h.kept HB
  have h4 := (h0.take 4 (by decide)).conv c
  have hst := boll_str (h0.take 4 (by decide)).byt
  rw [show (xs.take 4 == [98, 111, 108, 108]) = false from beq_eq_false_iff_ne.2 h2] at hst
  go_enter Try.func13, Try.ntmps13
  go_wp2_with (first
    | (refine wpList_store_row rfl 25 _ _ rfl w.heap.size _ rfl rfl 25 _ hr0 info25 rfl (super_one 0 0 0 0) ?_))
  refine bodyPost_ret (v := .tuple #[superV 0 0 0 0, .int .i64 31]) (results_cell_tmp_row (p := 2) (u := 3) (ty := 25) Try.results13 _ _ w.heap.size 25 _ (0, 0) _ rfl (setRow_heap _ _ _ _ _ _ hr0) Try.underlying25 rfl info25) rfl ?_
  exact ⟨rfl, below_setRow HB (by omega) _⟩

set_option maxRecDepth 10000 in
set_option maxHeartbeats 1000000 in
theorem rdecodeSuper_sum (p : Option Addr) (c : Nat) (xs : List Int) (w : World) (h : BI w p 128 xs) (hnc : 128 ≤ c) (h2 : xs.take 4 = [98, 111, 108, 108]) (h3 : ¬ Num.numD xs 124 4 = Num.sum xs 124) :
    Calls Try.prog 13 #[.slice p 128 c] w fun e w' => e = .returned (.tuple #[superV 0 0 0 0, .int .i64 30]) ∧ Below w.heap.size w w' := by
  have HB := grew_alloc w (superO 0 0 0 0)
  have hr0 := heap_new w (superO 0 0 0 0)
  have h0 : BI (w.alloc (superO 0 0 0 0)) p 128 xs := h.kept HB
  have h4 := (h0.take 4 (by decide)).conv c
  have hst := boll_str (h0.take 4 (by decide)).byt
  rw [show (xs.take 4 == [98, 111, 108, 108]) = true from beq_iff_eq.2 h2] at hst
  clear h2
  have hse := rsealed_ok p 128 c xs _ h0 hnc (by decide)
  rw [show (Num.numD xs (128 - 4) 4 == Num.sum xs (128 - 4)) = false from beq_eq_false_iff_ne.2 h3] at hse
  go_enter Try.func13, Try.ntmps13
  go_wp2_with (first
    | (go_at_call 48; refine same_at hse ?_)
    | (refine wpList_store_row rfl 25 _ _ rfl w.heap.size _ rfl rfl 25 _ hr0 info25 rfl (super_one 0 0 0 0) ?_))
  refine bodyPost_ret (v := .tuple #[superV 0 0 0 0, .int .i64 30]) (results_cell_tmp_row (p := 2) (u := 3) (ty := 25) Try.results13 _ _ w.heap.size 25 _ (0, 0) _ rfl (setRow_heap _ _ _ _ _ _ hr0) Try.underlying25 rfl info25) rfl ?_
  exact ⟨rfl, below_setRow HB (by omega) _⟩

set_option maxRecDepth 10000 in
set_option maxHeartbeats 1000000 in
theorem rdecodeSuper_no (p : Option Addr) (c : Nat) (xs : List Int) (w : World) (h : BI w p 128 xs) (hnc : 128 ≤ c) (h2 : xs.take 4 = [98, 111, 108, 108]) (h3 : Num.numD xs 124 4 = Num.sum xs 124) (hm : ¬ SMay (rG xs) (rB xs) (rI xs) (rM xs)) :
    Calls Try.prog 13 #[.slice p 128 c] w fun e w' => e = .returned (.tuple #[superV 0 0 0 0, .int .i64 6]) ∧ Below w.heap.size w w' := by
  have HB := grew_alloc w (superO 0 0 0 0)
  have hr0 := heap_new w (superO 0 0 0 0)
  have h0 : BI (w.alloc (superO 0 0 0 0)) p 128 xs := h.kept HB
  have h4 := (h0.take 4 (by decide)).conv c
  have hst := boll_str (h0.take 4 (by decide)).byt
  rw [show (xs.take 4 == [98, 111, 108, 108]) = true from beq_iff_eq.2 h2] at hst
  clear h2
  have hse := rsealed_ok p 128 c xs _ h0 hnc (by decide)
  rw [show (Num.numD xs (128 - 4) 4 == Num.sum xs (128 - 4)) = true from beq_iff_eq.2 h3] at hse
  have b4 := Num.numD_bd h.byt 1 5
  have g4 := rget_ok' p 128 c xs 4 1 _ h0 (by decide) (by decide) (by decide)
  have g5 := rget_ok' p 128 c xs 5 1 _ h0 (by decide) (by decide) (by decide)
  have g6 := rget_ok' p 128 c xs 6 1 _ h0 (by decide) (by decide) (by decide)
  have g8 := rget_ok' p 128 c xs 8 4 _ h0 (by decide) (by decide) (by decide)
  unfold rG rB rI rM at *
  generalize Num.numD xs 4 1 = a at *
  generalize Num.numD xs 5 1 = b at *
  generalize Num.numD xs 6 1 = i at *
  generalize Num.numD xs 8 4 = m at *
  have HB2 : Below w.heap.size w ((w.alloc (superO 0 0 0 0)).alloc (superO a (b + 1) i m)) := grew_trans HB (grew_alloc _ _)
  have hr2 : ((w.alloc (superO 0 0 0 0)).alloc (superO a (b + 1) i m)).heap[w.heap.size]? = some (superO 0 0 0 0) := at_old hr0
  have hx2 : ((w.alloc (superO 0 0 0 0)).alloc (superO a (b + 1) i m)).heap[w.heap.size + 1]? = some (superO a (b + 1) i m) := by
    have := heap_new (w.alloc (superO 0 0 0 0)) (superO a (b + 1) i m)
    rwa [size_alloc] at this
  have h02 := h0.kept (grew_alloc (w.alloc (superO 0 0 0 0)) (superO a (b + 1) i m))
  go_enter Try.func13, Try.ntmps13
  go_wp2_with (first
    | (go_at_call 48; refine same_at hse ?_)
    | (go_at_call_of 49 (Value.int .i64 8); refine same_at g8 ?_)
    | (go_at_call_of 49 (Value.int .i64 6); refine same_at g6 ?_)
    | (go_at_call_of 49 (Value.int .i64 5); refine same_at g5 ?_)
    | (go_at_call 49; refine same_at g4 ?_))
  clear g4 g5 g6 g8 hse hst h4 hr0 h0
  generalize (w.alloc (superO 0 0 0 0)).alloc (superO a (b + 1) i m) = w0 at *
  refine grew_at (rencodeSuper_no _ _ _ _ hm _) ?_
  intro w1 hb1
  have hr3 : w1.heap[w.heap.size]? = some (superO 0 0 0 0) := by rw [hb1.block _ (Array.getElem?_eq_some_iff.1 hr2).1]; exact hr2
  go_wp2_with (first
    | (refine wpList_store_row rfl 25 _ _ rfl w.heap.size _ rfl rfl 25 _ hr3 info25 rfl (super_one 0 0 0 0) ?_))
  refine bodyPost_ret (v := .tuple #[superV 0 0 0 0, .int .i64 6]) (results_cell_tmp_row (p := 2) (u := 3) (ty := 25) Try.results13 _ _ w.heap.size 25 _ (0, 0) _ rfl (setRow_heap _ _ _ _ _ _ hr3) Try.underlying25 rfl info25) rfl ?_
  exact ⟨rfl, below_setRow (grew_trans HB2 hb1) (by omega) _⟩

set_option maxRecDepth 10000 in
set_option maxHeartbeats 1000000 in
theorem rdecodeSuper_bad (p : Option Addr) (c : Nat) (xs : List Int) (w : World) (h : BI w p 128 xs) (hnc : 128 ≤ c) (h2 : xs.take 4 = [98, 111, 108, 108]) (h3 : Num.numD xs 124 4 = Num.sum xs 124) (hm : SMay (rG xs) (rB xs) (rI xs) (rM xs)) (he : ¬ superS (rG xs) (rB xs) (rI xs) (rM xs) = xs) :
    Calls Try.prog 13 #[.slice p 128 c] w fun e w' => e = .returned (.tuple #[superV 0 0 0 0, .int .i64 6]) ∧ Below w.heap.size w w' := by
  have HB := grew_alloc w (superO 0 0 0 0)
  have hr0 := heap_new w (superO 0 0 0 0)
  have h0 : BI (w.alloc (superO 0 0 0 0)) p 128 xs := h.kept HB
  have h4 := (h0.take 4 (by decide)).conv c
  have hst := boll_str (h0.take 4 (by decide)).byt
  rw [show (xs.take 4 == [98, 111, 108, 108]) = true from beq_iff_eq.2 h2] at hst
  clear h2
  have hse := rsealed_ok p 128 c xs _ h0 hnc (by decide)
  rw [show (Num.numD xs (128 - 4) 4 == Num.sum xs (128 - 4)) = true from beq_iff_eq.2 h3] at hse
  have b4 := Num.numD_bd h.byt 1 5
  have g4 := rget_ok' p 128 c xs 4 1 _ h0 (by decide) (by decide) (by decide)
  have g5 := rget_ok' p 128 c xs 5 1 _ h0 (by decide) (by decide) (by decide)
  have g6 := rget_ok' p 128 c xs 6 1 _ h0 (by decide) (by decide) (by decide)
  have g8 := rget_ok' p 128 c xs 8 4 _ h0 (by decide) (by decide) (by decide)
  unfold rG rB rI rM at *
  generalize Num.numD xs 4 1 = a at *
  generalize Num.numD xs 5 1 = b at *
  generalize Num.numD xs 6 1 = i at *
  generalize Num.numD xs 8 4 = m at *
  have HB2 : Below w.heap.size w ((w.alloc (superO 0 0 0 0)).alloc (superO a (b + 1) i m)) := grew_trans HB (grew_alloc _ _)
  have hr2 : ((w.alloc (superO 0 0 0 0)).alloc (superO a (b + 1) i m)).heap[w.heap.size]? = some (superO 0 0 0 0) := at_old hr0
  have hx2 : ((w.alloc (superO 0 0 0 0)).alloc (superO a (b + 1) i m)).heap[w.heap.size + 1]? = some (superO a (b + 1) i m) := by
    have := heap_new (w.alloc (superO 0 0 0 0)) (superO a (b + 1) i m)
    rwa [size_alloc] at this
  have h02 := h0.kept (grew_alloc (w.alloc (superO 0 0 0 0)) (superO a (b + 1) i m))
  go_enter Try.func13, Try.ntmps13
  go_wp2_with (first
    | (go_at_call 48; refine same_at hse ?_)
    | (go_at_call_of 49 (Value.int .i64 8); refine same_at g8 ?_)
    | (go_at_call_of 49 (Value.int .i64 6); refine same_at g6 ?_)
    | (go_at_call_of 49 (Value.int .i64 5); refine same_at g5 ?_)
    | (go_at_call 49; refine same_at g4 ?_))
  clear g4 g5 g6 g8 hse hst h4 hr0 h0
  generalize (w.alloc (superO 0 0 0 0)).alloc (superO a (b + 1) i m) = w0 at *
  refine Calls.mono (rencodeSuper_yes _ _ _ _ hm _) ?_
  rintro e w1 ⟨g, cap, rfl, ho, hb1⟩
  have hr3 : w1.heap[w.heap.size]? = some (superO 0 0 0 0) := by rw [hb1.block _ (Array.getElem?_eq_some_iff.1 hr2).1]; exact hr2
  have hx3 : w1.heap[w.heap.size + 1]? = some (superO a (b + 1) i m) := by rw [hb1.block _ (Array.getElem?_eq_some_iff.1 hx2).1]; exact hx2
  have hq := same_any p _ 128 c 128 cap xs _ w1 (h02.kept hb1) (ho.bi (by omega) (superS_byt a (b + 1) i m))
  rw [show (xs == superS a (b + 1) i m) = false from beq_eq_false_iff_ne.2 (fun e => he e.symm)] at hq
  go_wp2_with (first
    | (go_at_call 50; refine same_at hq ?_)
    | (refine wpList_store_row rfl 25 _ _ rfl w.heap.size _ rfl rfl 25 _ hr3 info25 rfl (super_one 0 0 0 0) ?_))
  refine bodyPost_ret (v := .tuple #[superV 0 0 0 0, .int .i64 6]) (results_cell_tmp_row (p := 2) (u := 3) (ty := 25) Try.results13 _ _ w.heap.size 25 _ (0, 0) _ rfl (setRow_heap _ _ _ _ _ _ hr3) Try.underlying25 rfl info25) rfl ?_
  exact ⟨rfl, below_setRow (grew_trans HB2 hb1) (by omega) _⟩

set_option maxRecDepth 10000 in
set_option maxHeartbeats 1000000 in
theorem rdecodeSuper_yes (p : Option Addr) (c : Nat) (xs : List Int) (w : World) (h : BI w p 128 xs) (hnc : 128 ≤ c) (h2 : xs.take 4 = [98, 111, 108, 108]) (h3 : Num.numD xs 124 4 = Num.sum xs 124) (hm : SMay (rG xs) (rB xs) (rI xs) (rM xs)) (he : superS (rG xs) (rB xs) (rI xs) (rM xs) = xs) :
    Calls Try.prog 13 #[.slice p 128 c] w fun e w' => e = .returned (.tuple #[superV (rG xs) (rB xs) (rI xs) (rM xs), .int .i64 0]) ∧ Below w.heap.size w w' := by
  have HB := grew_alloc w (superO 0 0 0 0)
  have hr0 := heap_new w (superO 0 0 0 0)
  have h0 : BI (w.alloc (superO 0 0 0 0)) p 128 xs := h.kept HB
  have h4 := (h0.take 4 (by decide)).conv c
  have hst := boll_str (h0.take 4 (by decide)).byt
  rw [show (xs.take 4 == [98, 111, 108, 108]) = true from beq_iff_eq.2 h2] at hst
  clear h2
  have hse := rsealed_ok p 128 c xs _ h0 hnc (by decide)
  rw [show (Num.numD xs (128 - 4) 4 == Num.sum xs (128 - 4)) = true from beq_iff_eq.2 h3] at hse
  have b4 := Num.numD_bd h.byt 1 5
  have g4 := rget_ok' p 128 c xs 4 1 _ h0 (by decide) (by decide) (by decide)
  have g5 := rget_ok' p 128 c xs 5 1 _ h0 (by decide) (by decide) (by decide)
  have g6 := rget_ok' p 128 c xs 6 1 _ h0 (by decide) (by decide) (by decide)
  have g8 := rget_ok' p 128 c xs 8 4 _ h0 (by decide) (by decide) (by decide)
  unfold rG rB rI rM at *
  generalize Num.numD xs 4 1 = a at *
  generalize Num.numD xs 5 1 = b at *
  generalize Num.numD xs 6 1 = i at *
  generalize Num.numD xs 8 4 = m at *
  have HB2 : Below w.heap.size w ((w.alloc (superO 0 0 0 0)).alloc (superO a (b + 1) i m)) := grew_trans HB (grew_alloc _ _)
  have hr2 : ((w.alloc (superO 0 0 0 0)).alloc (superO a (b + 1) i m)).heap[w.heap.size]? = some (superO 0 0 0 0) := at_old hr0
  have hx2 : ((w.alloc (superO 0 0 0 0)).alloc (superO a (b + 1) i m)).heap[w.heap.size + 1]? = some (superO a (b + 1) i m) := by
    have := heap_new (w.alloc (superO 0 0 0 0)) (superO a (b + 1) i m)
    rwa [size_alloc] at this
  have h02 := h0.kept (grew_alloc (w.alloc (superO 0 0 0 0)) (superO a (b + 1) i m))
  go_enter Try.func13, Try.ntmps13
  go_wp2_with (first
    | (go_at_call 48; refine same_at hse ?_)
    | (go_at_call_of 49 (Value.int .i64 8); refine same_at g8 ?_)
    | (go_at_call_of 49 (Value.int .i64 6); refine same_at g6 ?_)
    | (go_at_call_of 49 (Value.int .i64 5); refine same_at g5 ?_)
    | (go_at_call 49; refine same_at g4 ?_))
  clear g4 g5 g6 g8 hse hst h4 hr0 h0
  generalize (w.alloc (superO 0 0 0 0)).alloc (superO a (b + 1) i m) = w0 at *
  refine Calls.mono (rencodeSuper_yes _ _ _ _ hm _) ?_
  rintro e w1 ⟨g, cap, rfl, ho, hb1⟩
  have hr3 : w1.heap[w.heap.size]? = some (superO 0 0 0 0) := by rw [hb1.block _ (Array.getElem?_eq_some_iff.1 hr2).1]; exact hr2
  have hx3 : w1.heap[w.heap.size + 1]? = some (superO a (b + 1) i m) := by rw [hb1.block _ (Array.getElem?_eq_some_iff.1 hx2).1]; exact hx2
  have hq := same_any p _ 128 c 128 cap xs _ w1 (h02.kept hb1) (ho.bi (by omega) (superS_byt a (b + 1) i m))
  rw [show (xs == superS a (b + 1) i m) = true from beq_iff_eq.2 he.symm] at hq
  clear he
  go_wp2_with (first
    | (go_at_call 50; refine same_at hq ?_)
    | (refine wpList_load_row rfl 25 _ rfl (w.heap.size + 1) rfl 25 _ (0, 0) _ hx3 Try.underlying25 rfl info25 ?_)
    | (refine wpList_store_row rfl 25 _ _ rfl w.heap.size _ rfl rfl 25 _ hr3 info25 rfl (super_one a (b + 1) i m) ?_))
  refine bodyPost_ret (v := .tuple #[superV a (b + 1) i m, .int .i64 0]) (results_cell_tmp_row (p := 2) (u := 3) (ty := 25) Try.results13 _ _ w.heap.size 25 _ (0, 0) _ rfl (setRow_heap _ _ _ _ _ _ hr3) Try.underlying25 rfl info25) rfl ?_
  exact ⟨rfl, below_setRow (grew_trans HB2 hb1) (by omega) _⟩

set_option maxHeartbeats 400000 in
theorem rdecodeSuper_len (p : Option Addr) (n c : Nat) (w : World) (hn : n ≤ 140737488355328) (h1 : ¬ n = 128) :
    Calls Try.prog 13 #[.slice p n c] w fun e w' => e = .returned (.tuple #[superV 0 0 0 0, .int .i64 6]) ∧ Below w.heap.size w w' := by
  have HB := grew_alloc w (superO 0 0 0 0)
  have hr0 := heap_new w (superO 0 0 0 0)
  have hI : ¬ (n : Int) = 128 := by omega
  go_enter Try.func13, Try.ntmps13
  go_wp2_with (refine wpList_store_row rfl 25 _ _ rfl w.heap.size _ rfl rfl 25 _ hr0 info25 rfl (super_one 0 0 0 0) ?_)
  refine bodyPost_ret (v := .tuple #[superV 0 0 0 0, .int .i64 6]) (results_cell_tmp_row (p := 2) (u := 3) (ty := 25) Try.results13 _ _ w.heap.size 25 _ (0, 0) _ rfl (setRow_heap _ _ _ _ _ _ hr0) Try.underlying25 rfl info25) rfl ?_
  exact ⟨rfl, below_setRow HB (by omega) _⟩

theorem rdecodeSuper_ok (p : Option Addr) (n c : Nat) (xs : List Int) (w : World) (h : BI w p n xs) (hnc : n ≤ c) :
    Calls Try.prog 13 #[.slice p n c] w fun e w' => e = .returned (.tuple #[decV n xs, .int .i64 (decE n xs)]) ∧ Below w.heap.size w w' := by
  by_cases h1 : n = 128
  · subst h1
    by_cases h2 : xs.take 4 = [98, 111, 108, 108]
    · by_cases h3 : Num.numD xs 124 4 = Num.sum xs 124
      · by_cases hg : SGood xs (rG xs) (rB xs) (rI xs) (rM xs)
        · have e1 : decE 128 xs = 0 := by unfold decE; rw [if_neg (by simp), if_neg (by simp [h2]), if_neg (by simp [h3]), if_pos hg]
          have e2 : decV 128 xs = superV (rG xs) (rB xs) (rI xs) (rM xs) := by unfold decV; rw [if_pos e1]
          rw [e1, e2]
          exact rdecodeSuper_yes p c xs w h hnc h2 h3 hg.1 hg.2
        · have e1 : decE 128 xs = 6 := by unfold decE; rw [if_neg (by simp), if_neg (by simp [h2]), if_neg (by simp [h3]), if_neg hg]
          have e2 : decV 128 xs = superV 0 0 0 0 := by unfold decV; rw [e1]; rfl
          rw [e1, e2]
          by_cases hm : SMay (rG xs) (rB xs) (rI xs) (rM xs)
          · exact rdecodeSuper_bad p c xs w h hnc h2 h3 hm (fun e => hg ⟨hm, e⟩)
          · exact rdecodeSuper_no p c xs w h hnc h2 h3 hm
      · have e1 : decE 128 xs = 30 := by unfold decE; rw [if_neg (by simp), if_neg (by simp [h2]), if_pos h3]
        have e2 : decV 128 xs = superV 0 0 0 0 := by unfold decV; rw [e1]; rfl
        rw [e1, e2]
        exact rdecodeSuper_sum p c xs w h hnc h2 h3
    · have e1 : decE 128 xs = 31 := by unfold decE; rw [if_neg (by simp), if_pos h2]
      have e2 : decV 128 xs = superV 0 0 0 0 := by unfold decV; rw [e1]; rfl
      rw [e1, e2]
      exact rdecodeSuper_magic p c xs w h hnc h2
  · have e1 : decE n xs = 6 := by unfold decE; rw [if_pos h1]
    have e2 : decV n xs = superV 0 0 0 0 := by unfold decV; rw [e1]; rfl
    rw [e1, e2]
    exact rdecodeSuper_len p n c w h.big h1
end Go.Proofs.Ytkmijjipnepnoaa
