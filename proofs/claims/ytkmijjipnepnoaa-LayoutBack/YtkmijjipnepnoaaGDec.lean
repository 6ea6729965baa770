/- Headers out of bytes, by the program. -/
import Derived.Test.YtkmijjipnepnoaaGForm
namespace Go.Proofs.Ytkmijjipnepnoaa
open Go.RowKit
set_option linter.unusedVariables false

/-- What the bytes of a header say. -/
def rN (xs : List Int) : Int := Num.numD xs 2 1
def rY (xs : List Int) : List Int := (xs.drop 4).take 40
/-- The error that bytes tell, read as a header. -/
def gdE (n : Nat) (xs : List Int) : Int := if n ≠ 128 then 6 else if ¬ xs.take 2 = [104, 100] then 31 else if GGood xs (rN xs) (rY xs) then 0 else 6
def gdN (n : Nat) (xs : List Int) : Int := if gdE n xs = 0 then rN xs else 0
def gdY (n : Nat) (xs : List Int) : List Int := if gdE n xs = 0 then rY xs else zers 40

set_option maxRecDepth 10000 in
set_option maxHeartbeats 1000000 in
theorem decodeGroup_len (p : Option Addr) (n c : Nat) (w : World) (hn : n ≤ 140737488355328) (h1 : ¬ n = 128) :
    Calls Try.prog 17 #[.slice p n c] w fun e w' => e = .returned (.tuple #[groupV 0 (zers 40), .int .i64 6]) ∧ Below w.heap.size w w' := by
  have HB := grew_alloc w (groupO 0 (zers 40))
  have hr0 := heap_new w (groupO 0 (zers 40))
  have hr1 := hr0
  dsimp only [groupO] at hr1
  rw [zero38] at hr1
  have hI : ¬ (n : Int) = 128 := by omega
  go_enter Try.func17, Try.ntmps17
  go_wp2_with (refine wpList_store_row rfl 38 _ _ rfl w.heap.size _ rfl rfl 38 _ hr1 (by rw [← zero38]; exact info38 0 (zers 40) (zers_len 40)) (by rw [← zero38]) (by rw [← zero38]; exact group_one 0 (zers 40)) ?_)
  rw [← zero38]
  refine bodyPost_ret (v := .tuple #[groupV 0 (zers 40), .int .i64 6]) (results_cell_tmp_row (p := 2) (u := 3) (ty := 38) Try.results17 _ _ w.heap.size 38 _ (0, 0) _ rfl (setRow_heap _ _ _ _ _ _ hr0) Try.underlying38 rfl (info38 0 (zers 40) (zers_len 40))) rfl ?_
  exact ⟨rfl, below_setRow HB (by omega) _⟩

set_option maxRecDepth 10000 in
set_option maxHeartbeats 1000000 in
theorem decodeGroup_magic (p : Option Addr) (c : Nat) (xs : List Int) (w : World) (h : BI w p 128 xs) (hnc : 128 ≤ c) (h2 : ¬ xs.take 2 = [104, 100]) :
    Calls Try.prog 17 #[.slice p 128 c] w fun e w' => e = .returned (.tuple #[groupV 0 (zers 40), .int .i64 31]) ∧ Below w.heap.size w w' := by
  have HB := grew_alloc w (groupO 0 (zers 40))
  have hr0 := heap_new w (groupO 0 (zers 40))
  have h0 : BI (w.alloc (groupO 0 (zers 40))) p 128 xs := h.kept HB
  obtain ⟨wl, hcv, hl, hbl⟩ := conv_lit (w.alloc (groupO 0 (zers 40))) [104, 100]
  have hrl : wl.heap[w.heap.size]? = some (groupO 0 (zers 40)) := by rw [hbl.block _ (by rw [size_alloc]; omega)]; exact hr0
  have hrl' := hrl
  dsimp only [groupO] at hrl'
  rw [zero38] at hrl'
  have hbi := hl.bi (Num.byt_of_wf (by decide)) (by decide)
  have hxl := h0.kept hbl
  have HBl := grew_trans HB hbl
  have hcv' : (convert 26 26 (.slice (some ⟨w.heap.size + 1, 0, none⟩) 2 2)).run Try.prog ((w.alloc (groupO 0 (zers 40))).alloc (.cells #[.int .u8 104, .int .u8 100] 5)) = .ok (.slice (some ⟨w.heap.size + 1, 0, none⟩) 2 2) wl := by
    have := hcv 2 2
    rw [size_alloc] at this
    exact this
  dsimp only [groupO] at hcv'
  rw [zero38] at hcv'
  rw [size_alloc] at hbi
  have hpre := hasPrefix_ok p _ 128 c 2 2 xs _ wl hxl hbi hnc
  clear hcv hl hbl h0 hr0
  rw [show decide (2 ≤ 128 ∧ xs.take 2 = [104, 100]) = false from decide_eq_false (fun k => h2 k.2)] at hpre
  go_enter Try.func17, Try.ntmps17
  go_wp2_with (first
    | (go_at_call 44; refine same_at hpre ?_)
    | (refine wpList_store_row rfl 38 _ _ rfl w.heap.size _ rfl rfl 38 _ hrl' (by rw [← zero38]; exact info38 0 (zers 40) (zers_len 40)) (by rw [← zero38]) (by rw [← zero38]; exact group_one 0 (zers 40)) ?_))
  rw [← zero38]
  refine bodyPost_ret (v := .tuple #[groupV 0 (zers 40), .int .i64 31]) (results_cell_tmp_row (p := 2) (u := 3) (ty := 38) Try.results17 _ _ w.heap.size 38 _ (0, 0) _ rfl (setRow_heap _ _ _ _ _ _ hrl) Try.underlying38 rfl (info38 0 (zers 40) (zers_len 40))) rfl ?_
  exact ⟨rfl, below_setRow HBl (by omega) _⟩

set_option maxRecDepth 10000 in
set_option maxHeartbeats 1000000 in
theorem decodeGroup_in (p : Option Addr) (c : Nat) (xs : List Int) (w : World) (h : BI w p 128 xs) (hnc : 128 ≤ c) (h2 : xs.take 2 = [104, 100]) :
    Calls Try.prog 17 #[.slice p 128 c] w fun e w' => e = .returned (if GGood xs (rN xs) (rY xs) then .tuple #[groupV (rN xs) (rY xs), .int .i64 0] else .tuple #[groupV 0 (zers 40), .int .i64 6]) ∧ Below w.heap.size w w' := by
  have HB := grew_alloc w (groupO 0 (zers 40))
  have hr0 := heap_new w (groupO 0 (zers 40))
  have h0 : BI (w.alloc (groupO 0 (zers 40))) p 128 xs := h.kept HB
  obtain ⟨wl, hcv, hl, hbl⟩ := conv_lit (w.alloc (groupO 0 (zers 40))) [104, 100]
  have hrl : wl.heap[w.heap.size]? = some (groupO 0 (zers 40)) := by rw [hbl.block _ (by rw [size_alloc]; omega)]; exact hr0
  have hrl' := hrl
  dsimp only [groupO] at hrl'
  rw [zero38] at hrl'
  have hbi := hl.bi (Num.byt_of_wf (by decide)) (by decide)
  have hxl := h0.kept hbl
  have HBl := grew_trans HB hbl
  have hcv' : (convert 26 26 (.slice (some ⟨w.heap.size + 1, 0, none⟩) 2 2)).run Try.prog ((w.alloc (groupO 0 (zers 40))).alloc (.cells #[.int .u8 104, .int .u8 100] 5)) = .ok (.slice (some ⟨w.heap.size + 1, 0, none⟩) 2 2) wl := by
    have := hcv 2 2
    rw [size_alloc] at this
    exact this
  dsimp only [groupO] at hcv'
  rw [zero38] at hcv'
  rw [size_alloc] at hbi
  have hpre := hasPrefix_ok p _ 128 c 2 2 xs _ wl hxl hbi hnc
  clear hcv hl hbl h0 hr0
  rw [show decide (2 ≤ 128 ∧ xs.take 2 = [104, 100]) = true from decide_eq_true ⟨by decide, h2⟩] at hpre
  have hrd := readGroup_ok p c xs wl hxl
  have hyl : ((xs.drop 4).take 40).length = 40 := by have := h.len; simp; omega
  have hyb : Num.Byt ((xs.drop 4).take 40) := byt_take (byt_drop h.byt _) _
  have hfo := fun w' (hb : Below wl.heap.size wl w') => gform_ok (rN xs) (rY xs) hyl hyb p 128 c xs w' (hxl.kept hb)
  have hyl : (rY xs).length = 40 := hyl
  have hrd : Calls Try.prog 54 #[.slice p 128 c] wl fun e w' => e = .returned (groupV (rN xs) (rY xs)) ∧ Below wl.heap.size wl w' := hrd
  generalize rN xs = a at *
  generalize rY xs = ys at *
  by_cases hg : GGood xs a ys
  · simp only [if_pos hg] at hfo ⊢
    go_enter Try.func17, Try.ntmps17
    go_wp2_with (first
      | (go_at_call 44; refine same_at hpre ?_)
      | (go_at_call 54; refine grew_at hrd ?_; intro w1 hb1; have hr1 : w1.heap[w.heap.size]? = some (groupO 0 (zers 40)) := by rw [hb1.block _ (Array.getElem?_eq_some_iff.1 hrl).1]; exact hrl)
      | (go_at_call 53; refine grew_at (hfo _ hb1) ?_; intro w2 hb2; have hr2 : w2.heap[w.heap.size]? = some (groupO 0 (zers 40)) := by rw [hb2.block _ (Array.getElem?_eq_some_iff.1 hr1).1]; exact hr1)
      | (refine wpList_store_row rfl 38 _ _ rfl w.heap.size _ rfl rfl 38 _ hr2 (info38 a ys hyl) ((groupA_size 0 (zers 40) (zers_len 40)).trans (groupA_size a ys hyl).symm) (group_one a ys) ?_))
    refine bodyPost_ret (v := .tuple #[groupV a ys, .int .i64 0]) (results_cell_tmp_row (p := 2) (u := 3) (ty := 38) Try.results17 _ _ w.heap.size 38 _ (0, 0) _ rfl (setRow_heap _ _ _ _ _ _ hr2) Try.underlying38 rfl (info38 a ys hyl)) rfl ?_
    exact ⟨rfl, below_setRow (grew_trans (grew_trans HBl hb1) hb2) (by omega) _⟩
  · simp only [if_neg hg] at hfo ⊢
    go_enter Try.func17, Try.ntmps17
    go_wp2_with (first
      | (go_at_call 44; refine same_at hpre ?_)
      | (go_at_call 54; refine grew_at hrd ?_; intro w1 hb1; have hr1 : w1.heap[w.heap.size]? = some (groupO 0 (zers 40)) := by rw [hb1.block _ (Array.getElem?_eq_some_iff.1 hrl).1]; exact hrl)
      | (go_at_call 53; refine grew_at (hfo _ hb1) ?_; intro w2 hb2; have hr2 : w2.heap[w.heap.size]? = some (groupO 0 (zers 40)) := by rw [hb2.block _ (Array.getElem?_eq_some_iff.1 hr1).1]; exact hr1)
      | (refine wpList_store_row rfl 38 _ _ rfl w.heap.size _ rfl rfl 38 _ hr2 (info38 0 (zers 40) (zers_len 40)) rfl (group_one 0 (zers 40)) ?_))
    refine bodyPost_ret (v := .tuple #[groupV 0 (zers 40), .int .i64 6]) (results_cell_tmp_row (p := 2) (u := 3) (ty := 38) Try.results17 _ _ w.heap.size 38 _ (0, 0) _ rfl (setRow_heap _ _ _ _ _ _ hr2) Try.underlying38 rfl (info38 0 (zers 40) (zers_len 40))) rfl ?_
    exact ⟨rfl, below_setRow (grew_trans (grew_trans HBl hb1) hb2) (by omega) _⟩

theorem decodeGroup_ok (p : Option Addr) (n c : Nat) (xs : List Int) (w : World) (h : BI w p n xs) (hnc : n ≤ c) :
    Calls Try.prog 17 #[.slice p n c] w fun e w' => e = .returned (.tuple #[groupV (gdN n xs) (gdY n xs), .int .i64 (gdE n xs)]) ∧ Below w.heap.size w w' := by
  by_cases h1 : n = 128
  · subst h1
    by_cases h2 : xs.take 2 = [104, 100]
    · refine (decodeGroup_in p c xs w h hnc h2).mono ?_
      rintro e w' ⟨rfl, hb⟩
      refine ⟨?_, hb⟩
      unfold gdN gdY
      by_cases hg : GGood xs (rN xs) (rY xs)
      · have e1 : gdE 128 xs = 0 := by unfold gdE; rw [if_neg (by simp), if_neg (by simp [h2]), if_pos hg]
        rw [e1, if_pos hg, if_pos rfl, if_pos rfl]
      · have e1 : gdE 128 xs = 6 := by unfold gdE; rw [if_neg (by simp), if_neg (by simp [h2]), if_neg hg]
        rw [e1, if_neg hg, if_neg (by decide), if_neg (by decide)]
    · have e1 : gdE 128 xs = 31 := by unfold gdE; rw [if_neg (by simp), if_pos h2]
      unfold gdN gdY
      rw [e1, if_neg (by decide), if_neg (by decide)]
      exact decodeGroup_magic p c xs w h hnc h2
  · have e1 : gdE n xs = 6 := by unfold gdE; rw [if_pos h1]
    unfold gdN gdY
    rw [e1, if_neg (by decide), if_neg (by decide)]
    exact decodeGroup_len p n c w h.big h1
end Go.Proofs.Ytkmijjipnepnoaa
