/- Inodes out of bytes, by the program. -/
import Derived.Test.YtkmijjipnepnoabDForm
import Derived.Deep.MidRow
namespace Go.Proofs.Ytkmijjipnepnoab
open Go.RowKit
set_option linter.unusedVariables false

theorem map_byte_inj : ∀ {xs ys : List Int}, xs.map (Value.int .u8) = ys.map (Value.int .u8) → xs = ys
  | [], [], _ => rfl
  | [], _ :: _, h => by simp at h
  | _ :: _, [], h => by simp at h
  | x :: xs, y :: ys, h => by
    simp only [List.map_cons, List.cons.injEq] at h
    rw [map_byte_inj h.2]
    have := h.1
    injection this with _ e
    rw [e]

theorem eq36 (xs ys : List Int) (hx : xs.length = 32) (hy : ys.length = 32) (bx : Num.Byt xs) (by_ : Num.Byt ys) (w : World) : (Op.equalIn 10000 70 (.agg (xs.map (Value.int .u8)).toArray) (.agg (ys.map (Value.int .u8)).toArray)).run Try.prog w = .ok (decide (xs = ys)) w := by
  obtain ⟨l, h⟩ := lits_bytes Try.underlying70 cells36 0 xs hx bx
  obtain ⟨l', h'⟩ := lits_bytes Try.underlying70 cells36 0 ys hy by_
  have hf : ∀ zs : List Int, zs.length = 32 → (Value.agg (zs.map (Value.int .u8)).toArray).formed Try.prog 70 = true := by
    intro zs hz
    simp [Value.formed, Try.underlying70, cells36, hz]
  obtain ⟨r, hr, he⟩ := run_equalIn_deep (P := Try.prog) 9998 2 70 (by kernel_rfl) w _ _ _ _ l l' (hf xs hx) (hf ys hy) h h'
  suffices hrr : r = decide (xs = ys) by rw [hr, hrr]
  rw [Bool.eq_iff_iff, he, decide_eq_true_iff]
  constructor
  · rintro rfl
    have t : Try.prog.tiled 2 70 = true := by kernel_rfl
    exact map_byte_inj ((cells_of_lits 2 70 t _ _ _ h).trans (cells_of_lits 2 70 t _ _ _ h').symm)
  · rintro rfl
    rw [h] at h'
    exact Option.some.inj h'
theorem guard36 : Try.prog.eqGuardType Try.prog.depth 70 = false := by kernel_rfl
theorem info36 : (Try.prog.info? 70).map (·.size) = some 32 := by kernel_rfl
theorem zero36 : (#[.int .u8 0, .int .u8 0, .int .u8 0, .int .u8 0, .int .u8 0, .int .u8 0, .int .u8 0, .int .u8 0, .int .u8 0, .int .u8 0, .int .u8 0, .int .u8 0, .int .u8 0, .int .u8 0, .int .u8 0, .int .u8 0, .int .u8 0, .int .u8 0, .int .u8 0, .int .u8 0, .int .u8 0, .int .u8 0, .int .u8 0, .int .u8 0, .int .u8 0, .int .u8 0, .int .u8 0, .int .u8 0, .int .u8 0, .int .u8 0, .int .u8 0, .int .u8 0] : Array Value) = ((zers 32).map (Value.int .u8)).toArray := by rfl

theorem array36 (p : Option Addr) (c : Nat) (w : World) : (Instr.arrayAt 70 (.slice p 32 c)).run Try.prog w = .ok (.pointer p) w := by
  simp [Instr.arrayAt, Sem.run_bind, run_underlying Try.underlying70]

/-- What the bytes of an inode say. -/
abbrev rdV (xs : List Int) : Value := dinV (Num.numD xs 0 1) (Num.numD xs 2 2) (Num.numD xs 4 4) (Num.numD xs 8 2) (Num.numD xs 10 2) (Num.numD xs 12 2) (Num.numD xs 14 2) (Num.numD xs 16 2) (Num.numD xs 18 2)
def RGood (xs : List Int) : Prop := DGood xs (Num.numD xs 0 1) (Num.numD xs 2 2) (Num.numD xs 4 4) (Num.numD xs 8 2) (Num.numD xs 10 2) (Num.numD xs 12 2) (Num.numD xs 14 2) (Num.numD xs 16 2) (Num.numD xs 18 2)
instance (xs : List Int) : Decidable (RGood xs) := by unfold RGood; infer_instance
/-- The error that bytes tell, read as an inode. -/
def ddE (n : Nat) (xs : List Int) : Int := if n ≠ 32 then 6 else if xs = zers 32 then 0 else if ¬ (Num.numD xs 28 4 == Num.sum xs 28) = true then 30 else if RGood xs then 0 else 6
def ddV (n : Nat) (xs : List Int) : Value := if ddE n xs = 0 then rdV xs else dinV 0 0 0 0 0 0 0 0 0

set_option maxHeartbeats 1000000 in
theorem decodeDinode_len (p : Option Addr) (n c : Nat) (w : World) (hn : n ≤ 140737488355328) (h1 : ¬ n = 32) :
    Calls Try.prog 15 #[.slice p n c] w fun e w' => e = .returned (.tuple #[dinV 0 0 0 0 0 0 0 0 0, .int .i64 6]) ∧ Below w.heap.size w w' := by
  have HB := grew_alloc w (dinO 0 0 0 0 0 0 0 0 0)
  have hr0 := heap_new w (dinO 0 0 0 0 0 0 0 0 0)
  have hI : ¬ (n : Int) = 32 := by omega
  go_enter Try.func15, Try.ntmps15
  go_wp2_with (refine wpList_store_row rfl 28 _ _ rfl w.heap.size _ rfl rfl 28 _ hr0 info45 rfl (din_one 0 0 0 0 0 0 0 0 0) ?_)
  refine bodyPost_ret (v := .tuple #[dinV 0 0 0 0 0 0 0 0 0, .int .i64 6]) (results_cell_tmp_row (p := 2) (u := 3) (ty := 28) Try.results15 _ _ w.heap.size 28 _ (0, 0) _ rfl (setRow_heap _ _ _ _ _ _ hr0) Try.underlying28 rfl info45) rfl ?_
  exact ⟨rfl, below_setRow HB (by omega) _⟩

theorem bi_range {w : World} {b o n : Nat} {xs : List Int} (h : BI w (some ⟨b, o, none⟩) n xs) : w.rangeAt b o (xs.map (Value.int .u8)) := by
  intro j v hv
  have hj : j < n := by have := (List.getElem?_eq_some_iff.1 hv).1; simpa [h.len] using this
  obtain ⟨b', o', e, hc⟩ := h.cells (by omega)
  cases e
  rw [hc j hj]
  rw [List.getElem?_map] at hv
  rw [List.getD_eq_getElem?_getD]
  cases hx : xs[j]? with
  | none => rw [hx] at hv; cases hv
  | some x => rw [hx] at hv; simpa using hv

set_option maxRecDepth 10000 in
set_option maxHeartbeats 1000000 in
theorem decodeDinode_zero (p : Option Addr) (c : Nat) (xs : List Int) (w : World) (h : BI w p 32 xs) (hz : xs = zers 32) :
    Calls Try.prog 15 #[.slice p 32 c] w fun e w' => e = .returned (.tuple #[dinV 0 0 0 0 0 0 0 0 0, .int .i64 0]) ∧ Below w.heap.size w w' := by
  have HB := grew_alloc w (dinO 0 0 0 0 0 0 0 0 0)
  have hr0 := heap_new w (dinO 0 0 0 0 0 0 0 0 0)
  have h0 : BI (w.alloc (dinO 0 0 0 0 0 0 0 0 0)) p 32 xs := h.kept HB
  obtain ⟨b, o, rfl, hc⟩ := h0.cells (by omega)
  have hrg := bi_range h0
  have hq := eq36 xs (zers 32) h.len (zers_len 32) h.byt (zers_byt 32) (w.alloc (dinO 0 0 0 0 0 0 0 0 0))
  rw [decide_eq_true hz] at hq
  have hi36 : (Try.prog.info? 70).map (·.size) = some (xs.map (Value.int .u8)).length := by rw [List.length_map, h.len]; exact info36
  rw [← zero36] at hq
  have hat := array36
  clear hc h0 hz
  go_enter Try.func15, Try.ntmps15
  go_wp2_with (first
    | (refine wpList_load_mid rfl 70 _ rfl b o rfl _ _ hrg Try.underlying70 rfl hi36 ?_)
    | (refine wpList_eql_wanted (by rfl) 70 (.tmp 12) (.tmp 13) rfl _ _ rfl rfl guard36 _ hq ?_)
    | (refine wpList_store_row rfl 28 _ _ rfl w.heap.size _ rfl rfl 28 _ hr0 info45 rfl (din_one 0 0 0 0 0 0 0 0 0) ?_))
  refine bodyPost_ret (v := .tuple #[dinV 0 0 0 0 0 0 0 0 0, .int .i64 0]) (results_cell_tmp_row (p := 2) (u := 3) (ty := 28) Try.results15 _ _ w.heap.size 28 _ (0, 0) _ rfl (setRow_heap _ _ _ _ _ _ hr0) Try.underlying28 rfl info45) rfl ?_
  exact ⟨rfl, below_setRow HB (by omega) _⟩
set_option maxRecDepth 10000 in
set_option maxHeartbeats 1000000 in
theorem decodeDinode_sum (p : Option Addr) (c : Nat) (xs : List Int) (w : World) (h : BI w p 32 xs) (hnc : 32 ≤ c) (hz : ¬ xs = zers 32) (hs : ¬ (Num.numD xs 28 4 == Num.sum xs 28) = true) :
    Calls Try.prog 15 #[.slice p 32 c] w fun e w' => e = .returned (.tuple #[dinV 0 0 0 0 0 0 0 0 0, .int .i64 30]) ∧ Below w.heap.size w w' := by
  have HB := grew_alloc w (dinO 0 0 0 0 0 0 0 0 0)
  have hr0 := heap_new w (dinO 0 0 0 0 0 0 0 0 0)
  have h0 : BI (w.alloc (dinO 0 0 0 0 0 0 0 0 0)) p 32 xs := h.kept HB
  have hse := sealed_ok p 32 c xs _ h0 hnc (by omega)
  rw [show (Num.numD xs (32 - 4) 4 == Num.sum xs (32 - 4)) = false from Bool.eq_false_iff.2 hs] at hse
  clear hs
  obtain ⟨b, o, rfl, hc⟩ := h0.cells (by omega)
  have hrg := bi_range h0
  have hq := eq36 xs (zers 32) h.len (zers_len 32) h.byt (zers_byt 32) (w.alloc (dinO 0 0 0 0 0 0 0 0 0))
  rw [decide_eq_false hz] at hq
  have hi36 : (Try.prog.info? 70).map (·.size) = some (xs.map (Value.int .u8)).length := by rw [List.length_map, h.len]; exact info36
  rw [← zero36] at hq
  have hat := array36
  clear hc hz
  go_enter Try.func15, Try.ntmps15
  go_wp2_with (first
    | (refine wpList_load_mid rfl 70 _ rfl b o rfl _ _ hrg Try.underlying70 rfl hi36 ?_)
    | (refine wpList_eql_wanted (by rfl) 70 (.tmp 12) (.tmp 13) rfl _ _ rfl rfl guard36 _ hq ?_)
    | (go_at_call 48; refine same_at hse ?_)
    | (refine wpList_store_row rfl 28 _ _ rfl w.heap.size _ rfl rfl 28 _ hr0 info45 rfl (din_one 0 0 0 0 0 0 0 0 0) ?_))
  refine bodyPost_ret (v := .tuple #[dinV 0 0 0 0 0 0 0 0 0, .int .i64 30]) (results_cell_tmp_row (p := 2) (u := 3) (ty := 28) Try.results15 _ _ w.heap.size 28 _ (0, 0) _ rfl (setRow_heap _ _ _ _ _ _ hr0) Try.underlying28 rfl info45) rfl ?_
  exact ⟨rfl, below_setRow HB (by omega) _⟩

set_option maxRecDepth 10000 in
set_option maxHeartbeats 1000000 in
theorem decodeDinode_good (p : Option Addr) (c : Nat) (xs : List Int) (w : World) (h : BI w p 32 xs) (hnc : 32 ≤ c) (hz : ¬ xs = zers 32) (hs : (Num.numD xs 28 4 == Num.sum xs 28) = true) (hg : RGood xs) :
    Calls Try.prog 15 #[.slice p 32 c] w fun e w' => e = .returned (.tuple #[rdV xs, .int .i64 0]) ∧ Below w.heap.size w w' := by
  have HB := grew_alloc w (dinO 0 0 0 0 0 0 0 0 0)
  have hr0 := heap_new w (dinO 0 0 0 0 0 0 0 0 0)
  have h0 : BI (w.alloc (dinO 0 0 0 0 0 0 0 0 0)) p 32 xs := h.kept HB
  have hse := sealed_ok p 32 c xs _ h0 hnc (by omega)
  rw [show (Num.numD xs (32 - 4) 4 == Num.sum xs (32 - 4)) = true from hs] at hse
  clear hs
  have hrd := readDinode_ok p c xs _ h0
  have HG := (show Hid _ from hg)
  clear hg
  unfold RGood at HG
  obtain ⟨b, o, rfl, hc⟩ := h0.cells (by omega)
  have hrg := bi_range h0
  have hq := eq36 xs (zers 32) h.len (zers_len 32) h.byt (zers_byt 32) (w.alloc (dinO 0 0 0 0 0 0 0 0 0))
  rw [decide_eq_false hz] at hq
  have hi36 : (Try.prog.info? 70).map (·.size) = some (xs.map (Value.int .u8)).length := by rw [List.length_map, h.len]; exact info36
  rw [← zero36] at hq
  have hat := array36
  clear hc hz
  go_enter Try.func15, Try.ntmps15
  go_wp2_with (first
    | (refine wpList_load_mid rfl 70 _ rfl b o rfl _ _ hrg Try.underlying70 rfl hi36 ?_)
    | (refine wpList_eql_wanted (by rfl) 70 (.tmp 12) (.tmp 13) rfl _ _ rfl rfl guard36 _ hq ?_)
    | (go_at_call 48; refine same_at hse ?_)
    | (go_at_call 55; refine grew_at hrd ?_; intro w1 hb1; have HB1 := grew_trans HB hb1; have hr1 : w1.heap[w.heap.size]? = some (dinO 0 0 0 0 0 0 0 0 0) := (by rw [hb1.block _ (by rw [size_alloc]; omega)]; exact hr0); have hfo := dform_ok (Num.numD xs 0 1) (Num.numD xs 2 2) (Num.numD xs 4 4) (Num.numD xs 8 2) (Num.numD xs 10 2) (Num.numD xs 12 2) (Num.numD xs 14 2) (Num.numD xs 16 2) (Num.numD xs 18 2) _ 32 c xs w1 (h0.kept hb1); rw [if_pos HG.out] at hfo)
    | (go_at_call 54; refine grew_at hfo ?_; intro w2 hb2; have HB2 := grew_trans HB1 hb2; have hr2 : w2.heap[w.heap.size]? = some (dinO 0 0 0 0 0 0 0 0 0) := (by rw [hb2.block _ (Array.getElem?_eq_some_iff.1 hr1).1]; exact hr1))
    | (refine wpList_store_row rfl 28 _ _ rfl w.heap.size _ rfl rfl 28 _ hr2 info45 rfl (din_one _ _ _ _ _ _ _ _ _) ?_))
  refine bodyPost_ret (v := .tuple #[rdV xs, .int .i64 0]) (results_cell_tmp_row (p := 2) (u := 3) (ty := 28) Try.results15 _ _ w.heap.size 28 _ (0, 0) _ rfl (setRow_heap _ _ _ _ _ _ hr2) Try.underlying28 rfl info45) rfl ?_
  exact ⟨rfl, below_setRow HB2 (by omega) _⟩

set_option maxRecDepth 10000 in
set_option maxHeartbeats 1000000 in
theorem decodeDinode_bad (p : Option Addr) (c : Nat) (xs : List Int) (w : World) (h : BI w p 32 xs) (hnc : 32 ≤ c) (hz : ¬ xs = zers 32) (hs : (Num.numD xs 28 4 == Num.sum xs 28) = true) (hg : ¬ RGood xs) :
    Calls Try.prog 15 #[.slice p 32 c] w fun e w' => e = .returned (.tuple #[dinV 0 0 0 0 0 0 0 0 0, .int .i64 6]) ∧ Below w.heap.size w w' := by
  have HB := grew_alloc w (dinO 0 0 0 0 0 0 0 0 0)
  have hr0 := heap_new w (dinO 0 0 0 0 0 0 0 0 0)
  have h0 : BI (w.alloc (dinO 0 0 0 0 0 0 0 0 0)) p 32 xs := h.kept HB
  have hse := sealed_ok p 32 c xs _ h0 hnc (by omega)
  rw [show (Num.numD xs (32 - 4) 4 == Num.sum xs (32 - 4)) = true from hs] at hse
  clear hs
  have hrd := readDinode_ok p c xs _ h0
  have HG := (show Hid _ from hg)
  clear hg
  unfold RGood at HG
  obtain ⟨b, o, rfl, hc⟩ := h0.cells (by omega)
  have hrg := bi_range h0
  have hq := eq36 xs (zers 32) h.len (zers_len 32) h.byt (zers_byt 32) (w.alloc (dinO 0 0 0 0 0 0 0 0 0))
  rw [decide_eq_false hz] at hq
  have hi36 : (Try.prog.info? 70).map (·.size) = some (xs.map (Value.int .u8)).length := by rw [List.length_map, h.len]; exact info36
  rw [← zero36] at hq
  have hat := array36
  clear hc hz
  go_enter Try.func15, Try.ntmps15
  go_wp2_with (first
    | (refine wpList_load_mid rfl 70 _ rfl b o rfl _ _ hrg Try.underlying70 rfl hi36 ?_)
    | (refine wpList_eql_wanted (by rfl) 70 (.tmp 12) (.tmp 13) rfl _ _ rfl rfl guard36 _ hq ?_)
    | (go_at_call 48; refine same_at hse ?_)
    | (go_at_call 55; refine grew_at hrd ?_; intro w1 hb1; have HB1 := grew_trans HB hb1; have hr1 : w1.heap[w.heap.size]? = some (dinO 0 0 0 0 0 0 0 0 0) := (by rw [hb1.block _ (by rw [size_alloc]; omega)]; exact hr0); have hfo := dform_ok (Num.numD xs 0 1) (Num.numD xs 2 2) (Num.numD xs 4 4) (Num.numD xs 8 2) (Num.numD xs 10 2) (Num.numD xs 12 2) (Num.numD xs 14 2) (Num.numD xs 16 2) (Num.numD xs 18 2) _ 32 c xs w1 (h0.kept hb1); rw [if_neg HG.out] at hfo)
    | (go_at_call 54; refine grew_at hfo ?_; intro w2 hb2; have HB2 := grew_trans HB1 hb2; have hr2 : w2.heap[w.heap.size]? = some (dinO 0 0 0 0 0 0 0 0 0) := (by rw [hb2.block _ (Array.getElem?_eq_some_iff.1 hr1).1]; exact hr1))
    | (refine wpList_store_row rfl 28 _ _ rfl w.heap.size _ rfl rfl 28 _ hr2 info45 rfl (din_one _ _ _ _ _ _ _ _ _) ?_))
  refine bodyPost_ret (v := .tuple #[dinV 0 0 0 0 0 0 0 0 0, .int .i64 6]) (results_cell_tmp_row (p := 2) (u := 3) (ty := 28) Try.results15 _ _ w.heap.size 28 _ (0, 0) _ rfl (setRow_heap _ _ _ _ _ _ hr2) Try.underlying28 rfl info45) rfl ?_
  exact ⟨rfl, below_setRow HB2 (by omega) _⟩

theorem numD_zers : ∀ (k n a : Nat), Num.numD (zers n) a k = 0
  | 0, _, _ => rfl
  | k + 1, n, a => by
    show (zers n).getD a 0 + 256 * Num.numD (zers n) (a + 1) k = 0
    rw [numD_zers k n (a + 1)]
    unfold zers
    rw [List.getD_eq_getElem?_getD]
    by_cases h : a < n
    · rw [List.getElem?_replicate_of_lt h]; rfl
    · rw [List.getElem?_eq_none (by simp; omega)]; rfl

theorem decodeDinode_ok (p : Option Addr) (n c : Nat) (xs : List Int) (w : World) (h : BI w p n xs) (hnc : n ≤ c) :
    Calls Try.prog 15 #[.slice p n c] w fun e w' => e = .returned (.tuple #[ddV n xs, .int .i64 (ddE n xs)]) ∧ Below w.heap.size w w' := by
  by_cases h1 : n = 32
  · subst h1
    by_cases hz : xs = zers 32
    · have e : ddE 32 xs = 0 := by unfold ddE; rw [if_neg (by omega), if_pos hz]
      have v : ddV 32 xs = dinV 0 0 0 0 0 0 0 0 0 := by unfold ddV; rw [if_pos e, hz]; unfold rdV; simp only [numD_zers]
      rw [e, v]
      exact decodeDinode_zero p c xs w h hz
    · by_cases hs : (Num.numD xs 28 4 == Num.sum xs 28) = true
      · by_cases hg : RGood xs
        · have e : ddE 32 xs = 0 := by unfold ddE; rw [if_neg (by omega), if_neg hz, if_neg (by simpa using hs), if_pos hg]
          have v : ddV 32 xs = rdV xs := by unfold ddV; rw [if_pos e]
          rw [e, v]
          exact decodeDinode_good p c xs w h hnc hz hs hg
        · have e : ddE 32 xs = 6 := by unfold ddE; rw [if_neg (by omega), if_neg hz, if_neg (by simpa using hs), if_neg hg]
          have v : ddV 32 xs = dinV 0 0 0 0 0 0 0 0 0 := by unfold ddV; rw [if_neg (by rw [e]; decide)]
          rw [e, v]
          exact decodeDinode_bad p c xs w h hnc hz hs hg
      · have e : ddE 32 xs = 30 := by unfold ddE; rw [if_neg (by omega), if_neg hz, if_pos hs]
        have v : ddV 32 xs = dinV 0 0 0 0 0 0 0 0 0 := by unfold ddV; rw [if_neg (by rw [e]; decide)]
        rw [e, v]
        exact decodeDinode_sum p c xs w h hnc hz hs
  · have e : ddE n xs = 6 := by unfold ddE; rw [if_pos h1]
    have v : ddV n xs = dinV 0 0 0 0 0 0 0 0 0 := by unfold ddV; rw [if_neg (by rw [e]; decide)]
    rw [e, v]
    exact decodeDinode_len p n c w h.big h1
end Go.Proofs.Ytkmijjipnepnoab
