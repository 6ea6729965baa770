/- KGForm KGDec A0 KHas -/
import Derived.Test.YthdlpeejmmobmaaGreatAo18
import Derived.Test.YthdlpeejmmobmaaGreatAo17
import Derived.Test.YthdlpeejmmobmaaGreatAo01

namespace Go.Proofs.YthdlpeejmmobmaaGreat.Mk
open Go.RowKit
set_option maxRecDepth 100000
set_option linter.unusedVariables false

theorem encodeGroup_yes1 (N : Int) (ys : List Int) (hl : ys.length = 40) (hy : Num.Byt ys) (h : GMay N) (w : World) : Calls Tryz.prog 143 #[groupV N ys] w fun e w' => ∃ g cap, e = .returned (.tuple #[.slice (some ⟨g, 0, none⟩) 128 cap, .int .i64 0]) ∧ Own w.heap.size w' g 128 cap (groupL N ys) ∧ Below w.heap.size w w' :=
  (encodeGroup_yes N ys hl hy h w).mono fun e w' ⟨g, he, ho, hb⟩ => ⟨g, 128, he, ho, hb⟩
theorem call15 (args : Array Value) (w : World) : (callFunc 143 args).run Tryz.prog w = .ok (.enter 143 args) w := by kernel_rfl
/-- The bytes are those that are written for what they say. -/
def GGood (xs : List Int) (N : Int) (ys : List Int) : Prop := GMay N ∧ groupL N ys = xs
instance (xs : List Int) (N : Int) (ys : List Int) : Decidable (GGood xs N ys) := by unfold GGood; infer_instance

set_option maxRecDepth 10000 in
set_option maxHeartbeats 1000000 in
theorem gform_yes (N : Int) (ys : List Int) (hl : ys.length = 40) (hy : Num.Byt ys) (p : Option Addr) (n cc : Nat) (xs : List Int) (w : World) (h : BI w p n xs) (hm : GMay N) (he : groupL N ys = xs) :
    Calls Tryz.prog 141 #[groupV N ys, .slice p n cc, .func (.func 143) #[] #[]] w fun e w' => e = .returned (.tuple #[groupV N ys, .int .i64 0]) ∧ Below w.heap.size w w' := by
  have hc9 := call15
  have HB := (grew_alloc w (groupO N ys)).trans ((grew_alloc (w.alloc (groupO N ys)) (groupO 0 (zers 40))).mono (by rw [size_alloc]; omega))
  have hx0 : ((w.alloc (groupO N ys)).alloc (groupO 0 (zers 40))).heap[w.heap.size]? = some (groupO N ys) := by rw [Below.heap_alloc _ _ _ (by rw [size_alloc]; omega)]; exact heap_new _ _
  have hr0 : ((w.alloc (groupO N ys)).alloc (groupO 0 (zers 40))).heap[w.heap.size + 1]? = some (groupO 0 (zers 40)) := by
    have := heap_new (w.alloc (groupO N ys)) (groupO 0 (zers 40))
    rwa [size_alloc] at this
  have hsz : ((w.alloc (groupO N ys)).alloc (groupO 0 (zers 40))).heap.size = w.heap.size + 2 := by rw [size_alloc, size_alloc]
  have h0 : BI ((w.alloc (groupO N ys)).alloc (groupO 0 (zers 40))) p n xs := h.kept HB
  have hx0' := hx0
  dsimp only [groupO] at hx0'
  rw [zero38] at hx0'
  go_enter Tryz.func141, Tryz.ntmps141
  go_wp2_with (refine wpList_load_row rfl 64 _ rfl w.heap.size rfl 64 _ (0, 0) _ hx0' Tryz.underlying64 rfl (info38 N ys hl) ?_)
  rw [← zero38]
  clear hx0'
  generalize (w.alloc (groupO N ys)).alloc (groupO 0 (zers 40)) = w0 at *
  refine Calls.mono (encodeGroup_yes1 N ys hl hy hm _) ?_
  rintro e w1 ⟨g, cap, rfl, ho, hb1⟩
  have hx1 : w1.heap[w.heap.size]? = some (groupO N ys) := by rw [hb1.block _ (by omega)]; exact hx0
  have hr1 : w1.heap[w.heap.size + 1]? = some (groupO 0 (zers 40)) := by rw [hb1.block _ (by omega)]; exact hr0
  have hq := equal_any _ p 128 cap n cc _ xs w1 (ho.bi (by omega) (groupL_byt N ys hy)) (h0.kept hb1)
  have HB1 := grew_trans HB hb1
  have heq : (groupL N ys == xs) = true := by rw [beq_iff_eq]; exact he
  rw [heq] at hq
  clear hx0 hr0 hsz ho h0 heq he h
  go_wp2_with (first
    | (go_at_call 86; refine same_at hq ?_)
    | (refine wpList_load_row rfl 64 _ rfl w.heap.size rfl 64 _ (0, 0) _ hx1 Tryz.underlying64 rfl (info38 N ys hl) ?_)
    | (refine wpList_store_row rfl 64 _ _ rfl (w.heap.size + 1) _ rfl rfl 64 _ hr1 (info38 N ys hl) ((groupA_size 0 (zers 40) (zers_len 40)).trans (groupA_size N ys hl).symm) (group_one N ys) ?_))
  refine bodyPost_ret (v := .tuple #[groupV N ys, .int .i64 0]) (results_cell_tmp_row (p := 6) (u := 7) (ty := 64) Tryz.results141 _ _ (w.heap.size + 1) 64 _ (0, 0) _ rfl (setRow_heap _ _ _ _ _ _ hr1) Tryz.underlying64 rfl (info38 N ys hl)) rfl ?_
  exact ⟨rfl, below_setRow HB1 (by omega) _⟩

set_option maxRecDepth 10000 in
set_option maxHeartbeats 1000000 in
theorem gform_bad (N : Int) (ys : List Int) (hl : ys.length = 40) (hy : Num.Byt ys) (p : Option Addr) (n cc : Nat) (xs : List Int) (w : World) (h : BI w p n xs) (hm : GMay N) (he : ¬ groupL N ys = xs) :
    Calls Tryz.prog 141 #[groupV N ys, .slice p n cc, .func (.func 143) #[] #[]] w fun e w' => e = .returned (.tuple #[groupV 0 (zers 40), .int .i64 6]) ∧ Below w.heap.size w w' := by
  have hc9 := call15
  have HB := (grew_alloc w (groupO N ys)).trans ((grew_alloc (w.alloc (groupO N ys)) (groupO 0 (zers 40))).mono (by rw [size_alloc]; omega))
  have hx0 : ((w.alloc (groupO N ys)).alloc (groupO 0 (zers 40))).heap[w.heap.size]? = some (groupO N ys) := by rw [Below.heap_alloc _ _ _ (by rw [size_alloc]; omega)]; exact heap_new _ _
  have hr0 : ((w.alloc (groupO N ys)).alloc (groupO 0 (zers 40))).heap[w.heap.size + 1]? = some (groupO 0 (zers 40)) := by
    have := heap_new (w.alloc (groupO N ys)) (groupO 0 (zers 40))
    rwa [size_alloc] at this
  have hsz : ((w.alloc (groupO N ys)).alloc (groupO 0 (zers 40))).heap.size = w.heap.size + 2 := by rw [size_alloc, size_alloc]
  have h0 : BI ((w.alloc (groupO N ys)).alloc (groupO 0 (zers 40))) p n xs := h.kept HB
  have hx0' := hx0
  dsimp only [groupO] at hx0'
  rw [zero38] at hx0'
  go_enter Tryz.func141, Tryz.ntmps141
  go_wp2_with (refine wpList_load_row rfl 64 _ rfl w.heap.size rfl 64 _ (0, 0) _ hx0' Tryz.underlying64 rfl (info38 N ys hl) ?_)
  rw [← zero38]
  clear hx0'
  generalize (w.alloc (groupO N ys)).alloc (groupO 0 (zers 40)) = w0 at *
  refine Calls.mono (encodeGroup_yes1 N ys hl hy hm _) ?_
  rintro e w1 ⟨g, cap, rfl, ho, hb1⟩
  have hx1 : w1.heap[w.heap.size]? = some (groupO N ys) := by rw [hb1.block _ (by omega)]; exact hx0
  have hr1 : w1.heap[w.heap.size + 1]? = some (groupO 0 (zers 40)) := by rw [hb1.block _ (by omega)]; exact hr0
  have hq := equal_any _ p 128 cap n cc _ xs w1 (ho.bi (by omega) (groupL_byt N ys hy)) (h0.kept hb1)
  have HB1 := grew_trans HB hb1
  have heq : (groupL N ys == xs) = false := by rw [beq_eq_false_iff_ne]; exact he
  rw [heq] at hq
  have hr2 : (w1.alloc (groupO 0 (zers 40))).heap[w.heap.size + 1]? = some (groupO 0 (zers 40)) := at_old hr1
  have hr3 := hr2
  dsimp only [groupO] at hr3
  rw [zero38] at hr3
  clear hx0 hr0 hsz ho h0 heq he h
  go_wp2_with (first
    | (go_at_call 86; refine same_at hq ?_)
    | (refine wpList_load_row rfl 64 _ rfl w1.heap.size rfl 64 _ (0, 0) _ (heap_new w1 _) Tryz.underlying64 rfl (by rw [← zero38]; exact info38 0 (zers 40) (zers_len 40)) ?_)
    | (refine wpList_store_row rfl 64 _ _ rfl (w.heap.size + 1) _ rfl rfl 64 _ hr3 (by rw [← zero38]; exact info38 0 (zers 40) (zers_len 40)) rfl (by rw [← zero38]; exact group_one 0 (zers 40)) ?_))
  rw [← zero38]
  refine bodyPost_ret (v := .tuple #[groupV 0 (zers 40), .int .i64 6]) (results_cell_tmp_row (p := 6) (u := 7) (ty := 64) Tryz.results141 _ _ (w.heap.size + 1) 64 _ (0, 0) _ rfl (setRow_heap _ _ _ _ _ _ hr2) Tryz.underlying64 rfl (info38 0 (zers 40) (zers_len 40))) rfl ?_
  exact ⟨rfl, below_setRow (HB1.alloc HB1.size _) (by omega) _⟩

set_option maxRecDepth 10000 in
set_option maxHeartbeats 1000000 in
theorem gform_no (N : Int) (ys : List Int) (hl : ys.length = 40) (hy : Num.Byt ys) (p : Option Addr) (n cc : Nat) (xs : List Int) (w : World) (h : BI w p n xs) (hm : ¬ GMay N) :
    Calls Tryz.prog 141 #[groupV N ys, .slice p n cc, .func (.func 143) #[] #[]] w fun e w' => e = .returned (.tuple #[groupV 0 (zers 40), .int .i64 6]) ∧ Below w.heap.size w w' := by
  have hc9 := call15
  have HB := (grew_alloc w (groupO N ys)).trans ((grew_alloc (w.alloc (groupO N ys)) (groupO 0 (zers 40))).mono (by rw [size_alloc]; omega))
  have hx0 : ((w.alloc (groupO N ys)).alloc (groupO 0 (zers 40))).heap[w.heap.size]? = some (groupO N ys) := by rw [Below.heap_alloc _ _ _ (by rw [size_alloc]; omega)]; exact heap_new _ _
  have hr0 : ((w.alloc (groupO N ys)).alloc (groupO 0 (zers 40))).heap[w.heap.size + 1]? = some (groupO 0 (zers 40)) := by
    have := heap_new (w.alloc (groupO N ys)) (groupO 0 (zers 40))
    rwa [size_alloc] at this
  have hsz : ((w.alloc (groupO N ys)).alloc (groupO 0 (zers 40))).heap.size = w.heap.size + 2 := by rw [size_alloc, size_alloc]
  have hx0' := hx0
  dsimp only [groupO] at hx0'
  rw [zero38] at hx0'
  go_enter Tryz.func141, Tryz.ntmps141
  go_wp2_with (refine wpList_load_row rfl 64 _ rfl w.heap.size rfl 64 _ (0, 0) _ hx0' Tryz.underlying64 rfl (info38 N ys hl) ?_)
  rw [← zero38]
  clear hx0'
  generalize (w.alloc (groupO N ys)).alloc (groupO 0 (zers 40)) = w0 at *
  refine grew_at (encodeGroup_no N ys hl hm _) ?_
  intro w1 hb1
  have hr1 : w1.heap[w.heap.size + 1]? = some (groupO 0 (zers 40)) := by rw [hb1.block _ (by omega)]; exact hr0
  have HB1 := grew_trans HB hb1
  have hr2 : (w1.alloc (groupO 0 (zers 40))).heap[w.heap.size + 1]? = some (groupO 0 (zers 40)) := at_old hr1
  have hr3 := hr2
  dsimp only [groupO] at hr3
  rw [zero38] at hr3
  clear hx0 hr0 hsz h
  go_wp2_with (first
    | (refine wpList_load_row rfl 64 _ rfl w1.heap.size rfl 64 _ (0, 0) _ (heap_new w1 _) Tryz.underlying64 rfl (by rw [← zero38]; exact info38 0 (zers 40) (zers_len 40)) ?_)
    | (refine wpList_store_row rfl 64 _ _ rfl (w.heap.size + 1) _ rfl rfl 64 _ hr3 (by rw [← zero38]; exact info38 0 (zers 40) (zers_len 40)) rfl (by rw [← zero38]; exact group_one 0 (zers 40)) ?_))
  rw [← zero38]
  refine bodyPost_ret (v := .tuple #[groupV 0 (zers 40), .int .i64 6]) (results_cell_tmp_row (p := 6) (u := 7) (ty := 64) Tryz.results141 _ _ (w.heap.size + 1) 64 _ (0, 0) _ rfl (setRow_heap _ _ _ _ _ _ hr2) Tryz.underlying64 rfl (info38 0 (zers 40) (zers_len 40))) rfl ?_
  exact ⟨rfl, below_setRow (HB1.alloc HB1.size _) (by omega) _⟩

theorem gform_ok (N : Int) (ys : List Int) (hl : ys.length = 40) (hy : Num.Byt ys) (p : Option Addr) (n cc : Nat) (xs : List Int) (w : World) (h : BI w p n xs) :
    Calls Tryz.prog 141 #[groupV N ys, .slice p n cc, .func (.func 143) #[] #[]] w fun e w' => e = .returned (if GGood xs N ys then .tuple #[groupV N ys, .int .i64 0] else .tuple #[groupV 0 (zers 40), .int .i64 6]) ∧ Below w.heap.size w w' := by
  by_cases hm : GMay N
  · by_cases he : groupL N ys = xs
    · rw [if_pos ⟨hm, he⟩]
      exact gform_yes N ys hl hy p n cc xs w h hm he
    · rw [if_neg (fun k => he k.2)]
      exact gform_bad N ys hl hy p n cc xs w h hm he
  · rw [if_neg (fun k => hm k.1)]
    exact gform_no N ys hl hy p n cc xs w h hm

end Go.Proofs.YthdlpeejmmobmaaGreat.Mk

namespace Go.Proofs.YthdlpeejmmobmaaGreat.Mk
open Go.RowKit
set_option maxRecDepth 100000
set_option linter.unusedVariables false

/-- What the bytes of a header say. -/
def rN (xs : List Int) : Int := Num.numD xs 2 1
def rY (xs : List Int) : List Int := (xs.drop 4).take 40
/-- The error that bytes tell, read as a header. -/
def gdE (n : Nat) (xs : List Int) : Int := if n ≠ 128 then 6 else if ¬ xs.take 2 = [104, 100] then 31 else if GGood xs (rN xs) (rY xs) then 0 else 6
def gdN (n : Nat) (xs : List Int) : Int := if gdE n xs = 0 then rN xs else 0
def gdY (n : Nat) (xs : List Int) : List Int := if gdE n xs = 0 then rY xs else zers 40

set_option maxRecDepth 10000 in
set_option maxHeartbeats 1000000 in
theorem decodeGroup_len (p : Option Addr) (n c : Nat) (w : World) (hn : n ≤ 140737488355328) (h1 : ¬ n = 128) :
    Calls Tryz.prog 74 #[.slice p n c] w fun e w' => e = .returned (.tuple #[groupV 0 (zers 40), .int .i64 6]) ∧ Below w.heap.size w w' := by
  have HB := grew_alloc w (groupO 0 (zers 40))
  have hr0 := heap_new w (groupO 0 (zers 40))
  have hr1 := hr0
  dsimp only [groupO] at hr1
  rw [zero38] at hr1
  have hI : ¬ (n : Int) = 128 := by omega
  go_enter Tryz.func74, Tryz.ntmps74
  go_wp2_with (refine wpList_store_row rfl 64 _ _ rfl w.heap.size _ rfl rfl 64 _ hr1 (by rw [← zero38]; exact info38 0 (zers 40) (zers_len 40)) (by rw [← zero38]) (by rw [← zero38]; exact group_one 0 (zers 40)) ?_)
  rw [← zero38]
  refine bodyPost_ret (v := .tuple #[groupV 0 (zers 40), .int .i64 6]) (results_cell_tmp_row (p := 2) (u := 3) (ty := 64) Tryz.results74 _ _ w.heap.size 64 _ (0, 0) _ rfl (setRow_heap _ _ _ _ _ _ hr0) Tryz.underlying64 rfl (info38 0 (zers 40) (zers_len 40))) rfl ?_
  exact ⟨rfl, below_setRow HB (by omega) _⟩

set_option maxRecDepth 10000 in
set_option maxHeartbeats 1000000 in
theorem decodeGroup_magic (p : Option Addr) (c : Nat) (xs : List Int) (w : World) (h : BI w p 128 xs) (hnc : 128 ≤ c) (h2 : ¬ xs.take 2 = [104, 100]) :
    Calls Tryz.prog 74 #[.slice p 128 c] w fun e w' => e = .returned (.tuple #[groupV 0 (zers 40), .int .i64 31]) ∧ Below w.heap.size w w' := by
  have HB := grew_alloc w (groupO 0 (zers 40))
  have hr0 := heap_new w (groupO 0 (zers 40))
  have h0 : BI (w.alloc (groupO 0 (zers 40))) p 128 xs := h.kept HB
  obtain ⟨wl, hcv, hl, hbl⟩ := conv_lit (w.alloc (groupO 0 (zers 40))) [104, 100]
  have hrl : wl.heap[w.heap.size]? = some (groupO 0 (zers 40)) := by rw [hbl.block _ (by rw [size_alloc]; omega)]; exact hr0
  have hrl' := hrl
  dsimp only [groupO] at hrl'
  rw [zero38] at hrl'
  have hbi := hl.bi (Num.byt_of_wf (by decide)) (by decide)
  have hxl := h0.kept hbl
  have HBl := grew_trans HB hbl
  have hcv' : (convert 42 42 (.slice (some ⟨w.heap.size + 1, 0, none⟩) 2 2)).run Tryz.prog ((w.alloc (groupO 0 (zers 40))).alloc (.cells #[.int .u8 104, .int .u8 100] 5)) = .ok (.slice (some ⟨w.heap.size + 1, 0, none⟩) 2 2) wl := by
    have := hcv 2 2
    rw [size_alloc] at this
    exact this
  dsimp only [groupO] at hcv'
  rw [zero38] at hcv'
  rw [size_alloc] at hbi
  have hpre := hasPrefix_ok p _ 128 c 2 2 xs _ wl hxl hbi hnc
  clear hcv hl hbl h0 hr0
  rw [show decide (2 ≤ 128 ∧ xs.take 2 = [104, 100]) = false from decide_eq_false (fun k => h2 k.2)] at hpre
  go_enter Tryz.func74, Tryz.ntmps74
  go_wp2_with (first
    | (go_at_call 140; refine same_at hpre ?_)
    | (refine wpList_store_row rfl 64 _ _ rfl w.heap.size _ rfl rfl 64 _ hrl' (by rw [← zero38]; exact info38 0 (zers 40) (zers_len 40)) (by rw [← zero38]) (by rw [← zero38]; exact group_one 0 (zers 40)) ?_))
  rw [← zero38]
  refine bodyPost_ret (v := .tuple #[groupV 0 (zers 40), .int .i64 31]) (results_cell_tmp_row (p := 2) (u := 3) (ty := 64) Tryz.results74 _ _ w.heap.size 64 _ (0, 0) _ rfl (setRow_heap _ _ _ _ _ _ hrl) Tryz.underlying64 rfl (info38 0 (zers 40) (zers_len 40))) rfl ?_
  exact ⟨rfl, below_setRow HBl (by omega) _⟩

set_option maxRecDepth 10000 in
set_option maxHeartbeats 1000000 in
theorem decodeGroup_in (p : Option Addr) (c : Nat) (xs : List Int) (w : World) (h : BI w p 128 xs) (hnc : 128 ≤ c) (h2 : xs.take 2 = [104, 100]) :
    Calls Tryz.prog 74 #[.slice p 128 c] w fun e w' => e = .returned (if GGood xs (rN xs) (rY xs) then .tuple #[groupV (rN xs) (rY xs), .int .i64 0] else .tuple #[groupV 0 (zers 40), .int .i64 6]) ∧ Below w.heap.size w w' := by
  have HB := grew_alloc w (groupO 0 (zers 40))
  have hr0 := heap_new w (groupO 0 (zers 40))
  have h0 : BI (w.alloc (groupO 0 (zers 40))) p 128 xs := h.kept HB
  obtain ⟨wl, hcv, hl, hbl⟩ := conv_lit (w.alloc (groupO 0 (zers 40))) [104, 100]
  have hrl : wl.heap[w.heap.size]? = some (groupO 0 (zers 40)) := by rw [hbl.block _ (by rw [size_alloc]; omega)]; exact hr0
  have hrl' := hrl
  dsimp only [groupO] at hrl'
  rw [zero38] at hrl'
  have hbi := hl.bi (Num.byt_of_wf (by decide)) (by decide)
  have hxl := h0.kept hbl
  have HBl := grew_trans HB hbl
  have hcv' : (convert 42 42 (.slice (some ⟨w.heap.size + 1, 0, none⟩) 2 2)).run Tryz.prog ((w.alloc (groupO 0 (zers 40))).alloc (.cells #[.int .u8 104, .int .u8 100] 5)) = .ok (.slice (some ⟨w.heap.size + 1, 0, none⟩) 2 2) wl := by
    have := hcv 2 2
    rw [size_alloc] at this
    exact this
  dsimp only [groupO] at hcv'
  rw [zero38] at hcv'
  rw [size_alloc] at hbi
  have hpre := hasPrefix_ok p _ 128 c 2 2 xs _ wl hxl hbi hnc
  clear hcv hl hbl h0 hr0
  rw [show decide (2 ≤ 128 ∧ xs.take 2 = [104, 100]) = true from decide_eq_true ⟨by decide, h2⟩] at hpre
  have hrd := readGroup_ok p c xs wl hxl
  have hyl : ((xs.drop 4).take 40).length = 40 := by have := h.len; simp; omega
  have hyb : Num.Byt ((xs.drop 4).take 40) := byt_take (byt_drop h.byt _) _
  have hfo := fun w' (hb : Below wl.heap.size wl w') => gform_ok (rN xs) (rY xs) hyl hyb p 128 c xs w' (hxl.kept hb)
  have hyl : (rY xs).length = 40 := hyl
  have hrd : Calls Tryz.prog 142 #[.slice p 128 c] wl fun e w' => e = .returned (groupV (rN xs) (rY xs)) ∧ Below wl.heap.size wl w' := hrd
  generalize rN xs = a at *
  generalize rY xs = ys at *
  by_cases hg : GGood xs a ys
  · simp only [if_pos hg] at hfo ⊢
    go_enter Tryz.func74, Tryz.ntmps74
    go_wp2_with (first
      | (go_at_call 140; refine same_at hpre ?_)
      | (go_at_call 142; refine grew_at hrd ?_; intro w1 hb1; have hr1 : w1.heap[w.heap.size]? = some (groupO 0 (zers 40)) := by rw [hb1.block _ (Array.getElem?_eq_some_iff.1 hrl).1]; exact hrl)
      | (go_at_call 141; refine grew_at (hfo _ hb1) ?_; intro w2 hb2; have hr2 : w2.heap[w.heap.size]? = some (groupO 0 (zers 40)) := by rw [hb2.block _ (Array.getElem?_eq_some_iff.1 hr1).1]; exact hr1)
      | (refine wpList_store_row rfl 64 _ _ rfl w.heap.size _ rfl rfl 64 _ hr2 (info38 a ys hyl) ((groupA_size 0 (zers 40) (zers_len 40)).trans (groupA_size a ys hyl).symm) (group_one a ys) ?_))
    refine bodyPost_ret (v := .tuple #[groupV a ys, .int .i64 0]) (results_cell_tmp_row (p := 2) (u := 3) (ty := 64) Tryz.results74 _ _ w.heap.size 64 _ (0, 0) _ rfl (setRow_heap _ _ _ _ _ _ hr2) Tryz.underlying64 rfl (info38 a ys hyl)) rfl ?_
    exact ⟨rfl, below_setRow (grew_trans (grew_trans HBl hb1) hb2) (by omega) _⟩
  · simp only [if_neg hg] at hfo ⊢
    go_enter Tryz.func74, Tryz.ntmps74
    go_wp2_with (first
      | (go_at_call 140; refine same_at hpre ?_)
      | (go_at_call 142; refine grew_at hrd ?_; intro w1 hb1; have hr1 : w1.heap[w.heap.size]? = some (groupO 0 (zers 40)) := by rw [hb1.block _ (Array.getElem?_eq_some_iff.1 hrl).1]; exact hrl)
      | (go_at_call 141; refine grew_at (hfo _ hb1) ?_; intro w2 hb2; have hr2 : w2.heap[w.heap.size]? = some (groupO 0 (zers 40)) := by rw [hb2.block _ (Array.getElem?_eq_some_iff.1 hr1).1]; exact hr1)
      | (refine wpList_store_row rfl 64 _ _ rfl w.heap.size _ rfl rfl 64 _ hr2 (info38 0 (zers 40) (zers_len 40)) rfl (group_one 0 (zers 40)) ?_))
    refine bodyPost_ret (v := .tuple #[groupV 0 (zers 40), .int .i64 6]) (results_cell_tmp_row (p := 2) (u := 3) (ty := 64) Tryz.results74 _ _ w.heap.size 64 _ (0, 0) _ rfl (setRow_heap _ _ _ _ _ _ hr2) Tryz.underlying64 rfl (info38 0 (zers 40) (zers_len 40))) rfl ?_
    exact ⟨rfl, below_setRow (grew_trans (grew_trans HBl hb1) hb2) (by omega) _⟩

theorem decodeGroup_ok (p : Option Addr) (n c : Nat) (xs : List Int) (w : World) (h : BI w p n xs) (hnc : n ≤ c) :
    Calls Tryz.prog 74 #[.slice p n c] w fun e w' => e = .returned (.tuple #[groupV (gdN n xs) (gdY n xs), .int .i64 (gdE n xs)]) ∧ Below w.heap.size w w' := by
  by_cases h1 : n = 128
  · subst h1
    by_cases h2 : xs.take 2 = [104, 100]
    · refine (decodeGroup_in p c xs w h hnc h2).mono ?_
      rintro e w' ⟨rfl, hb⟩
      refine ⟨?_, hb⟩
      unfold gdN gdY
      by_cases hg : GGood xs (rN xs) (rY xs)
      · have e1 : gdE 128 xs = 0 := by unfold gdE; rw [if_neg (by simp), if_neg (by simp [h2]), if_pos hg]
        rw [e1, if_pos hg, if_pos rfl, if_pos rfl]
      · have e1 : gdE 128 xs = 6 := by unfold gdE; rw [if_neg (by simp), if_neg (by simp [h2]), if_neg hg]
        rw [e1, if_neg hg, if_neg (by decide), if_neg (by decide)]
    · have e1 : gdE 128 xs = 31 := by unfold gdE; rw [if_neg (by simp), if_pos h2]
      unfold gdN gdY
      rw [e1, if_neg (by decide), if_neg (by decide)]
      exact decodeGroup_magic p c xs w h hnc h2
  · have e1 : gdE n xs = 6 := by unfold gdE; rw [if_pos h1]
    unfold gdN gdY
    rw [e1, if_neg (by decide), if_neg (by decide)]
    exact decodeGroup_len p n c w h.big h1
end Go.Proofs.YthdlpeejmmobmaaGreat.Mk

namespace Go.Proofs.YthdlpeejmmobmaaGreat.Mk.Al
open Go.RowKit
set_option maxRecDepth 100000
set_option linter.unusedVariables false

theorem isData_in {G B I n : Int} (h : Gm.Of G B I B n) (w : World) : Calls Tryz.prog 136 #[geomV G B I, .int .i64 n] w fun e w' => e = .returned (.bool (decide (2 + I / 4 ≤ n % B))) ∧ Below w.heap.size w w' := by
  have HB : Below w.heap.size w (w.alloc (geomO G B I)) := (Below.refl _ _).alloc (Nat.le_refl _) _
  obtain ⟨c0, c1, c2⟩ := box_cells w G B I
  have hm := h.1.all
  have hb := h.bd (by omega) (by omega)
  generalize hq : n / B = q at *
  generalize hr : n % B = r at *
  have ho := fun w => group_in h w
  rw [hq, hr] at ho
  clear hq hr
  go_enter Tryz.func136, Tryz.ntmps136
  go_wp2_with (first | (go_at_call 219; refine grew_at (ho _) ?_; intro wn hbn; have HB := grew_trans HB hbn; have c0 := cell_kept c0 hbn; have c1 := cell_kept c1 hbn; have c2 := cell_kept c2 hbn) | (go_at_call 195; refine grew_at (dataPlace_may h.1 _) ?_; intro wn hbn; have HB := grew_trans HB hbn; have c0 := cell_kept c0 hbn; have c1 := cell_kept c1 hbn; have c2 := cell_kept c2 hbn))
  go_ret
  exact ⟨rfl, HB⟩

/-- A row's number: 0 of the blocks, 1 of the inodes. -/
def rI (r : Bool) : Int := if r then 1 else 0
/-- A row's bytes, first byte and how many, of a header's forty. -/
def rAt (r : Bool) : Nat := if r then 0 else 8
def rLen (r : Bool) : Nat := if r then 8 else 32
def rowOf (r : Bool) (ys : List Int) : List Int := (ys.drop (rAt r)).take (rLen r)

set_option maxHeartbeats 400000 in
theorem of_ok (r : Bool) (b o : Nat) (w : World) :
    Calls Tryz.prog 132 #[.int .i64 (rI r), .pointer (some ⟨b, o, none⟩)] w fun e w' => e = .returned (.slice (some ⟨b, o + (rAt r + 1), none⟩) (rLen r) (rLen r)) ∧ w' = w := by
  cases r
  · show Calls Tryz.prog 132 #[.int .i64 0, _] w _
    go_enter Tryz.func132, Tryz.ntmps132
    go_wp2
    go_ret
    exact ⟨rfl, rfl⟩
  · show Calls Tryz.prog 132 #[.int .i64 1, _] w _
    go_enter Tryz.func132, Tryz.ntmps132
    go_wp2
    go_ret
    exact ⟨rfl, rfl⟩

/-- The bits of a group that may be given: the first, and the one behind the last. -/
def spF (r : Bool) (I n : Int) : Int := if r then (if n = 0 then 2 else 0) else 2 + I / 4
def spE (r : Bool) (B I : Int) : Int := if r then I else B

set_option maxHeartbeats 1000000 in
theorem span_ok {G B I n : Int} (r : Bool) (h : Gm.In G B I n) (w : World) :
    Calls Tryz.prog 130 #[.int .i64 (rI r), geomV G B I, .int .i64 n] w fun e w' => e = .returned (.tuple #[.int .i64 (spF r I n), .int .i64 (spE r B I)]) ∧ Below w.heap.size w w' := by
  have HB : Below w.heap.size w (w.alloc (geomO G B I)) := (Below.refl _ _).alloc (Nat.le_refl _) _
  obtain ⟨c0, c1, c2⟩ := box_cells w G B I
  have hm := h.1.all
  have h1 := h.bd
  cases r
  · have hof : Gm.Of G B I B (n * B + (2 + I / 4)) := ⟨h.1, by omega, by
      have e : G * B = (G - 1) * B + B := by rw [Int.sub_mul]; omega
      have : n * B ≤ (G - 1) * B := Int.mul_le_mul_of_nonneg_right (by have := h.2; omega) (by omega)
      omega⟩
    have hmod : (n * B + (2 + I / 4)) % B = 2 + I / 4 := by
      rw [Int.add_comm, Int.add_mul_emod_self_right]
      exact Int.emod_eq_of_lt (by omega) (by omega)
    have hg := fun w => group_in hof w
    rw [hmod] at hg
    have hda := fun w => data_in h w
    generalize hx : n * B + (2 + I / 4) = x at *
    generalize hy : (x / B) = y at *
    clear hmod hof h1 hx hy hm
    show Calls Tryz.prog 130 #[.int .i64 0, _, _] w _
    go_enter Tryz.func130, Tryz.ntmps130
    go_wp2_with (first | (go_at_call 218; refine grew_at (hda _) ?_; intro wn hbn; have HB := grew_trans HB hbn; have c0 := cell_kept c0 hbn; have c1 := cell_kept c1 hbn; have c2 := cell_kept c2 hbn) | (go_at_call 219; refine grew_at (hg _) ?_; intro wm hbm; have HB := grew_trans HB hbm; have c0 := cell_kept c0 hbm; have c1 := cell_kept c1 hbm; have c2 := cell_kept c2 hbm))
    go_quiet (fail)
    go_wp2_with fail
    go_ret2
    exact ⟨rfl, below_drewN HB _⟩
  · clear h1 hm
    by_cases hn : n = 0
    · subst hn
      show Calls Tryz.prog 130 #[.int .i64 1, _, _] w _
      go_enter Tryz.func130, Tryz.ntmps130
      go_wp2_with fail
      go_quiet (fail)
      go_wp2_with fail
      go_ret2
      exact ⟨rfl, below_drewN HB _⟩
    · have hn2 : (n == 0) = false := by rw [beq_eq_false_iff_ne]; exact hn
      have he : spF true I n = 0 := by unfold spF; rw [if_pos rfl, if_neg hn]
      show Calls Tryz.prog 130 #[.int .i64 1, _, _] w _
      rw [he]
      clear he
      go_enter Tryz.func130, Tryz.ntmps130
      go_wp2_with fail
      go_quiet (fail)
      go_wp2_with fail
      go_ret2
      exact ⟨rfl, below_drewN HB _⟩

/-- Which group and bit a block or an inode has. -/
theorem place_blocks {G B I n : Int} (h : Gm.Of G B I B n) (w : World) :
    Calls Tryz.prog 137 #[.int .i64 (rI false), geomV G B I, .int .i64 n] w fun e w' => e = .returned (.tuple #[.int .i64 (n / B), .int .i64 (n % B)]) ∧ Below w.heap.size w w' := by
  have HB : Below w.heap.size w (w.alloc (geomO G B I)) := (Below.refl _ _).alloc (Nat.le_refl _) _
  obtain ⟨c0, c1, c2⟩ := box_cells w G B I
  have hg := fun w => group_in h w
  generalize n / B = q at *
  generalize n % B = r at *
  clear h
  show Calls Tryz.prog 137 #[.int .i64 0, _, _] w _
  go_enter Tryz.func137, Tryz.ntmps137
  go_wp2_with fail
  refine grew_at (hg _) ?_
  intro wn hbn
  have HB := grew_trans HB hbn
  dsimp only
  go_wp2_with fail
  go_ret2
  exact ⟨rfl, HB⟩
/-- The block or the inode that a bit of a group stands for. -/
theorem number_ok {G B I : Int} (r : Bool) (g b : Int) (h : 0 ≤ g * spE r B I ∧ g * spE r B I ≤ 1000000) (hb : 0 ≤ b ∧ b ≤ 1000000) (w : World) :
    Calls Tryz.prog 135 #[.int .i64 (rI r), geomV G B I, .int .i64 g, .int .i64 b] w fun e w' => e = .returned (.int .i64 (g * spE r B I + b)) ∧ Below w.heap.size w w' := by
  have HB : Below w.heap.size w (w.alloc (geomO G B I)) := (Below.refl _ _).alloc (Nat.le_refl _) _
  obtain ⟨c0, c1, c2⟩ := box_cells w G B I
  cases r
  · have h' : 0 ≤ g * B ∧ g * B ≤ 1000000 := h
    show Calls Tryz.prog 135 #[.int .i64 0, _, _, _] w fun e w' => e = .returned (.int .i64 (g * B + b)) ∧ _
    clear h
    go_enter Tryz.func135, Tryz.ntmps135
    go_wp2
    go_ret
    exact ⟨rfl, HB⟩
  · have h' : 0 ≤ g * I ∧ g * I ≤ 1000000 := h
    show Calls Tryz.prog 135 #[.int .i64 1, _, _, _] w fun e w' => e = .returned (.int .i64 (g * I + b)) ∧ _
    clear h
    go_enter Tryz.func135, Tryz.ntmps135
    go_wp2
    go_ret
    exact ⟨rfl, HB⟩
end Go.Proofs.YthdlpeejmmobmaaGreat.Mk.Al

namespace Go.Proofs.YthdlpeejmmobmaaGreat.Mk
open Go.RowKit
set_option maxRecDepth 100000
set_option linter.unusedVariables false

namespace Bit
def mk (i : Nat) : Int := 2 ^ (i % 8)
theorem mk_cases (i : Nat) : mk i = 1 ∨ mk i = 2 ∨ mk i = 4 ∨ mk i = 8 ∨ mk i = 16 ∨ mk i = 32 ∨ mk i = 64 ∨ mk i = 128 := by
  unfold mk
  have : i % 8 < 8 := Nat.mod_lt _ (by decide)
  generalize i % 8 = k at *
  rcases (by omega : k = 0 ∨ k = 1 ∨ k = 2 ∨ k = 3 ∨ k = 4 ∨ k = 5 ∨ k = 6 ∨ k = 7) with rfl | rfl | rfl | rfl | rfl | rfl | rfl | rfl <;> simp
def on (xs : List Int) (i : Nat) : Bool := decide (xs.getD (i / 8) 0 / mk i % 2 = 1)
def onI (xs : List Int) (i : Int) : Bool := decide (0 ≤ i) && on xs i.toNat
/-- A number of first bits as it counts. -/
def cnt (n : Int) : Nat := if n < 0 then 0 else if 65536 < n then 65536 else n.toNat
theorem cnt_le (n : Int) : cnt n ≤ 65536 := by
  unfold cnt
  repeat' split
  all_goals omega
theorem cnt_is (n : Int) : (n < 0 ∧ (cnt n : Int) = 0) ∨ (65536 < n ∧ (cnt n : Int) = 65536) ∨ (0 ≤ n ∧ n ≤ 65536 ∧ (cnt n : Int) = n) := by
  unfold cnt
  repeat' split
  all_goals omega
def turn (x m : Int) (b : Bool) : Int := if b then (if x / m % 2 = 1 then x else x + m) else (if x / m % 2 = 1 then x - m else x)
def put (xs : List Int) (i : Nat) (b : Bool) : List Int := xs.set (i / 8) (turn (xs.getD (i / 8) 0) (mk i) b)
theorem bits_all : ∀ x : Fin 256, ∀ k : Fin 8, (bits BinOp.and .u8 (x.val : Int) (2 ^ k.val) != 0) = decide ((x.val : Int) / 2 ^ k.val % 2 = 1) ∧ bits BinOp.or .u8 (x.val : Int) (2 ^ k.val) = turn x.val (2 ^ k.val) true ∧ bits BinOp.andNot .u8 (x.val : Int) (2 ^ k.val) = turn x.val (2 ^ k.val) false ∧
    bits BinOp.xor .u8 (x.val : Int) (2 ^ k.val) = turn x.val (2 ^ k.val) (! decide ((x.val : Int) / 2 ^ k.val % 2 = 1)) ∧ (0 ≤ turn x.val (2 ^ k.val) true ∧ turn x.val (2 ^ k.val) true < 256) ∧ (0 ≤ turn x.val (2 ^ k.val) false ∧ turn x.val (2 ^ k.val) false < 256) := by decide +kernel
theorem bits_at (x : Int) (h0 : 0 ≤ x) (h1 : x < 256) (i : Nat) : (bits BinOp.and .u8 x (mk i) != 0) = decide (x / mk i % 2 = 1) ∧ bits BinOp.or .u8 x (mk i) = turn x (mk i) true ∧ bits BinOp.andNot .u8 x (mk i) = turn x (mk i) false ∧
    bits BinOp.xor .u8 x (mk i) = turn x (mk i) (! decide (x / mk i % 2 = 1)) ∧ (0 ≤ turn x (mk i) true ∧ turn x (mk i) true < 256) ∧ (0 ≤ turn x (mk i) false ∧ turn x (mk i) false < 256) := by
  obtain ⟨n, rfl⟩ := Int.eq_ofNat_of_zero_le h0
  exact bits_all ⟨n, by omega⟩ ⟨i % 8, Nat.mod_lt _ (by decide)⟩
theorem turn_bd {xs : List Int} (h : Num.Byt xs) (i : Nat) (b : Bool) (j : Nat) : 0 ≤ turn (xs.getD j 0) (mk i) b ∧ turn (xs.getD j 0) (mk i) b < 256 := by
  have := bits_at _ (h j).1 (h j).2 i
  cases b
  · exact this.2.2.2.2.2
  · exact this.2.2.2.2.1
theorem put_len (xs : List Int) (i : Nat) (b : Bool) : (put xs i b).length = xs.length := by simp [put]
theorem put_byt {xs : List Int} (h : Num.Byt xs) (i : Nat) (b : Bool) : Num.Byt (put xs i b) := by
  intro j
  unfold put
  rw [Num.getD_set]
  split
  · exact turn_bd h i b _
  · exact h j
theorem on_far (xs : List Int) (i : Nat) (h : xs.length ≤ i / 8) : on xs i = false := by
  unfold on
  rw [List.getD_eq_getElem?_getD, List.getElem?_eq_none h]
  simp
end Bit

theorem ret_int {k : IntKind} {a b : Int} (h : a = b) : Ending.returned (.int k a) = .returned (.int k b) := by rw [h]

set_option maxHeartbeats 400000 in
theorem mask_ok (i : Nat) (w : World) (hi : i < 9223372036854775808) :
    Calls Tryz.prog 225 #[.int .i64 i] w fun e w' => e = .returned (.int .u8 (Bit.mk i)) ∧ w' = w := by
  have H : Hid ((2 : Int) ^ (i % 8) % 256 = Bit.mk i) := by
    show (2 : Int) ^ (i % 8) % 256 = Bit.mk i
    have := Bit.mk_cases i
    unfold Bit.mk at *
    omega
  have h0 : (0 : Int) ≤ (i : Int) := by omega
  go_enter Tryz.func225, Tryz.ntmps225
  go_wp2
  go_ret
  exact ⟨by show Ending.returned (.int .u8 _) = _; rw [H.out], rfl⟩

set_option maxHeartbeats 400000 in
theorem within_yes (p : Option Addr) (n c : Nat) (i : Nat) (w : World) (hn : n ≤ 140737488355328) (h : i / 8 < n) (hi : i < 9223372036854775808) :
    Calls Tryz.prog 224 #[.slice p n c, .int .i64 i] w fun e w' => e = .returned (.bool true) ∧ w' = w := by
  have h0 : (0 : Int) ≤ (i : Int) := by omega
  have h1 : (i : Int) / 8 < (n : Int) := by omega
  go_enter Tryz.func224, Tryz.ntmps224
  go_wp2
  go_ret
  exact ⟨rfl, rfl⟩

set_option maxHeartbeats 400000 in
theorem within_no (p : Option Addr) (n c : Nat) (i : Int) (w : World) (hn : n ≤ 140737488355328) (h : i < 0 ∨ (n : Int) ≤ i / 8) (hi : i < 9223372036854775808) :
    Calls Tryz.prog 224 #[.slice p n c, .int .i64 i] w fun e w' => e = .returned (.bool false) ∧ w' = w := by
  by_cases h0 : i < 0
  · clear h
    go_enter Tryz.func224, Tryz.ntmps224
    go_wp2
    go_ret
    exact ⟨rfl, rfl⟩
  · have h0 : (0 : Int) ≤ i := by omega
    have h1 : ¬ i / 8 < (n : Int) := by omega
    have h2 : decide (i / 8 < (n : Int)) = false := decide_eq_false h1
    clear h
    go_enter Tryz.func224, Tryz.ntmps224
    go_wp2
    go_ret
    exact ⟨rfl, rfl⟩

theorem run_quo8 (i : Nat) (w : World) (hi : i < 9223372036854775808) : (binOp .quo 3 (.int .i64 i) (.int .i64 8)).run Tryz.prog w = .ok (.int .i64 ((i / 8 : Nat) : Int)) w := by
  have e8 : (i : Int) / 8 = ((i / 8 : Nat) : Int) := by omega
  simp [go_sem]
  exact IntWalk.i64_in _ (by omega)

set_option maxRecDepth 100000 in
set_option maxHeartbeats 400000 in
theorem rhas_yes (p : Option Addr) (n c : Nat) (xs : List Int) (i : Nat) (w : World) (hb : BI w p n xs) (h : i / 8 < n) (hi : i < 9223372036854775808) :
    Calls Tryz.prog 255 #[.slice p n c, .int .i64 i] w fun e w' => e = .returned (.bool (Bit.on xs i)) ∧ w' = w := by
  have hn := hb.big
  have h0 : (0 : Int) ≤ (i : Int) := by omega
  have h1 : (i : Int) / 8 < (n : Int) := by omega
  obtain ⟨b, o, rfl, hc⟩ := hb.cells (by omega)
  have hc1 := hc (i / 8) h
  have hy := hb.byt (i / 8)
  have HX : Hid (((xs.getD (i / 8) 0 / 2 ^ (i % 8)).tmod 2 == 1) = Bit.on xs i) := by
    show ((xs.getD (i / 8) 0 / 2 ^ (i % 8)).tmod 2 == 1) = Bit.on xs i
    rw [Int.tmod_eq_emod_of_nonneg (Int.ediv_nonneg hy.1 (Int.le_of_lt (Int.pow_pos (by decide))))]
    unfold Bit.on Bit.mk
    rw [Bool.eq_iff_iff]
    simp
  clear hc hb
  generalize xs.getD (i / 8) 0 = x at *
  have hq := fun W => run_quo8 i W hi
  go_enter Tryz.func255, Tryz.ntmps255
  go_wp2
  go_ret
  exact ⟨by show Ending.returned (.bool _) = _; rw [HX.out], rfl⟩

end Go.Proofs.YthdlpeejmmobmaaGreat.Mk
