/- Superblocks out of bytes: whether they are in form. -/
import Derived.Test.YtkmijjipnepnoabDSuper
namespace Go.Proofs.Ytkmijjipnepnoab
open Go.RowKit
set_option linter.unusedVariables false

theorem results_cell_tmp_row {P : Program} {fn : Func} {p u : Tmp} {ty : TypeId} (h : fn.results = #[.cell p ty, .tmp u]) (tmps : Array Value) (w : World) (g : Nat) (t : TypeId) (cs : Array Value) (fr : Nat × Nat) (d : TypeDesc)
    (hp : tmps.getD p undef = .pointer (some ⟨g, 0, none⟩)) (hg : w.heap[g]? = some (.cells cs t fr))
    (hu : P.underlying ty = some d) (hd : (match d with | .struct _ | .array _ _ => true | _ => false) = true) (hi : (P.info? ty).map (·.size) = some cs.size) :
    (results fn tmps).run P w = .ok (.tuple #[.agg cs, tmps.getD u undef]) w := by
  rw [results_cell_tmp h, hp]
  simp [asAddr, run_loadVar_row w g t ty cs fr d hg hu hd hi]

theorem hasPrefix_ok (p q : Option Addr) (n c m d : Nat) (xs ys : List Int) (w : World) (h : BI w p n xs) (k : BI w q m ys) (hnc : n ≤ c) :
    Calls Try.prog 47 #[.slice p n c, .slice q m d] w fun e w' => e = .returned (.bool (decide (m ≤ n ∧ xs.take m = ys))) ∧ w' = w := by
  have hn := h.big
  have hm := k.big
  by_cases hle : m ≤ n
  · have hI : (m : Int) ≤ (n : Int) := by omega
    have hq := equal_any p q m c m d (xs.take m) ys w (h.take m hle) k
    go_enter Try.func47, Try.ntmps47
    go_wp2_with fail
    refine same_at hq ?_
    go_wp2
    go_ret
    refine ⟨ret_bool ?_, rfl⟩
    rw [Bool.eq_iff_iff]
    simp [hle]
  · have hI : ¬ (m : Int) ≤ (n : Int) := by omega
    go_enter Try.func47, Try.ntmps47
    go_wp2_with fail
    go_ret
    exact ⟨by simp, rfl⟩

theorem call9 (args : Array Value) (w : World) : (callFunc 9 args).run Try.prog w = .ok (.enter 9 args) w := by kernel_rfl

/-- The bytes are those that are written for what they say. -/
def SGood (xs : List Int) (a b c d : Int) : Prop := SMay a b c d ∧ superS a b c d = xs
instance (xs : List Int) (a b c d : Int) : Decidable (SGood xs a b c d) := by unfold SGood; infer_instance

theorem superS_len (a b c d : Int) : (superS a b c d).length = 128 := by
  unfold superS sealL superL
  simp only [Num.putTo_length, splice_len128]
theorem boll_byt : Num.Byt (splice (zers 128) 0 [98, 111, 108, 108]) := splice_byt (zers_byt _) (Num.byt_of_wf (by decide)) 0
theorem superS_byt (a b c d : Int) : Num.Byt (superS a b c d) := by
  unfold superS sealL superL
  exact Num.putTo_byt (Num.putTo_byt (Num.putTo_byt (Num.putTo_byt (Num.putTo_byt boll_byt _ _ _) _ _ _) _ _ _) _ _ _) _ _ _

theorem super_one (a b c d : Int) : (#[.int .i64 a, .int .i64 b, .int .i64 c, .int .i64 d] : Array Value).all (·.oneCell') = true := by simp [Value.oneCell']

set_option maxHeartbeats 1000000 in
theorem sform_yes (a b c d : Int) (p : Option Addr) (n cc : Nat) (xs : List Int) (w : World) (h : BI w p n xs) (hm : SMay a b c d) (he : superS a b c d = xs) :
    Calls Try.prog 49 #[superV a b c d, .slice p n cc, .func (.func 9) #[] #[]] w fun e w' => e = .returned (.tuple #[superV a b c d, .int .i64 0]) ∧ Below w.heap.size w w' := by
  have hc9 := call9
  have HB := (grew_alloc w (superO a b c d)).trans ((grew_alloc (w.alloc (superO a b c d)) (superO 0 0 0 0)).mono (by rw [size_alloc]; omega))
  have hx0 : ((w.alloc (superO a b c d)).alloc (superO 0 0 0 0)).heap[w.heap.size]? = some (superO a b c d) := by rw [Below.heap_alloc _ _ _ (by rw [size_alloc]; omega)]; exact heap_new _ _
  have hr0 : ((w.alloc (superO a b c d)).alloc (superO 0 0 0 0)).heap[w.heap.size + 1]? = some (superO 0 0 0 0) := by
    have := heap_new (w.alloc (superO a b c d)) (superO 0 0 0 0)
    rwa [size_alloc] at this
  have hsz : ((w.alloc (superO a b c d)).alloc (superO 0 0 0 0)).heap.size = w.heap.size + 2 := by rw [size_alloc, size_alloc]
  have h0 : BI ((w.alloc (superO a b c d)).alloc (superO 0 0 0 0)) p n xs := h.kept HB
  go_enter Try.func49, Try.ntmps49
  go_wp2_with fail
  generalize (w.alloc (superO a b c d)).alloc (superO 0 0 0 0) = w0 at *
  refine Calls.mono (encodeSuper_yes a b c d hm _) ?_
  rintro e w1 ⟨g, cap, rfl, ho, hb1⟩
  have hx1 : w1.heap[w.heap.size]? = some (superO a b c d) := by rw [hb1.block _ (by omega)]; exact hx0
  have hr1 : w1.heap[w.heap.size + 1]? = some (superO 0 0 0 0) := by rw [hb1.block _ (by omega)]; exact hr0
  have hq := equal_any _ p 128 cap n cc _ xs w1 (ho.bi (by omega) (superS_byt a b c d)) (h0.kept hb1)
  have HB1 := grew_trans HB hb1
  have heq : (superS a b c d == xs) = true := by rw [beq_iff_eq]; exact he
  rw [heq] at hq
  clear hx0 hr0 hsz ho h0 heq he h
  go_wp2_with (first
    | (go_at_call 68; refine same_at hq ?_)
    | (refine wpList_load_row rfl 25 _ rfl w.heap.size rfl 25 _ (0, 0) _ hx1 Try.underlying25 rfl info25 ?_)
    | (refine wpList_store_row rfl 25 _ _ rfl (w.heap.size + 1) _ rfl rfl 25 _ hr1 info25 rfl (super_one a b c d) ?_))
  refine bodyPost_ret (v := .tuple #[superV a b c d, .int .i64 0]) (results_cell_tmp_row (p := 6) (u := 7) (ty := 25) Try.results49 _ _ (w.heap.size + 1) 25 _ (0, 0) _ rfl (setRow_heap _ _ _ _ _ _ hr1) Try.underlying25 rfl info25) rfl ?_
  exact ⟨rfl, below_setRow HB1 (by omega) _⟩

set_option maxHeartbeats 1000000 in
theorem sform_bad (a b c d : Int) (p : Option Addr) (n cc : Nat) (xs : List Int) (w : World) (h : BI w p n xs) (hm : SMay a b c d) (he : ¬ superS a b c d = xs) :
    Calls Try.prog 49 #[superV a b c d, .slice p n cc, .func (.func 9) #[] #[]] w fun e w' => e = .returned (.tuple #[superV 0 0 0 0, .int .i64 6]) ∧ Below w.heap.size w w' := by
  have hc9 := call9
  have HB := (grew_alloc w (superO a b c d)).trans ((grew_alloc (w.alloc (superO a b c d)) (superO 0 0 0 0)).mono (by rw [size_alloc]; omega))
  have hx0 : ((w.alloc (superO a b c d)).alloc (superO 0 0 0 0)).heap[w.heap.size]? = some (superO a b c d) := by rw [Below.heap_alloc _ _ _ (by rw [size_alloc]; omega)]; exact heap_new _ _
  have hr0 : ((w.alloc (superO a b c d)).alloc (superO 0 0 0 0)).heap[w.heap.size + 1]? = some (superO 0 0 0 0) := by
    have := heap_new (w.alloc (superO a b c d)) (superO 0 0 0 0)
    rwa [size_alloc] at this
  have hsz : ((w.alloc (superO a b c d)).alloc (superO 0 0 0 0)).heap.size = w.heap.size + 2 := by rw [size_alloc, size_alloc]
  have h0 : BI ((w.alloc (superO a b c d)).alloc (superO 0 0 0 0)) p n xs := h.kept HB
  go_enter Try.func49, Try.ntmps49
  go_wp2_with fail
  generalize (w.alloc (superO a b c d)).alloc (superO 0 0 0 0) = w0 at *
  refine Calls.mono (encodeSuper_yes a b c d hm _) ?_
  rintro e w1 ⟨g, cap, rfl, ho, hb1⟩
  have hx1 : w1.heap[w.heap.size]? = some (superO a b c d) := by rw [hb1.block _ (by omega)]; exact hx0
  have hr1 : w1.heap[w.heap.size + 1]? = some (superO 0 0 0 0) := by rw [hb1.block _ (by omega)]; exact hr0
  have hq := equal_any _ p 128 cap n cc _ xs w1 (ho.bi (by omega) (superS_byt a b c d)) (h0.kept hb1)
  have HB1 := grew_trans HB hb1
  have heq : (superS a b c d == xs) = false := by rw [beq_eq_false_iff_ne]; exact he
  rw [heq] at hq
  have hr2 : (w1.alloc (superO 0 0 0 0)).heap[w.heap.size + 1]? = some (superO 0 0 0 0) := at_old hr1
  clear hx0 hr0 hsz ho h0 heq he h
  go_wp2_with (first
    | (go_at_call 68; refine same_at hq ?_)
    | (refine wpList_store_row rfl 25 _ _ rfl (w.heap.size + 1) _ rfl rfl 25 _ hr2 info25 rfl (super_one 0 0 0 0) ?_))
  refine bodyPost_ret (v := .tuple #[superV 0 0 0 0, .int .i64 6]) (results_cell_tmp_row (p := 6) (u := 7) (ty := 25) Try.results49 _ _ (w.heap.size + 1) 25 _ (0, 0) _ rfl (setRow_heap _ _ _ _ _ _ hr2) Try.underlying25 rfl info25) rfl ?_
  exact ⟨rfl, below_setRow (HB1.alloc HB1.size _) (by omega) _⟩

set_option maxHeartbeats 1000000 in
theorem sform_no (a b c d : Int) (p : Option Addr) (n cc : Nat) (xs : List Int) (w : World) (h : BI w p n xs) (hm : ¬ SMay a b c d) :
    Calls Try.prog 49 #[superV a b c d, .slice p n cc, .func (.func 9) #[] #[]] w fun e w' => e = .returned (.tuple #[superV 0 0 0 0, .int .i64 6]) ∧ Below w.heap.size w w' := by
  have hc9 := call9
  have HB := (grew_alloc w (superO a b c d)).trans ((grew_alloc (w.alloc (superO a b c d)) (superO 0 0 0 0)).mono (by rw [size_alloc]; omega))
  have hx0 : ((w.alloc (superO a b c d)).alloc (superO 0 0 0 0)).heap[w.heap.size]? = some (superO a b c d) := by rw [Below.heap_alloc _ _ _ (by rw [size_alloc]; omega)]; exact heap_new _ _
  have hr0 : ((w.alloc (superO a b c d)).alloc (superO 0 0 0 0)).heap[w.heap.size + 1]? = some (superO 0 0 0 0) := by
    have := heap_new (w.alloc (superO a b c d)) (superO 0 0 0 0)
    rwa [size_alloc] at this
  have hsz : ((w.alloc (superO a b c d)).alloc (superO 0 0 0 0)).heap.size = w.heap.size + 2 := by rw [size_alloc, size_alloc]
  go_enter Try.func49, Try.ntmps49
  go_wp2_with fail
  generalize (w.alloc (superO a b c d)).alloc (superO 0 0 0 0) = w0 at *
  refine grew_at (encodeSuper_no a b c d hm _) ?_
  intro w1 hb1
  have hr1 : w1.heap[w.heap.size + 1]? = some (superO 0 0 0 0) := by rw [hb1.block _ (by omega)]; exact hr0
  have HB1 := grew_trans HB hb1
  have hr2 : (w1.alloc (superO 0 0 0 0)).heap[w.heap.size + 1]? = some (superO 0 0 0 0) := at_old hr1
  clear hx0 hr0 hsz h
  go_wp2_with (first
    | (refine wpList_store_row rfl 25 _ _ rfl (w.heap.size + 1) _ rfl rfl 25 _ hr2 info25 rfl (super_one 0 0 0 0) ?_))
  refine bodyPost_ret (v := .tuple #[superV 0 0 0 0, .int .i64 6]) (results_cell_tmp_row (p := 6) (u := 7) (ty := 25) Try.results49 _ _ (w.heap.size + 1) 25 _ (0, 0) _ rfl (setRow_heap _ _ _ _ _ _ hr2) Try.underlying25 rfl info25) rfl ?_
  exact ⟨rfl, below_setRow (HB1.alloc HB1.size _) (by omega) _⟩

theorem sform_ok (a b c d : Int) (p : Option Addr) (n cc : Nat) (xs : List Int) (w : World) (h : BI w p n xs) :
    Calls Try.prog 49 #[superV a b c d, .slice p n cc, .func (.func 9) #[] #[]] w fun e w' => e = .returned (if SGood xs a b c d then .tuple #[superV a b c d, .int .i64 0] else .tuple #[superV 0 0 0 0, .int .i64 6]) ∧ Below w.heap.size w w' := by
  by_cases hm : SMay a b c d
  · by_cases he : superS a b c d = xs
    · rw [if_pos ⟨hm, he⟩]
      exact sform_yes a b c d p n cc xs w h hm he
    · rw [if_neg (fun k => he k.2)]
      exact sform_bad a b c d p n cc xs w h hm he
  · rw [if_neg (fun k => hm k.1)]
    exact sform_no a b c d p n cc xs w h hm

/-- The error that bytes tell, read as a superblock. -/
def decE (n : Nat) (xs : List Int) : Int := if n ≠ 128 then 6 else if ¬ xs.take 4 = [98, 111, 108, 108] then 31 else if ¬ Num.numD xs 124 4 = Num.sum xs 124 then 30 else if SGood xs (rG xs) (rB xs) (rI xs) (rM xs) then 0 else 6
def decV (n : Nat) (xs : List Int) : Value := if decE n xs = 0 then superV (rG xs) (rB xs) (rI xs) (rM xs) else superV 0 0 0 0

set_option maxRecDepth 10000 in
set_option maxHeartbeats 1000000 in
theorem decodeSuper_magic (p : Option Addr) (c : Nat) (xs : List Int) (w : World) (h : BI w p 128 xs) (hnc : 128 ≤ c) (h2 : ¬ xs.take 4 = [98, 111, 108, 108]) :
    Calls Try.prog 11 #[.slice p 128 c] w fun e w' => e = .returned (.tuple #[superV 0 0 0 0, .int .i64 31]) ∧ Below w.heap.size w w' := by
  have HB := grew_alloc w (superO 0 0 0 0)
  have hr0 := heap_new w (superO 0 0 0 0)
  have h0 : BI (w.alloc (superO 0 0 0 0)) p 128 xs := h.kept HB
  obtain ⟨wl, hcv, hl, hbl⟩ := conv_lit (w.alloc (superO 0 0 0 0)) [98, 111, 108, 108]
  have hrl : wl.heap[w.heap.size]? = some (superO 0 0 0 0) := by rw [hbl.block _ (by rw [size_alloc]; omega)]; exact hr0
  have hbi := hl.bi (Num.byt_of_wf (by decide)) (by decide)
  have hxl := h0.kept hbl
  have HBl := grew_trans HB hbl
  have hcv' : (convert 29 29 (.slice (some ⟨w.heap.size + 1, 0, none⟩) 4 4)).run Try.prog ((w.alloc (superO 0 0 0 0)).alloc (.cells #[.int .u8 98, .int .u8 111, .int .u8 108, .int .u8 108] 5)) = .ok (.slice (some ⟨w.heap.size + 1, 0, none⟩) 4 4) wl := by
    have := hcv 4 4
    rw [size_alloc] at this
    exact this
  rw [size_alloc] at hbi
  have hpre := hasPrefix_ok p _ 128 c 4 4 xs _ wl hxl hbi hnc
  clear hcv hl hbl h0
  rw [show decide (4 ≤ 128 ∧ xs.take 4 = [98, 111, 108, 108]) = false from decide_eq_false (fun k => h2 k.2)] at hpre
  go_enter Try.func11, Try.ntmps11
  go_wp2_with (first
    | (go_at_call 47; refine same_at hpre ?_)
    | (refine wpList_store_row rfl 25 _ _ rfl w.heap.size _ rfl rfl 25 _ hrl info25 rfl (super_one 0 0 0 0) ?_))
  refine bodyPost_ret (v := .tuple #[superV 0 0 0 0, .int .i64 31]) (results_cell_tmp_row (p := 2) (u := 3) (ty := 25) Try.results11 _ _ w.heap.size 25 _ (0, 0) _ rfl (setRow_heap _ _ _ _ _ _ hrl) Try.underlying25 rfl info25) rfl ?_
  exact ⟨rfl, below_setRow HBl (by omega) _⟩

set_option maxRecDepth 10000 in
set_option maxHeartbeats 1000000 in
theorem decodeSuper_sum (p : Option Addr) (c : Nat) (xs : List Int) (w : World) (h : BI w p 128 xs) (hnc : 128 ≤ c) (h2 : xs.take 4 = [98, 111, 108, 108]) (h3 : ¬ Num.numD xs 124 4 = Num.sum xs 124) :
    Calls Try.prog 11 #[.slice p 128 c] w fun e w' => e = .returned (.tuple #[superV 0 0 0 0, .int .i64 30]) ∧ Below w.heap.size w w' := by
  have HB := grew_alloc w (superO 0 0 0 0)
  have hr0 := heap_new w (superO 0 0 0 0)
  have h0 : BI (w.alloc (superO 0 0 0 0)) p 128 xs := h.kept HB
  obtain ⟨wl, hcv, hl, hbl⟩ := conv_lit (w.alloc (superO 0 0 0 0)) [98, 111, 108, 108]
  have hrl : wl.heap[w.heap.size]? = some (superO 0 0 0 0) := by rw [hbl.block _ (by rw [size_alloc]; omega)]; exact hr0
  have hbi := hl.bi (Num.byt_of_wf (by decide)) (by decide)
  have hxl := h0.kept hbl
  have HBl := grew_trans HB hbl
  have hcv' : (convert 29 29 (.slice (some ⟨w.heap.size + 1, 0, none⟩) 4 4)).run Try.prog ((w.alloc (superO 0 0 0 0)).alloc (.cells #[.int .u8 98, .int .u8 111, .int .u8 108, .int .u8 108] 5)) = .ok (.slice (some ⟨w.heap.size + 1, 0, none⟩) 4 4) wl := by
    have := hcv 4 4
    rw [size_alloc] at this
    exact this
  rw [size_alloc] at hbi
  have hpre := hasPrefix_ok p _ 128 c 4 4 xs _ wl hxl hbi hnc
  clear hcv hl hbl h0
  rw [show decide (4 ≤ 128 ∧ xs.take 4 = [98, 111, 108, 108]) = true from decide_eq_true ⟨by decide, h2⟩] at hpre
  have hse := sealed_ok p 128 c xs wl hxl hnc (by decide)
  rw [show (Num.numD xs (128 - 4) 4 == Num.sum xs (128 - 4)) = false from beq_eq_false_iff_ne.2 h3] at hse
  go_enter Try.func11, Try.ntmps11
  go_wp2_with (first
    | (go_at_call 47; refine same_at hpre ?_)
    | (go_at_call 48; refine same_at hse ?_)
    | (refine wpList_store_row rfl 25 _ _ rfl w.heap.size _ rfl rfl 25 _ hrl info25 rfl (super_one 0 0 0 0) ?_))
  refine bodyPost_ret (v := .tuple #[superV 0 0 0 0, .int .i64 30]) (results_cell_tmp_row (p := 2) (u := 3) (ty := 25) Try.results11 _ _ w.heap.size 25 _ (0, 0) _ rfl (setRow_heap _ _ _ _ _ _ hrl) Try.underlying25 rfl info25) rfl ?_
  exact ⟨rfl, below_setRow HBl (by omega) _⟩

set_option maxRecDepth 10000 in
set_option maxHeartbeats 1000000 in
theorem decodeSuper_in (p : Option Addr) (c : Nat) (xs : List Int) (w : World) (h : BI w p 128 xs) (hnc : 128 ≤ c) (h2 : xs.take 4 = [98, 111, 108, 108]) (h3 : Num.numD xs 124 4 = Num.sum xs 124) :
    Calls Try.prog 11 #[.slice p 128 c] w fun e w' => e = .returned (if SGood xs (rG xs) (rB xs) (rI xs) (rM xs) then .tuple #[superV (rG xs) (rB xs) (rI xs) (rM xs), .int .i64 0] else .tuple #[superV 0 0 0 0, .int .i64 6]) ∧ Below w.heap.size w w' := by
  have HB := grew_alloc w (superO 0 0 0 0)
  have hr0 := heap_new w (superO 0 0 0 0)
  have h0 : BI (w.alloc (superO 0 0 0 0)) p 128 xs := h.kept HB
  obtain ⟨wl, hcv, hl, hbl⟩ := conv_lit (w.alloc (superO 0 0 0 0)) [98, 111, 108, 108]
  have hrl : wl.heap[w.heap.size]? = some (superO 0 0 0 0) := by rw [hbl.block _ (by rw [size_alloc]; omega)]; exact hr0
  have hbi := hl.bi (Num.byt_of_wf (by decide)) (by decide)
  have hxl := h0.kept hbl
  have HBl := grew_trans HB hbl
  have hcv' : (convert 29 29 (.slice (some ⟨w.heap.size + 1, 0, none⟩) 4 4)).run Try.prog ((w.alloc (superO 0 0 0 0)).alloc (.cells #[.int .u8 98, .int .u8 111, .int .u8 108, .int .u8 108] 5)) = .ok (.slice (some ⟨w.heap.size + 1, 0, none⟩) 4 4) wl := by
    have := hcv 4 4
    rw [size_alloc] at this
    exact this
  rw [size_alloc] at hbi
  have hpre := hasPrefix_ok p _ 128 c 4 4 xs _ wl hxl hbi hnc
  clear hcv hl hbl h0
  rw [show decide (4 ≤ 128 ∧ xs.take 4 = [98, 111, 108, 108]) = true from decide_eq_true ⟨by decide, h2⟩] at hpre
  have hse := sealed_ok p 128 c xs wl hxl hnc (by decide)
  rw [show (Num.numD xs (128 - 4) 4 == Num.sum xs (128 - 4)) = true from beq_iff_eq.2 h3] at hse
  have hrd := readSuper_ok p c xs wl hxl
  have hfo := fun w' (hb : Below wl.heap.size wl w') => sform_ok (rG xs) (rB xs) (rI xs) (rM xs) p 128 c xs w' (hxl.kept hb)
  generalize rG xs = a at *
  generalize rB xs = b at *
  generalize rI xs = i at *
  generalize rM xs = m at *
  by_cases hg : SGood xs a b i m
  · simp only [if_pos hg] at hfo ⊢
    go_enter Try.func11, Try.ntmps11
    go_wp2_with (first
      | (go_at_call 47; refine same_at hpre ?_)
      | (go_at_call 48; refine same_at hse ?_)
      | (go_at_call 50; refine grew_at hrd ?_; intro w1 hb1; have hr1 : w1.heap[w.heap.size]? = some (superO 0 0 0 0) := by rw [hb1.block _ (by have := HBl.size; have := (Array.getElem?_eq_some_iff.1 hrl).1; omega)]; exact hrl)
      | (go_at_call 49; refine grew_at (hfo _ hb1) ?_; intro w2 hb2; have hr2 : w2.heap[w.heap.size]? = some (superO 0 0 0 0) := by rw [hb2.block _ (Array.getElem?_eq_some_iff.1 hr1).1]; exact hr1)
      | (refine wpList_store_row rfl 25 _ _ rfl w.heap.size _ rfl rfl 25 _ hr2 info25 rfl (super_one a b i m) ?_))
    refine bodyPost_ret (v := .tuple #[superV a b i m, .int .i64 0]) (results_cell_tmp_row (p := 2) (u := 3) (ty := 25) Try.results11 _ _ w.heap.size 25 _ (0, 0) _ rfl (setRow_heap _ _ _ _ _ _ hr2) Try.underlying25 rfl info25) rfl ?_
    exact ⟨rfl, below_setRow (grew_trans (grew_trans HBl hb1) hb2) (by omega) _⟩
  · simp only [if_neg hg] at hfo ⊢
    go_enter Try.func11, Try.ntmps11
    go_wp2_with (first
      | (go_at_call 47; refine same_at hpre ?_)
      | (go_at_call 48; refine same_at hse ?_)
      | (go_at_call 50; refine grew_at hrd ?_; intro w1 hb1; have hr1 : w1.heap[w.heap.size]? = some (superO 0 0 0 0) := by rw [hb1.block _ (by have := HBl.size; have := (Array.getElem?_eq_some_iff.1 hrl).1; omega)]; exact hrl)
      | (go_at_call 49; refine grew_at (hfo _ hb1) ?_; intro w2 hb2; have hr2 : w2.heap[w.heap.size]? = some (superO 0 0 0 0) := by rw [hb2.block _ (Array.getElem?_eq_some_iff.1 hr1).1]; exact hr1)
      | (refine wpList_store_row rfl 25 _ _ rfl w.heap.size _ rfl rfl 25 _ hr2 info25 rfl (super_one 0 0 0 0) ?_))
    refine bodyPost_ret (v := .tuple #[superV 0 0 0 0, .int .i64 6]) (results_cell_tmp_row (p := 2) (u := 3) (ty := 25) Try.results11 _ _ w.heap.size 25 _ (0, 0) _ rfl (setRow_heap _ _ _ _ _ _ hr2) Try.underlying25 rfl info25) rfl ?_
    exact ⟨rfl, below_setRow (grew_trans (grew_trans HBl hb1) hb2) (by omega) _⟩

set_option maxHeartbeats 1000000 in
theorem decodeSuper_ok (p : Option Addr) (n c : Nat) (xs : List Int) (w : World) (h : BI w p n xs) (hnc : n ≤ c) :
    Calls Try.prog 11 #[.slice p n c] w fun e w' => e = .returned (.tuple #[decV n xs, .int .i64 (decE n xs)]) ∧ Below w.heap.size w w' := by
  have HB := grew_alloc w (superO 0 0 0 0)
  have hr0 := heap_new w (superO 0 0 0 0)
  have hbig := h.big
  by_cases h1 : n = 128
  · subst h1
    by_cases h2 : xs.take 4 = [98, 111, 108, 108]
    · by_cases h3 : Num.numD xs 124 4 = Num.sum xs 124
      · refine (decodeSuper_in p c xs w h hnc h2 h3).mono ?_
        rintro e w' ⟨rfl, hb⟩
        refine ⟨?_, hb⟩
        by_cases hg : SGood xs (rG xs) (rB xs) (rI xs) (rM xs)
        · have e1 : decE 128 xs = 0 := by unfold decE; rw [if_neg (by simp), if_neg (by simp [h2]), if_neg (by simp [h3]), if_pos hg]
          have e2 : decV 128 xs = superV (rG xs) (rB xs) (rI xs) (rM xs) := by unfold decV; rw [if_pos e1]
          rw [e1, e2, if_pos hg]
        · have e1 : decE 128 xs = 6 := by unfold decE; rw [if_neg (by simp), if_neg (by simp [h2]), if_neg (by simp [h3]), if_neg hg]
          have e2 : decV 128 xs = superV 0 0 0 0 := by unfold decV; rw [e1]; rfl
          rw [e1, e2, if_neg hg]
      · have e1 : decE 128 xs = 30 := by unfold decE; rw [if_neg (by simp), if_neg (by simp [h2]), if_pos h3]
        have e2 : decV 128 xs = superV 0 0 0 0 := by unfold decV; rw [e1]; rfl
        rw [e1, e2]
        exact decodeSuper_sum p c xs w h hnc h2 h3
    · have e1 : decE 128 xs = 31 := by unfold decE; rw [if_neg (by simp), if_pos h2]
      have e2 : decV 128 xs = superV 0 0 0 0 := by unfold decV; rw [e1]; rfl
      rw [e1, e2]
      exact decodeSuper_magic p c xs w h hnc h2
  · have e1 : decE n xs = 6 := by unfold decE; rw [if_pos h1]
    have e2 : decV n xs = superV 0 0 0 0 := by unfold decV; rw [e1]; rfl
    rw [e1, e2]
    have hI : ¬ (n : Int) = 128 := by omega
    go_enter Try.func11, Try.ntmps11
    go_wp2_with (refine wpList_store_row rfl 25 _ _ rfl w.heap.size _ rfl rfl 25 _ hr0 info25 rfl (super_one 0 0 0 0) ?_)
    refine bodyPost_ret (v := .tuple #[superV 0 0 0 0, .int .i64 6]) (results_cell_tmp_row (p := 2) (u := 3) (ty := 25) Try.results11 _ _ w.heap.size 25 _ (0, 0) _ rfl (setRow_heap _ _ _ _ _ _ hr0) Try.underlying25 rfl info25) rfl ?_
    exact ⟨rfl, below_setRow HB (by omega) _⟩
end Go.Proofs.Ytkmijjipnepnoab
