/- Headers out of bytes: whether they are in form. -/
import Derived.Test.YtkmijjipnepnoaaDGroup
namespace Go.Proofs.Ytkmijjipnepnoaa
open Go.RowKit
set_option linter.unusedVariables false

theorem encodeGroup_yes1 (N : Int) (ys : List Int) (hl : ys.length = 40) (hy : Num.Byt ys) (h : GMay N) (w : World) : Calls Try.prog 15 #[groupV N ys] w fun e w' => ∃ g cap, e = .returned (.tuple #[.slice (some ⟨g, 0, none⟩) 128 cap, .int .i64 0]) ∧ Own w.heap.size w' g 128 cap (groupL N ys) ∧ Below w.heap.size w w' :=
  (encodeGroup_yes N ys hl hy h w).mono fun e w' ⟨g, he, ho, hb⟩ => ⟨g, 128, he, ho, hb⟩
theorem call15 (args : Array Value) (w : World) : (callFunc 15 args).run Try.prog w = .ok (.enter 15 args) w := by kernel_rfl
/-- The bytes are those that are written for what they say. -/
def GGood (xs : List Int) (N : Int) (ys : List Int) : Prop := GMay N ∧ groupL N ys = xs
instance (xs : List Int) (N : Int) (ys : List Int) : Decidable (GGood xs N ys) := by unfold GGood; infer_instance

set_option maxRecDepth 10000 in
set_option maxHeartbeats 1000000 in
theorem gform_yes (N : Int) (ys : List Int) (hl : ys.length = 40) (hy : Num.Byt ys) (p : Option Addr) (n cc : Nat) (xs : List Int) (w : World) (h : BI w p n xs) (hm : GMay N) (he : groupL N ys = xs) :
    Calls Try.prog 53 #[groupV N ys, .slice p n cc, .func (.func 15) #[] #[]] w fun e w' => e = .returned (.tuple #[groupV N ys, .int .i64 0]) ∧ Below w.heap.size w w' := by
  have hc9 := call15
  have HB := (grew_alloc w (groupO N ys)).trans ((grew_alloc (w.alloc (groupO N ys)) (groupO 0 (zers 40))).mono (by rw [size_alloc]; omega))
  have hx0 : ((w.alloc (groupO N ys)).alloc (groupO 0 (zers 40))).heap[w.heap.size]? = some (groupO N ys) := by rw [Below.heap_alloc _ _ _ (by rw [size_alloc]; omega)]; exact heap_new _ _
  have hr0 : ((w.alloc (groupO N ys)).alloc (groupO 0 (zers 40))).heap[w.heap.size + 1]? = some (groupO 0 (zers 40)) := by
    have := heap_new (w.alloc (groupO N ys)) (groupO 0 (zers 40))
    rwa [size_alloc] at this
  have hsz : ((w.alloc (groupO N ys)).alloc (groupO 0 (zers 40))).heap.size = w.heap.size + 2 := by rw [size_alloc, size_alloc]
  have h0 : BI ((w.alloc (groupO N ys)).alloc (groupO 0 (zers 40))) p n xs := h.kept HB
  have hx0' := hx0
  dsimp only [groupO] at hx0'
  rw [zero38] at hx0'
  go_enter Try.func53, Try.ntmps53
  go_wp2_with (refine wpList_load_row rfl 38 _ rfl w.heap.size rfl 38 _ (0, 0) _ hx0' Try.underlying38 rfl (info38 N ys hl) ?_)
  rw [← zero38]
  clear hx0'
  generalize (w.alloc (groupO N ys)).alloc (groupO 0 (zers 40)) = w0 at *
  refine Calls.mono (encodeGroup_yes1 N ys hl hy hm _) ?_
  rintro e w1 ⟨g, cap, rfl, ho, hb1⟩
  have hx1 : w1.heap[w.heap.size]? = some (groupO N ys) := by rw [hb1.block _ (by omega)]; exact hx0
  have hr1 : w1.heap[w.heap.size + 1]? = some (groupO 0 (zers 40)) := by rw [hb1.block _ (by omega)]; exact hr0
  have hq := equal_any _ p 128 cap n cc _ xs w1 (ho.bi (by omega) (groupL_byt N ys hy)) (h0.kept hb1)
  have HB1 := grew_trans HB hb1
  have heq : (groupL N ys == xs) = true := by rw [beq_iff_eq]; exact he
  rw [heq] at hq
  clear hx0 hr0 hsz ho h0 heq he h
  go_wp2_with (first
    | (go_at_call 14; refine same_at hq ?_)
    | (refine wpList_load_row rfl 38 _ rfl w.heap.size rfl 38 _ (0, 0) _ hx1 Try.underlying38 rfl (info38 N ys hl) ?_)
    | (refine wpList_store_row rfl 38 _ _ rfl (w.heap.size + 1) _ rfl rfl 38 _ hr1 (info38 N ys hl) ((groupA_size 0 (zers 40) (zers_len 40)).trans (groupA_size N ys hl).symm) (group_one N ys) ?_))
  refine bodyPost_ret (v := .tuple #[groupV N ys, .int .i64 0]) (results_cell_tmp_row (p := 6) (u := 7) (ty := 38) Try.results53 _ _ (w.heap.size + 1) 38 _ (0, 0) _ rfl (setRow_heap _ _ _ _ _ _ hr1) Try.underlying38 rfl (info38 N ys hl)) rfl ?_
  exact ⟨rfl, below_setRow HB1 (by omega) _⟩

set_option maxRecDepth 10000 in
set_option maxHeartbeats 1000000 in
theorem gform_bad (N : Int) (ys : List Int) (hl : ys.length = 40) (hy : Num.Byt ys) (p : Option Addr) (n cc : Nat) (xs : List Int) (w : World) (h : BI w p n xs) (hm : GMay N) (he : ¬ groupL N ys = xs) :
    Calls Try.prog 53 #[groupV N ys, .slice p n cc, .func (.func 15) #[] #[]] w fun e w' => e = .returned (.tuple #[groupV 0 (zers 40), .int .i64 6]) ∧ Below w.heap.size w w' := by
  have hc9 := call15
  have HB := (grew_alloc w (groupO N ys)).trans ((grew_alloc (w.alloc (groupO N ys)) (groupO 0 (zers 40))).mono (by rw [size_alloc]; omega))
  have hx0 : ((w.alloc (groupO N ys)).alloc (groupO 0 (zers 40))).heap[w.heap.size]? = some (groupO N ys) := by rw [Below.heap_alloc _ _ _ (by rw [size_alloc]; omega)]; exact heap_new _ _
  have hr0 : ((w.alloc (groupO N ys)).alloc (groupO 0 (zers 40))).heap[w.heap.size + 1]? = some (groupO 0 (zers 40)) := by
    have := heap_new (w.alloc (groupO N ys)) (groupO 0 (zers 40))
    rwa [size_alloc] at this
  have hsz : ((w.alloc (groupO N ys)).alloc (groupO 0 (zers 40))).heap.size = w.heap.size + 2 := by rw [size_alloc, size_alloc]
  have h0 : BI ((w.alloc (groupO N ys)).alloc (groupO 0 (zers 40))) p n xs := h.kept HB
  have hx0' := hx0
  dsimp only [groupO] at hx0'
  rw [zero38] at hx0'
  go_enter Try.func53, Try.ntmps53
  go_wp2_with (refine wpList_load_row rfl 38 _ rfl w.heap.size rfl 38 _ (0, 0) _ hx0' Try.underlying38 rfl (info38 N ys hl) ?_)
  rw [← zero38]
  clear hx0'
  generalize (w.alloc (groupO N ys)).alloc (groupO 0 (zers 40)) = w0 at *
  refine Calls.mono (encodeGroup_yes1 N ys hl hy hm _) ?_
  rintro e w1 ⟨g, cap, rfl, ho, hb1⟩
  have hx1 : w1.heap[w.heap.size]? = some (groupO N ys) := by rw [hb1.block _ (by omega)]; exact hx0
  have hr1 : w1.heap[w.heap.size + 1]? = some (groupO 0 (zers 40)) := by rw [hb1.block _ (by omega)]; exact hr0
  have hq := equal_any _ p 128 cap n cc _ xs w1 (ho.bi (by omega) (groupL_byt N ys hy)) (h0.kept hb1)
  have HB1 := grew_trans HB hb1
  have heq : (groupL N ys == xs) = false := by rw [beq_eq_false_iff_ne]; exact he
  rw [heq] at hq
  have hr2 : (w1.alloc (groupO 0 (zers 40))).heap[w.heap.size + 1]? = some (groupO 0 (zers 40)) := at_old hr1
  have hr3 := hr2
  dsimp only [groupO] at hr3
  rw [zero38] at hr3
  clear hx0 hr0 hsz ho h0 heq he h
  go_wp2_with (first
    | (go_at_call 14; refine same_at hq ?_)
    | (refine wpList_load_row rfl 38 _ rfl w1.heap.size rfl 38 _ (0, 0) _ (heap_new w1 _) Try.underlying38 rfl (by rw [← zero38]; exact info38 0 (zers 40) (zers_len 40)) ?_)
    | (refine wpList_store_row rfl 38 _ _ rfl (w.heap.size + 1) _ rfl rfl 38 _ hr3 (by rw [← zero38]; exact info38 0 (zers 40) (zers_len 40)) rfl (by rw [← zero38]; exact group_one 0 (zers 40)) ?_))
  rw [← zero38]
  refine bodyPost_ret (v := .tuple #[groupV 0 (zers 40), .int .i64 6]) (results_cell_tmp_row (p := 6) (u := 7) (ty := 38) Try.results53 _ _ (w.heap.size + 1) 38 _ (0, 0) _ rfl (setRow_heap _ _ _ _ _ _ hr2) Try.underlying38 rfl (info38 0 (zers 40) (zers_len 40))) rfl ?_
  exact ⟨rfl, below_setRow (HB1.alloc HB1.size _) (by omega) _⟩

set_option maxRecDepth 10000 in
set_option maxHeartbeats 1000000 in
theorem gform_no (N : Int) (ys : List Int) (hl : ys.length = 40) (hy : Num.Byt ys) (p : Option Addr) (n cc : Nat) (xs : List Int) (w : World) (h : BI w p n xs) (hm : ¬ GMay N) :
    Calls Try.prog 53 #[groupV N ys, .slice p n cc, .func (.func 15) #[] #[]] w fun e w' => e = .returned (.tuple #[groupV 0 (zers 40), .int .i64 6]) ∧ Below w.heap.size w w' := by
  have hc9 := call15
  have HB := (grew_alloc w (groupO N ys)).trans ((grew_alloc (w.alloc (groupO N ys)) (groupO 0 (zers 40))).mono (by rw [size_alloc]; omega))
  have hx0 : ((w.alloc (groupO N ys)).alloc (groupO 0 (zers 40))).heap[w.heap.size]? = some (groupO N ys) := by rw [Below.heap_alloc _ _ _ (by rw [size_alloc]; omega)]; exact heap_new _ _
  have hr0 : ((w.alloc (groupO N ys)).alloc (groupO 0 (zers 40))).heap[w.heap.size + 1]? = some (groupO 0 (zers 40)) := by
    have := heap_new (w.alloc (groupO N ys)) (groupO 0 (zers 40))
    rwa [size_alloc] at this
  have hsz : ((w.alloc (groupO N ys)).alloc (groupO 0 (zers 40))).heap.size = w.heap.size + 2 := by rw [size_alloc, size_alloc]
  have hx0' := hx0
  dsimp only [groupO] at hx0'
  rw [zero38] at hx0'
  go_enter Try.func53, Try.ntmps53
  go_wp2_with (refine wpList_load_row rfl 38 _ rfl w.heap.size rfl 38 _ (0, 0) _ hx0' Try.underlying38 rfl (info38 N ys hl) ?_)
  rw [← zero38]
  clear hx0'
  generalize (w.alloc (groupO N ys)).alloc (groupO 0 (zers 40)) = w0 at *
  refine grew_at (encodeGroup_no N ys hl hm _) ?_
  intro w1 hb1
  have hr1 : w1.heap[w.heap.size + 1]? = some (groupO 0 (zers 40)) := by rw [hb1.block _ (by omega)]; exact hr0
  have HB1 := grew_trans HB hb1
  have hr2 : (w1.alloc (groupO 0 (zers 40))).heap[w.heap.size + 1]? = some (groupO 0 (zers 40)) := at_old hr1
  have hr3 := hr2
  dsimp only [groupO] at hr3
  rw [zero38] at hr3
  clear hx0 hr0 hsz h
  go_wp2_with (first
    | (refine wpList_load_row rfl 38 _ rfl w1.heap.size rfl 38 _ (0, 0) _ (heap_new w1 _) Try.underlying38 rfl (by rw [← zero38]; exact info38 0 (zers 40) (zers_len 40)) ?_)
    | (refine wpList_store_row rfl 38 _ _ rfl (w.heap.size + 1) _ rfl rfl 38 _ hr3 (by rw [← zero38]; exact info38 0 (zers 40) (zers_len 40)) rfl (by rw [← zero38]; exact group_one 0 (zers 40)) ?_))
  rw [← zero38]
  refine bodyPost_ret (v := .tuple #[groupV 0 (zers 40), .int .i64 6]) (results_cell_tmp_row (p := 6) (u := 7) (ty := 38) Try.results53 _ _ (w.heap.size + 1) 38 _ (0, 0) _ rfl (setRow_heap _ _ _ _ _ _ hr2) Try.underlying38 rfl (info38 0 (zers 40) (zers_len 40))) rfl ?_
  exact ⟨rfl, below_setRow (HB1.alloc HB1.size _) (by omega) _⟩

theorem gform_ok (N : Int) (ys : List Int) (hl : ys.length = 40) (hy : Num.Byt ys) (p : Option Addr) (n cc : Nat) (xs : List Int) (w : World) (h : BI w p n xs) :
    Calls Try.prog 53 #[groupV N ys, .slice p n cc, .func (.func 15) #[] #[]] w fun e w' => e = .returned (if GGood xs N ys then .tuple #[groupV N ys, .int .i64 0] else .tuple #[groupV 0 (zers 40), .int .i64 6]) ∧ Below w.heap.size w w' := by
  by_cases hm : GMay N
  · by_cases he : groupL N ys = xs
    · rw [if_pos ⟨hm, he⟩]
      exact gform_yes N ys hl hy p n cc xs w h hm he
    · rw [if_neg (fun k => he k.2)]
      exact gform_bad N ys hl hy p n cc xs w h hm he
  · rw [if_neg (fun k => hm k.1)]
    exact gform_no N ys hl hy p n cc xs w h hm

end Go.Proofs.Ytkmijjipnepnoaa
