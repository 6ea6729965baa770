/- Inodes out of bytes: whether they are in form. -/
import Derived.Test.YtkmijjipnepnoabDDin
namespace Go.Proofs.Ytkmijjipnepnoab
open Go.RowKit
set_option linter.unusedVariables false

theorem dmay_zero {l s a b c d i j : Int} (h : DMay 0 l s a b c d i j) : l = 0 ∧ s = 0 ∧ a = 0 ∧ b = 0 ∧ c = 0 ∧ d = 0 ∧ i = 0 ∧ j = 0 := by
  unfold DMay at h
  omega

theorem encodeDinode_yes (m l s a b c d i j : Int) (h : DMay m l s a b c d i j) (w : World) : Calls Try.prog 12 #[dinV m l s a b c d i j] w fun e w' => ∃ g cap, e = .returned (.tuple #[.slice (some ⟨g, 0, none⟩) 32 cap, .int .i64 0]) ∧ Own w.heap.size w' g 32 cap (dinB m l s a b c d i j) ∧ Below w.heap.size w w' := by
  by_cases h0 : m = 0
  · subst h0
    obtain ⟨rfl, rfl, rfl, rfl, rfl, rfl, rfl, rfl⟩ := dmay_zero h
    exact encodeDinode_free w
  · rw [dinB, if_neg h0]
    exact encodeDinode_used m l s a b c d i j h h0 w
theorem rencodeDinode_yes (m l s a b c d i j : Int) (h : DMay m l s a b c d i j) (w : World) : Calls Try.prog 13 #[dinV m l s a b c d i j] w fun e w' => ∃ g cap, e = .returned (.tuple #[.slice (some ⟨g, 0, none⟩) 32 cap, .int .i64 0]) ∧ Own w.heap.size w' g 32 cap (dinB m l s a b c d i j) ∧ Below w.heap.size w w' := by
  by_cases h0 : m = 0
  · subst h0
    obtain ⟨rfl, rfl, rfl, rfl, rfl, rfl, rfl, rfl⟩ := dmay_zero h
    exact rencodeDinode_free w
  · rw [dinB, if_neg h0]
    exact rencodeDinode_used m l s a b c d i j h h0 w

theorem call19 (args : Array Value) (w : World) : (callFunc 12 args).run Try.prog w = .ok (.enter 12 args) w := by kernel_rfl
/-- The bytes are those that are written for what they say. -/
def DGood (xs : List Int) (m l s a b c d i j : Int) : Prop := DMay m l s a b c d i j ∧ dinB m l s a b c d i j = xs
instance (xs : List Int) (m l s a b c d i j : Int) : Decidable (DGood xs m l s a b c d i j) := by unfold DGood; infer_instance

set_option maxHeartbeats 1000000 in
theorem dform_yes (m l s a b c d i j : Int) (p : Option Addr) (n cc : Nat) (xs : List Int) (w : World) (h : BI w p n xs) (hm : DMay m l s a b c d i j) (he : dinB m l s a b c d i j = xs) :
    Calls Try.prog 54 #[dinV m l s a b c d i j, .slice p n cc, .func (.func 12) #[] #[]] w fun e w' => e = .returned (.tuple #[dinV m l s a b c d i j, .int .i64 0]) ∧ Below w.heap.size w w' := by
  have hc9 := call19
  have HB := (grew_alloc w (dinO m l s a b c d i j)).trans ((grew_alloc (w.alloc (dinO m l s a b c d i j)) (dinO 0 0 0 0 0 0 0 0 0)).mono (by rw [size_alloc]; omega))
  have hx0 : ((w.alloc (dinO m l s a b c d i j)).alloc (dinO 0 0 0 0 0 0 0 0 0)).heap[w.heap.size]? = some (dinO m l s a b c d i j) := by rw [Below.heap_alloc _ _ _ (by rw [size_alloc]; omega)]; exact heap_new _ _
  have hr0 : ((w.alloc (dinO m l s a b c d i j)).alloc (dinO 0 0 0 0 0 0 0 0 0)).heap[w.heap.size + 1]? = some (dinO 0 0 0 0 0 0 0 0 0) := by
    have := heap_new (w.alloc (dinO m l s a b c d i j)) (dinO 0 0 0 0 0 0 0 0 0)
    rwa [size_alloc] at this
  have hsz : ((w.alloc (dinO m l s a b c d i j)).alloc (dinO 0 0 0 0 0 0 0 0 0)).heap.size = w.heap.size + 2 := by rw [size_alloc, size_alloc]
  have h0 : BI ((w.alloc (dinO m l s a b c d i j)).alloc (dinO 0 0 0 0 0 0 0 0 0)) p n xs := h.kept HB
  go_enter Try.func54, Try.ntmps54
  go_wp2_with fail
  generalize (w.alloc (dinO m l s a b c d i j)).alloc (dinO 0 0 0 0 0 0 0 0 0) = w0 at *
  refine Calls.mono (encodeDinode_yes m l s a b c d i j hm _) ?_
  rintro e w1 ⟨g, cap, rfl, ho, hb1⟩
  have hx1 : w1.heap[w.heap.size]? = some (dinO m l s a b c d i j) := by rw [hb1.block _ (by omega)]; exact hx0
  have hr1 : w1.heap[w.heap.size + 1]? = some (dinO 0 0 0 0 0 0 0 0 0) := by rw [hb1.block _ (by omega)]; exact hr0
  have hq := equal_any _ p 32 cap n cc _ xs w1 (ho.bi (by omega) (dinB_byt m l s a b c d i j)) (h0.kept hb1)
  have HB1 := grew_trans HB hb1
  have heq : (dinB m l s a b c d i j == xs) = true := by rw [beq_iff_eq]; exact he
  rw [heq] at hq
  clear hx0 hr0 hsz ho h0 heq he h
  go_wp2_with (first
    | (go_at_call 68; refine same_at hq ?_)
    | (refine wpList_load_row rfl 28 _ rfl w.heap.size rfl 28 _ (0, 0) _ hx1 Try.underlying28 rfl info45 ?_)
    | (refine wpList_store_row rfl 28 _ _ rfl (w.heap.size + 1) _ rfl rfl 28 _ hr1 info45 rfl (din_one m l s a b c d i j) ?_))
  refine bodyPost_ret (v := .tuple #[dinV m l s a b c d i j, .int .i64 0]) (results_cell_tmp_row (p := 6) (u := 7) (ty := 28) Try.results54 _ _ (w.heap.size + 1) 28 _ (0, 0) _ rfl (setRow_heap _ _ _ _ _ _ hr1) Try.underlying28 rfl info45) rfl ?_
  exact ⟨rfl, below_setRow HB1 (by omega) _⟩

set_option maxHeartbeats 1000000 in
theorem dform_bad (m l s a b c d i j : Int) (p : Option Addr) (n cc : Nat) (xs : List Int) (w : World) (h : BI w p n xs) (hm : DMay m l s a b c d i j) (he : ¬ dinB m l s a b c d i j = xs) :
    Calls Try.prog 54 #[dinV m l s a b c d i j, .slice p n cc, .func (.func 12) #[] #[]] w fun e w' => e = .returned (.tuple #[dinV 0 0 0 0 0 0 0 0 0, .int .i64 6]) ∧ Below w.heap.size w w' := by
  have hc9 := call19
  have HB := (grew_alloc w (dinO m l s a b c d i j)).trans ((grew_alloc (w.alloc (dinO m l s a b c d i j)) (dinO 0 0 0 0 0 0 0 0 0)).mono (by rw [size_alloc]; omega))
  have hx0 : ((w.alloc (dinO m l s a b c d i j)).alloc (dinO 0 0 0 0 0 0 0 0 0)).heap[w.heap.size]? = some (dinO m l s a b c d i j) := by rw [Below.heap_alloc _ _ _ (by rw [size_alloc]; omega)]; exact heap_new _ _
  have hr0 : ((w.alloc (dinO m l s a b c d i j)).alloc (dinO 0 0 0 0 0 0 0 0 0)).heap[w.heap.size + 1]? = some (dinO 0 0 0 0 0 0 0 0 0) := by
    have := heap_new (w.alloc (dinO m l s a b c d i j)) (dinO 0 0 0 0 0 0 0 0 0)
    rwa [size_alloc] at this
  have hsz : ((w.alloc (dinO m l s a b c d i j)).alloc (dinO 0 0 0 0 0 0 0 0 0)).heap.size = w.heap.size + 2 := by rw [size_alloc, size_alloc]
  have h0 : BI ((w.alloc (dinO m l s a b c d i j)).alloc (dinO 0 0 0 0 0 0 0 0 0)) p n xs := h.kept HB
  go_enter Try.func54, Try.ntmps54
  go_wp2_with fail
  generalize (w.alloc (dinO m l s a b c d i j)).alloc (dinO 0 0 0 0 0 0 0 0 0) = w0 at *
  refine Calls.mono (encodeDinode_yes m l s a b c d i j hm _) ?_
  rintro e w1 ⟨g, cap, rfl, ho, hb1⟩
  have hx1 : w1.heap[w.heap.size]? = some (dinO m l s a b c d i j) := by rw [hb1.block _ (by omega)]; exact hx0
  have hr1 : w1.heap[w.heap.size + 1]? = some (dinO 0 0 0 0 0 0 0 0 0) := by rw [hb1.block _ (by omega)]; exact hr0
  have hq := equal_any _ p 32 cap n cc _ xs w1 (ho.bi (by omega) (dinB_byt m l s a b c d i j)) (h0.kept hb1)
  have HB1 := grew_trans HB hb1
  have heq : (dinB m l s a b c d i j == xs) = false := by rw [beq_eq_false_iff_ne]; exact he
  rw [heq] at hq
  have hr2 : (w1.alloc (dinO 0 0 0 0 0 0 0 0 0)).heap[w.heap.size + 1]? = some (dinO 0 0 0 0 0 0 0 0 0) := at_old hr1
  clear hx0 hr0 hsz ho h0 heq he h
  go_wp2_with (first
    | (go_at_call 68; refine same_at hq ?_)
    | (refine wpList_store_row rfl 28 _ _ rfl (w.heap.size + 1) _ rfl rfl 28 _ hr2 info45 rfl (din_one 0 0 0 0 0 0 0 0 0) ?_))
  refine bodyPost_ret (v := .tuple #[dinV 0 0 0 0 0 0 0 0 0, .int .i64 6]) (results_cell_tmp_row (p := 6) (u := 7) (ty := 28) Try.results54 _ _ (w.heap.size + 1) 28 _ (0, 0) _ rfl (setRow_heap _ _ _ _ _ _ hr2) Try.underlying28 rfl info45) rfl ?_
  exact ⟨rfl, below_setRow (HB1.alloc HB1.size _) (by omega) _⟩

set_option maxHeartbeats 1000000 in
theorem dform_no (m l s a b c d i j : Int) (p : Option Addr) (n cc : Nat) (xs : List Int) (w : World) (h : BI w p n xs) (hm : ¬ DMay m l s a b c d i j) :
    Calls Try.prog 54 #[dinV m l s a b c d i j, .slice p n cc, .func (.func 12) #[] #[]] w fun e w' => e = .returned (.tuple #[dinV 0 0 0 0 0 0 0 0 0, .int .i64 6]) ∧ Below w.heap.size w w' := by
  have hc9 := call19
  have HB := (grew_alloc w (dinO m l s a b c d i j)).trans ((grew_alloc (w.alloc (dinO m l s a b c d i j)) (dinO 0 0 0 0 0 0 0 0 0)).mono (by rw [size_alloc]; omega))
  have hx0 : ((w.alloc (dinO m l s a b c d i j)).alloc (dinO 0 0 0 0 0 0 0 0 0)).heap[w.heap.size]? = some (dinO m l s a b c d i j) := by rw [Below.heap_alloc _ _ _ (by rw [size_alloc]; omega)]; exact heap_new _ _
  have hr0 : ((w.alloc (dinO m l s a b c d i j)).alloc (dinO 0 0 0 0 0 0 0 0 0)).heap[w.heap.size + 1]? = some (dinO 0 0 0 0 0 0 0 0 0) := by
    have := heap_new (w.alloc (dinO m l s a b c d i j)) (dinO 0 0 0 0 0 0 0 0 0)
    rwa [size_alloc] at this
  have hsz : ((w.alloc (dinO m l s a b c d i j)).alloc (dinO 0 0 0 0 0 0 0 0 0)).heap.size = w.heap.size + 2 := by rw [size_alloc, size_alloc]
  go_enter Try.func54, Try.ntmps54
  go_wp2_with fail
  generalize (w.alloc (dinO m l s a b c d i j)).alloc (dinO 0 0 0 0 0 0 0 0 0) = w0 at *
  refine grew_at (encodeDinode_no m l s a b c d i j hm _) ?_
  intro w1 hb1
  have hr1 : w1.heap[w.heap.size + 1]? = some (dinO 0 0 0 0 0 0 0 0 0) := by rw [hb1.block _ (by omega)]; exact hr0
  have HB1 := grew_trans HB hb1
  have hr2 : (w1.alloc (dinO 0 0 0 0 0 0 0 0 0)).heap[w.heap.size + 1]? = some (dinO 0 0 0 0 0 0 0 0 0) := at_old hr1
  clear hx0 hr0 hsz h
  go_wp2_with (first
    | (refine wpList_store_row rfl 28 _ _ rfl (w.heap.size + 1) _ rfl rfl 28 _ hr2 info45 rfl (din_one 0 0 0 0 0 0 0 0 0) ?_))
  refine bodyPost_ret (v := .tuple #[dinV 0 0 0 0 0 0 0 0 0, .int .i64 6]) (results_cell_tmp_row (p := 6) (u := 7) (ty := 28) Try.results54 _ _ (w.heap.size + 1) 28 _ (0, 0) _ rfl (setRow_heap _ _ _ _ _ _ hr2) Try.underlying28 rfl info45) rfl ?_
  exact ⟨rfl, below_setRow (HB1.alloc HB1.size _) (by omega) _⟩

theorem dform_ok (m l s a b c d i j : Int) (p : Option Addr) (n cc : Nat) (xs : List Int) (w : World) (h : BI w p n xs) :
    Calls Try.prog 54 #[dinV m l s a b c d i j, .slice p n cc, .func (.func 12) #[] #[]] w fun e w' => e = .returned (if DGood xs m l s a b c d i j then .tuple #[dinV m l s a b c d i j, .int .i64 0] else .tuple #[dinV 0 0 0 0 0 0 0 0 0, .int .i64 6]) ∧ Below w.heap.size w w' := by
  by_cases hm : DMay m l s a b c d i j
  · by_cases he : dinB m l s a b c d i j = xs
    · rw [if_pos ⟨hm, he⟩]
      exact dform_yes m l s a b c d i j p n cc xs w h hm he
    · rw [if_neg (fun k => he k.2)]
      exact dform_bad m l s a b c d i j p n cc xs w h hm he
  · rw [if_neg (fun k => hm k.1)]
    exact dform_no m l s a b c d i j p n cc xs w h hm

end Go.Proofs.Ytkmijjipnepnoab
