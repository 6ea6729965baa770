/- What a tree that no call made answers; an answer of noughts. -/
import Derived.Test.YtebmncigidbjoaaGreatT1
import Derived.Laws.ResultCell
import Derived.Laws.Tables
import Derived.Deep.WholeRow
namespace Go.Proofs.YtebmncigidbjoaaGreat
open Go.RowKit
set_option linter.unusedVariables false
set_option maxRecDepth 100000

theorem at_old {w : World} {k : Nat} {o u : Obj} (h : w.heap[k]? = some u) : (w.alloc o).heap[k]? = some u := by
  rw [Below.heap_alloc _ _ _ (Array.getElem?_eq_some_iff.1 h).1]; exact h
theorem at_new {w : World} {k : Nat} {o : Obj} (h : k = w.heap.size) : (w.alloc o).heap[k]? = some o := by
  subst h; exact heap_alloc_new w o
theorem below_setRow {B : Nat} {a w : World} (h : Below B a w) (g : Nat) (hg : B ≤ g) (cs : Array Value) : Below B a (w.setRow g cs) :=
  h.trans ⟨rfl, rfl, rfl, by simp, fun k hk => setRow_other _ _ _ _ (by omega)⟩
theorem results_cell_tmp_row {P : Program} {fn : Func} {p u : Tmp} {ty : TypeId} (h : fn.results = #[.cell p ty, .tmp u]) (tmps : Array Value) (w : World) (g : Nat) (t : TypeId) (cs : Array Value) (fr : Nat × Nat) (d : TypeDesc)
    (hp : tmps.getD p undef = .pointer (some ⟨g, 0, none⟩)) (hg : w.heap[g]? = some (.cells cs t fr))
    (hu : P.underlying ty = some d) (hd : (match d with | .struct _ | .array _ _ => true | _ => false) = true) (hi : (P.info? ty).map (·.size) = some cs.size) :
    (results fn tmps).run P w = .ok (.tuple #[.agg cs, tmps.getD u undef]) w := by
  rw [results_cell_tmp h, hp]
  simp [asAddr, run_loadVar_row w g t ty cs fr d hg hu hd hi]

/-- An answer of noughts. -/
def zA : Array Value := #[.int .i64 0, .slice none 0 0, .slice none 0 0, .int .i64 0, .int .i64 0, .int .i64 0]
theorem zA_one : zA.all (·.oneCell') = true := by simp [zA, Value.oneCell']
theorem info33 : (Tryz.prog.info? 33).map (·.size) = some 6 := by kernel_rfl

set_option maxHeartbeats 1000000 in
theorem do_void {w : World} {v : Value} (k f o n : Int) (p q : ByteArray) (s : Option Addr) (l c : Nat) (h : ∀ w', Below w.heap.size w w' → TVoid w' v) : Calls Tryz.prog 11 #[v, .agg #[.int .i64 k, .int .i64 f, .int .i64 o, .int .i64 n, .string p, .string q, .slice s l c]] w fun e w' => e = .returned (.tuple #[.agg zA, .int .i64 2]) ∧ Below w.heap.size w w' := by
  obtain ⟨W, hW⟩ : ∃ W, (w.alloc (.cells #[.int .i64 k, .int .i64 f, .int .i64 o, .int .i64 n, .string p, .string q, .slice s l c] 29)).alloc (.cells #[.int .i64 0, .slice none 0 0, .slice none 0 0, .int .i64 0, .int .i64 0, .int .i64 0] 33) = W := ⟨_, rfl⟩
  have hb : Below w.heap.size w W := by rw [← hW]; exact ((Below.refl _ _).alloc (Nat.le_refl _) _).alloc (by simp) _
  have hrow : W.heap[w.heap.size + 1]? = some (.cells zA 33 (0, 0)) := by rw [← hW]; exact at_new (by simp)
  have hm := made_void (h W hb)
  clear h
  go_enter Tryz.func11, Tryz.ntmps11
  go_wp2_with fail
  refine same_at hm ?_
  dsimp only
  go_wp2_with (first | (refine wpList_store_row rfl 33 _ _ rfl (w.heap.size + 1) zA rfl rfl 33 _ hrow info33 rfl zA_one ?_))
  refine bodyPost_ret (v := .tuple #[.agg zA, .int .i64 2]) (results_cell_tmp_row (p := 4) (u := 5) (ty := 33) Tryz.results11 _ _ (w.heap.size + 1) 33 _ (0, 0) _ rfl (setRow_heap _ _ _ _ _ _ hrow) Tryz.underlying33 rfl info33) rfl ?_
  exact ⟨rfl, below_setRow hb _ (by omega) _⟩

set_option maxHeartbeats 1000000 in
theorem sameAnswer_zero (w : World) (hbe : Calls Tryz.prog 14 #[.slice none 0 0, .slice none 0 0] ((w.alloc (.cells zA 33)).alloc (.cells zA 33)) fun e w' => e = .returned (.bool true) ∧ w' = ((w.alloc (.cells zA 33)).alloc (.cells zA 33)))
   (hse : Calls Tryz.prog 15 #[.slice none 0 0, .slice none 0 0] ((w.alloc (.cells zA 33)).alloc (.cells zA 33)) fun e w' => e = .returned (.bool true) ∧ w' = ((w.alloc (.cells zA 33)).alloc (.cells zA 33))) : Calls Tryz.prog 13 #[.agg zA, .agg zA] w fun e w' => e = .returned (.bool true) ∧ Below w.heap.size w w' := by
  simp only [zA] at hbe hse ⊢
  go_enter Tryz.func13, Tryz.ntmps13
  go_wp2_with (first | (go_at_call 14; refine same_at hbe ?_) | (go_at_call 15; refine same_at hse ?_))
  go_ret
  exact ⟨rfl, ((Below.refl _ _).alloc (Nat.le_refl _) _).alloc (by simp) _⟩

set_option maxHeartbeats 1000000 in
theorem bytesEqual_none (w : World) : Calls Tryz.prog 14 #[.slice none 0 0, .slice none 0 0] w fun e w' => e = .returned (.bool true) ∧ w' = w := by
  have hc : (convert 27 9 (.slice none 0 0)).run Tryz.prog w = .ok (.string ⟨#[]⟩) w := by kernel_rfl
  go_enter Tryz.func14, Tryz.ntmps14
  go_wp2_with fail
  go_ret
  exact ⟨rfl, rfl⟩
set_option maxHeartbeats 1000000 in
theorem strsEqual_none (w : World) : Calls Tryz.prog 15 #[.slice none 0 0, .slice none 0 0] w fun e w' => e = .returned (.bool true) ∧ w' = w := by
  go_enter Tryz.func15, Tryz.ntmps15
  go_wp2_with fail
  go_loopw [13] (fun i wr => i = .int .i64 0 ∧ wr = w) (fun _ _ => 0)
  case atStart => exact ⟨rfl, rfl⟩
  case round =>
    obtain ⟨rfl, rfl⟩ := hrel
    go_wp2_with fail
    go_ret
    exact ⟨rfl, rfl⟩
end Go.Proofs.YtebmncigidbjoaaGreat
