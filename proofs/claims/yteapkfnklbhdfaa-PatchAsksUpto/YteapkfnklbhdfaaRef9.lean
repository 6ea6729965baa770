/- The document's set: Add. -/
import Derived.Test.YteapkfnklbhdfaaRef8
namespace Go.Proofs.Yteapkfnklbhdfaa
open Go.RowKit Go.Maps
set_option linter.unusedVariables false
section
variable {B : Nat} {w : World} {x : Nat} {lv : Value} {last : Nat} {L : List Pv}

set_option maxRecDepth 100000 in
set_option maxHeartbeats 2000000 in
theorem rget_no (h : RZ B w x lv last L) (k : Int) (hf : fP L k = none) :
    Calls Try.prog 21 #[.pointer (some ⟨x, 0, none⟩), .int .i64 k] w fun e w' => e = .returned (.tuple #[zp, .int .i64 70]) ∧ Below w.heap.size w w' := by
  obtain ⟨W0, hW0⟩ : ∃ W0, w.alloc (.cells #[.int .i64 0, .int .i64 0, .int .i64 0, .slice none 0 0, .slice none 0 0] 44) = W0 := ⟨_, rfl⟩
  have hbW0 : Below w.heap.size w W0 := by rw [← hW0]; exact (Below.refl _ w).alloc (Nat.le_refl _) _
  have hrow0 : W0.heap[w.heap.size]? = some (.cells zc 44 (0, 0)) := by rw [← hW0]; exact at_new rfl
  have hs0 : w.heap.size < W0.heap.size := by rw [← hW0]; simp
  have hfi := rfind_ok (h.kept hbW0) k
  rw [fi_neg (by rw [hf]; rfl)] at hfi
  clear h hf
  go_enter Try.func21, Try.ntmps21
  go_wp2_with fail
  refine below_at hfi ?_
  intro w1 hb1
  have hr1 : w1.heap[w.heap.size]? = some (.cells zc 44 (0, 0)) := by rw [hb1.block _ hs0]; exact hrow0
  clear hfi hrow0
  go_wp2_with (first | (refine wpList_store_row rfl 44 _ _ rfl w.heap.size zc rfl rfl 44 _ hr1 info44 rfl zp_one ?_))
  refine bodyPost_ret (v := .tuple #[zp, .int .i64 70]) (results_cell_tmp_row (p := 4) (u := 5) (ty := 44) Try.results21 _ _ w.heap.size 44 _ (0, 0) _ rfl (setRow_heap _ _ _ _ _ _ hr1) Try.underlying44 rfl info44) rfl ?_
  exact ⟨rfl, below_setRow (hbW0.trans (hb1.mono (by omega))) _ (Nat.le_refl _) _⟩

theorem radd_arg (h : RZ B w x lv last L) (b o : Int) (p : Option Addr) (n c : Nat) (hn : n ≤ 140737488355328) (v : Value) (hno : ¬ mayAt b o n) :
    Calls Try.prog 40 #[.pointer (some ⟨x, 0, none⟩), .int .i64 b, .int .i64 o, .slice p n c, v] w fun e w' => e = .returned (.tuple #[.int .i64 0, .int .i64 1]) ∧ Below w.heap.size w w' := by
  clear h
  unfold mayAt at hno
  by_cases h1 : b < 0
  · go_enter Try.func40, Try.ntmps40
    go_wp2_with fail
    go_ret2
    exact ⟨rfl, Below.refl _ _⟩
  · by_cases h2 : o < 0
    · go_enter Try.func40, Try.ntmps40
      go_wp2_with fail
      go_ret2
      exact ⟨rfl, Below.refl _ _⟩
    · by_cases h3 : n = 0
      · subst h3
        go_enter Try.func40, Try.ntmps40
        go_wp2_with fail
        go_ret2
        exact ⟨rfl, Below.refl _ _⟩
      · have h3' : ¬ (n : Int) = 0 := by omega
        by_cases h5 : 128 < n
        · have h5' : (128 : Int) < (n : Int) := by omega
          clear hno
          go_enter Try.func40, Try.ntmps40
          go_wp2_with fail
          go_ret2
          exact ⟨rfl, Below.refl _ _⟩
        · have h4 : (128 : Int) - (n : Int) < o := by omega
          have h5' : ¬ (128 : Int) < (n : Int) := by omega
          clear hno
          go_enter Try.func40, Try.ntmps40
          go_wp2_with fail
          go_ret2
          exact ⟨rfl, Below.refl _ _⟩
end
end Go.Proofs.Yteapkfnklbhdfaa
