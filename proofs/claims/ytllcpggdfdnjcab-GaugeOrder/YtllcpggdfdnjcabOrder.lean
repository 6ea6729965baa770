/- GaugeOrder: the walk. -/
import Derived.Test.YtllcpggdfdnjcabBest
import Derived.Test.YtllcpggdfdnjcabFills
import Derived.RangeFuncRecord
namespace Go.Proofs.Ytllcpggdfdnjcab
open Go.RowKit
set_option linter.unusedVariables false

theorem ordI_flip (a b : Nat) : ordI b a = -ordI a b := by unfold ordI; (repeat' split) <;> omega
theorem ordI_self (a : Nat) : ordI a a = 0 := by unfold ordI; (repeat' split) <;> omega
theorem ordI_on (a b c : Nat) (h1 : ordI a b ≤ 0) (h2 : ordI b c ≤ 0) : ordI a c ≤ 0 := by
  unfold ordI at *; (repeat' split at h1) <;> (repeat' split at h2) <;> (repeat' split) <;> omega
theorem ordI_not_below {a b : Nat} (h : rk b ≤ rk a) : 0 ≤ ordI a b := by unfold ordI; (repeat' split) <;> omega

set_option maxRecDepth 100000 in
set_option maxHeartbeats 4000000 in
theorem gaugeOrder_walk (a b c : Nat) (ha : a < 18446744073709551616) (hb : b < 18446744073709551616) (hc : c < 18446744073709551616) (w : World) :
    Calls Try.prog 7 #[.int .u64 (a : Int), .int .u64 (b : Int), .int .u64 (c : Int)] w fun e w' => e = .returned (.bool true) ∧ Below w.heap.size w w' := by
  have o := fun (s t : Nat) (hs : s < 18446744073709551616) (ht : t < 18446744073709551616) => order_ok s t hs ht
  have e4 := ordI_flip a b
  have e5 := ordI_self a
  have e8 := ordI_self b
  have e9 := ordI_self c
  have hon := ordI_on a b c
  have n1 := ordI_not_below (bst_best [a, b, c] 3 0 (by omega))
  have n2 := ordI_not_below (bst_best [a, b, c] 3 1 (by omega))
  have n3 := ordI_not_below (bst_best [a, b, c] 3 2 (by omega))
  have hui : UI (w.alloc (.cells #[.int .u64 (a : Int), .int .u64 (b : Int), .int .u64 (c : Int)] 49)) (some ⟨w.heap.size, 0, none⟩) 3 [a, b, c] := by
    refine ⟨rfl, by omega, ?_, fun _ => ⟨_, _, rfl, ?_⟩⟩
    · intro i
      match i with
      | 0 => exact ha
      | 1 => exact hb
      | 2 => exact hc
      | i + 3 => simp
    · intro i hi
      have hh : (w.alloc (.cells #[.int .u64 (a : Int), .int .u64 (b : Int), .int .u64 (c : Int)] 49)).heap[w.heap.size]? = some (.cells #[.int .u64 (a : Int), .int .u64 (b : Int), .int .u64 (c : Int)] 49) := World.alloc_heap_new w _
      unfold World.cell?
      rw [hh]
      match i with
      | 0 => rfl
      | 1 => rfl
      | 2 => rfl
  have hbest := best_ok _ 3 3 _ _ hui
  have hbi : bst [a, b, c] 3 ≤ 2 := bst_le [a, b, c] 3
  have hbel : ∀ k, Below w.heap.size w (((w.alloc (.cells #[.int .u64 (a : Int), .int .u64 (b : Int), .int .u64 (c : Int)] 49)).drewN k).alloc (.cells #[.int .u64 (a : Int), .int .u64 (b : Int), .int .u64 (c : Int)] 49)) := fun k =>
    (below_drewN ((Below.refl _ w).alloc (Nat.le_refl _) _) k).alloc (by simp) _
  clear hui
  obtain ⟨i, hi⟩ : ∃ i, i = bst [a, b, c] 3 := ⟨_, rfl⟩
  rw [← hi] at n1 n2 n3 hbest hbi
  clear hi
  have hi3 : i = 0 ∨ i = 1 ∨ i = 2 := by omega
  rcases hi3 with rfl | rfl | rfl <;> simp only [List.getD_cons_zero, List.getD_cons_succ] at n1 n2 n3 <;> rcases ordI_range a b with e1 | e1 | e1 <;> rw [e1] at e4 hon
  all_goals first | (exfalso; omega) | skip
  all_goals
    go_enter Try.func7, Try.ntmps7
    go_wp2_with (first
        | (go_at_call 37; refine same_at (o _ _ (by assumption) (by assumption) _) ?_)
        | (go_at_call 38; refine drew_at hbest ?_; intro k))
  all_goals first | (go_ret; exact ⟨rfl, hbel _⟩) | trace_state
end Go.Proofs.Ytllcpggdfdnjcab
