/- Gauges in memory, and the best of them. -/
import Derived.Test.YtllcpggdfdnjcabDoorOrd
namespace Go.Proofs.YtllcpggdfdnjcabDoor
open Go.RowKit
set_option linter.unusedVariables false

theorem lt_of_cell {w : World} {b o : Nat} {v : Value} (h : w.cell? ⟨b, o, none⟩ = some v) : b < w.heap.size := by
  by_cases hb : b < w.heap.size
  · exact hb
  · have : w.heap[b]? = none := Array.getElem?_eq_none (by omega)
    simp [World.cell?, this] at h

/-- The slice at p, of n gauges, holds xs. -/
structure UI (w : World) (p : Option Addr) (n : Nat) (xs : List Nat) : Prop where
  len : xs.length = n
  big : n ≤ 140737488355328
  fit : ∀ i, xs.getD i 0 < 18446744073709551616
  cells : 0 < n → ∃ b o, p = some ⟨b, o, none⟩ ∧ ∀ i, i < n → w.cell? ⟨b, o + i, none⟩ = some (.int .u64 ((xs.getD i 0 : Nat) : Int))

theorem UI.kept {w w' : World} {p : Option Addr} {n : Nat} {xs : List Nat} (h : UI w p n xs) (hb : Below w.heap.size w w') : UI w' p n xs := by
  refine ⟨h.len, h.big, h.fit, fun hn => ?_⟩
  obtain ⟨b, o, rfl, hc⟩ := h.cells hn
  refine ⟨b, o, rfl, fun i hi => ?_⟩
  rw [hb.cell (p := ⟨b, o + i, none⟩) (lt_of_cell (hc i hi))]
  exact hc i hi

def bst (xs : List Nat) : Nat → Nat
  | 0 => 0
  | i + 1 => if 0 < ordI (xs.getD i 0) (xs.getD (bst xs i) 0) then i else bst xs i

theorem bst_le (xs : List Nat) (i : Nat) : bst xs i ≤ i - 1 := by
  induction i with
  | zero => exact Nat.le_refl _
  | succ n ih => unfold bst; split <;> omega

theorem bst_best (xs : List Nat) (i : Nat) : ∀ j, j < i → rk (xs.getD j 0) ≤ rk (xs.getD (bst xs i) 0) := by
  induction i with
  | zero => intro j h; omega
  | succ n ih =>
    intro j hj
    have e : bst xs (n + 1) = if 0 < ordI (xs.getD n 0) (xs.getD (bst xs n) 0) then n else bst xs n := rfl
    have key : 0 < ordI (xs.getD n 0) (xs.getD (bst xs n) 0) ↔ rk (xs.getD (bst xs n) 0) < rk (xs.getD n 0) := by
      unfold ordI; (repeat' split) <;> omega
    rw [e]
    rcases Nat.lt_or_ge j n with h | h
    · have := ih j h
      split
      · have := key.1 (by assumption); omega
      · exact this
    · obtain rfl : j = n := by omega
      split
      · omega
      · have : ¬ _ := fun h => (by assumption : ¬ _) (key.2 h)
        omega

theorem sgn_pos (x : Int) : (0 < x) ↔ ¬ x ≤ 0 := by omega

set_option maxHeartbeats 400000 in
theorem best_ok (p : Option Addr) (n c : Nat) (xs : List Nat) (w : World) (h : UI w p n xs) :
    Calls Tryd.prog 4 #[.slice p n c] w fun e w' => e = .returned (.tuple #[.int .i64 (bst xs n), .bool (decide (0 < n))]) ∧ ∃ k, w' = w.drewN k := by
  have hl := h.len
  have hg := h.big
  go_enter Tryd.func4, Tryd.ntmps4
  go_wp2_with fail
  go_loopw [4, 9] (fun b i wr => ∃ j q : Nat, j ≤ n ∧ i = .int .i64 (j : Int) ∧ b = .int .i64 (bst xs j : Int) ∧ wr = w.drewN q) (fun b i _ => n - (intOf i).toNat)
  case atStart => exact ⟨0, 0, by omega, rfl, rfl, rfl⟩
  case round =>
    obtain ⟨j, q, hj, rfl, rfl, rfl⟩ := hrel
    by_cases hlt : j < n
    · obtain ⟨b1, o1, rfl, hc1⟩ := h.cells (by omega)
      have hbl := bst_le xs j
      have e1 := hc1 j hlt
      have e2 := hc1 (bst xs j) (by omega)
      have f1 := h.fit j
      have f2 := h.fit (bst xs j)
      have eb : bst xs (j + 1) = if 0 < ordI (xs.getD j 0) (xs.getD (bst xs j) 0) then j else bst xs j := rfl
      clear hc1
      generalize xs.getD j 0 = y at e1 f1 eb
      generalize xs.getD (bst xs j) 0 = z at e2 f2 eb
      have ho := fun w => order_ok y z f1 f2 w
      have hjI : (j : Int) < (n : Int) := by omega
      have hj0 : (0 : Int) ≤ (j : Int) := by omega
      have hbI : (bst xs j : Int) < (n : Int) := by omega
      have hb0 : (0 : Int) ≤ (bst xs j : Int) := by omega
      by_cases hs : 0 < ordI y z
      · rw [if_pos hs] at eb
        go_wp2_with (first | (go_at_call 6; refine same_at (ho _) ?_))
        go_roundw
        case rel => exact ⟨j + 1, _, by omega, by go_num, by rw [eb], rfl⟩
        case measure => simp [intOf]; omega
      · rw [if_neg hs] at eb
        go_wp2_with (first | (go_at_call 6; refine same_at (ho _) ?_))
        go_roundw
        case rel => exact ⟨j + 1, _, by omega, by go_num, by rw [eb], rfl⟩
        case measure => simp [intOf]; omega
    · obtain rfl : j = n := by omega
      go_wp2
      go_ret2
      exact ⟨by simp, _, rfl⟩
end Go.Proofs.YtllcpggdfdnjcabDoor
