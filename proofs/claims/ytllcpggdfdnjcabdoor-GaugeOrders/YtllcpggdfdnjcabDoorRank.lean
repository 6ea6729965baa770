/- The document's order of gauges, and its best of some. -/
import Derived.Test.YtllcpggdfdnjcabDoorBest
import Derived.Laws.BitsAll
namespace Go.Proofs.YtllcpggdfdnjcabDoor
open Go.RowKit
set_option linter.unusedVariables false

/-- The document's place of a gauge. -/
def rkD (a : Nat) : Int := if isN a then 0 else if 9223372036854775808 ≤ a then 18446744073709551615 - (a : Int) else (a : Int) + 9223372036854775808

theorem or_sign (x : Nat) (h : x < 9223372036854775808) : bits .or .u64 (x : Int) 9223372036854775808 = (x : Int) + 9223372036854775808 := by
  rw [u64_or _ _ (by omega) (by omega) (by omega) (by omega)]
  have e : (9223372036854775808 : Int).toNat = 2 ^ 63 := by decide
  have e2 : (2 : Nat) ^ 63 = 9223372036854775808 := by decide
  rw [Int.toNat_natCast, e, Nat.or_comm]
  have := Nat.two_pow_add_eq_or_of_lt (b := x) (i := 63) (by rw [e2]; exact h) 1
  rw [Nat.mul_one] at this
  rw [← this, e2]; omega

theorem xor_all (a : Nat) (h : a < 18446744073709551616) : bits .xor .u64 IntKind.u64.max (a : Int) = 18446744073709551615 - (a : Int) := by
  show IntKind.u64.wrap ((BitVec.ofInt 64 IntKind.u64.max ^^^ BitVec.ofInt 64 (a : Int)).toNat : Int) = _
  have e : BitVec.ofInt 64 IntKind.u64.max = BitVec.allOnes 64 := by decide
  rw [e, BitVec.allOnes_xor, BitVec.toNat_not, IntKind.wrap_u64]
  have e2 : (BitVec.ofInt 64 (a : Int)).toNat = a := by
    rw [BitVec.toNat_ofInt]; omega
  rw [e2]
  omega

theorem rank_ok (a : Nat) (ha : a < 18446744073709551616) (w : World) : Calls Tryd.prog 13 #[.int .u64 (a : Int)] w fun e w' => e = .returned (.int .u64 (rkD a)) ∧ w' = w := by
  have h1 := rfloat_ok
  have h2 := order_self a
  have h2' : (FloatKind.f64.format.order a a != some .eq) = decide (isN a) := h2
  by_cases hn : isN a
  · have hr : rkD a = 0 := by unfold rkD; rw [if_pos hn]
    simp only [hn, decide_true] at h2'
    go_enter Tryd.func13, Tryd.ntmps13
    go_wp2_with (first | (go_at_call 20; refine same_at (h1 _ _) ?_))
    go_ret
    exact ⟨by rw [hr]; rfl, rfl⟩
  · simp only [hn, decide_false] at h2'
    by_cases hs : 9223372036854775808 ≤ a
    · have hr : rkD a = 18446744073709551615 - (a : Int) := by unfold rkD; rw [if_neg hn, if_pos hs]
      have hr2 : Hid _ := hr
      clear hr
      have hsh : (a : Int) / 9223372036854775808 = 1 := by omega
      have hx := xor_all a ha
      go_enter Tryd.func13, Tryd.ntmps13
      go_wp2_with (first | (go_at_call 20; refine same_at (h1 _ _) ?_))
      go_ret
      exact ⟨by rw [hr2.out]; rfl, rfl⟩
    · have hr : rkD a = (a : Int) + 9223372036854775808 := by unfold rkD; rw [if_neg hn, if_neg hs]
      have hr2 : Hid _ := hr
      clear hr
      have hsh : (a : Int) / 9223372036854775808 = 0 := by omega
      have ho := or_sign a (by omega)
      go_enter Tryd.func13, Tryd.ntmps13
      go_wp2_with (first | (go_at_call 20; refine same_at (h1 _ _) ?_))
      go_ret
      exact ⟨by rw [hr2.out]; rfl, rfl⟩

theorem rkD_lt (a b : Nat) (ha : a < 18446744073709551616) (hb : b < 18446744073709551616) : rkD a < rkD b ↔ rk a < rk b := by
  unfold rkD rk
  by_cases na : isN a <;> by_cases nb : isN b <;> simp only [na, nb, if_true, if_false]
  · omega
  · unfold isN rg at nb; split <;> omega
  · unfold isN rg at na; split <;> omega

theorem rorder_ok (a b : Nat) (ha : a < 18446744073709551616) (hb : b < 18446744073709551616) (w : World) : Calls Tryd.prog 7 #[.int .u64 (a : Int), .int .u64 (b : Int)] w fun e w' => e = .returned (.int .i64 (ordI a b)) ∧ w' = w := by
  have h1 := fun (s : Nat) (hs : s < 18446744073709551616) w => rank_ok s hs w
  have l1 := rkD_lt a b ha hb
  have l2 := rkD_lt b a hb ha
  by_cases c1 : rk a < rk b
  · have c1' := l1.2 c1
    have e : ordI a b = -1 := by unfold ordI; rw [if_pos c1]
    clear l1 l2 c1
    go_enter Tryd.func7, Tryd.ntmps7
    go_wp2_with (first | (go_at_call 13; refine same_at (h1 _ (by assumption) _) ?_))
    go_ret
    exact ⟨by rw [e]; rfl, rfl⟩
  · by_cases c2 : rk b < rk a
    · have c2' := l2.2 c2
      have e : ordI a b = 1 := by unfold ordI; rw [if_neg c1, if_pos c2]
      have c3 : ¬ rkD a < rkD b := by omega
      clear l1 l2 c1 c2
      go_enter Tryd.func7, Tryd.ntmps7
      go_wp2_with (first | (go_at_call 13; refine same_at (h1 _ (by assumption) _) ?_))
      go_ret
      exact ⟨by rw [e]; rfl, rfl⟩
    · have e : ordI a b = 0 := by unfold ordI; rw [if_neg c1, if_neg c2]
      have c3 : ¬ rkD a < rkD b := fun h => c1 (l1.1 h)
      have c4 : ¬ rkD b < rkD a := fun h => c2 (l2.1 h)
      clear l1 l2 c1 c2
      go_enter Tryd.func7, Tryd.ntmps7
      go_wp2_with (first | (go_at_call 13; refine same_at (h1 _ (by assumption) _) ?_))
      go_ret
      exact ⟨by rw [e]; rfl, rfl⟩
set_option maxHeartbeats 400000 in
theorem rbest_ok (p : Option Addr) (n c : Nat) (xs : List Nat) (w : World) (h : UI w p n xs) :
    Calls Tryd.prog 5 #[.slice p n c] w fun e w' => e = .returned (.tuple #[.int .i64 (bst xs n), .bool (decide (0 < n))]) ∧ ∃ k, w' = w.drewN k := by
  have hl := h.len
  have hg := h.big
  go_enter Tryd.func5, Tryd.ntmps5
  go_wp2_with fail
  go_loopw [4, 9] (fun b i wr => ∃ j q : Nat, j ≤ n ∧ i = .int .i64 (j : Int) ∧ b = .int .i64 (bst xs j : Int) ∧ wr = w.drewN q) (fun b i _ => n - (intOf i).toNat)
  case atStart => exact ⟨0, 0, by omega, rfl, rfl, rfl⟩
  case round =>
    obtain ⟨j, q, hj, rfl, rfl, rfl⟩ := hrel
    by_cases hlt : j < n
    · obtain ⟨b1, o1, rfl, hc1⟩ := h.cells (by omega)
      have hbl := bst_le xs j
      have e1 := hc1 j hlt
      have e2 := hc1 (bst xs j) (by omega)
      have f1 := h.fit j
      have f2 := h.fit (bst xs j)
      have eb : bst xs (j + 1) = if 0 < ordI (xs.getD j 0) (xs.getD (bst xs j) 0) then j else bst xs j := rfl
      clear hc1
      generalize xs.getD j 0 = y at e1 f1 eb
      generalize xs.getD (bst xs j) 0 = z at e2 f2 eb
      have ho := fun w => rorder_ok y z f1 f2 w
      have hjI : (j : Int) < (n : Int) := by omega
      have hj0 : (0 : Int) ≤ (j : Int) := by omega
      have hbI : (bst xs j : Int) < (n : Int) := by omega
      have hb0 : (0 : Int) ≤ (bst xs j : Int) := by omega
      by_cases hs : 0 < ordI y z
      · rw [if_pos hs] at eb
        go_wp2_with (first | (go_at_call 7; refine same_at (ho _) ?_))
        go_roundw
        case rel => exact ⟨j + 1, _, by omega, by go_num, by rw [eb], rfl⟩
        case measure => simp [intOf]; omega
      · rw [if_neg hs] at eb
        go_wp2_with (first | (go_at_call 7; refine same_at (ho _) ?_))
        go_roundw
        case rel => exact ⟨j + 1, _, by omega, by go_num, by rw [eb], rfl⟩
        case measure => simp [intOf]; omega
    · obtain rfl : j = n := by omega
      go_wp2
      go_ret2
      exact ⟨by simp, _, rfl⟩
end Go.Proofs.YtllcpggdfdnjcabDoor
