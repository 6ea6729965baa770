/- What word's helpers of places and widths answer. -/
import Derived.Test.YtkmijjipnepnoabChecked
import Derived.Test.YtkmijjipnepnoabNum
import Derived.WalkKit
import Derived.WalkSpells
import Derived.WalkLawsBesides
import Derived.BigQuiet
import Derived.Deep.QuietTactic
namespace Go.Proofs.Ytkmijjipnepnoab
open Go.RowKit

set_option maxHeartbeats 400000 in
theorem span_arg (p : Option Addr) (n c : Nat) (at_ wd : Int) (w : World) (h : wd < 1 ∨ 4 < wd ∨ at_ < 0) :
    Calls Try.prog 76 #[.slice p n c, .int .i64 at_, .int .i64 wd] w fun e w' => e = .returned (.int .i64 1) ∧ w' = w := by
  by_cases h1 : wd < 1
  · go_enter Try.func76, Try.ntmps76
    go_wp2
    go_ret
    exact ⟨rfl, rfl⟩
  · by_cases h2 : 4 < wd
    · go_enter Try.func76, Try.ntmps76
      go_wp2
      go_ret
      exact ⟨rfl, rfl⟩
    · have h3 : at_ < 0 := by omega
      go_enter Try.func76, Try.ntmps76
      go_wp2
      go_ret
      exact ⟨rfl, rfl⟩

set_option maxHeartbeats 400000 in
theorem span_past (p : Option Addr) (n c : Nat) (at_ wd : Int) (w : World) (h1 : 1 ≤ wd) (h2 : wd ≤ 4) (h3 : 0 ≤ at_) (hn : n ≤ 140737488355328) (h4 : (n : Int) - wd < at_) :
    Calls Try.prog 76 #[.slice p n c, .int .i64 at_, .int .i64 wd] w fun e w' => e = .returned (.int .i64 10) ∧ w' = w := by
  go_enter Try.func76, Try.ntmps76
  go_wp2
  go_ret
  exact ⟨rfl, rfl⟩

set_option maxHeartbeats 400000 in
theorem span_ok (p : Option Addr) (n c : Nat) (at_ wd : Int) (w : World) (h1 : 1 ≤ wd) (h2 : wd ≤ 4) (h3 : 0 ≤ at_) (hn : n ≤ 140737488355328) (h4 : at_ ≤ (n : Int) - wd) :
    Calls Try.prog 76 #[.slice p n c, .int .i64 at_, .int .i64 wd] w fun e w' => e = .returned (.int .i64 0) ∧ w' = w := by
  go_enter Try.func76, Try.ntmps76
  go_wp2
  go_ret
  exact ⟨rfl, rfl⟩

theorem pow_eq (k : Nat) : (2 : Int) ^ (8 * k) = 256 ^ k := by
  rw [Int.pow_mul]
  rfl

theorem fits_bool_yes (n : Int) (k : Nat) (h0 : 0 ≤ n) (h : n < 256 ^ k) : (n / 2 ^ (8 * k) == 0) = true := by
  rw [pow_eq, Int.ediv_eq_zero_of_lt h0 h]; rfl

theorem fits_bool_no (n : Int) (k : Nat) (h : (256 : Int) ^ k ≤ n) : (n / 2 ^ (8 * k) == 0) = false := by
  rw [pow_eq, beq_eq_false_iff_ne]
  intro e
  have hp : (0 : Int) < 256 ^ k := Int.pow_pos (by decide)
  have := Int.le_ediv_of_mul_le hp (show 1 * (256 : Int) ^ k ≤ n by omega)
  omega

set_option maxHeartbeats 400000 in
theorem fits_yes (n : Int) (k : Nat) (w : World) (h1 : 1 ≤ k) (h2 : k ≤ 4) (h0 : 0 ≤ n) (h : n < 256 ^ k) :
    Calls Try.prog 77 #[.int .i64 n, .int .i64 k] w fun e w' => e = .returned (.bool true) ∧ w' = w := by
  have hb := fits_bool_yes n k h0 h
  clear h
  go_enter Try.func77, Try.ntmps77
  go_wp2
  go_ret
  exact ⟨rfl, rfl⟩

set_option maxHeartbeats 400000 in
theorem fits_no (n : Int) (k : Nat) (w : World) (h1 : 1 ≤ k) (h2 : k ≤ 4) (h : n < 0 ∨ (256 : Int) ^ k ≤ n) :
    Calls Try.prog 77 #[.int .i64 n, .int .i64 k] w fun e w' => e = .returned (.bool false) ∧ w' = w := by
  by_cases h0 : n < 0
  · clear h
    go_enter Try.func77, Try.ntmps77
    go_wp2
    go_ret
    exact ⟨rfl, rfl⟩
  · have hb := fits_bool_no n k (by omega)
    have h0' : 0 ≤ n := by omega
    clear h h0
    go_enter Try.func77, Try.ntmps77
    go_wp2
    go_ret
    exact ⟨rfl, rfl⟩

set_option maxHeartbeats 400000 in
theorem get_arg (p : Option Addr) (n c : Nat) (at_ wd : Int) (w : World) (h : wd < 1 ∨ 4 < wd ∨ at_ < 0) :
    Calls Try.prog 69 #[.slice p n c, .int .i64 at_, .int .i64 wd] w fun e w' => e = .returned (.tuple #[.int .i64 0, .int .i64 1]) ∧ w' = w := by
  go_enter Try.func69, Try.ntmps69
  go_wp2_with (go_at_call 76; refine (span_arg _ _ _ _ _ _ h).mono ?_; rintro e w' ⟨rfl, rfl⟩)
  go_ret2
  exact ⟨rfl, rfl⟩

set_option maxHeartbeats 400000 in
theorem get_past (p : Option Addr) (n c : Nat) (at_ wd : Int) (w : World) (h1 : 1 ≤ wd) (h2 : wd ≤ 4) (h3 : 0 ≤ at_) (hn : n ≤ 140737488355328) (h4 : (n : Int) - wd < at_) :
    Calls Try.prog 69 #[.slice p n c, .int .i64 at_, .int .i64 wd] w fun e w' => e = .returned (.tuple #[.int .i64 0, .int .i64 10]) ∧ w' = w := by
  go_enter Try.func69, Try.ntmps69
  go_wp2_with (go_at_call 76; refine (span_past _ _ _ _ _ _ h1 h2 h3 hn h4).mono ?_; rintro e w' ⟨rfl, rfl⟩)
  go_ret2
  exact ⟨rfl, rfl⟩

set_option maxHeartbeats 400000 in
theorem get_ok (b o n c : Nat) (xs : List Int) (a k : Nat) (w : World) (h1 : 1 ≤ k) (h2 : k ≤ 4) (hn : n ≤ 140737488355328) (h4 : a + k ≤ n) (hx : Num.Byt xs)
    (hc : ∀ i, i < n → w.cell? ⟨b, o + i, none⟩ = some (.int .u8 (xs.getD i 0))) :
    Calls Try.prog 69 #[.slice (some ⟨b, o, none⟩) n c, .int .i64 a, .int .i64 k] w fun e w' => e = .returned (.tuple #[.int .i64 (Num.numD xs a k), .int .i64 0]) ∧ w' = w := by
  go_enter Try.func69, Try.ntmps69
  go_wp2_with (go_at_call 76; refine (span_ok _ _ _ _ _ _ (by omega) (by omega) (by omega) hn (by omega)).mono ?_; rintro e w' ⟨rfl, rfl⟩)
  go_loop [9, 19] (fun t i => ∃ j : Nat, j ≤ k ∧ i = .int .i64 j ∧ t = .int .i64 (Num.numD xs a j)) (fun _ i => k - (intOf i).toNat)
  case atStart => exact ⟨0, Nat.zero_le _, rfl, rfl⟩
  case round =>
    obtain ⟨j, hj, rfl, rfl⟩ := hrel
    by_cases hlt : j < k
    · have hcj := hc (a + j) (by omega)
      obtain ⟨x, hxe⟩ : ∃ x, x = xs.getD (a + j) 0 := ⟨_, rfl⟩
      rw [← hxe] at hcj
      have hxb := hx (a + j)
      rw [← hxe] at hxb
      have HX : Hid (x = xs.getD (a + j) 0) := hxe
      clear hxe
      have hnb := Num.numD_bd hx j a
      have HN : Hid (bits BinOp.or IntKind.i64 (Num.numD xs a j) (wrap64 (x * 2 ^ (8 * j))) = Num.numD xs a (j + 1)) := by
        rw [Num.numD_snoc, ← HX.out]
        exact Num.or_num _ _ _ (by omega) hnb.1 hnb.2 hxb.1 hxb.2
      clear hnb
      go_wp2
      go_round
      case rel => exact ⟨j + 1, by omega, by go_num, by rw [HN.out]⟩
      case measure => simp [intOf]; omega
    · obtain rfl : j = k := by omega
      go_wp2
      go_ret2
      exact ⟨rfl, rfl⟩

theorem numD_step (xs : List Int) (a k j : Nat) (hj : 0 < j) (hk : j ≤ k) : Num.numD xs (a + (j - 1)) (k - (j - 1)) = Num.numD xs (a + j) (k - j) * 256 + xs.getD (a + (j - 1)) 0 := by
  have e : k - (j - 1) = (k - j) + 1 := by omega
  have e2 : a + j = a + (j - 1) + 1 := by omega
  rw [e, e2]
  show xs.getD (a + (j - 1)) 0 + 256 * Num.numD xs (a + (j - 1) + 1) (k - j) = _
  omega

theorem pow_le (m : Nat) (h : m ≤ 4) : (256 : Int) ^ m ≤ 4294967296 := by
  rcases (by omega : m = 0 ∨ m = 1 ∨ m = 2 ∨ m = 3 ∨ m = 4) with rfl | rfl | rfl | rfl | rfl <;> decide

end Go.Proofs.Ytkmijjipnepnoab
