/- Print's small parts: sizes, infinities, signs, a float made whole. -/
import Derived.Test.YtllcpggdfdnjcabDoorHalf
import Derived.Laws.BitsAll
namespace Go.Proofs.YtllcpggdfdnjcabDoor
open Go.RowKit
set_option linter.unusedVariables false

theorem andNot_sign (x : Nat) (h : x < 18446744073709551616) : bits .andNot .u64 (x : Int) 9223372036854775808 = ((rg x : Nat) : Int) := by
  rw [u64_andNot _ _ (by omega) (by omega) (by omega) (by omega)]
  have e : 18446744073709551615 - (9223372036854775808 : Int).toNat = 2 ^ 63 - 1 := by decide
  unfold rg
  have e2 : (2 : Nat) ^ 63 = 9223372036854775808 := by decide
  rw [Int.toNat_natCast]
  first
    | (rw [e, Nat.and_two_pow_sub_one_eq_mod, e2])
    | (simp only [Nat.reduceSub, Int.reduceToNat]; exact congrArg _ (by have := Nat.and_two_pow_sub_one_eq_mod x 63; simpa using this))

theorem abs_ok (x : Nat) (h : x < 18446744073709551616) (w : World) : Calls Tryd.prog 16 #[.float .f64 x] w fun e w' => e = .returned (.float .f64 (rg x)) ∧ w' = w := by
  have h1 := called24 x
  have h2 := fun n w => called21 n w
  have h3 := andNot_sign x h
  go_enter Tryd.func16, Tryd.ntmps16
  go_wp2
  go_ret
  exact ⟨rfl, rfl⟩


theorem above_top (x : Nat) (h : x < 18446744073709551616) : (FloatKind.f64.format.order x 9218868437227405311 == some .gt) = decide (x = 9218868437227405312) := by
  by_cases hn : isN x
  · have e : FloatKind.f64.format.order x 9218868437227405311 = none := order_nan _ _ (Or.inl hn)
    rw [e]
    unfold isN rg at hn
    have : ¬ x = 9218868437227405312 := by omega
    simp [this]
  · have e : FloatKind.f64.format.order x 9218868437227405311 = some (compare (sr x) (sr 9218868437227405311)) := order_num _ _ hn (by decide)
    rw [e]
    have h0 : sr 9218868437227405311 = 9218868437227405311 := by decide
    have h1 := sr_eq x h
    rw [h0]
    unfold isN rg at hn
    by_cases h2 : x = 9218868437227405312
    · rw [if_neg (by omega)] at h1
      rw [cmp_gt (by omega)]; simp [h2]
    · have h3 : sr x ≤ 9218868437227405311 := by rw [h1]; split <;> omega
      rcases Int.lt_trichotomy (sr x) 9218868437227405311 with hs | hs | hs
      · rw [cmp_lt hs]; simp [h2]
      · rw [cmp_eq hs]; simp [h2]
      · omega

theorem negFloat_eq (x : Nat) (h : x < 18446744073709551616) : Op.negFloat .f64 x = if 9223372036854775808 ≤ x then x - 9223372036854775808 else x + 9223372036854775808 := by
  unfold Op.negFloat
  have e : FloatKind.f64.format.exponentBits + FloatKind.f64.format.fractionBits = 63 := rfl
  have e2 : (2 : Nat) ^ 63 = 9223372036854775808 := by decide
  rw [e]
  by_cases hx : 9223372036854775808 ≤ x
  · rw [if_pos hx]
    have h1 : x = 2 ^ 63 ^^^ (x - 9223372036854775808) := by
      have := Nat.two_pow_add_eq_or_of_lt (b := x - 9223372036854775808) (i := 63) (by rw [e2]; omega) 1
      apply Nat.eq_of_testBit_eq
      intro i
      have hx2 : x = 2 ^ 63 * 1 + (x - 9223372036854775808) := by rw [e2]; omega
      rw [Nat.testBit_xor]
      conv => lhs; rw [hx2, this]
      rw [Nat.testBit_or, Nat.mul_one, Nat.testBit_two_pow]
      by_cases hi : 63 = i
      · subst hi
        have : (x - 9223372036854775808).testBit 63 = false := Nat.testBit_lt_two_pow (by rw [e2]; omega)
        rw [this]; rfl
      · simp [hi]
    conv => lhs; rw [h1]
    rw [Nat.xor_comm (2 ^ 63), Nat.xor_assoc, Nat.xor_self, Nat.xor_zero]
  · rw [if_neg hx]
    have := Nat.two_pow_add_eq_or_of_lt (b := x) (i := 63) (by rw [e2]; omega) 1
    rw [Nat.mul_one] at this
    rw [← e2, Nat.add_comm, this]
    apply Nat.eq_of_testBit_eq
    intro i
    rw [Nat.testBit_xor, Nat.testBit_or, Nat.testBit_two_pow]
    by_cases hi : 63 = i
    · subst hi
      have : x.testBit 63 = false := Nat.testBit_lt_two_pow (by rw [e2]; omega)
      rw [this]; rfl
    · simp [hi]
end Go.Proofs.YtllcpggdfdnjcabDoor
