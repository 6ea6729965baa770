/- Floats made whole: towards nought, and to the nearest. -/
import Derived.Test.YtllcpggdfdnjcabDoorFa
namespace Go.Proofs.YtllcpggdfdnjcabDoor
open Go.RowKit Ieee
set_option linter.unusedVariables false

/-- One, in units of the least place. -/
def E : Nat := 1074
theorem E_eq : E = 1074 := rfl
def U : Nat := 2 ^ E
theorem U_pos : 0 < U := Nat.two_pow_pos _

theorem read_num' (w : Nat) (h : rg w < 9218868437227405312) :
    ∃ m p, double.read w = .number (sg w) m p ∧ -1074 ≤ p ∧ m * 2 ^ (p + 1074).toNat = mg (rg w) ∧ m < 9007199254740992 := by
  unfold Format.read
  have h1 : double.signWeight = 9223372036854775808 := by decide
  have h2 : double.binade = 4503599627370496 := by decide
  have h3 : double.infRung = 9218868437227405312 := by decide
  have h4 : double.leastPlace = -1074 := by decide
  simp only [h1, h2, h3, h4]
  unfold rg at h ⊢
  by_cases hr : w % 9223372036854775808 < 4503599627370496
  · rw [if_pos hr]
    refine ⟨_, _, rfl, by decide, ?_, by omega⟩
    unfold mg
    rw [if_pos hr]
    simp
  · rw [if_neg hr, if_pos h]
    refine ⟨_, _, rfl, by omega, ?_, by omega⟩
    unfold mg
    rw [if_neg hr]
    congr 1
    congr 1
    omega

theorem cut_down (neg : Bool) (m : Nat) (p : Int) (hp : -1074 ≤ p) : Toward.zero.cut neg (m <<< p.toNat) (-p).toNat = (m * 2 ^ (p + 1074).toNat) / U := by
  have hE := E_eq
  unfold U
  rcases Int.lt_or_le p 0 with h | h
  · have e1 : p.toNat = 0 := by omega
    obtain ⟨d, hd⟩ : ∃ d : Nat, p = -(d : Int) := ⟨(-p).toNat, by omega⟩
    subst hd
    have e2 : (-(-(d : Int))).toNat = d := by omega
    have e3 : (-(d : Int) + 1074).toNat = E - d := by omega
    rw [e1, e2, e3, Nat.shiftLeft_zero]
    have hd : d ≤ 1074 := by omega
    have hR : m * 2 ^ (E - d) / 2 ^ E = m / 2 ^ d := by
      have e4 : (2 : Nat) ^ E = 2 ^ d * 2 ^ (E - d) := by rw [← Nat.pow_add]; congr 1; omega
      rw [e4]
      exact Nat.mul_div_mul_right _ _ (Nat.two_pow_pos _)
    rw [hR]
    unfold Toward.cut
    simp only [Nat.one_shiftLeft, Bool.toNat_false, Nat.add_zero]
    rcases Nat.le_total d (m.log2 + 2) with h1 | h1
    · rw [Nat.min_eq_left h1]
    · rw [Nat.min_eq_right h1]
      have h0 := Nat.lt_log2_self (n := m)
      have a1 : m < 2 ^ (m.log2 + 2) := Nat.lt_of_lt_of_le h0 (Nat.pow_le_pow_right (by omega) (by omega))
      have a2 : m < 2 ^ d := Nat.lt_of_lt_of_le a1 (Nat.pow_le_pow_right (by omega) h1)
      rw [Nat.div_eq_of_lt a1, Nat.div_eq_of_lt a2]
  · have e1 : (-p).toNat = 0 := by omega
    have e2 : (p + 1074).toNat = p.toNat + E := by omega
    rw [e1, e2, Nat.shiftLeft_eq, Nat.pow_add, ← Nat.mul_assoc, Nat.mul_div_cancel _ (Nat.two_pow_pos _)]
    unfold Toward.cut
    simp

theorem cut_near (neg : Bool) (m : Nat) (p : Int) (hp : -1074 ≤ p) : Toward.even.cut neg (m <<< p.toNat) (-p).toNat = rhe (m * 2 ^ (p + 1074).toNat) U := by
  have hE := E_eq
  by_cases hm : m = 0
  · subst hm
    rw [Nat.zero_shiftLeft, Nat.zero_mul]
    have e1 : rhe 0 U = 0 := by
      unfold rhe; rw [Nat.zero_div, Nat.zero_mod, if_neg (by have := U_pos; omega)]
    rw [e1]
    unfold Toward.cut
    simp
  have key : ∀ n : Nat, n ≠ 0 → Toward.even.cut neg n E = rhe n U := by
    intro n hn
    rcases Nat.le_total E (n.log2 + 2) with h1 | h1
    · exact cut_even neg n E h1
    · rw [cut_even_far neg n E h1]
      have h0 := Nat.lt_log2_self (n := n)
      have a1 : n < 2 ^ (E - 1) := Nat.lt_of_lt_of_le h0 (Nat.pow_le_pow_right (by omega) (by omega))
      have a2 : U = 2 * 2 ^ (E - 1) := by unfold U; rw [← Nat.pow_succ']; congr 1
      unfold rhe
      rw [Nat.div_eq_of_lt (by omega), Nat.mod_eq_of_lt (by omega), if_neg (by omega)]
  rcases Int.lt_or_le p 0 with h | h
  · have e1 : p.toNat = 0 := by omega
    have e2 : E = (-p).toNat + (p + 1074).toNat := by omega
    rw [e1, Nat.shiftLeft_zero, ← cut_scale neg m (p + 1074).toNat (-p).toNat hm, ← e2]
    exact key _ (Nat.mul_ne_zero hm (by have := Nat.two_pow_pos (p + 1074).toNat; omega))
  · have e1 : (-p).toNat = 0 := by omega
    have e2 : (p + 1074).toNat = p.toNat + E := by omega
    have hne : m * 2 ^ p.toNat ≠ 0 := Nat.mul_ne_zero hm (by have := Nat.two_pow_pos p.toNat; omega)
    rw [e1, e2, Nat.shiftLeft_eq, Nat.pow_add, ← Nat.mul_assoc, ← cut_scale neg (m * 2 ^ p.toNat) E 0 hne, Nat.zero_add]
    exact key _ (Nat.mul_ne_zero hne (by have := Nat.two_pow_pos E; omega))

/-- Towards nought: the whole number of a float that is not below nought. -/
theorem toInt_down (w : Nat) (h : rg w < 9218868437227405312) (hs : sg w = false) : (double.read w).toInt .zero = some ((mg (rg w) / U : Nat) : Int) := by
  obtain ⟨m, p, e, hp, hm⟩ := read_num w h
  rw [e, hs]
  simp only [Datum.toInt, Datum.integral]
  rw [cut_down false m p hp, hm]
  simp [signed]

theorem half_units : 2 * mg 4602678819172646912 = U := by decide +kernel
theorem big_units : mg 4845873199050653696 = 9007199254740992 * U := by decide +kernel

/-- A whole number below 2^53 is a float. -/
theorem whole_exact (R : Nat) (h : R ≤ 9007199254740992) : ∃ r, double.nearest false R 0 = r ∧ r < 9218868437227405312 ∧ mg r = R * U := by
  rcases Nat.eq_zero_or_pos R with h0 | h0
  · subst h0
    exact ⟨0, rfl, by decide, by rw [mg_zero, Nat.zero_mul]⟩
  have hat := near_at false R 0 (by decide) (by omega)
  rw [show ((0 : Int) + 1074).toNat = E from rfl] at hat
  have ex : ∃ r, 0 < r ∧ r < 9218868437227405312 ∧ mg r = R * 2 ^ E := by
    rcases Nat.lt_or_ge R 9007199254740992 with h1 | h1
    · exact ex_rung R E h0 h1 (by decide)
    · obtain rfl : R = 9007199254740992 := by omega
      obtain ⟨r, a, b, c⟩ := ex_rung 4503599627370496 (E + 1) (by omega) (by omega) (by decide)
      refine ⟨r, a, b, ?_⟩
      rw [c, show (9007199254740992 : Nat) = 4503599627370496 * 2 by decide, Nat.mul_assoc, ← Nat.pow_succ']
  obtain ⟨r, a, b, c⟩ := ex
  refine ⟨r, ?_, b, c⟩
  rw [hat, ← c, near_mg false r a b]
  rfl

theorem rg_small {r : Nat} (h : r < 9223372036854775808) : rg r = r := Nat.mod_eq_of_lt h
theorem sg_small {r : Nat} (h : r < 9223372036854775808) : sg r = false := by
  unfold sg; rw [Nat.div_eq_of_lt h]; rfl

/-- What is left of a float behind its whole number is a float. -/
theorem rest_exact (v : Nat) (hv : v < 4845873199050653696) :
    ∃ r, double.sub v (double.nearest false (mg v / U) 0) = some r ∧ r < 9218868437227405312 ∧ mg r = mg v % U := by
  have hE := E_eq
  have hrv : rg v = v := rg_small (by omega)
  have hsv : sg v = false := sg_small (by omega)
  have hMlt : mg v < 9007199254740992 * U := by rw [← big_units]; exact mg_lt hv
  have hn : mg v / U ≤ 9007199254740992 := by
    have := Nat.div_lt_of_lt_mul (by rw [Nat.mul_comm]; exact hMlt : mg v < U * 9007199254740992)
    omega
  obtain ⟨r2, e2, hr2, hm2⟩ := whole_exact (mg v / U) hn
  rw [e2]
  obtain ⟨m, p, er, hp, hm, hmb⟩ := read_num' v (by omega)
  obtain ⟨m', p', er', hp', hm'⟩ := read_num r2 (by rw [rg_small (by omega)]; exact hr2)
  rw [hrv] at hm
  rw [rg_small (by omega), hm2] at hm'
  have hdm := Nat.div_add_mod (mg v) U
  unfold Format.sub
  rw [er, er', hsv, sg_small (by omega : r2 < 9223372036854775808)]
  simp only [Datum.opposite, Datum.sum, Bool.not_false, Option.map_some]
  have hb : -1074 ≤ min p p' := by omega
  have s1 := scale m p (min p p') false hb (by omega) _ hm
  have s2 := scale m' p' (min p p') true hb (by omega) _ hm'
  simp only [Bool.false_eq_true, if_false, if_true] at s1 s2
  have hP : (0 : Int) < (2 ^ (min p p' + 1074).toNat : Nat) := Int.natCast_pos.2 (Nat.two_pow_pos _)
  have hT : (signed false m (p - min p p').toNat + signed true m' (p' - min p p').toNat) * (2 ^ (min p p' + 1074).toNat : Nat) = ((mg v % U : Nat) : Int) := by
    rw [Int.add_mul, s1, s2]
    have : mg v = mg v / U * U + mg v % U := by rw [Nat.mul_comm]; exact hdm.symm
    omega
  generalize signed false m (p - min p p').toNat + signed true m' (p' - min p p').toNat = T at hT
  rcases Nat.eq_zero_or_pos (mg v % U) with h0 | h0
  · have hT0 : T = 0 := by
      rw [h0] at hT
      rcases Int.mul_eq_zero.1 hT with h | h
      · exact h
      · omega
    subst hT0
    refine ⟨0, ?_, by decide, by rw [h0, mg_zero]⟩
    simp [Format.write, Format.nearest, Format.word]
  · have hTp : 0 < T := by
      rcases Int.lt_trichotomy 0 T with h | h | h
      · exact h
      · rw [← h, Int.zero_mul] at hT; omega
      · have := Int.mul_neg_of_neg_of_pos h hP
        omega
    obtain ⟨t, rfl⟩ : ∃ t : Nat, T = (t : Int) := ⟨T.toNat, by omega⟩
    have hTn : t * 2 ^ (min p p' + 1074).toNat = mg v % U := by
      have : ((t * 2 ^ (min p p' + 1074).toNat : Nat) : Int) = ((mg v % U : Nat) : Int) := by rw [← hT]; simp
      omega
    rw [if_neg (by omega)]
    have hd : decide ((t : Int) < 0) = false := by simp
    rw [hd]
    simp only [Format.write, Int.natAbs_natCast]
    rw [near_at false t (min p p') hb (by omega), hTn]
    have hpn : p < 0 := by
      rcases Int.lt_or_le p 0 with h | h
      · exact h
      · have e : mg v = m * 2 ^ p.toNat * U := by
          rw [← hm, show (p + 1074).toNat = p.toNat + E by omega, Nat.pow_add, Nat.mul_assoc]; rfl
        rw [e, Nat.mul_mod_left] at h0
        omega
    obtain ⟨d, rfl⟩ : ∃ d : Nat, p = -(d : Int) := ⟨(-p).toNat, by omega⟩
    have e3 : (-(d : Int) + 1074).toNat = E - d := by omega
    have hmod : mg v % U = (m % 2 ^ d) * 2 ^ (E - d) := by
      have e4 : U = 2 ^ d * 2 ^ (E - d) := by unfold U; rw [← Nat.pow_add]; congr 1; omega
      rw [← hm, e3, e4, Nat.mul_mod_mul_right]
    have hmm : m % 2 ^ d ≤ m := Nat.mod_le _ _
    have hmp : 0 < m % 2 ^ d := by
      rcases Nat.eq_zero_or_pos (m % 2 ^ d) with h | h
      · rw [hmod, h, Nat.zero_mul] at h0; omega
      · exact h
    obtain ⟨r, a, b, c⟩ := ex_rung (m % 2 ^ d) (E - d) hmp (by omega) (by omega)
    refine ⟨r, ?_, b, by rw [c, hmod]⟩
    rw [hmod, ← c, near_mg false r a b]
    rfl

/-- What two floats not below nought are to each other. -/
theorem order_small (a b : Nat) (ha : a < 9218868437227405312) (hb : b < 9218868437227405312) : double.order a b = some (compare ((mg a : Nat) : Int) ((mg b : Nat) : Int)) := by
  have na : ¬ isN a := by unfold isN; rw [rg_small (by omega)]; omega
  have nb : ¬ isN b := by unfold isN; rw [rg_small (by omega)]; omega
  rw [order_num a b na nb]
  have e1 := sv_lt a b
  have e2 := sv_lt b a
  have s1 : sv a = (mg a : Int) := by unfold sv; rw [sg_small (by omega), rg_small (by omega)]; rfl
  have s2 : sv b = (mg b : Int) := by unfold sv; rw [sg_small (by omega), rg_small (by omega)]; rfl
  rw [s1, s2] at e1 e2
  rw [compare_of _ _ _ _ e1.symm e2.symm]
end Go.Proofs.YtllcpggdfdnjcabDoor
