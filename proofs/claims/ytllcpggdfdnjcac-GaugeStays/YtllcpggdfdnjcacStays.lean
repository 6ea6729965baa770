/- GaugeStays: the walk. -/
import Derived.Test.YtllcpggdfdnjcacFa
import Derived.Laws.BitsAll
namespace Go.Proofs.Ytllcpggdfdnjcac
open Go.RowKit
set_option linter.unusedVariables false

theorem andNot_sign (x : Nat) (h : x < 18446744073709551616) : bits .andNot .u64 (x : Int) 9223372036854775808 = ((rg x : Nat) : Int) := by
  rw [u64_andNot _ _ (by omega) (by omega) (by omega) (by omega)]
  have e : 18446744073709551615 - (9223372036854775808 : Int).toNat = 2 ^ 63 - 1 := by decide
  unfold rg
  have e2 : (2 : Nat) ^ 63 = 9223372036854775808 := by decide
  rw [Int.toNat_natCast]
  first
    | (rw [e, Nat.and_two_pow_sub_one_eq_mod, e2])
    | (simp only [Nat.reduceSub, Int.reduceToNat]; exact congrArg _ (by have := Nat.and_two_pow_sub_one_eq_mod x 63; simpa using this))

theorem abs_ok (x : Nat) (h : x < 18446744073709551616) (w : World) : Calls Try.prog 9 #[.float .f64 x] w fun e w' => e = .returned (.float .f64 (rg x)) ∧ w' = w := by
  have h1 := called14 x
  have h2 := fun n w => called4 n w
  have h3 := andNot_sign x h
  go_enter Try.func9, Try.ntmps9
  go_wp2
  go_ret
  exact ⟨rfl, rfl⟩

theorem above_most (x : Nat) : (FloatKind.f64.format.order (rg x) 9218868437227405311 == some .gt) = decide (rg x = 9218868437227405312) := by
  have hr : rg x < 9223372036854775808 := Nat.mod_lt _ (by decide)
  have e0 : rg (rg x) = rg x := by unfold rg; omega
  by_cases h : isN (rg x)
  · have e : FloatKind.f64.format.order (rg x) 9218868437227405311 = none := order_nan _ _ (Or.inl h)
    rw [e]
    unfold isN at h
    rw [e0] at h
    have : ¬ rg x = 9218868437227405312 := by omega
    simp [this]
  · have e : FloatKind.f64.format.order (rg x) 9218868437227405311 = some (compare (sr (rg x)) (sr 9218868437227405311)) := order_num _ _ h (by decide)
    rw [e]
    unfold isN at h
    rw [e0] at h
    have h0 : sr 9218868437227405311 = 9218868437227405311 := by decide
    have h1 : sr (rg x) = (rg x : Int) := by rw [sr_eq _ (by omega), if_neg (by omega)]
    rw [h0, h1]
    by_cases h2 : rg x = 9218868437227405312
    · rw [cmp_gt (by omega)]; simp [h2]
    · rcases Int.lt_trichotomy (rg x : Int) 9218868437227405311 with hs | hs | hs
      · rw [cmp_lt hs]; simp [h2]
      · rw [cmp_eq hs]; simp [h2]
      · omega

set_option maxRecDepth 100000 in
theorem isInf_ok (x : Nat) (h : x < 18446744073709551616) (w : World) : Calls Try.prog 6 #[.float .f64 x, .int .i64 0] w fun e w' => e = .returned (.bool (decide (rg x = 9218868437227405312))) ∧ w' = w := by
  have h1 := abs_ok x h
  have h2 := above_most x
  go_enter Try.func6, Try.ntmps6
  go_wp2_with (first | (go_at_call 9; refine same_at (h1 _) ?_))
  go_ret
  exact ⟨rfl, rfl⟩

theorem sub_some (x y : Nat) (hy : rg y < 9218868437227405312) (hx : ¬ isN x) : ∃ d, Ieee.double.sub x y = some d := by
  obtain ⟨m, p, e1, _, _⟩ := read_num y hy
  unfold Ieee.Format.sub
  unfold isN at hx
  rw [e1]
  rcases Nat.lt_or_ge (rg x) 9218868437227405312 with h | h
  · obtain ⟨n, q, e2, _, _⟩ := read_num x h
    rw [e2]; exact ⟨_, rfl⟩
  · rw [read_inf x (by omega)]; exact ⟨_, rfl⟩

theorem quo_nought : ob .quo (fi 0) (some 4636737291354636288) = some 0 := by decide

theorem smooth_stays (a b : Nat) (ha : a < 18446744073709551616) (hfa : rg a < 9218868437227405312) (hb : ¬ isN b) (d : Nat) (hd : Ieee.double.sub b a = some d) (hdi : ¬ rg d = 9218868437227405312) :
    ∃ r, oSmooth a b 0 = some r ∧ r < 18446744073709551616 ∧ ¬ isN r ∧ sr r = sr a := by
  have na : ¬ isN a := by unfold isN; omega
  have hd1 : floatBits .sub .f64 b a = some d := hd
  have nd : ¬ isN d := fbits_notN hd1
  have fd : rg d < 9218868437227405312 := by unfold isN at nd; omega
  obtain ⟨z, hz, hz0⟩ := mul_nought d 0 fd (by decide)
  have hz1 : floatBits .mul .f64 d 0 = some z := hz
  obtain ⟨r, hr, h1, h2, h3⟩ := add_nought a z ha hfa hz0
  have hr1 : floatBits .add .f64 a z = some r := hr
  refine ⟨r, ?_, h1, h2, h3⟩
  unfold oSmooth
  rw [show clampI 0 = 0 from rfl, quo_nought, fc_some na, fc_some hb]
  simp only [ob, hd1, hz1, hr1]

theorem eq_of_sr (r a : Nat) (h1 : ¬ isN r) (h2 : ¬ isN a) (h : sr r = sr a) : (FloatKind.f64.format.order r a == some .eq) = true := by
  have e : FloatKind.f64.format.order r a = some (compare (sr r) (sr a)) := order_num r a h1 h2
  rw [e, cmp_eq h]; rfl

theorem smooth_neg (a b : Nat) : oSmooth a b (-9) = oSmooth a b 0 := rfl
theorem smooth_far (a b : Nat) : oSmooth a b 1000 = oSmooth a b 100 := rfl

set_option maxRecDepth 100000 in
set_option maxHeartbeats 1000000 in
theorem gaugeStays_walk (a b : Nat) (ha : a < 18446744073709551616) (hb : b < 18446744073709551616) (w : World) :
    Calls Try.prog 3 #[.int .u64 (a : Int), .int .u64 (b : Int)] w fun e w' => e = .returned (.bool true) ∧ ∃ k, w' = w.drewN k := by
  have c4 := fun (n : Nat) w => called4 (n : Int) w
  have hs := fun (w : World) (t : TypeId) (x y : Nat) => run_fop (P := Try.prog) w Fop.sub t x y
  have n1 := isNaN_ok
  have i1 := isInf_ok
  have s1 := smooth_ok a b
  have s2 := rsmooth_ok a b
  by_cases na : isN a
  · go_enter Try.func3, Try.ntmps3
    go_wp2_with (first
      | (go_at_call 5; refine same_at (n1 _ _) ?_)
      | (go_at_call 7; refine drew_at (s1 _ _) ?_; intro k)
      | (go_at_call 8; refine drew_at (s2 _ _) ?_; intro k))
    go_ret
    exact ⟨rfl, _, rfl⟩
  by_cases ia : rg a = 9218868437227405312
  · go_enter Try.func3, Try.ntmps3
    go_wp2_with (first
      | (go_at_call 5; refine same_at (n1 _ _) ?_)
      | (go_at_call 6; refine same_at (i1 _ (by assumption) _) ?_)
      | (go_at_call 7; refine drew_at (s1 _ _) ?_; intro k)
      | (go_at_call 8; refine drew_at (s2 _ _) ?_; intro k))
    go_ret
    exact ⟨rfl, _, rfl⟩
  by_cases nb : isN b
  · go_enter Try.func3, Try.ntmps3
    go_wp2_with (first
      | (go_at_call 5; refine same_at (n1 _ _) ?_)
      | (go_at_call 6; refine same_at (i1 _ (by assumption) _) ?_)
      | (go_at_call 7; refine drew_at (s1 _ _) ?_; intro k)
      | (go_at_call 8; refine drew_at (s2 _ _) ?_; intro k))
    go_ret
    exact ⟨rfl, _, rfl⟩
  have fa : rg a < 9218868437227405312 := by unfold isN at na; omega
  obtain ⟨d, hd⟩ := sub_some b a fa nb
  have hd1 : floatBits .sub .f64 b a = some d := hd
  have ld := fbits_lt hd1
  have hrun := fun (t : TypeId) (w : World) => run_float_arith (P := Try.prog) w .sub t .f64 b a d hd1
  clear hs
  by_cases hi : rg d = 9218868437227405312
  · clear hd hd1
    go_enter Try.func3, Try.ntmps3
    go_wp2_with (first
      | (go_at_call 5; refine same_at (n1 _ _) ?_)
      | (go_at_call 6; refine same_at (i1 _ (by assumption) _) ?_)
      | (go_at_call 7; refine drew_at (s1 _ _) ?_; intro k)
      | (go_at_call 8; refine drew_at (s2 _ _) ?_; intro k))
    go_ret
    exact ⟨rfl, _, rfl⟩
  · obtain ⟨r, hr, lr, nr, er⟩ := smooth_stays a b ha fa nb d hd hi
    have hz : tl (oSmooth a b 0) = (r : Int) := by rw [hr]; rfl
    have heq := eq_of_sr r a nr na er
    have e9 := smooth_neg a b
    have e1 := smooth_far a b
    clear hd hd1 er hr
    go_enter Try.func3, Try.ntmps3
    go_wp2_with (first
      | (go_at_call 5; refine same_at (n1 _ _) ?_)
      | (go_at_call 6; refine same_at (i1 _ (by assumption) _) ?_)
      | (go_at_call 7; refine drew_at (s1 _ _) ?_; intro k)
      | (go_at_call 8; refine drew_at (s2 _ _) ?_; intro k))
    go_ret
    exact ⟨rfl, _, rfl⟩
end Go.Proofs.Ytllcpggdfdnjcac
