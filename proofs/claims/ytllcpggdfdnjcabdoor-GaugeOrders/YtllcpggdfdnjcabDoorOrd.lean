/- Order of two gauges, the program's. -/
import Derived.Test.YtllcpggdfdnjcabDoorFa
namespace Go.Proofs.YtllcpggdfdnjcabDoor
open Go.RowKit
set_option linter.unusedVariables false

/-- A gauge's place among all; what is no number lies below all others. -/
def rk (a : Nat) : Int := if isN a then -1 else if 9223372036854775808 ≤ a then 18446744073709551615 - (a : Int) else (a : Int) + 9223372036854775808
def ordI (a b : Nat) : Int := if rk a < rk b then -1 else if rk b < rk a then 1 else 0

theorem cisNaN_ok (x : Nat) (w : World) : Calls Tryd.prog 23 #[.float .f64 x] w fun e w' => e = .returned (.bool (decide (isN x))) ∧ w' = w := by
  have h := order_self x
  go_enter Tryd.func23, Tryd.ntmps23
  go_wp2
  go_ret
  exact ⟨by rw [← h]; rfl, rfl⟩
theorem uisNaN_ok (x : Int) (w : World) : Calls Tryd.prog 22 #[.int .u64 x] w fun e w' => e = .returned (.bool false) ∧ w' = w := by
  go_enter Tryd.func22, Tryd.ntmps22
  go_wp2
  go_ret
  exact ⟨by simp, rfl⟩

def cmpI (a b : Int) : Int := if a < b then -1 else if b < a then 1 else 0
theorem cmpI_lt {a b : Int} (h : a < b) : cmpI a b = -1 := by unfold cmpI; rw [if_pos h]
theorem cmpI_gt {a b : Int} (h : b < a) : cmpI a b = 1 := by unfold cmpI; rw [if_neg (by omega), if_pos h]
theorem cmpI_eq {a b : Int} (h : a = b) : cmpI a b = 0 := by unfold cmpI; rw [if_neg (by omega), if_neg (by omega)]

theorem ucompare_ok (a b : Int) (w : World) : Calls Tryd.prog 11 #[.int .u64 a, .int .u64 b] w fun e w' => e = .returned (.int .i64 (cmpI a b)) ∧ w' = w := by
  have h := uisNaN_ok
  go_enter Tryd.func11, Tryd.ntmps11
  go_wp2_with (first | (go_at_call 22; refine same_at (h _ _) ?_))
  all_goals go_ret
  · exact ⟨by rw [cmpI_lt (by assumption)]; rfl, rfl⟩
  · exact ⟨by rw [cmpI_gt (by assumption)]; rfl, rfl⟩
  · exact ⟨by rw [cmpI_eq (by omega)]; rfl, rfl⟩

/-- What cmp.Compare tells of two floats. -/
def fcmp (a b : Nat) : Int := if isN a then (if isN b then 0 else -1) else if isN b then 1 else cmpI (sr a) (sr b)

theorem fcompare_ok (a b : Nat) (w : World) : Calls Tryd.prog 12 #[.float .f64 a, .float .f64 b] w fun e w' => e = .returned (.int .i64 (fcmp a b)) ∧ w' = w := by
  have h := cisNaN_ok
  unfold fcmp
  by_cases ha : isN a
  · by_cases hb : isN b
    · simp only [ha, hb, if_true]
      go_enter Tryd.func12, Tryd.ntmps12
      go_wp2_with (first | (go_at_call 23; refine same_at (h _ _) ?_))
      all_goals go_ret
      all_goals exact ⟨rfl, rfl⟩
    · simp only [ha, hb, if_true, if_false]
      go_enter Tryd.func12, Tryd.ntmps12
      go_wp2_with (first | (go_at_call 23; refine same_at (h _ _) ?_))
      all_goals go_ret
      all_goals exact ⟨rfl, rfl⟩
  · by_cases hb : isN b
    · simp only [ha, hb, if_true, if_false]
      go_enter Tryd.func12, Tryd.ntmps12
      go_wp2_with (first | (go_at_call 23; refine same_at (h _ _) ?_))
      all_goals go_ret
      all_goals exact ⟨rfl, rfl⟩
    · simp only [ha, hb, if_false]
      have ho := order_num a b ha hb
      have ho' : FloatKind.f64.format.order a b = some (compare (sr a) (sr b)) := ho
      rcases Int.lt_trichotomy (sr a) (sr b) with hs | hs | hs
      · rw [cmp_lt hs] at ho'
        rw [cmpI_lt hs]
        go_enter Tryd.func12, Tryd.ntmps12
        go_wp2_with (first | (go_at_call 23; refine same_at (h _ _) ?_))
        all_goals go_ret
        all_goals exact ⟨rfl, rfl⟩
      · rw [cmp_eq hs] at ho'
        rw [cmpI_eq hs]
        go_enter Tryd.func12, Tryd.ntmps12
        go_wp2_with (first | (go_at_call 23; refine same_at (h _ _) ?_))
        all_goals go_ret
        all_goals exact ⟨rfl, rfl⟩
      · rw [cmp_gt hs] at ho'
        rw [cmpI_gt hs]
        go_enter Tryd.func12, Tryd.ntmps12
        go_wp2_with (first | (go_at_call 23; refine same_at (h _ _) ?_))
        all_goals go_ret
        all_goals exact ⟨rfl, rfl⟩

theorem eq_nought (a : Nat) (ha : a < 18446744073709551616) : (FloatKind.f64.format.order a 0 == some .eq) = decide (rg a = 0) := by
  by_cases h : isN a
  · have e : FloatKind.f64.format.order a 0 = none := order_nan a 0 (Or.inl h)
    rw [e]
    unfold isN at h
    simp; omega
  · have e : FloatKind.f64.format.order a 0 = some (compare (sr a) (sr 0)) := order_num a 0 h (by decide)
    rw [e]
    have h0 : sr 0 = 0 := by decide
    rw [h0]
    by_cases hr : rg a = 0
    · have : sr a = 0 := by unfold sr; rw [hr]; cases sg a <;> rfl
      rw [cmp_eq this]; simp [hr]
    · have : sr a ≠ 0 := by unfold sr; cases sg a <;> simp <;> omega
      rcases Int.lt_trichotomy (sr a) 0 with hs | hs | hs
      · rw [cmp_lt hs]; simp [hr]
      · exact absurd hs this
      · rw [cmp_gt hs]; simp [hr]

theorem rk_nan {a : Nat} (h : isN a) : rk a = -1 := by unfold rk; rw [if_pos h]
theorem rk_num {a : Nat} (h : ¬ isN a) : rk a = if 9223372036854775808 ≤ a then 18446744073709551615 - (a : Int) else (a : Int) + 9223372036854775808 := by unfold rk; rw [if_neg h]

theorem ord_zero (a b : Nat) (ha : a < 18446744073709551616) (hb : b < 18446744073709551616) (h1 : rg a = 0) (h2 : rg b = 0) : ordI a b = cmpI b a := by
  have na : ¬ isN a := by unfold isN; omega
  have nb : ¬ isN b := by unfold isN; omega
  unfold ordI cmpI
  rw [rk_num na, rk_num nb]
  unfold rg at h1 h2
  (repeat' split) <;> omega

theorem ord_else (a b : Nat) (ha : a < 18446744073709551616) (hb : b < 18446744073709551616) (h : ¬ (rg a = 0 ∧ rg b = 0)) : ordI a b = fcmp a b := by
  unfold ordI fcmp
  by_cases na : isN a
  · by_cases nb : isN b
    · rw [if_pos na, if_pos nb, rk_nan na, rk_nan nb]; rfl
    · rw [if_pos na, if_neg nb, rk_nan na, rk_num nb]
      (repeat' split) <;> omega
  · by_cases nb : isN b
    · rw [if_neg na, if_pos nb, rk_num na, rk_nan nb]
      (repeat' split) <;> omega
    · rw [if_neg na, if_neg nb, rk_num na, rk_num nb, sr_eq a ha, sr_eq b hb]
      unfold cmpI
      unfold rg at h
      (repeat' split) <;> omega

theorem ordI_range (a b : Nat) : ordI a b = -1 ∨ ordI a b = 0 ∨ ordI a b = 1 := by
  unfold ordI; repeat' split
  · exact Or.inl rfl
  · exact Or.inr (Or.inr rfl)
  · exact Or.inr (Or.inl rfl)

theorem order_ok (a b : Nat) (ha : a < 18446744073709551616) (hb : b < 18446744073709551616) (w : World) : Calls Tryd.prog 6 #[.int .u64 a, .int .u64 b] w fun e w' => e = .returned (.int .i64 (ordI a b)) ∧ w' = w := by
  have h1 := number_ok
  have h2 := ucompare_ok b a w
  have h3 := fcompare_ok a b w
  have e1 := eq_nought a ha
  have e2 := eq_nought b hb
  by_cases hz : rg a = 0 ∧ rg b = 0
  · rw [ord_zero a b ha hb hz.1 hz.2]
    simp only [hz.1, hz.2, decide_true] at e1 e2
    go_enter Tryd.func6, Tryd.ntmps6
    go_wp2_with (first | (go_at_call 10; refine same_at (h1 _ _) ?_) | (go_at_call 11; refine same_at h2 ?_))
    all_goals go_ret
    all_goals exact ⟨rfl, rfl⟩
  · rw [ord_else a b ha hb hz]
    by_cases hza : rg a = 0
    · have hzb : ¬ rg b = 0 := fun h => hz ⟨hza, h⟩
      simp only [hza, hzb, decide_true, decide_false] at e1 e2
      go_enter Tryd.func6, Tryd.ntmps6
      go_wp2_with (first | (go_at_call 10; refine same_at (h1 _ _) ?_) | (go_at_call 12; refine same_at h3 ?_))
      all_goals go_ret
      all_goals exact ⟨rfl, rfl⟩
    · simp only [hza, decide_false] at e1
      go_enter Tryd.func6, Tryd.ntmps6
      go_wp2_with (first | (go_at_call 10; refine same_at (h1 _ _) ?_) | (go_at_call 12; refine same_at h3 ?_))
      all_goals go_ret
      all_goals exact ⟨rfl, rfl⟩
end Go.Proofs.YtllcpggdfdnjcabDoor
