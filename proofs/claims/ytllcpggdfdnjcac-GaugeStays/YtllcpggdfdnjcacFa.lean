/- Gauges told, numbers of gauges; Fill, Score, Smooth, the program's and the document's. -/
import Derived.Test.YtllcpggdfdnjcacFl
import Derived.Test.YtllcpggdfdnjcacChecked
import Derived.WalkKit
import Derived.WalkSpells
import Derived.WalkLawsBesides
import Derived.BigQuiet
import Derived.Deep.QuietTactic
import Derived.Laws.CopyOwn
import Derived.Lib.Bytes
import Derived.Laws.Externs
namespace Go.Proofs.Ytllcpggdfdnjcac
open Go.RowKit
set_option linter.unusedVariables false

theorem called14 (b : Nat) (w : World) : (callFunc 14 #[.float .f64 b]).run Try.prog w = .ok (.value (.int .u64 b)) w := by
  have h := run_callFunc_extern (e := Extern.MathFloatBits.float64bits) Try.func14 (by kernel_rfl) (by kernel_rfl) (by kernel_rfl) (by kernel_rfl) #[.float .f64 b] w
  rw [h]; rfl
theorem called4 (n : Int) (w : World) : (callFunc 4 #[.int .u64 n]).run Try.prog w = .ok (.value (.float .f64 n.toNat)) w := by
  have h := run_callFunc_extern (e := Extern.MathFloatBits.float64frombits) Try.func4 (by kernel_rfl) (by kernel_rfl) (by kernel_rfl) (by kernel_rfl) #[.int .u64 n] w
  rw [h]; rfl

/-- A gauge of a float: what is no number has one form. -/
def tl : Option Nat → Int
  | none => 9221120237041090561
  | some r => r

theorem order_self (x : Nat) : (Ieee.double.order x x != some .eq) = decide (isN x) := by
  by_cases h : isN x
  · rw [order_nan x x (Or.inl h)]; simp [h]
  · rw [order_num x x h h, cmp_eq rfl]; simp [h]

theorem same_at {P : Program} {f : FuncId} {args : Array Value} {w : World} {v : Value} {Q : Ending → World → Prop} (h : Calls P f args w fun e w' => e = .returned v ∧ w' = w) (hq : Q (.returned v) w) : Calls P f args w Q :=
  h.mono fun _ _ ⟨he, hw⟩ => by rw [he, hw]; exact hq

theorem isNaN_ok (x : Nat) (w : World) : Calls Try.prog 5 #[.float .f64 x] w fun e w' => e = .returned (.bool (decide (isN x))) ∧ w' = w := by
  have h := order_self x
  go_enter Try.func5, Try.ntmps5
  go_wp2
  go_ret
  exact ⟨by rw [← h]; rfl, rfl⟩

set_option maxRecDepth 100000 in
theorem told_ok (x : Nat) (w : World) : Calls Try.prog 11 #[.float .f64 x] w fun e w' => e = .returned (.int .u64 (tl (fc x))) ∧ w' = w := by
  have h := isNaN_ok x w
  have hc := called14 x w
  go_enter Try.func11, Try.ntmps11
  go_wp2_with (first | (go_at_call 5; refine same_at h ?_))
  all_goals go_ret
  all_goals rename_i hb
  · exact ⟨by unfold fc; rw [if_pos hb]; rfl, rfl⟩
  · exact ⟨by unfold fc; rw [if_neg hb]; rfl, rfl⟩

set_option maxRecDepth 100000 in
theorem rbits_ok (x : Nat) (w : World) : Calls Try.prog 13 #[.float .f64 x] w fun e w' => e = .returned (.int .u64 (tl (fc x))) ∧ w' = w := by
  have h := order_self x
  have hc := called14 x w
  have hn : ∀ t w, (binOp .neq t (.float .f64 x) (.float .f64 x)).run Try.prog w = .ok (.bool (decide (isN x))) w := by
    intro t w; rw [binOp_float_cmp_neq]; rw [← h]; rfl
  go_enter Try.func13, Try.ntmps13
  go_wp2
  all_goals go_ret
  all_goals rename_i hb
  all_goals rw [show FloatKind.f64.format = Ieee.double from rfl, h] at hb
  all_goals simp only [decide_eq_true_eq, decide_eq_false_iff_not] at hb
  · exact ⟨by unfold fc; rw [if_pos hb]; rfl, rfl⟩
  · exact ⟨by unfold fc; rw [if_neg hb]; rfl, rfl⟩

theorem number_ok (n : Int) (w : World) : Calls Try.prog 10 #[.int .u64 n] w fun e w' => e = .returned (.float .f64 n.toNat) ∧ w' = w := by
  have hc := called4 n w
  go_enter Try.func10, Try.ntmps10
  go_wp2
  go_ret
  exact ⟨rfl, rfl⟩
theorem rfloat_ok (n : Int) (w : World) : Calls Try.prog 12 #[.int .u64 n] w fun e w' => e = .returned (.float .f64 n.toNat) ∧ w' = w := by
  have hc := called4 n w
  go_enter Try.func12, Try.ntmps12
  go_wp2
  go_ret
  exact ⟨rfl, rfl⟩

/-- A whole number as a float, told. -/
def fi (n : Int) : Option Nat := some (floatOfInt .f64 n)
theorem fc_fi (n : Int) : fc (floatOfInt .f64 n) = fi n := by
  unfold fc fi
  rw [if_neg]
  exact nearest_notN _ _ _

theorem fc_some {x : Nat} (h : ¬ isN x) : fc x = some x := by unfold fc; rw [if_neg h]
theorem fc_one : fc 4607182418800017408 = some 4607182418800017408 := fc_some (by decide)
theorem fc_hundred : fc 4636737291354636288 = some 4636737291354636288 := fc_some (by decide)
theorem fc_nought : fc 0 = some 0 := fc_some (by decide)

theorem drew_at {P : Program} {f : FuncId} {args : Array Value} {w : World} {v : Value} {Q : Ending → World → Prop} (h : Calls P f args w fun e w' => e = .returned v ∧ ∃ k, w' = w.drewN k) (hq : ∀ k, Q (.returned v) (w.drewN k)) : Calls P f args w Q :=
  h.mono fun _ _ ⟨he, k, hw⟩ => by rw [he, hw]; exact hq k

def clampI (h : Int) : Int := if h < 0 then 0 else if 100 < h then 100 else h
def oSmooth (a b : Nat) (h : Int) : Option Nat := ob .add (fc a) (ob .mul (ob .sub (fc b) (fc a)) (ob .quo (fi (clampI h)) (some 4636737291354636288)))

set_option maxHeartbeats 400000 in
theorem smooth_ok (a b : Nat) (h : Int) (w : World) :
    Calls Try.prog 7 #[.int .u64 (a : Int), .int .u64 (b : Int), .int .i64 h] w fun e w' => e = .returned (.int .u64 (tl (oSmooth a b h))) ∧ ∃ k, w' = w.drewN k := by
  have hq := fun (w : World) (t : TypeId) (x y : Nat) => run_fop (P := Try.prog) w Fop.quo t x y
  have ha := fun (w : World) (t : TypeId) (x y : Nat) => run_fop (P := Try.prog) w Fop.add t x y
  have hs := fun (w : World) (t : TypeId) (x y : Nat) => run_fop (P := Try.prog) w Fop.sub t x y
  have hm := fun (w : World) (t : TypeId) (x y : Nat) => run_fop (P := Try.prog) w Fop.mul t x y
  have ht := told_ok
  have hn := fun (n : Nat) w => number_ok (n : Int) w
  obtain ⟨c, hc⟩ : ∃ c, c = clampI h := ⟨_, rfl⟩
  have key : oSmooth a b h = ob .add (fc a) (ob .mul (ob .sub (fc b) (fc a)) (ob .quo (fi c) (some 4636737291354636288))) := by rw [hc]; rfl
  have HK : Hid _ := key
  clear key
  unfold clampI at hc
  by_cases h1 : h < 0
  · rw [if_pos h1] at hc
    subst hc
    go_enter Try.func7, Try.ntmps7
    go_wp2_with (first | (go_at_call 10; refine same_at (hn _ _) ?_) | (go_at_call 11; refine same_at (ht _ _) ?_))
    go_ret
    refine ⟨?_, _, rfl⟩
    simp only [HK.out, fc_fv, fc_fi, fc_hundred]
    rfl
  · rw [if_neg h1] at hc
    by_cases h2 : 100 < h
    · rw [if_pos h2] at hc
      subst hc
      go_enter Try.func7, Try.ntmps7
      go_wp2_with (first | (go_at_call 10; refine same_at (hn _ _) ?_) | (go_at_call 11; refine same_at (ht _ _) ?_))
      go_ret
      refine ⟨?_, _, rfl⟩
      simp only [HK.out, fc_fv, fc_fi, fc_hundred]
      rfl
    · rw [if_neg h2] at hc
      subst hc
      go_enter Try.func7, Try.ntmps7
      go_wp2_with (first | (go_at_call 10; refine same_at (hn _ _) ?_) | (go_at_call 11; refine same_at (ht _ _) ?_))
      go_ret
      refine ⟨?_, _, rfl⟩
      simp only [HK.out, fc_fv, fc_fi, fc_hundred]
      rfl

set_option maxHeartbeats 400000 in
theorem rsmooth_ok (a b : Nat) (h : Int) (w : World) :
    Calls Try.prog 8 #[.int .u64 (a : Int), .int .u64 (b : Int), .int .i64 h] w fun e w' => e = .returned (.int .u64 (tl (oSmooth a b h))) ∧ ∃ k, w' = w.drewN k := by
  have hq := fun (w : World) (t : TypeId) (x y : Nat) => run_fop (P := Try.prog) w Fop.quo t x y
  have ha := fun (w : World) (t : TypeId) (x y : Nat) => run_fop (P := Try.prog) w Fop.add t x y
  have hs := fun (w : World) (t : TypeId) (x y : Nat) => run_fop (P := Try.prog) w Fop.sub t x y
  have hm := fun (w : World) (t : TypeId) (x y : Nat) => run_fop (P := Try.prog) w Fop.mul t x y
  have ht := rbits_ok
  have hn := fun (n : Nat) w => rfloat_ok (n : Int) w
  obtain ⟨c, hc⟩ : ∃ c, c = clampI h := ⟨_, rfl⟩
  have key : oSmooth a b h = ob .add (fc a) (ob .mul (ob .sub (fc b) (fc a)) (ob .quo (fi c) (some 4636737291354636288))) := by rw [hc]; rfl
  have HK : Hid _ := key
  clear key
  unfold clampI at hc
  by_cases h1 : h < 0
  · rw [if_pos h1] at hc
    subst hc
    have h2 : h < 100 := by omega
    go_enter Try.func8, Try.ntmps8
    go_wp2_with (first | (go_at_call 12; refine same_at (hn _ _) ?_) | (go_at_call 13; refine same_at (ht _ _) ?_))
    go_ret
    refine ⟨?_, _, rfl⟩
    simp only [HK.out, fc_fv, fc_fi, fc_hundred]
    rfl
  · rw [if_neg h1] at hc
    by_cases h2 : 100 < h
    · rw [if_pos h2] at hc
      subst hc
      go_enter Try.func8, Try.ntmps8
      go_wp2_with (first | (go_at_call 12; refine same_at (hn _ _) ?_) | (go_at_call 13; refine same_at (ht _ _) ?_))
      go_ret
      refine ⟨?_, _, rfl⟩
      simp only [HK.out, fc_fv, fc_fi, fc_hundred]
      rfl
    · rw [if_neg h2] at hc
      subst hc
      go_enter Try.func8, Try.ntmps8
      go_wp2_with (first | (go_at_call 12; refine same_at (hn _ _) ?_) | (go_at_call 13; refine same_at (ht _ _) ?_))
      all_goals go_ret
      all_goals refine ⟨?_, _, rfl⟩
      all_goals simp only [HK.out, fc_fv, fc_fi, fc_hundred]
      all_goals first | rfl | (have e : c = 100 := by omega
                               rw [e]; rfl) | (have e : c = 0 := by omega
                                               rw [e]; rfl) | trace_state

end Go.Proofs.Ytllcpggdfdnjcac

