/- Gauges told, numbers of gauges; Fill, Score, Smooth, the program's and the document's. -/
import Derived.Test.YtllcpggdfdnjcabFl
import Derived.Test.YtllcpggdfdnjcabChecked
import Derived.WalkKit
import Derived.WalkSpells
import Derived.WalkLawsBesides
import Derived.BigQuiet
import Derived.Deep.QuietTactic
import Derived.Laws.CopyOwn
import Derived.Lib.Bytes
import Derived.Laws.Externs
namespace Go.Proofs.Ytllcpggdfdnjcab
open Go.RowKit
set_option linter.unusedVariables false

theorem called24 (b : Nat) (w : World) : (callFunc 24 #[.float .f64 b]).run Try.prog w = .ok (.value (.int .u64 b)) w := by
  have h := run_callFunc_extern (e := Extern.MathFloatBits.float64bits) Try.func24 (by kernel_rfl) (by kernel_rfl) (by kernel_rfl) (by kernel_rfl) #[.float .f64 b] w
  rw [h]; rfl
theorem called84 (n : Int) (w : World) : (callFunc 84 #[.int .u64 n]).run Try.prog w = .ok (.value (.float .f64 n.toNat)) w := by
  have h := run_callFunc_extern (e := Extern.MathFloatBits.float64frombits) Try.func84 (by kernel_rfl) (by kernel_rfl) (by kernel_rfl) (by kernel_rfl) #[.int .u64 n] w
  rw [h]; rfl

/-- A gauge of a float: what is no number has one form. -/
def tl : Option Nat → Int
  | none => 9221120237041090561
  | some r => r

theorem order_self (x : Nat) : (Ieee.double.order x x != some .eq) = decide (isN x) := by
  by_cases h : isN x
  · rw [order_nan x x (Or.inl h)]; simp [h]
  · rw [order_num x x h h, cmp_eq rfl]; simp [h]

theorem same_at {P : Program} {f : FuncId} {args : Array Value} {w : World} {v : Value} {Q : Ending → World → Prop} (h : Calls P f args w fun e w' => e = .returned v ∧ w' = w) (hq : Q (.returned v) w) : Calls P f args w Q :=
  h.mono fun _ _ ⟨he, hw⟩ => by rw [he, hw]; exact hq

theorem isNaN_ok (x : Nat) (w : World) : Calls Try.prog 82 #[.float .f64 x] w fun e w' => e = .returned (.bool (decide (isN x))) ∧ w' = w := by
  have h := order_self x
  go_enter Try.func82, Try.ntmps82
  go_wp2
  go_ret
  exact ⟨by rw [← h]; rfl, rfl⟩

set_option maxRecDepth 100000 in
theorem told_ok (x : Nat) (w : World) : Calls Try.prog 60 #[.float .f64 x] w fun e w' => e = .returned (.int .u64 (tl (fc x))) ∧ w' = w := by
  have h := isNaN_ok x w
  have hc := called24 x w
  go_enter Try.func60, Try.ntmps60
  go_wp2_with (first | (go_at_call 82; refine same_at h ?_))
  all_goals go_ret
  all_goals rename_i hb
  · exact ⟨by unfold fc; rw [if_pos hb]; rfl, rfl⟩
  · exact ⟨by unfold fc; rw [if_neg hb]; rfl, rfl⟩

set_option maxRecDepth 100000 in
theorem rbits_ok (x : Nat) (w : World) : Calls Try.prog 61 #[.float .f64 x] w fun e w' => e = .returned (.int .u64 (tl (fc x))) ∧ w' = w := by
  have h := order_self x
  have hc := called24 x w
  have hn : ∀ t w, (binOp .neq t (.float .f64 x) (.float .f64 x)).run Try.prog w = .ok (.bool (decide (isN x))) w := by
    intro t w; rw [binOp_float_cmp_neq]; rw [← h]; rfl
  go_enter Try.func61, Try.ntmps61
  go_wp2
  all_goals go_ret
  all_goals rename_i hb
  all_goals rw [show FloatKind.f64.format = Ieee.double from rfl, h] at hb
  all_goals simp only [decide_eq_true_eq, decide_eq_false_iff_not] at hb
  · exact ⟨by unfold fc; rw [if_pos hb]; rfl, rfl⟩
  · exact ⟨by unfold fc; rw [if_neg hb]; rfl, rfl⟩

theorem number_ok (n : Int) (w : World) : Calls Try.prog 65 #[.int .u64 n] w fun e w' => e = .returned (.float .f64 n.toNat) ∧ w' = w := by
  have hc := called84 n w
  go_enter Try.func65, Try.ntmps65
  go_wp2
  go_ret
  exact ⟨rfl, rfl⟩
theorem rfloat_ok (n : Int) (w : World) : Calls Try.prog 66 #[.int .u64 n] w fun e w' => e = .returned (.float .f64 n.toNat) ∧ w' = w := by
  have hc := called84 n w
  go_enter Try.func66, Try.ntmps66
  go_wp2
  go_ret
  exact ⟨rfl, rfl⟩

/-- A whole number as a float, told. -/
def fi (n : Int) : Option Nat := some (floatOfInt .f64 n)
theorem fc_fi (n : Int) : fc (floatOfInt .f64 n) = fi n := by
  unfold fc fi
  rw [if_neg]
  exact nearest_notN _ _ _

def oFill (a b : Int) : Option Nat := ob .quo (fi a) (fi b)

theorem fill_ok (a b : Int) (w : World) : Calls Try.prog 20 #[.int .i64 a, .int .i64 b] w fun e w' => e = .returned (.int .u64 (tl (oFill a b))) ∧ ∃ k, w' = w.drewN k := by
  have hq := fun (w : World) (t : TypeId) (x y : Nat) => run_fop (P := Try.prog) w Fop.quo t x y
  have ht := told_ok
  go_enter Try.func20, Try.ntmps20
  go_wp2_with (first | (go_at_call 60; refine same_at (ht _ _) ?_))
  go_ret
  exact ⟨by rw [fc_fv, fc_fi, fc_fi]; rfl, _, rfl⟩

theorem rfill_ok (a b : Int) (w : World) : Calls Try.prog 21 #[.int .i64 a, .int .i64 b] w fun e w' => e = .returned (.int .u64 (tl (oFill a b))) ∧ ∃ k, w' = w.drewN k := by
  have hq := fun (w : World) (t : TypeId) (x y : Nat) => run_fop (P := Try.prog) w Fop.quo t x y
  have ht := rbits_ok
  go_enter Try.func21, Try.ntmps21
  go_wp2_with (first | (go_at_call 61; refine same_at (ht _ _) ?_))
  go_ret
  exact ⟨by rw [fc_fv, fc_fi, fc_fi]; rfl, _, rfl⟩

theorem fc_some {x : Nat} (h : ¬ isN x) : fc x = some x := by unfold fc; rw [if_neg h]
theorem fc_one : fc 4607182418800017408 = some 4607182418800017408 := fc_some (by decide)
theorem fc_hundred : fc 4636737291354636288 = some 4636737291354636288 := fc_some (by decide)
theorem fc_nought : fc 0 = some 0 := fc_some (by decide)

def oScore (a b c d : Int) : Option Nat := ob .add (ob .quo (fi a) (fi b)) (ob .quo (fi c) (ob .add (fi d) (some 4607182418800017408)))

theorem score_ok (a b c d : Int) (w : World) : Calls Try.prog 22 #[.int .i64 a, .int .i64 b, .int .i64 c, .int .i64 d] w fun e w' => e = .returned (.int .u64 (tl (oScore a b c d))) ∧ ∃ k, w' = w.drewN k := by
  have hq := fun (w : World) (t : TypeId) (x y : Nat) => run_fop (P := Try.prog) w Fop.quo t x y
  have ha := fun (w : World) (t : TypeId) (x y : Nat) => run_fop (P := Try.prog) w Fop.add t x y
  have ht := told_ok
  go_enter Try.func22, Try.ntmps22
  go_wp2_with (first | (go_at_call 60; refine same_at (ht _ _) ?_))
  go_ret
  exact ⟨by simp only [fc_fv, fc_fi, fc_one]; rfl, _, rfl⟩

theorem rscore_ok (a b c d : Int) (w : World) : Calls Try.prog 23 #[.int .i64 a, .int .i64 b, .int .i64 c, .int .i64 d] w fun e w' => e = .returned (.int .u64 (tl (oScore a b c d))) ∧ ∃ k, w' = w.drewN k := by
  have hq := fun (w : World) (t : TypeId) (x y : Nat) => run_fop (P := Try.prog) w Fop.quo t x y
  have ha := fun (w : World) (t : TypeId) (x y : Nat) => run_fop (P := Try.prog) w Fop.add t x y
  have ht := rbits_ok
  go_enter Try.func23, Try.ntmps23
  go_wp2_with (first | (go_at_call 61; refine same_at (ht _ _) ?_))
  go_ret
  exact ⟨by simp only [fc_fv, fc_fi, fc_one]; rfl, _, rfl⟩
end Go.Proofs.Ytllcpggdfdnjcab
