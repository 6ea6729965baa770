/- Gauges told, numbers of gauges; Fill, Score, Smooth, the program's and the document's. -/
import Derived.Test.YtllcpggdfdnjcacDoorFl
import Derived.Test.YtllcpggdfdnjcacDoorChecked
import Derived.WalkKit
import Derived.WalkSpells
import Derived.WalkLawsBesides
import Derived.BigQuiet
import Derived.Deep.QuietTactic
import Derived.Laws.CopyOwn
import Derived.Lib.Bytes
import Derived.Laws.Externs
namespace Go.Proofs.YtllcpggdfdnjcacDoor
open Go.RowKit
set_option linter.unusedVariables false

theorem called6 (b : Nat) (w : World) : (callFunc 6 #[.float .f64 b]).run Tryd.prog w = .ok (.value (.int .u64 b)) w := by
  have h := run_callFunc_extern (e := Extern.MathFloatBits.float64bits) Tryd.func6 (by kernel_rfl) (by kernel_rfl) (by kernel_rfl) (by kernel_rfl) #[.float .f64 b] w
  rw [h]; rfl
theorem called11 (n : Int) (w : World) : (callFunc 11 #[.int .u64 n]).run Tryd.prog w = .ok (.value (.float .f64 n.toNat)) w := by
  have h := run_callFunc_extern (e := Extern.MathFloatBits.float64frombits) Tryd.func11 (by kernel_rfl) (by kernel_rfl) (by kernel_rfl) (by kernel_rfl) #[.int .u64 n] w
  rw [h]; rfl

/-- A gauge of a float: what is no number has one form. -/
def tl : Option Nat → Int
  | none => 9221120237041090561
  | some r => r

theorem order_self (x : Nat) : (Ieee.double.order x x != some .eq) = decide (isN x) := by
  by_cases h : isN x
  · rw [order_nan x x (Or.inl h)]; simp [h]
  · rw [order_num x x h h, cmp_eq rfl]; simp [h]

theorem same_at {P : Program} {f : FuncId} {args : Array Value} {w : World} {v : Value} {Q : Ending → World → Prop} (h : Calls P f args w fun e w' => e = .returned v ∧ w' = w) (hq : Q (.returned v) w) : Calls P f args w Q :=
  h.mono fun _ _ ⟨he, hw⟩ => by rw [he, hw]; exact hq

theorem isNaN_ok (x : Nat) (w : World) : Calls Tryd.prog 13 #[.float .f64 x] w fun e w' => e = .returned (.bool (decide (isN x))) ∧ w' = w := by
  have h := order_self x
  go_enter Tryd.func13, Tryd.ntmps13
  go_wp2
  go_ret
  exact ⟨by rw [← h]; rfl, rfl⟩

set_option maxRecDepth 100000 in
theorem told_ok (x : Nat) (w : World) : Calls Tryd.prog 9 #[.float .f64 x] w fun e w' => e = .returned (.int .u64 (tl (fc x))) ∧ w' = w := by
  have h := isNaN_ok x w
  have hc := called6 x w
  go_enter Tryd.func9, Tryd.ntmps9
  go_wp2_with (first | (go_at_call 13; refine same_at h ?_))
  all_goals go_ret
  all_goals rename_i hb
  · exact ⟨by unfold fc; rw [if_pos hb]; rfl, rfl⟩
  · exact ⟨by unfold fc; rw [if_neg hb]; rfl, rfl⟩

theorem number_ok (n : Int) (w : World) : Calls Tryd.prog 12 #[.int .u64 n] w fun e w' => e = .returned (.float .f64 n.toNat) ∧ w' = w := by
  have hc := called11 n w
  go_enter Tryd.func12, Tryd.ntmps12
  go_wp2
  go_ret
  exact ⟨rfl, rfl⟩
/-- A whole number as a float, told. -/
def fi (n : Int) : Option Nat := some (floatOfInt .f64 n)
theorem fc_fi (n : Int) : fc (floatOfInt .f64 n) = fi n := by
  unfold fc fi
  rw [if_neg]
  exact nearest_notN _ _ _

def oFill (a b : Int) : Option Nat := ob .quo (fi a) (fi b)

theorem fill_ok (a b : Int) (w : World) : Calls Tryd.prog 4 #[.int .i64 a, .int .i64 b] w fun e w' => e = .returned (.int .u64 (tl (oFill a b))) ∧ ∃ k, w' = w.drewN k := by
  have hq := fun (w : World) (t : TypeId) (x y : Nat) => run_fop (P := Tryd.prog) w Fop.quo t x y
  have ht := told_ok
  go_enter Tryd.func4, Tryd.ntmps4
  go_wp2_with (first | (go_at_call 9; refine same_at (ht _ _) ?_))
  go_ret
  exact ⟨by rw [fc_fv, fc_fi, fc_fi]; rfl, _, rfl⟩

theorem fc_some {x : Nat} (h : ¬ isN x) : fc x = some x := by unfold fc; rw [if_neg h]
theorem fc_one : fc 4607182418800017408 = some 4607182418800017408 := fc_some (by decide)
theorem fc_hundred : fc 4636737291354636288 = some 4636737291354636288 := fc_some (by decide)
theorem fc_nought : fc 0 = some 0 := fc_some (by decide)

theorem drew_at {P : Program} {f : FuncId} {args : Array Value} {w : World} {v : Value} {Q : Ending → World → Prop} (h : Calls P f args w fun e w' => e = .returned v ∧ ∃ k, w' = w.drewN k) (hq : ∀ k, Q (.returned v) (w.drewN k)) : Calls P f args w Q :=
  h.mono fun _ _ ⟨he, k, hw⟩ => by rw [he, hw]; exact hq k

end Go.Proofs.YtllcpggdfdnjcacDoor
