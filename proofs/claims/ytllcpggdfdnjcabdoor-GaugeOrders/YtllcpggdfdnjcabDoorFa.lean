/- Gauges told, numbers of gauges; Fill, Score, Smooth, the program's and the document's. -/
import Derived.Test.YtllcpggdfdnjcabDoorFl
import Derived.Test.YtllcpggdfdnjcabDoorChecked
import Derived.WalkKit
import Derived.WalkSpells
import Derived.WalkLawsBesides
import Derived.BigQuiet
import Derived.Deep.QuietTactic
import Derived.Laws.CopyOwn
import Derived.Lib.Bytes
import Derived.Laws.Externs
namespace Go.Proofs.YtllcpggdfdnjcabDoor
open Go.RowKit
set_option linter.unusedVariables false

theorem called24 (b : Nat) (w : World) : (callFunc 24 #[.float .f64 b]).run Tryd.prog w = .ok (.value (.int .u64 b)) w := by
  have h := run_callFunc_extern (e := Extern.MathFloatBits.float64bits) Tryd.func24 (by kernel_rfl) (by kernel_rfl) (by kernel_rfl) (by kernel_rfl) #[.float .f64 b] w
  rw [h]; rfl
theorem called21 (n : Int) (w : World) : (callFunc 21 #[.int .u64 n]).run Tryd.prog w = .ok (.value (.float .f64 n.toNat)) w := by
  have h := run_callFunc_extern (e := Extern.MathFloatBits.float64frombits) Tryd.func21 (by kernel_rfl) (by kernel_rfl) (by kernel_rfl) (by kernel_rfl) #[.int .u64 n] w
  rw [h]; rfl

/-- A gauge of a float: what is no number has one form. -/
def tl : Option Nat → Int
  | none => 9221120237041090561
  | some r => r

theorem order_self (x : Nat) : (Ieee.double.order x x != some .eq) = decide (isN x) := by
  by_cases h : isN x
  · rw [order_nan x x (Or.inl h)]; simp [h]
  · rw [order_num x x h h, cmp_eq rfl]; simp [h]

theorem same_at {P : Program} {f : FuncId} {args : Array Value} {w : World} {v : Value} {Q : Ending → World → Prop} (h : Calls P f args w fun e w' => e = .returned v ∧ w' = w) (hq : Q (.returned v) w) : Calls P f args w Q :=
  h.mono fun _ _ ⟨he, hw⟩ => by rw [he, hw]; exact hq

theorem isNaN_ok (x : Nat) (w : World) : Calls Tryd.prog 14 #[.float .f64 x] w fun e w' => e = .returned (.bool (decide (isN x))) ∧ w' = w := by
  have h := order_self x
  go_enter Tryd.func14, Tryd.ntmps14
  go_wp2
  go_ret
  exact ⟨by rw [← h]; rfl, rfl⟩

theorem number_ok (n : Int) (w : World) : Calls Tryd.prog 10 #[.int .u64 n] w fun e w' => e = .returned (.float .f64 n.toNat) ∧ w' = w := by
  have hc := called21 n w
  go_enter Tryd.func10, Tryd.ntmps10
  go_wp2
  go_ret
  exact ⟨rfl, rfl⟩
theorem rfloat_ok (n : Int) (w : World) : Calls Tryd.prog 20 #[.int .u64 n] w fun e w' => e = .returned (.float .f64 n.toNat) ∧ w' = w := by
  have hc := called21 n w
  go_enter Tryd.func20, Tryd.ntmps20
  go_wp2
  go_ret
  exact ⟨rfl, rfl⟩

/-- A whole number as a float, told. -/
def fi (n : Int) : Option Nat := some (floatOfInt .f64 n)
theorem fc_fi (n : Int) : fc (floatOfInt .f64 n) = fi n := by
  unfold fc fi
  rw [if_neg]
  exact nearest_notN _ _ _

theorem fc_some {x : Nat} (h : ¬ isN x) : fc x = some x := by unfold fc; rw [if_neg h]
theorem fc_one : fc 4607182418800017408 = some 4607182418800017408 := fc_some (by decide)
theorem fc_hundred : fc 4636737291354636288 = some 4636737291354636288 := fc_some (by decide)
theorem fc_nought : fc 0 = some 0 := fc_some (by decide)

theorem drew_at {P : Program} {f : FuncId} {args : Array Value} {w : World} {v : Value} {Q : Ending → World → Prop} (h : Calls P f args w fun e w' => e = .returned v ∧ ∃ k, w' = w.drewN k) (hq : ∀ k, Q (.returned v) (w.drewN k)) : Calls P f args w Q :=
  h.mono fun _ _ ⟨he, k, hw⟩ => by rw [he, hw]; exact hq k

end Go.Proofs.YtllcpggdfdnjcabDoor
