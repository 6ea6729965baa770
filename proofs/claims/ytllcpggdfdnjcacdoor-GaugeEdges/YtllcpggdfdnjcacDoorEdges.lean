/- Edges of gauges: nothing of nothing, something of nothing, all of it; a nought printed. GaugeEdges. -/
import Derived.Test.YtllcpggdfdnjcacDoorShelf
import Derived.Test.YtllcpggdfdnjcacDoorFa
import Derived.Laws.BitsAll
import Derived.RangeFuncRecord
namespace Go.Proofs.YtllcpggdfdnjcacDoor
open Go.RowKit
set_option linter.unusedVariables false

theorem fill_none : tl (oFill 0 0) = 9221120237041090561 := by decide
theorem fill_nought : tl (oFill 0 3) = 0 := by decide

theorem fi_pos (n : Int) (h0 : 0 < n) (h : n ≤ 9223372036854775807) : 0 < rg (floatOfInt .f64 n) ∧ rg (floatOfInt .f64 n) < 9218868437227405312 ∧ sg (floatOfInt .f64 n) = false := by
  have h1 : decide (n < 0) = false := decide_eq_false (by omega)
  have e : floatOfInt .f64 n = Ieee.double.nearest false n.natAbs 0 := by
    show Ieee.double.nearest (decide (n < 0)) n.natAbs 0 = _
    rw [h1]
  rw [e]
  exact near_whole false n.natAbs (by omega) (by omega)
theorem fi_neg (n : Int) (h0 : n < 0) (h : -9223372036854775808 ≤ n) : 0 < rg (floatOfInt .f64 n) ∧ rg (floatOfInt .f64 n) < 9218868437227405312 ∧ sg (floatOfInt .f64 n) = true := by
  have h1 : decide (n < 0) = true := decide_eq_true h0
  have e : floatOfInt .f64 n = Ieee.double.nearest true n.natAbs 0 := by
    show Ieee.double.nearest (decide (n < 0)) n.natAbs 0 = _
    rw [h1]
  rw [e]
  exact near_whole true n.natAbs (by omega) (by omega)

theorem fill_of (n : Int) (x : Nat) (h : Ieee.double.div (floatOfInt .f64 n) (floatOfInt .f64 0) = some x) : tl (oFill n 0) = (x : Int) := by
  have e : oFill n 0 = some x := h
  rw [e]; rfl
theorem fill_inf (n : Int) (h0 : 0 < n) (h : n ≤ 9223372036854775807) : tl (oFill n 0) = 9218868437227405312 := by
  obtain ⟨a, b, c⟩ := fi_pos n h0 h
  have := div_nought (floatOfInt .f64 n) (floatOfInt .f64 0) a b (by decide)
  rw [c] at this
  rw [fill_of n _ this]
  decide
theorem fill_minf (n : Int) (h0 : n < 0) (h : -9223372036854775808 ≤ n) : tl (oFill n 0) = 18442240474082181120 := by
  obtain ⟨a, b, c⟩ := fi_neg n h0 h
  have := div_nought (floatOfInt .f64 n) (floatOfInt .f64 0) a b (by decide)
  rw [c] at this
  rw [fill_of n _ this]
  decide
theorem fill_all (n : Int) (h0 : 0 < n) (h : n ≤ 9223372036854775807) : tl (oFill n n) = 4607182418800017408 := by
  obtain ⟨a, b, c⟩ := fi_pos n h0 h
  have e : oFill n n = some 4607182418800017408 := div_self (floatOfInt .f64 n) a b
  rw [e]; rfl

theorem inf_ok (s : Int) (hs : s = 1 ∨ s = -1) (w : World) : Calls Tryd.prog 7 #[.int .i64 s] w fun e w' => e = .returned (.float .f64 (if s < 0 then 18442240474082181120 else 9218868437227405312)) ∧ w' = w := by
  have h1 := fun n w => called11 n w
  rcases hs with rfl | rfl
  · go_enter Tryd.func7, Tryd.ntmps7
    go_wp2
    go_ret
    exact ⟨rfl, rfl⟩
  · go_enter Tryd.func7, Tryd.ntmps7
    go_wp2
    go_ret
    exact ⟨rfl, rfl⟩

theorem sum_none (cv : Value) (w : World) : Calls Tryd.prog 19 #[.int .i64 0, .func (.func 20) #[] #[cv]] w fun e w' => e = .returned (.float .f64 0) ∧ w' = w := by
  go_enter Tryd.func19, Tryd.ntmps19
  go_wp2_with fail
  go_loopw [5, 8] (fun s j wr => s = .float .f64 0 ∧ j = .int .i64 0 ∧ wr = w) (fun _ _ _ => 0)
  case atStart => exact ⟨rfl, rfl, rfl⟩
  case round =>
    obtain ⟨rfl, rfl, rfl⟩ := hrel
    go_wp2
    go_ret
    exact ⟨rfl, rfl⟩

theorem mean_none (w : World) : Calls Tryd.prog 5 #[.slice none 0 0] w fun e w' => e = .returned (.int .u64 9221120237041090561) ∧ Below w.heap.size w w' := by
  have hq := fun (w : World) (t : TypeId) (x y : Nat) => run_fop (P := Tryd.prog) w Fop.quo t x y
  have ht := told_ok
  have hs := sum_none
  have hb := (Below.refl w.heap.size w).alloc (Nat.le_refl _) (Obj.cells #[.slice none 0 0] 30)
  have HF : Hid (tl (ob .quo (fc 0) (fc (floatOfInt .f64 0))) = 9221120237041090561) := (by decide : tl (ob .quo (fc 0) (fc (floatOfInt .f64 0))) = 9221120237041090561)
  go_enter Tryd.func5, Tryd.ntmps5
  go_wp2_with (first | (go_at_call 19; refine same_at (hs _ _) ?_) | (go_at_call 9; refine same_at (ht _ _) ?_) | go_in)
  go_ret
  refine ⟨?_, below_drewN hb _⟩
  rw [← HF.out, ← fc_fv .quo 0 (floatOfInt .f64 0) (w.alloc (Obj.cells #[.slice none 0 0] 30))]
  rfl

set_option maxRecDepth 100000 in
theorem ifmt_none (w : World) : Calls Tryd.prog 23 #[.int .u64 0, .int .i64 10] w fun e w' => e = .returned (.string ⟨#[48]⟩) ∧ w' = w := by
  have h := sh_internal_strconv_small 0 (by decide)
  have e : (⟨(Lib.decDigits 0).toArray⟩ : ByteArray) = ⟨#[48]⟩ := by rw [Lib.decDigits, dif_pos (by decide)]; rfl
  rw [e] at h
  go_enter Tryd.func23, Tryd.ntmps23
  go_wp2_with (first | (go_at_call 30; refine same_at (h _) ?_))
  go_ret
  exact ⟨rfl, rfl⟩
theorem fmt_none (w : World) : Calls Tryd.prog 21 #[.int .u64 0, .int .i64 10] w fun e w' => e = .returned (.string ⟨#[48]⟩) ∧ w' = w := by
  have h := ifmt_none
  go_enter Tryd.func21, Tryd.ntmps21
  go_wp2_with (first | (go_at_call 23; refine same_at (h _) ?_))
  go_ret
  exact ⟨rfl, rfl⟩
theorem repeat_three (w : World) : Calls Tryd.prog 22 #[.string ⟨#[48]⟩, .int .i64 3] w fun e w' => e = .returned (.string ⟨#[48, 48, 48]⟩) ∧ Below w.heap.size w w' :=
  sh_strings_Repeat ⟨#[48]⟩ 3 w (by decide) (by decide)

set_option maxRecDepth 100000 in
theorem pointed_none (w : World) : Calls Tryd.prog 16 #[.int .u64 0] w fun e w' => e = .returned (.string ⟨#[48, 46, 48, 48, 48]⟩) ∧ Below w.heap.size w w' := by
  have h1 := fmt_none
  have h2 := repeat_three
  go_enter Tryd.func16, Tryd.ntmps16
  go_wp2_with (first | (go_at_call 21; refine same_at (h1 _) ?_) | (go_at_call 22; refine (h2 _).mono ?_; rintro e w' ⟨rfl, hb⟩))
  have hP : (⟨#[48, 48, 48]⟩ : ByteArray) ++ ⟨#[48]⟩ = ⟨#[48, 48, 48, 48]⟩ := rfl
  rw [hP]
  obtain ⟨P, hPP⟩ : ∃ P : ByteArray, P = ⟨#[48, 48, 48, 48]⟩ := ⟨_, rfl⟩
  have hs : P.size = 4 := by rw [hPP]; rfl
  have HE : Hid (P.extract 0 1 ++ ⟨#[46]⟩ ++ P.extract 1 4 = ⟨#[48, 46, 48, 48, 48]⟩) := by show _ = _; rw [hPP]; rfl
  rw [← hPP]
  clear hPP hP
  go_quiet (fail)
  go_wp2
  go_ret
  exact ⟨by rw [← HE.out]; rfl, below_drewN hb _⟩

theorem abs_none (w : World) : Calls Tryd.prog 15 #[.float .f64 0] w fun e w' => e = .returned (.float .f64 0) ∧ w' = w := by
  have h1 := called6 0
  have h2 := called11 0
  have h3 : bits .andNot .u64 0 9223372036854775808 = 0 := by decide
  go_enter Tryd.func15, Tryd.ntmps15
  go_wp2
  go_ret
  exact ⟨rfl, rfl⟩
theorem isinf_none (s : Int) (hs : s = 1 ∨ s = -1) (w : World) : Calls Tryd.prog 14 #[.float .f64 0, .int .i64 s] w fun e w' => e = .returned (.bool false) ∧ w' = w := by
  have h1 : (FloatKind.f64.format.order 0 9218868437227405311 == some .gt) = false := by decide
  have h2 : (FloatKind.f64.format.order 9223372036854775808 9218868437227405311 == some .gt) = false := by decide
  have hneg : ∀ w, (Op.unary .neg (.float .f64 0)).run Tryd.prog w = .ok (.float .f64 9223372036854775808) w := fun w => rfl
  rcases hs with rfl | rfl
  · go_enter Tryd.func14, Tryd.ntmps14
    go_wp2
    go_ret
    exact ⟨rfl, rfl⟩
  · go_enter Tryd.func14, Tryd.ntmps14
    go_wp2
    go_ret
    exact ⟨rfl, rfl⟩
theorem signbit_none (w : World) : Calls Tryd.prog 18 #[.float .f64 0] w fun e w' => e = .returned (.bool false) ∧ w' = w := by
  have h1 := called6 0
  go_enter Tryd.func18, Tryd.ntmps18
  go_wp2
  go_ret
  exact ⟨rfl, rfl⟩
theorem whole_none (w : World) : (callFunc 17 #[.float .f64 0]).run Tryd.prog w = .ok (.value (.float .f64 0)) w := by
  have h := run_callFunc_extern (e := Extern.MathFloor.toIntegral "math.RoundToEven" .even) Tryd.func17 (by kernel_rfl) (by kernel_rfl) (by kernel_rfl) (by kernel_rfl) #[.float .f64 0] w
  rw [h]
  rfl

set_option maxRecDepth 100000 in
theorem print_none (w : World) : Calls Tryd.prog 8 #[.int .u64 0] w fun e w' => e = .returned (.string ⟨#[48, 46, 48, 48, 48]⟩) ∧ Below w.heap.size w w' := by
  have n1 : ∀ w, Calls Tryd.prog 12 #[.int .u64 0] w fun e w' => e = .returned (.float .f64 0) ∧ w' = w := number_ok 0
  have n2 : ∀ w, Calls Tryd.prog 13 #[.float .f64 0] w fun e w' => e = .returned (.bool false) ∧ w' = w := isNaN_ok 0
  have i1 := isinf_none
  have ab := abs_none
  have hrun := fun (t : TypeId) (w : World) => run_float_arith (P := Tryd.prog) w .mul t .f64 0 4652007308841189376 0 (by decide)
  have hge : (FloatKind.f64.format.order 0 4845873199050653696 == some .gt || FloatKind.f64.format.order 0 4845873199050653696 == some .eq) = false := by decide
  have hw := whole_none
  have hcv := fun w => run_convert_float_int (P := Tryd.prog) w 26 22 .f64 .u64 0 0 (by rw [Tryd.underlying26]; rfl) Tryd.underlying22 (by decide)
  have hp := pointed_none
  have sb := signbit_none
  go_enter Tryd.func8, Tryd.ntmps8
  go_wp2_with (first | (go_at_call 12; refine same_at (n1 _) ?_) | (go_at_call 13; refine same_at (n2 _) ?_) | (go_at_call 14; refine same_at (i1 _ (by first | exact Or.inl rfl | exact Or.inr rfl) _) ?_) | (go_at_call 15; refine same_at (ab _) ?_) | (go_at_call 16; refine (hp _).mono ?_; rintro e w' ⟨rfl, hbel⟩) | (go_at_call 18; refine same_at (sb _) ?_))
  go_ret
  exact ⟨rfl, hbel⟩

theorem below_at {P : Program} {f : FuncId} {args : Array Value} {w : World} {v : Value} {Q : Ending → World → Prop} (h : Calls P f args w fun e w' => e = .returned v ∧ Below w.heap.size w w') (hq : ∀ w', Below w.heap.size w w' → Q (.returned v) w') : Calls P f args w Q :=
  h.mono fun _ _ ⟨he, hb⟩ => by rw [he]; exact hq _ hb

set_option maxRecDepth 100000 in
set_option maxHeartbeats 1000000 in
theorem gaugeEdges_walk (n : Int) (h1 : -9223372036854775808 ≤ n) (h2 : n ≤ 9223372036854775807) (w : World) :
    Calls Tryd.prog 3 #[.int .i64 n] w fun e w' => e = .returned (.bool true) ∧ Below w.heap.size w w' := by
  have f := fill_ok
  have e0 := fill_none
  have m := mean_none
  have i := inf_ok
  have c6 := fun b w => called6 b w
  have pr := print_none
  rcases Int.lt_trichotomy n 0 with h | h | h
  · have e1 := fill_minf n h h1
    go_enter Tryd.func3, Tryd.ntmps3
    go_wp2_with (first
      | (go_at_call 4; refine drew_at (f _ _ _) ?_; intro k)
      | (go_at_call 5; refine below_at (m _) ?_; intro w1 hb1)
      | (go_at_call 7; refine same_at (i _ (by first | exact Or.inl rfl | exact Or.inr rfl) _) ?_))
    go_ret
    exact ⟨rfl, below_drewN ((below_drewN (Below.refl _ w) _).trans hb1) _⟩
  · subst h
    have e1 := fill_nought
    go_enter Tryd.func3, Tryd.ntmps3
    go_wp2_with (first
      | (go_at_call 4; refine drew_at (f _ _ _) ?_; intro k)
      | (go_at_call 5; refine below_at (m _) ?_; intro w1 hb1)
      | (go_at_call 8; refine below_at (pr _) ?_; intro w2 hb2))
    go_ret
    exact ⟨rfl, ((below_drewN ((below_drewN (Below.refl _ w) _).trans hb1) _).trans (hb2.mono hb1.size))⟩
  · have e1 := fill_inf n h h2
    have e2 := fill_all n h h2
    go_enter Tryd.func3, Tryd.ntmps3
    go_wp2_with (first
      | (go_at_call 4; refine drew_at (f _ _ _) ?_; intro k)
      | (go_at_call 5; refine below_at (m _) ?_; intro w1 hb1)
      | (go_at_call 7; refine same_at (i _ (by first | exact Or.inl rfl | exact Or.inr rfl) _) ?_))
    go_ret
    exact ⟨rfl, below_drewN ((below_drewN (Below.refl _ w) _).trans hb1) _⟩
end Go.Proofs.YtllcpggdfdnjcacDoor
