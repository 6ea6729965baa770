/- Print of a gauge, the program's. -/
import Derived.Test.YtllcpggdfdnjcabDoorPoint
namespace Go.Proofs.YtllcpggdfdnjcabDoor
open Go.RowKit
set_option linter.unusedVariables false

theorem word_false (r : Nat) : Ieee.double.word false r = r := rfl

/-- A size times a thousand. -/
theorem mul_thousand (x : Nat) (h : x < 9218868437227405312) : ∃ v, floatBits .mul .f64 x 4652007308841189376 = some v ∧ v ≤ 9218868437227405312 := by
  obtain ⟨m, p, e, hp, hm⟩ := read_num x (by rw [rg_small (by omega)]; exact h)
  obtain ⟨m2, p2, e2, hp2, hm2⟩ := read_num 4652007308841189376 (by decide)
  rw [sg_small (by omega)] at e
  have hs2 : sg 4652007308841189376 = false := by decide
  rw [hs2] at e2
  have h3 : Ieee.double.infRung = 9218868437227405312 := by decide
  have hb : floatBits .mul .f64 x 4652007308841189376 = Ieee.double.mul x 4652007308841189376 := rfl
  rw [hb]
  unfold Ieee.Format.mul
  rw [e, e2]
  simp only [Ieee.Datum.product, Option.map_some, Ieee.Format.write]
  refine ⟨_, rfl, ?_⟩
  have hx : (false ^^ false) = false := rfl
  rw [hx]
  unfold Ieee.Format.nearest
  split
  · exact Nat.zero_le _
  · dsimp only
    rw [word_false, h3]
    omega

theorem order_big (v : Nat) (h : v ≤ 9218868437227405312) : FloatKind.f64.format.order v 4845873199050653696 = some (compare (v : Int) 4845873199050653696) := by
  have nv : ¬ isN v := by unfold isN; rw [rg_small (by omega)]; omega
  have e : FloatKind.f64.format.order v 4845873199050653696 = some (compare (sr v) (sr 4845873199050653696)) := order_num _ _ nv (by decide)
  rw [e]
  have s1 : sr v = (v : Int) := by rw [sr_eq _ (by omega), if_neg (by omega)]
  have s2 : sr 4845873199050653696 = 4845873199050653696 := by decide
  rw [s1, s2]

theorem rhe_le (v : Nat) (hv : v < 4845873199050653696) : rhe (mg v) U ≤ 9007199254740992 := by
  have hMlt : mg v < 9007199254740992 * U := by rw [← big_units]; exact mg_lt hv
  have := Nat.div_lt_of_lt_mul (by rw [Nat.mul_comm]; exact hMlt : mg v < U * 9007199254740992)
  unfold rhe
  split <;> omega

/-- A float made whole, to the nearest; and the whole number of that. -/
theorem made_whole (v : Nat) (hv : v < 4845873199050653696) (w : World) :
    ∃ r, (callFunc 18 #[.float .f64 v]).run Tryd.prog w = .ok (.value (.float .f64 r)) w ∧ floatToIntVal .f64 r .u64 = some ((rhe (mg v) U : Nat) : Int) := by
  have hR := rhe_le v hv
  obtain ⟨r, er, hr, hm⟩ := whole_exact (rhe (mg v) U) hR
  refine ⟨r, ?_, ?_⟩
  · have h := run_callFunc_extern (e := Extern.MathFloor.toIntegral "math.RoundToEven" .even) Tryd.func18 (by kernel_rfl) (by kernel_rfl) (by kernel_rfl) (by kernel_rfl) #[.float .f64 v] w
    rw [h]
    obtain ⟨m, p, e, hp, hmv⟩ := read_num v (by rw [rg_small (by omega)]; omega)
    rw [rg_small (by omega)] at hmv
    rw [sg_small (by omega)] at e
    have e' : FloatKind.f64.decode v = .number false m p := e
    have hc := cut_near false m p hp
    rw [hmv] at hc
    have ex : FloatKind.f64.encode ((Ieee.Datum.number false m p).integral .even) = r := by
      show Ieee.double.nearest false (Ieee.Toward.even.cut false (m <<< p.toNat) (-p).toNat) 0 = r
      rw [hc, er]
    have h0 : Extern.MathFloor.toIntegral "math.RoundToEven" .even #[.float .f64 v] = pure (.float .f64 r) := by
      change (match FloatKind.f64.decode v with | .nan s t => _ | d => (pure (Value.float .f64 (FloatKind.f64.encode (d.integral .even))) : Sem Value)) = _
      rw [e']
      exact congrArg (fun x => pure (Value.float .f64 x)) ex
    rw [h0]
    rfl
  · have hd := toInt_down r (by rw [rg_small (by omega)]; exact hr) (sg_small (by omega))
    rw [rg_small (by omega), hm, Nat.mul_div_cancel _ U_pos] at hd
    have hd' : (FloatKind.f64.decode r).toInt .zero = some ((rhe (mg v) U : Nat) : Int) := hd
    unfold floatToIntVal
    rw [hd']
    have h1 : IntKind.u64.min = 0 := by decide
    have h2 : IntKind.u64.max = 18446744073709551615 := by decide
    simp only [h1, h2]
    rw [if_pos (by omega)]

set_option maxRecDepth 100000 in
theorem signbit_ok (a : Nat) (ha : a < 18446744073709551616) (w : World) : Calls Tryd.prog 19 #[.float .f64 a] w fun e w' => e = .returned (.bool (decide (9223372036854775808 ≤ a))) ∧ w' = w := by
  have h1 := called24 a
  by_cases h : 9223372036854775808 ≤ a
  · have hw : IntKind.i64.wrap (a : Int) = (a : Int) - 18446744073709551616 := by rw [IntKind.wrap_i64]; omega
    have hn : (a : Int) - 18446744073709551616 < 0 := by omega
    go_enter Tryd.func19, Tryd.ntmps19
    go_wp2
    go_ret
    exact ⟨by simp [h], rfl⟩
  · have hw : IntKind.i64.wrap (a : Int) = (a : Int) := by rw [IntKind.wrap_i64]; omega
    have hn : ¬ (a : Int) < 0 := by omega
    go_enter Tryd.func19, Tryd.ntmps19
    go_wp2
    go_ret
    exact ⟨by simp, rfl⟩

/-- The infinity of a sign. -/
def infOf (s : Int) : Nat := if s < 0 then 18442240474082181120 else 9218868437227405312
/-- IsInf, of one sign. -/
theorem inf_ok (a : Nat) (ha : a < 18446744073709551616) (s : Int) (hs : s = 1 ∨ s = -1) (w : World) : Calls Tryd.prog 15 #[.float .f64 a, .int .i64 s] w fun e w' => e = .returned (.bool (decide (a = infOf s))) ∧ w' = w := by
  rcases hs with rfl | rfl
  · have h := above_top a ha
    have hi : Hid (infOf 1 = 9218868437227405312) := rfl
    go_enter Tryd.func15, Tryd.ntmps15
    go_wp2
    go_ret
    exact ⟨by rw [hi.out, ← h]; rfl, rfl⟩
  · have hn := negFloat_eq a ha
    have hl : Op.negFloat .f64 a < 18446744073709551616 := by rw [hn]; split <;> omega
    have h := above_top _ hl
    have hd : decide (Op.negFloat .f64 a = 9218868437227405312) = decide (a = 18442240474082181120) := by
      rw [hn]; congr 1; apply propext; split <;> omega
    rw [hd] at h
    have hi : Hid (infOf (-1) = 18442240474082181120) := rfl
    have hneg : ∀ w, (Op.unary .neg (.float .f64 a)).run Tryd.prog w = .ok (.float .f64 (Op.negFloat .f64 a)) w := fun w => rfl
    generalize Op.negFloat .f64 a = b at *
    clear hn hd hl
    go_enter Tryd.func15, Tryd.ntmps15
    go_wp2
    go_ret
    exact ⟨by rw [hi.out, ← h]; rfl, rfl⟩

/-- What is printed of a gauge. -/
def prt (a : Nat) : ByteArray :=
  if isN a then ⟨#[110, 97, 110]⟩
  else if a = 9218868437227405312 then ⟨#[105, 110, 102]⟩
  else if a = 18442240474082181120 then ⟨#[45, 105, 110, 102]⟩
  else match floatBits .mul .f64 (rg a) 4652007308841189376 with
    | none => ⟨#[]⟩
    | some v => if 4845873199050653696 ≤ v then ⟨#[98, 105, 103]⟩
      else if 9223372036854775808 ≤ a then ⟨#[45]⟩ ++ pnt (padB (rhe (mg v) U)) else pnt (padB (rhe (mg v) U))

theorem finite_of (a : Nat) (ha : a < 18446744073709551616) (h1 : ¬ isN a) (h2 : ¬ a = 9218868437227405312) (h3 : ¬ a = 18442240474082181120) : rg a < 9218868437227405312 := by
  unfold isN rg at *; omega


set_option maxHeartbeats 2000000 in
set_option maxRecDepth 100000 in
theorem print_ok (a : Nat) (ha : a < 18446744073709551616) (w : World) (htab : Lib.TabIs Tryd.prog w "internal/strconv.uint64pow10" .u64 Lib.pow10Tab) :
    Calls Tryd.prog 8 #[.int .u64 (a : Int)] w fun e w' => e = .returned (.string (prt a)) ∧ Below w.heap.size w w' := by
  have n1 := number_ok (a : Int)
  have n2 := isNaN_ok a
  have i1 := fun s hs w => inf_ok a ha s hs w
  by_cases h1 : isN a
  · have hp : prt a = ⟨#[110, 97, 110]⟩ := by unfold prt; rw [if_pos h1]
    have HP : Hid _ := hp
    clear hp
    go_enter Tryd.func8, Tryd.ntmps8
    go_wp2_with (first | (go_at_call 10; refine same_at (n1 _) ?_) | (go_at_call 14; refine same_at (n2 _) ?_))
    go_ret
    exact ⟨by rw [HP.out]; rfl, Below.refl _ _⟩
  by_cases h2 : a = 9218868437227405312
  · have hp : prt a = ⟨#[105, 110, 102]⟩ := by unfold prt; rw [if_neg h1, if_pos h2]
    have HP : Hid _ := hp
    have d1 : decide (a = infOf 1) = true := by simp [h2, infOf]
    clear hp h2
    go_enter Tryd.func8, Tryd.ntmps8
    go_wp2_with (first | (go_at_call 10; refine same_at (n1 _) ?_) | (go_at_call 14; refine same_at (n2 _) ?_) | (go_at_call 15; refine same_at (i1 _ (by first | exact Or.inl rfl | exact Or.inr rfl) _) ?_))
    go_ret
    exact ⟨by rw [HP.out]; rfl, Below.refl _ _⟩
  have d1 : decide (a = infOf 1) = false := by simp [h2, infOf]
  by_cases h3 : a = 18442240474082181120
  · have hp : prt a = ⟨#[45, 105, 110, 102]⟩ := by unfold prt; rw [if_neg h1, if_neg h2, if_pos h3]
    have HP : Hid _ := hp
    have d2 : decide (a = infOf (-1)) = true := by simp [h3, infOf]
    clear hp h3 h2
    go_enter Tryd.func8, Tryd.ntmps8
    go_wp2_with (first | (go_at_call 10; refine same_at (n1 _) ?_) | (go_at_call 14; refine same_at (n2 _) ?_) | (go_at_call 15; refine same_at (i1 _ (by first | exact Or.inl rfl | exact Or.inr rfl) _) ?_))
    go_ret
    exact ⟨by rw [HP.out]; rfl, Below.refl _ _⟩
  have d2 : decide (a = infOf (-1)) = false := by simp [h3, infOf]
  have hf := finite_of a ha h1 h2 h3
  obtain ⟨v, hv, hvl⟩ := mul_thousand (rg a) hf
  have hrun := fun (t : TypeId) (w : World) => run_float_arith (P := Tryd.prog) w .mul t .f64 (rg a) 4652007308841189376 v hv
  have ab := abs_ok a ha
  have ho := order_big v hvl
  have hpt : prt a = if 4845873199050653696 ≤ v then ⟨#[98, 105, 103]⟩ else if 9223372036854775808 ≤ a then ⟨#[45]⟩ ++ pnt (padB (rhe (mg v) U)) else pnt (padB (rhe (mg v) U)) := by
    unfold prt; rw [if_neg h1, if_neg h2, if_neg h3, hv]
  have sb := signbit_ok a ha
  clear h2 h3 hv hf
  by_cases hb : 4845873199050653696 ≤ v
  · rw [if_pos hb] at hpt
    have HP : Hid _ := hpt
    have hge' : (FloatKind.f64.format.order v 4845873199050653696 == some .gt || FloatKind.f64.format.order v 4845873199050653696 == some .eq) = true := by
      rw [ho]
      rcases Nat.lt_or_ge 4845873199050653696 v with h | h
      · rw [cmp_gt (by omega)]; rfl
      · rw [cmp_eq (by omega)]; rfl
    clear hpt ho hb hvl
    go_enter Tryd.func8, Tryd.ntmps8
    go_wp2_with (first | (go_at_call 10; refine same_at (n1 _) ?_) | (go_at_call 14; refine same_at (n2 _) ?_) | (go_at_call 15; refine same_at (i1 _ (by first | exact Or.inl rfl | exact Or.inr rfl) _) ?_) | (go_at_call 16; refine same_at (ab _) ?_))
    go_ret
    exact ⟨by rw [HP.out]; rfl, Below.refl _ _⟩
  · rw [if_neg hb] at hpt
    have hR := rhe_le v (by omega)
    obtain ⟨r, hr1, hr2⟩ := made_whole v (by omega) w
    have hcv : (convert 29 22 (.float .f64 r)).run Tryd.prog w = .ok (.int .u64 ((rhe (mg v) U : Nat) : Int)) w := run_convert_float_int w 29 22 .f64 .u64 r _ (by rw [Tryd.underlying29]; rfl) Tryd.underlying22 hr2
    have hpo := pointed_ok (rhe (mg v) U) (by omega) w htab
    have hsz := pnt_size (rhe (mg v) U) (by omega)
    have hge' : (FloatKind.f64.format.order v 4845873199050653696 == some .gt || FloatKind.f64.format.order v 4845873199050653696 == some .eq) = false := by
      rw [ho, cmp_lt (by omega)]; rfl
    generalize rhe (mg v) U = R at *
    clear ho hb hvl hr2 hR
    by_cases hs : 9223372036854775808 ≤ a
    · rw [if_pos hs] at hpt
      have HP : Hid _ := hpt
      have hs' : decide (9223372036854775808 ≤ a) = true := by simp [hs]
      rw [hs'] at sb
      clear hpt hs'
      go_enter Tryd.func8, Tryd.ntmps8
      go_wp2_with (first | (go_at_call 10; refine same_at (n1 _) ?_) | (go_at_call 14; refine same_at (n2 _) ?_) | (go_at_call 15; refine same_at (i1 _ (by first | exact Or.inl rfl | exact Or.inr rfl) _) ?_) | (go_at_call 16; refine same_at (ab _) ?_) | (go_at_call 17; refine hpo.mono ?_; rintro e w' ⟨rfl, hbel⟩) | (go_at_call 19; refine same_at (sb _) ?_))
      go_ret
      exact ⟨by rw [HP.out]; rfl, hbel⟩
    · rw [if_neg hs] at hpt
      have HP : Hid _ := hpt
      have hs' : decide (9223372036854775808 ≤ a) = false := by simp [hs]
      rw [hs'] at sb
      clear hpt hs'
      go_enter Tryd.func8, Tryd.ntmps8
      go_wp2_with (first | (go_at_call 10; refine same_at (n1 _) ?_) | (go_at_call 14; refine same_at (n2 _) ?_) | (go_at_call 15; refine same_at (i1 _ (by first | exact Or.inl rfl | exact Or.inr rfl) _) ?_) | (go_at_call 16; refine same_at (ab _) ?_) | (go_at_call 17; refine hpo.mono ?_; rintro e w' ⟨rfl, hbel⟩) | (go_at_call 19; refine same_at (sb _) ?_))
      go_ret
      exact ⟨by rw [HP.out]; rfl, hbel⟩
end Go.Proofs.YtllcpggdfdnjcabDoor
