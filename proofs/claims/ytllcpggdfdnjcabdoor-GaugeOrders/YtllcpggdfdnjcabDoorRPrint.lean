/- Print of a gauge, the document's. -/
import Derived.Test.YtllcpggdfdnjcabDoorPrint
namespace Go.Proofs.YtllcpggdfdnjcabDoor
open Go.RowKit
set_option linter.unusedVariables false

/-- The last j digits. -/
def low (R : Nat) : Nat → List UInt8
  | 0 => []
  | j + 1 => Lib.dg R j :: low R j
theorem low_length (R j : Nat) : (low R j).length = j := by
  induction j with
  | zero => rfl
  | succ n ih => simp [low, ih]

theorem low_eq (R j : Nat) : low R j = (List.range j).map fun t => Lib.dg R (j - 1 - t) := by
  induction j with
  | zero => rfl
  | succ n ih =>
    rw [List.range_succ_eq_map, List.map_cons, List.map_map, low, ih]
    congr 1
    apply List.map_congr_left
    intro t ht
    simp only [Function.comp]
    congr 1
    omega

theorem nd_le (R : Nat) : ∀ j, 1 ≤ j → R < 10 ^ j → Lib.nDigits R ≤ j := by
  induction R using Nat.strongRecOn with
  | _ R ih =>
    intro j hj hR
    by_cases h : R < 10
    · rw [Lib.nDigits_small h]; exact hj
    · rw [Lib.nDigits_big h]
      have hj2 : 2 ≤ j := by
        rcases Nat.lt_or_ge j 2 with h2 | h2
        · have : j = 1 := by omega
          subst this; omega
        · exact h2
      have := ih (R / 10) (by omega) (j - 1) (by omega) (by
        have e : 10 ^ j = 10 ^ (j - 1) * 10 := by rw [← Nat.pow_succ]; congr 1; omega
        rw [e] at hR
        omega)
      omega

theorem dg_high (R j : Nat) (h : R < 10 ^ j) : Lib.dg R j = 48 := by
  unfold Lib.dg
  rw [Nat.div_eq_of_lt h]; rfl

theorem low_pad (R : Nat) : ∀ z, low R (Lib.nDigits R + z) = Lib.repeatL [48] z ++ low R (Lib.nDigits R) := by
  intro z
  induction z with
  | zero => rfl
  | succ n ih =>
    show Lib.dg R (Lib.nDigits R + n) :: low R (Lib.nDigits R + n) = _
    rw [ih, dg_high R _ (Nat.lt_of_lt_of_le (Lib.lt_pow_nDigits R) (Nat.pow_le_pow_right (by omega) (by omega)))]
    rfl

theorem low_all (R : Nat) : (⟨(low R (max 4 (Lib.nDigits R))).toArray⟩ : ByteArray) = padB R := by
  have e : max 4 (Lib.nDigits R) = Lib.nDigits R + (4 - Lib.nDigits R) := by omega
  rw [e, low_pad, low_eq, ← Lib.decDigits_eq]
  unfold padB
  apply ByteArray.ext
  simp

theorem more_digits (R j : Nat) (h : 0 < R / 10 ^ j ∨ j < 4) : j < max 4 (Lib.nDigits R) := by
  rcases h with h | h
  · have h1 : 10 ^ j ≤ R := by
      rcases Nat.lt_or_ge R (10 ^ j) with h2 | h2
      · rw [Nat.div_eq_of_lt h2] at h; omega
      · exact h2
    have h3 := Lib.lt_pow_nDigits R
    have : j < Lib.nDigits R := (Nat.pow_lt_pow_iff_right (by omega : 1 < 10)).1 (Nat.lt_of_le_of_lt h1 h3)
    omega
  · omega

theorem no_more (R j : Nat) (h : R / 10 ^ j = 0) (h4 : 4 ≤ j) (hj : j ≤ max 4 (Lib.nDigits R)) : j = max 4 (Lib.nDigits R) := by
  have hp : 0 < 10 ^ j := Nat.pow_pos (by omega)
  have h1 : R < 10 ^ j := by
    rcases Nat.lt_or_ge R (10 ^ j) with h2 | h2
    · exact h2
    · have := Nat.div_pos h2 hp; omega
  have := nd_le R j (by omega) h1
  omega

theorem order_half (r : Nat) (h : r < 9218868437227405312) : FloatKind.f64.format.order r 4602678819172646912 = some (compare ((mg r : Nat) : Int) ((mg 4602678819172646912 : Nat) : Int)) := order_small r 4602678819172646912 h (by decide)

/-- How what is left stands to a half. -/
theorem half_gt (r M : Nat) (h : r < 9218868437227405312) (hm : mg r = M % U) : (FloatKind.f64.format.order r 4602678819172646912 == some .gt) = decide (U < 2 * (M % U)) := by
  have hu := half_units
  rw [order_half r h, hm]
  generalize mg 4602678819172646912 = H at hu
  rcases Nat.lt_trichotomy (M % U) H with h1 | h1 | h1
  · rw [cmp_lt (by omega)]; rw [decide_eq_false (show ¬ (U < 2 * (M % U)) by omega)]; rfl
  · rw [cmp_eq (by omega)]; rw [decide_eq_false (show ¬ (U < 2 * (M % U)) by omega)]; rfl
  · rw [cmp_gt (by omega)]; rw [decide_eq_true (show U < 2 * (M % U) by omega)]; rfl
theorem half_eq (r M : Nat) (h : r < 9218868437227405312) (hm : mg r = M % U) : (FloatKind.f64.format.order r 4602678819172646912 == some .eq) = decide (U = 2 * (M % U)) := by
  have hu := half_units
  rw [order_half r h, hm]
  generalize mg 4602678819172646912 = H at hu
  rcases Nat.lt_trichotomy (M % U) H with h1 | h1 | h1
  · rw [cmp_lt (by omega)]; rw [decide_eq_false (show ¬ (U = 2 * (M % U)) by omega)]; rfl
  · rw [cmp_eq (by omega)]; rw [decide_eq_true (show U = 2 * (M % U) by omega)]; rfl
  · rw [cmp_gt (by omega)]; rw [decide_eq_false (show ¬ (U = 2 * (M % U)) by omega)]; rfl

theorem down_i64 (v : Nat) (hv : v < 4845873199050653696) : floatToIntVal .f64 v .i64 = some ((mg v / U : Nat) : Int) ∧ mg v / U < 9007199254740992 := by
  have hMlt : mg v < 9007199254740992 * U := by rw [← big_units]; exact mg_lt hv
  have hq := Nat.div_lt_of_lt_mul (by rw [Nat.mul_comm]; exact hMlt : mg v < U * 9007199254740992)
  have hd := toInt_down v (by rw [rg_small (by omega)]; omega) (sg_small (by omega))
  rw [rg_small (by omega)] at hd
  have hd' : (FloatKind.f64.decode v).toInt .zero = some ((mg v / U : Nat) : Int) := hd
  refine ⟨?_, hq⟩
  unfold floatToIntVal
  rw [hd']
  have h1 : IntKind.i64.min = -9223372036854775808 := by decide
  have h2 : IntKind.i64.max = 9223372036854775807 := by decide
  simp only [h1, h2]
  clear hd hd' hMlt
  generalize mg v / U = q at hq
  rw [if_pos (by omega)]

theorem one_byte (c : UInt8) (w : World) : (convert 37 9 (.slice (some ⟨w.heap.size, 0, none⟩) 1 1)).run Tryd.prog (w.alloc (.cells #[.int .u8 (c.toNat : Int)] 5)) = .ok (.string ⟨#[c]⟩) (w.alloc (.cells #[.int .u8 (c.toNat : Int)] 5)) := by
  have h := run_convert_bytes_back (P := Tryd.prog) (w.alloc (.cells #[.int .u8 (c.toNat : Int)] 5)) 37 9 5 ⟨w.heap.size, 0, none⟩ 1 [c] Tryd.underlying37 Tryd.underlying5 Tryd.underlying9 (fun j hj => by
    have hj0 : j = 0 := by simpa using hj
    subst hj0
    rw [Lib.add_plain, World.cell?_alloc_new]; rfl)
  exact h

theorem dg_val (R j : Nat) : ((Lib.dg R j).toNat : Int) = 48 + ((R / 10 ^ j : Nat) : Int) % 10 := by
  unfold Lib.dg
  have : (UInt8.ofNat (48 + R / 10 ^ j % 10)).toNat = 48 + R / 10 ^ j % 10 := by
    rw [UInt8.toNat_ofNat']; omega
  rw [this]; omega

theorem fi_nat (n : Nat) : floatOfInt .f64 (n : Int) = Ieee.double.nearest false n 0 := by
  show Ieee.double.nearest (decide ((n : Int) < 0)) (n : Int).natAbs 0 = _
  have h1 : decide ((n : Int) < 0) = false := by simp
  rw [h1, Int.natAbs_natCast]

/-- A string's length. -/
def strLen : Value → Nat
  | .string b => b.size
  | _ => 0

theorem byte_of (R j : Nat) (m : Nat) (hm : R / 10 ^ j = m) (w : World) : (convert 37 9 (.slice (some ⟨w.heap.size, 0, none⟩) 1 1)).run Tryd.prog (w.alloc (.cells #[.int .u8 (48 + (m : Int) % 10)] 5)) = .ok (.string ⟨#[Lib.dg R j]⟩) (w.alloc (.cells #[.int .u8 (48 + (m : Int) % 10)] 5)) := by
  have h := one_byte (Lib.dg R j) w
  rw [dg_val, hm] at h
  exact h

theorem low_step (R j : Nat) (T : ByteArray) (h : T = ⟨(low R j).toArray⟩) : ⟨#[Lib.dg R j]⟩ ++ T = (⟨(low R (j + 1)).toArray⟩ : ByteArray) := by
  rw [h]
  apply ByteArray.ext
  simp [low]

theorem low_end (R j : Nat) (T S : ByteArray) (h : T = ⟨(low R j).toArray⟩) (hj : j = max 4 (Lib.nDigits R)) (q : Nat) (hq : j = q + 3) : S ++ T.extract 0 q ++ ⟨#[46]⟩ ++ T.extract q (q + 3) = S ++ pnt (padB R) := by
  have hT : T = padB R := by rw [h, hj, low_all]
  have hs : (padB R).size = q + 3 := by rw [padB_size]; omega
  rw [hT]
  unfold pnt
  rw [hs]
  simp only [Nat.add_sub_cancel, ByteArray.append_assoc]

set_option maxHeartbeats 4000000 in
set_option maxRecDepth 100000 in
theorem rprint_fin (a : Nat) (ha : a < 18446744073709551616) (h1 : ¬ isN a) (hf : rg a < 9218868437227405312) (v : Nat) (hv : floatBits .mul .f64 (rg a) 4652007308841189376 = some v) (hvb : v < 4845873199050653696) (S : ByteArray) (hS : (9223372036854775808 ≤ a ∧ S = ⟨#[45]⟩) ∨ (¬ 9223372036854775808 ≤ a ∧ S = ⟨#[]⟩)) (w : World) :
    Calls Tryd.prog 9 #[.int .u64 (a : Int)] w fun e w' => e = .returned (.string (S ++ pnt (padB (rhe (mg v) U)))) ∧ Below w.heap.size w w' := by
  have n1 := rfloat_ok (a : Int)
  have n2 : (FloatKind.f64.format.order a a != some .eq) = false := by
    have h := order_self a
    rw [decide_eq_false h1] at h
    exact h
  have hrg : rg (rg a) = rg a := rg_small (Nat.mod_lt _ (by decide))
  have n3 : (FloatKind.f64.format.order (rg a) 9218868437227405311 == some .gt) = false := by
    rw [above_top (rg a) (by omega)]
    exact decide_eq_false (by omega)
  have hneg : ∀ w, (Op.unary .neg (.float .f64 a)).run Tryd.prog w = .ok (.float .f64 (Op.negFloat .f64 a)) w := fun w => rfl
  have hrun := fun (t : TypeId) (w : World) => run_float_arith (P := Tryd.prog) w .mul t .f64 (rg a) 4652007308841189376 v hv
  have n4 : (FloatKind.f64.format.order v 4845873199050653696 == some .lt) = true := by
    rw [order_big v (by omega), cmp_lt (by omega)]; rfl
  obtain ⟨hd, hq⟩ := down_i64 v hvb
  have hcv := fun w => run_convert_float_int (P := Tryd.prog) w 29 3 .f64 .i64 v _ (by rw [Tryd.underlying29]; rfl) Tryd.underlying3 hd
  obtain ⟨r, hr, hrl, hrm⟩ := rest_exact v hvb
  have hgt := half_gt r (mg v) hrl hrm
  have heq := half_eq r (mg v) hrl hrm
  have hR : rhe (mg v) U = mg v / U + if U < 2 * (mg v % U) ∨ U = 2 * (mg v % U) ∧ mg v / U % 2 = 1 then 1 else 0 := rfl
  have hfi := fi_nat (mg v / U)
  have hr' : floatBits .sub .f64 v (Ieee.double.nearest false (mg v / U) 0) = some r := hr
  rw [← hfi] at hr'
  have hsub := fun (t : TypeId) (w : World) => run_float_arith (P := Tryd.prog) w .sub t .f64 v _ r hr'
  have hRl := rhe_le v hvb
  have hps := pnt_size (rhe (mg v) U) (by omega)
  clear hr hr' hfi hd hrm hrl hv hvb hf
  generalize mg v % U = rem at *
  generalize mg v / U = n at *
  obtain ⟨R, hRR⟩ : ∃ R, R = rhe (mg v) U := ⟨_, rfl⟩
  rw [← hRR] at hR hRl hps ⊢
  clear hRR
  have HR : Hid _ := hR
  clear hR
  have hn20 := nd20 R (by omega)
  by_cases c1 : U < 2 * rem
  · rw [decide_eq_true c1] at hgt
    have HR2 : Hid (R = n + 1) := by show R = _; rw [HR.out, if_pos (Or.inl c1)]
    clear c1 heq HR
    rcases hS with ⟨hs, hS⟩ | ⟨hs, hS⟩
    · have hsh : (a : Int) / 9223372036854775808 = 1 := by omega
      have hnf : Op.negFloat .f64 a = rg a := by rw [negFloat_eq a ha, if_pos hs]; unfold rg; omega
      clear hrg h1 hs ha
      go_enter Tryd.func9, Tryd.ntmps9
      go_wp2_with (first | (go_at_call 20; refine same_at (n1 _) ?_))
      go_loopw [6, 8] (fun x t wr => ∃ (j : Nat) (T : ByteArray), j ≤ max 4 (Lib.nDigits R) ∧ x = .int .i64 ((R / 10 ^ j : Nat) : Int) ∧ t = .string T ∧ Hid (T = ⟨(low R j).toArray⟩) ∧ Below w.heap.size w wr) (fun x t _ => max 4 (Lib.nDigits R) - strLen t)
      case atStart => exact ⟨0, _, by omega, by rw [HR2.out]; simp, rfl, rfl, Below.refl _ _⟩
      case round =>
        clear n1 n2 n3 hneg hrun n4 hcv hsub hgt
        obtain ⟨j, T, hj, rfl, rfl, HT, hb⟩ := hrel
        have hTs : T.size = j := by rw [HT.out]; show (low R j).toArray.size = j; rw [List.size_toArray, low_length]
        have hj20 : j ≤ 20 := by omega
        by_cases hm : 0 < R / 10 ^ j ∨ j < 4
        · have hmo := more_digits R j hm
          have hcb := fun w => byte_of R j _ rfl w
          have hml : R / 10 ^ j ≤ R := Nat.div_le_self _ _
          have hnx : R / 10 ^ (j + 1) = R / 10 ^ j / 10 := by rw [Nat.pow_succ, Nat.div_div_eq_div_mul]
          have HNX : Hid _ := hnx
          clear hnx
          by_cases hm1 : 0 < R / 10 ^ j
          · have hm2 : (0 : Int) < ((R / 10 ^ j : Nat) : Int) := by omega
            generalize R / 10 ^ j = m at *
            go_wp2
            go_roundw
            case rel => exact ⟨j + 1, _, by omega, by rw [HNX.out]; simp, rfl, low_step R j T HT.out, hb.alloc hb.size _⟩
            case measure => simp only [strLen, ByteArray.size_append]; rw [hTs]; show _ - (1 + j) < _ - j; omega
          · have hm2 : ¬ (0 : Int) < ((R / 10 ^ j : Nat) : Int) := by omega
            have hj4 : (j : Int) < 4 := by omega
            generalize R / 10 ^ j = m at *
            go_wp2
            go_roundw
            case rel => exact ⟨j + 1, _, by omega, by rw [HNX.out]; simp, rfl, low_step R j T HT.out, hb.alloc hb.size _⟩
            case measure => simp only [strLen, ByteArray.size_append]; rw [hTs]; show _ - (1 + j) < _ - j; omega
        · have hz : R / 10 ^ j = 0 := Nat.eq_zero_of_not_pos (fun h => hm (Or.inl h))
          have hj4 : ¬ j < 4 := fun h => hm (Or.inr h)
          have hJ := no_more R j hz (by omega) hj
          obtain ⟨q, hq3⟩ : ∃ q, j = q + 3 := ⟨j - 3, by omega⟩
          have HE : Hid _ := low_end R j T S HT.out hJ q hq3
          have hj5 : ¬ (q : Int) + 3 < 4 := by omega
          rw [hz]
          clear hz hm hj hJ HT hj4
          subst hq3
          have hqP : (q : Int) ≤ ((q + 3 : Nat) : Int) := by omega
          subst hS
          go_wp2_with fail
          go_quiet (fail)
          go_wp2
          go_ret
          exact ⟨by rw [← HE.out]; rfl, below_drewN hb _⟩
    · have hsh : (a : Int) / 9223372036854775808 = 0 := by omega
      have hra : rg a = a := by unfold rg; omega
      rw [hra] at n3 hrun
      clear hra hrg h1 hs ha
      go_enter Tryd.func9, Tryd.ntmps9
      go_wp2_with (first | (go_at_call 20; refine same_at (n1 _) ?_))
      go_loopw [6, 8] (fun x t wr => ∃ (j : Nat) (T : ByteArray), j ≤ max 4 (Lib.nDigits R) ∧ x = .int .i64 ((R / 10 ^ j : Nat) : Int) ∧ t = .string T ∧ Hid (T = ⟨(low R j).toArray⟩) ∧ Below w.heap.size w wr) (fun x t _ => max 4 (Lib.nDigits R) - strLen t)
      case atStart => exact ⟨0, _, by omega, by rw [HR2.out]; simp, rfl, rfl, Below.refl _ _⟩
      case round =>
        clear n1 n2 n3 hneg hrun n4 hcv hsub hgt
        obtain ⟨j, T, hj, rfl, rfl, HT, hb⟩ := hrel
        have hTs : T.size = j := by rw [HT.out]; show (low R j).toArray.size = j; rw [List.size_toArray, low_length]
        have hj20 : j ≤ 20 := by omega
        by_cases hm : 0 < R / 10 ^ j ∨ j < 4
        · have hmo := more_digits R j hm
          have hcb := fun w => byte_of R j _ rfl w
          have hml : R / 10 ^ j ≤ R := Nat.div_le_self _ _
          have hnx : R / 10 ^ (j + 1) = R / 10 ^ j / 10 := by rw [Nat.pow_succ, Nat.div_div_eq_div_mul]
          have HNX : Hid _ := hnx
          clear hnx
          by_cases hm1 : 0 < R / 10 ^ j
          · have hm2 : (0 : Int) < ((R / 10 ^ j : Nat) : Int) := by omega
            generalize R / 10 ^ j = m at *
            go_wp2
            go_roundw
            case rel => exact ⟨j + 1, _, by omega, by rw [HNX.out]; simp, rfl, low_step R j T HT.out, hb.alloc hb.size _⟩
            case measure => simp only [strLen, ByteArray.size_append]; rw [hTs]; show _ - (1 + j) < _ - j; omega
          · have hm2 : ¬ (0 : Int) < ((R / 10 ^ j : Nat) : Int) := by omega
            have hj4 : (j : Int) < 4 := by omega
            generalize R / 10 ^ j = m at *
            go_wp2
            go_roundw
            case rel => exact ⟨j + 1, _, by omega, by rw [HNX.out]; simp, rfl, low_step R j T HT.out, hb.alloc hb.size _⟩
            case measure => simp only [strLen, ByteArray.size_append]; rw [hTs]; show _ - (1 + j) < _ - j; omega
        · have hz : R / 10 ^ j = 0 := Nat.eq_zero_of_not_pos (fun h => hm (Or.inl h))
          have hj4 : ¬ j < 4 := fun h => hm (Or.inr h)
          have hJ := no_more R j hz (by omega) hj
          obtain ⟨q, hq3⟩ : ∃ q, j = q + 3 := ⟨j - 3, by omega⟩
          have HE : Hid _ := low_end R j T S HT.out hJ q hq3
          have hj5 : ¬ (q : Int) + 3 < 4 := by omega
          rw [hz]
          clear hz hm hj hJ HT hj4
          subst hq3
          have hqP : (q : Int) ≤ ((q + 3 : Nat) : Int) := by omega
          subst hS
          go_wp2_with fail
          go_quiet (fail)
          go_wp2
          go_ret
          exact ⟨by rw [← HE.out]; rfl, below_drewN hb _⟩
  · rw [decide_eq_false c1] at hgt
    by_cases c2 : U = 2 * rem
    · rw [decide_eq_true c2] at heq
      by_cases c3 : n % 2 = 1
      · have HR2 : Hid (R = n + 1) := by show R = _; rw [HR.out, if_pos (Or.inr ⟨c2, c3⟩)]
        have c4 : (n : Int) % 2 = 1 := by omega
        clear c1 c2 c3 HR
        rcases hS with ⟨hs, hS⟩ | ⟨hs, hS⟩
        · have hsh : (a : Int) / 9223372036854775808 = 1 := by omega
          have hnf : Op.negFloat .f64 a = rg a := by rw [negFloat_eq a ha, if_pos hs]; unfold rg; omega
          clear hrg h1 hs ha
          go_enter Tryd.func9, Tryd.ntmps9
          go_wp2_with (first | (go_at_call 20; refine same_at (n1 _) ?_))
          go_loopw [6, 8] (fun x t wr => ∃ (j : Nat) (T : ByteArray), j ≤ max 4 (Lib.nDigits R) ∧ x = .int .i64 ((R / 10 ^ j : Nat) : Int) ∧ t = .string T ∧ Hid (T = ⟨(low R j).toArray⟩) ∧ Below w.heap.size w wr) (fun x t _ => max 4 (Lib.nDigits R) - strLen t)
          case atStart => exact ⟨0, _, by omega, by rw [HR2.out]; simp, rfl, rfl, Below.refl _ _⟩
          case round =>
            clear n1 n2 n3 hneg hrun n4 hcv hsub hgt
            obtain ⟨j, T, hj, rfl, rfl, HT, hb⟩ := hrel
            have hTs : T.size = j := by rw [HT.out]; show (low R j).toArray.size = j; rw [List.size_toArray, low_length]
            have hj20 : j ≤ 20 := by omega
            by_cases hm : 0 < R / 10 ^ j ∨ j < 4
            · have hmo := more_digits R j hm
              have hcb := fun w => byte_of R j _ rfl w
              have hml : R / 10 ^ j ≤ R := Nat.div_le_self _ _
              have hnx : R / 10 ^ (j + 1) = R / 10 ^ j / 10 := by rw [Nat.pow_succ, Nat.div_div_eq_div_mul]
              have HNX : Hid _ := hnx
              clear hnx
              by_cases hm1 : 0 < R / 10 ^ j
              · have hm2 : (0 : Int) < ((R / 10 ^ j : Nat) : Int) := by omega
                generalize R / 10 ^ j = m at *
                go_wp2
                go_roundw
                case rel => exact ⟨j + 1, _, by omega, by rw [HNX.out]; simp, rfl, low_step R j T HT.out, hb.alloc hb.size _⟩
                case measure => simp only [strLen, ByteArray.size_append]; rw [hTs]; show _ - (1 + j) < _ - j; omega
              · have hm2 : ¬ (0 : Int) < ((R / 10 ^ j : Nat) : Int) := by omega
                have hj4 : (j : Int) < 4 := by omega
                generalize R / 10 ^ j = m at *
                go_wp2
                go_roundw
                case rel => exact ⟨j + 1, _, by omega, by rw [HNX.out]; simp, rfl, low_step R j T HT.out, hb.alloc hb.size _⟩
                case measure => simp only [strLen, ByteArray.size_append]; rw [hTs]; show _ - (1 + j) < _ - j; omega
            · have hz : R / 10 ^ j = 0 := Nat.eq_zero_of_not_pos (fun h => hm (Or.inl h))
              have hj4 : ¬ j < 4 := fun h => hm (Or.inr h)
              have hJ := no_more R j hz (by omega) hj
              obtain ⟨q, hq3⟩ : ∃ q, j = q + 3 := ⟨j - 3, by omega⟩
              have HE : Hid _ := low_end R j T S HT.out hJ q hq3
              have hj5 : ¬ (q : Int) + 3 < 4 := by omega
              rw [hz]
              clear hz hm hj hJ HT hj4
              subst hq3
              have hqP : (q : Int) ≤ ((q + 3 : Nat) : Int) := by omega
              subst hS
              go_wp2_with fail
              go_quiet (fail)
              go_wp2
              go_ret
              exact ⟨by rw [← HE.out]; rfl, below_drewN hb _⟩
        · have hsh : (a : Int) / 9223372036854775808 = 0 := by omega
          have hra : rg a = a := by unfold rg; omega
          rw [hra] at n3 hrun
          clear hra hrg h1 hs ha
          go_enter Tryd.func9, Tryd.ntmps9
          go_wp2_with (first | (go_at_call 20; refine same_at (n1 _) ?_))
          go_loopw [6, 8] (fun x t wr => ∃ (j : Nat) (T : ByteArray), j ≤ max 4 (Lib.nDigits R) ∧ x = .int .i64 ((R / 10 ^ j : Nat) : Int) ∧ t = .string T ∧ Hid (T = ⟨(low R j).toArray⟩) ∧ Below w.heap.size w wr) (fun x t _ => max 4 (Lib.nDigits R) - strLen t)
          case atStart => exact ⟨0, _, by omega, by rw [HR2.out]; simp, rfl, rfl, Below.refl _ _⟩
          case round =>
            clear n1 n2 n3 hneg hrun n4 hcv hsub hgt
            obtain ⟨j, T, hj, rfl, rfl, HT, hb⟩ := hrel
            have hTs : T.size = j := by rw [HT.out]; show (low R j).toArray.size = j; rw [List.size_toArray, low_length]
            have hj20 : j ≤ 20 := by omega
            by_cases hm : 0 < R / 10 ^ j ∨ j < 4
            · have hmo := more_digits R j hm
              have hcb := fun w => byte_of R j _ rfl w
              have hml : R / 10 ^ j ≤ R := Nat.div_le_self _ _
              have hnx : R / 10 ^ (j + 1) = R / 10 ^ j / 10 := by rw [Nat.pow_succ, Nat.div_div_eq_div_mul]
              have HNX : Hid _ := hnx
              clear hnx
              by_cases hm1 : 0 < R / 10 ^ j
              · have hm2 : (0 : Int) < ((R / 10 ^ j : Nat) : Int) := by omega
                generalize R / 10 ^ j = m at *
                go_wp2
                go_roundw
                case rel => exact ⟨j + 1, _, by omega, by rw [HNX.out]; simp, rfl, low_step R j T HT.out, hb.alloc hb.size _⟩
                case measure => simp only [strLen, ByteArray.size_append]; rw [hTs]; show _ - (1 + j) < _ - j; omega
              · have hm2 : ¬ (0 : Int) < ((R / 10 ^ j : Nat) : Int) := by omega
                have hj4 : (j : Int) < 4 := by omega
                generalize R / 10 ^ j = m at *
                go_wp2
                go_roundw
                case rel => exact ⟨j + 1, _, by omega, by rw [HNX.out]; simp, rfl, low_step R j T HT.out, hb.alloc hb.size _⟩
                case measure => simp only [strLen, ByteArray.size_append]; rw [hTs]; show _ - (1 + j) < _ - j; omega
            · have hz : R / 10 ^ j = 0 := Nat.eq_zero_of_not_pos (fun h => hm (Or.inl h))
              have hj4 : ¬ j < 4 := fun h => hm (Or.inr h)
              have hJ := no_more R j hz (by omega) hj
              obtain ⟨q, hq3⟩ : ∃ q, j = q + 3 := ⟨j - 3, by omega⟩
              have HE : Hid _ := low_end R j T S HT.out hJ q hq3
              have hj5 : ¬ (q : Int) + 3 < 4 := by omega
              rw [hz]
              clear hz hm hj hJ HT hj4
              subst hq3
              have hqP : (q : Int) ≤ ((q + 3 : Nat) : Int) := by omega
              subst hS
              go_wp2_with fail
              go_quiet (fail)
              go_wp2
              go_ret
              exact ⟨by rw [← HE.out]; rfl, below_drewN hb _⟩
      · have HR2 : Hid (R = n) := by show R = _; rw [HR.out, if_neg (by omega)]; rfl
        have c4 : (n : Int) % 2 = 0 := by omega
        clear c1 c2 c3 HR
        rcases hS with ⟨hs, hS⟩ | ⟨hs, hS⟩
        · have hsh : (a : Int) / 9223372036854775808 = 1 := by omega
          have hnf : Op.negFloat .f64 a = rg a := by rw [negFloat_eq a ha, if_pos hs]; unfold rg; omega
          clear hrg h1 hs ha
          go_enter Tryd.func9, Tryd.ntmps9
          go_wp2_with (first | (go_at_call 20; refine same_at (n1 _) ?_))
          go_loopw [6, 8] (fun x t wr => ∃ (j : Nat) (T : ByteArray), j ≤ max 4 (Lib.nDigits R) ∧ x = .int .i64 ((R / 10 ^ j : Nat) : Int) ∧ t = .string T ∧ Hid (T = ⟨(low R j).toArray⟩) ∧ Below w.heap.size w wr) (fun x t _ => max 4 (Lib.nDigits R) - strLen t)
          case atStart => exact ⟨0, _, by omega, by rw [HR2.out]; simp, rfl, rfl, Below.refl _ _⟩
          case round =>
            clear n1 n2 n3 hneg hrun n4 hcv hsub hgt
            obtain ⟨j, T, hj, rfl, rfl, HT, hb⟩ := hrel
            have hTs : T.size = j := by rw [HT.out]; show (low R j).toArray.size = j; rw [List.size_toArray, low_length]
            have hj20 : j ≤ 20 := by omega
            by_cases hm : 0 < R / 10 ^ j ∨ j < 4
            · have hmo := more_digits R j hm
              have hcb := fun w => byte_of R j _ rfl w
              have hml : R / 10 ^ j ≤ R := Nat.div_le_self _ _
              have hnx : R / 10 ^ (j + 1) = R / 10 ^ j / 10 := by rw [Nat.pow_succ, Nat.div_div_eq_div_mul]
              have HNX : Hid _ := hnx
              clear hnx
              by_cases hm1 : 0 < R / 10 ^ j
              · have hm2 : (0 : Int) < ((R / 10 ^ j : Nat) : Int) := by omega
                generalize R / 10 ^ j = m at *
                go_wp2
                go_roundw
                case rel => exact ⟨j + 1, _, by omega, by rw [HNX.out]; simp, rfl, low_step R j T HT.out, hb.alloc hb.size _⟩
                case measure => simp only [strLen, ByteArray.size_append]; rw [hTs]; show _ - (1 + j) < _ - j; omega
              · have hm2 : ¬ (0 : Int) < ((R / 10 ^ j : Nat) : Int) := by omega
                have hj4 : (j : Int) < 4 := by omega
                generalize R / 10 ^ j = m at *
                go_wp2
                go_roundw
                case rel => exact ⟨j + 1, _, by omega, by rw [HNX.out]; simp, rfl, low_step R j T HT.out, hb.alloc hb.size _⟩
                case measure => simp only [strLen, ByteArray.size_append]; rw [hTs]; show _ - (1 + j) < _ - j; omega
            · have hz : R / 10 ^ j = 0 := Nat.eq_zero_of_not_pos (fun h => hm (Or.inl h))
              have hj4 : ¬ j < 4 := fun h => hm (Or.inr h)
              have hJ := no_more R j hz (by omega) hj
              obtain ⟨q, hq3⟩ : ∃ q, j = q + 3 := ⟨j - 3, by omega⟩
              have HE : Hid _ := low_end R j T S HT.out hJ q hq3
              have hj5 : ¬ (q : Int) + 3 < 4 := by omega
              rw [hz]
              clear hz hm hj hJ HT hj4
              subst hq3
              have hqP : (q : Int) ≤ ((q + 3 : Nat) : Int) := by omega
              subst hS
              go_wp2_with fail
              go_quiet (fail)
              go_wp2
              go_ret
              exact ⟨by rw [← HE.out]; rfl, below_drewN hb _⟩
        · have hsh : (a : Int) / 9223372036854775808 = 0 := by omega
          have hra : rg a = a := by unfold rg; omega
          rw [hra] at n3 hrun
          clear hra hrg h1 hs ha
          go_enter Tryd.func9, Tryd.ntmps9
          go_wp2_with (first | (go_at_call 20; refine same_at (n1 _) ?_))
          go_loopw [6, 8] (fun x t wr => ∃ (j : Nat) (T : ByteArray), j ≤ max 4 (Lib.nDigits R) ∧ x = .int .i64 ((R / 10 ^ j : Nat) : Int) ∧ t = .string T ∧ Hid (T = ⟨(low R j).toArray⟩) ∧ Below w.heap.size w wr) (fun x t _ => max 4 (Lib.nDigits R) - strLen t)
          case atStart => exact ⟨0, _, by omega, by rw [HR2.out]; simp, rfl, rfl, Below.refl _ _⟩
          case round =>
            clear n1 n2 n3 hneg hrun n4 hcv hsub hgt
            obtain ⟨j, T, hj, rfl, rfl, HT, hb⟩ := hrel
            have hTs : T.size = j := by rw [HT.out]; show (low R j).toArray.size = j; rw [List.size_toArray, low_length]
            have hj20 : j ≤ 20 := by omega
            by_cases hm : 0 < R / 10 ^ j ∨ j < 4
            · have hmo := more_digits R j hm
              have hcb := fun w => byte_of R j _ rfl w
              have hml : R / 10 ^ j ≤ R := Nat.div_le_self _ _
              have hnx : R / 10 ^ (j + 1) = R / 10 ^ j / 10 := by rw [Nat.pow_succ, Nat.div_div_eq_div_mul]
              have HNX : Hid _ := hnx
              clear hnx
              by_cases hm1 : 0 < R / 10 ^ j
              · have hm2 : (0 : Int) < ((R / 10 ^ j : Nat) : Int) := by omega
                generalize R / 10 ^ j = m at *
                go_wp2
                go_roundw
                case rel => exact ⟨j + 1, _, by omega, by rw [HNX.out]; simp, rfl, low_step R j T HT.out, hb.alloc hb.size _⟩
                case measure => simp only [strLen, ByteArray.size_append]; rw [hTs]; show _ - (1 + j) < _ - j; omega
              · have hm2 : ¬ (0 : Int) < ((R / 10 ^ j : Nat) : Int) := by omega
                have hj4 : (j : Int) < 4 := by omega
                generalize R / 10 ^ j = m at *
                go_wp2
                go_roundw
                case rel => exact ⟨j + 1, _, by omega, by rw [HNX.out]; simp, rfl, low_step R j T HT.out, hb.alloc hb.size _⟩
                case measure => simp only [strLen, ByteArray.size_append]; rw [hTs]; show _ - (1 + j) < _ - j; omega
            · have hz : R / 10 ^ j = 0 := Nat.eq_zero_of_not_pos (fun h => hm (Or.inl h))
              have hj4 : ¬ j < 4 := fun h => hm (Or.inr h)
              have hJ := no_more R j hz (by omega) hj
              obtain ⟨q, hq3⟩ : ∃ q, j = q + 3 := ⟨j - 3, by omega⟩
              have HE : Hid _ := low_end R j T S HT.out hJ q hq3
              have hj5 : ¬ (q : Int) + 3 < 4 := by omega
              rw [hz]
              clear hz hm hj hJ HT hj4
              subst hq3
              have hqP : (q : Int) ≤ ((q + 3 : Nat) : Int) := by omega
              subst hS
              go_wp2_with fail
              go_quiet (fail)
              go_wp2
              go_ret
              exact ⟨by rw [← HE.out]; rfl, below_drewN hb _⟩
    · rw [decide_eq_false c2] at heq
      have HR2 : Hid (R = n) := by show R = _; rw [HR.out, if_neg (by omega)]; rfl
      clear c1 c2 HR
      rcases hS with ⟨hs, hS⟩ | ⟨hs, hS⟩
      · have hsh : (a : Int) / 9223372036854775808 = 1 := by omega
        have hnf : Op.negFloat .f64 a = rg a := by rw [negFloat_eq a ha, if_pos hs]; unfold rg; omega
        clear hrg h1 hs ha
        go_enter Tryd.func9, Tryd.ntmps9
        go_wp2_with (first | (go_at_call 20; refine same_at (n1 _) ?_))
        go_loopw [6, 8] (fun x t wr => ∃ (j : Nat) (T : ByteArray), j ≤ max 4 (Lib.nDigits R) ∧ x = .int .i64 ((R / 10 ^ j : Nat) : Int) ∧ t = .string T ∧ Hid (T = ⟨(low R j).toArray⟩) ∧ Below w.heap.size w wr) (fun x t _ => max 4 (Lib.nDigits R) - strLen t)
        case atStart => exact ⟨0, _, by omega, by rw [HR2.out]; simp, rfl, rfl, Below.refl _ _⟩
        case round =>
          clear n1 n2 n3 hneg hrun n4 hcv hsub hgt
          obtain ⟨j, T, hj, rfl, rfl, HT, hb⟩ := hrel
          have hTs : T.size = j := by rw [HT.out]; show (low R j).toArray.size = j; rw [List.size_toArray, low_length]
          have hj20 : j ≤ 20 := by omega
          by_cases hm : 0 < R / 10 ^ j ∨ j < 4
          · have hmo := more_digits R j hm
            have hcb := fun w => byte_of R j _ rfl w
            have hml : R / 10 ^ j ≤ R := Nat.div_le_self _ _
            have hnx : R / 10 ^ (j + 1) = R / 10 ^ j / 10 := by rw [Nat.pow_succ, Nat.div_div_eq_div_mul]
            have HNX : Hid _ := hnx
            clear hnx
            by_cases hm1 : 0 < R / 10 ^ j
            · have hm2 : (0 : Int) < ((R / 10 ^ j : Nat) : Int) := by omega
              generalize R / 10 ^ j = m at *
              go_wp2
              go_roundw
              case rel => exact ⟨j + 1, _, by omega, by rw [HNX.out]; simp, rfl, low_step R j T HT.out, hb.alloc hb.size _⟩
              case measure => simp only [strLen, ByteArray.size_append]; rw [hTs]; show _ - (1 + j) < _ - j; omega
            · have hm2 : ¬ (0 : Int) < ((R / 10 ^ j : Nat) : Int) := by omega
              have hj4 : (j : Int) < 4 := by omega
              generalize R / 10 ^ j = m at *
              go_wp2
              go_roundw
              case rel => exact ⟨j + 1, _, by omega, by rw [HNX.out]; simp, rfl, low_step R j T HT.out, hb.alloc hb.size _⟩
              case measure => simp only [strLen, ByteArray.size_append]; rw [hTs]; show _ - (1 + j) < _ - j; omega
          · have hz : R / 10 ^ j = 0 := Nat.eq_zero_of_not_pos (fun h => hm (Or.inl h))
            have hj4 : ¬ j < 4 := fun h => hm (Or.inr h)
            have hJ := no_more R j hz (by omega) hj
            obtain ⟨q, hq3⟩ : ∃ q, j = q + 3 := ⟨j - 3, by omega⟩
            have HE : Hid _ := low_end R j T S HT.out hJ q hq3
            have hj5 : ¬ (q : Int) + 3 < 4 := by omega
            rw [hz]
            clear hz hm hj hJ HT hj4
            subst hq3
            have hqP : (q : Int) ≤ ((q + 3 : Nat) : Int) := by omega
            subst hS
            go_wp2_with fail
            go_quiet (fail)
            go_wp2
            go_ret
            exact ⟨by rw [← HE.out]; rfl, below_drewN hb _⟩
      · have hsh : (a : Int) / 9223372036854775808 = 0 := by omega
        have hra : rg a = a := by unfold rg; omega
        rw [hra] at n3 hrun
        clear hra hrg h1 hs ha
        go_enter Tryd.func9, Tryd.ntmps9
        go_wp2_with (first | (go_at_call 20; refine same_at (n1 _) ?_))
        go_loopw [6, 8] (fun x t wr => ∃ (j : Nat) (T : ByteArray), j ≤ max 4 (Lib.nDigits R) ∧ x = .int .i64 ((R / 10 ^ j : Nat) : Int) ∧ t = .string T ∧ Hid (T = ⟨(low R j).toArray⟩) ∧ Below w.heap.size w wr) (fun x t _ => max 4 (Lib.nDigits R) - strLen t)
        case atStart => exact ⟨0, _, by omega, by rw [HR2.out]; simp, rfl, rfl, Below.refl _ _⟩
        case round =>
          clear n1 n2 n3 hneg hrun n4 hcv hsub hgt
          obtain ⟨j, T, hj, rfl, rfl, HT, hb⟩ := hrel
          have hTs : T.size = j := by rw [HT.out]; show (low R j).toArray.size = j; rw [List.size_toArray, low_length]
          have hj20 : j ≤ 20 := by omega
          by_cases hm : 0 < R / 10 ^ j ∨ j < 4
          · have hmo := more_digits R j hm
            have hcb := fun w => byte_of R j _ rfl w
            have hml : R / 10 ^ j ≤ R := Nat.div_le_self _ _
            have hnx : R / 10 ^ (j + 1) = R / 10 ^ j / 10 := by rw [Nat.pow_succ, Nat.div_div_eq_div_mul]
            have HNX : Hid _ := hnx
            clear hnx
            by_cases hm1 : 0 < R / 10 ^ j
            · have hm2 : (0 : Int) < ((R / 10 ^ j : Nat) : Int) := by omega
              generalize R / 10 ^ j = m at *
              go_wp2
              go_roundw
              case rel => exact ⟨j + 1, _, by omega, by rw [HNX.out]; simp, rfl, low_step R j T HT.out, hb.alloc hb.size _⟩
              case measure => simp only [strLen, ByteArray.size_append]; rw [hTs]; show _ - (1 + j) < _ - j; omega
            · have hm2 : ¬ (0 : Int) < ((R / 10 ^ j : Nat) : Int) := by omega
              have hj4 : (j : Int) < 4 := by omega
              generalize R / 10 ^ j = m at *
              go_wp2
              go_roundw
              case rel => exact ⟨j + 1, _, by omega, by rw [HNX.out]; simp, rfl, low_step R j T HT.out, hb.alloc hb.size _⟩
              case measure => simp only [strLen, ByteArray.size_append]; rw [hTs]; show _ - (1 + j) < _ - j; omega
          · have hz : R / 10 ^ j = 0 := Nat.eq_zero_of_not_pos (fun h => hm (Or.inl h))
            have hj4 : ¬ j < 4 := fun h => hm (Or.inr h)
            have hJ := no_more R j hz (by omega) hj
            obtain ⟨q, hq3⟩ : ∃ q, j = q + 3 := ⟨j - 3, by omega⟩
            have HE : Hid _ := low_end R j T S HT.out hJ q hq3
            have hj5 : ¬ (q : Int) + 3 < 4 := by omega
            rw [hz]
            clear hz hm hj hJ HT hj4
            subst hq3
            have hqP : (q : Int) ≤ ((q + 3 : Nat) : Int) := by omega
            subst hS
            go_wp2_with fail
            go_quiet (fail)
            go_wp2
            go_ret
            exact ⟨by rw [← HE.out]; rfl, below_drewN hb _⟩
end Go.Proofs.YtllcpggdfdnjcabDoor
