/- The document's Spread; GaugeFollows. -/
import Derived.Test.YtllcpggdfdnjcabSpread
namespace Go.Proofs.Ytllcpggdfdnjcab
open Go.RowKit
set_option linter.unusedVariables false

set_option maxHeartbeats 1000000 in
theorem rspread_ok (p : Option Addr) (n c : Nat) (xs : List Nat) (w : World) (h : UI w p n xs) :
    Calls Try.prog 35 #[.slice p n c] w fun e w' => e = .returned (.int .u64 (tl (oSpread xs n))) ∧ Below w.heap.size w w' := by
  have hq := fun (w : World) (t : TypeId) (x y : Nat) => run_fop (P := Try.prog) w Fop.quo t x y
  have ha := fun (w : World) (t : TypeId) (x y : Nat) => run_fop (P := Try.prog) w Fop.add t x y
  have hs := fun (w : World) (t : TypeId) (x y : Nat) => run_fop (P := Try.prog) w Fop.sub t x y
  have hm := fun (w : World) (t : TypeId) (x y : Nat) => run_fop (P := Try.prog) w Fop.mul t x y
  have ht := rbits_ok
  have hbig := h.big
  go_enter Try.func35, Try.ntmps35
  go_wp2_with fail
  go_loopw [3, 13] (fun s j wr => ∃ (k : Nat) (x q : Nat), k ≤ n ∧ j = .int .i64 (k : Int) ∧ s = .float .f64 x ∧ Hid (fc x = gsum xs k) ∧ wr = w.drewN q) (fun s j _ => n - (intOf j).toNat)
  case atStart => exact ⟨0, 0, 0, by omega, rfl, rfl, fc_nought, rfl⟩
  case round =>
    obtain ⟨k, x, q, hk, rfl, rfl, hx, rfl⟩ := hrel
    by_cases hlt : k < n
    · obtain ⟨b1, o1, rfl, hc1⟩ := h.cells (by omega)
      have e1 := hc1 k hlt
      clear hc1
      have HS : Hid (gsum xs (k + 1) = ob .add (gsum xs k) (fc (xs.getD k 0))) := rfl
      generalize xs.getD k 0 = y at e1 HS
      have hn := rfloat_ok (y : Int)
      have hkI : (k : Int) < (n : Int) := by omega
      have hk0 : (0 : Int) ≤ (k : Int) := by omega
      go_wp2_with (first | (go_at_call 66; refine same_at (hn _) ?_))
      go_roundw
      case rel => exact ⟨k + 1, _, _, by omega, by go_num, rfl, (by show fc _ = _; rw [HS.out, fc_fv, hx.out]), rfl⟩
      case measure => simp [intOf]; omega
    · obtain rfl : k = n := by omega
      go_wp2_with fail
      obtain ⟨m, Q, hmQ⟩ : ∃ m Q, m = fv .quo x (floatOfInt .f64 (k : Int)) (w.drewN q) ∧ Q = q + fq .quo x (floatOfInt .f64 (k : Int)) := ⟨_, _, rfl, rfl⟩
      have HM : Hid (fc m = gmean xs k) := by
        show fc m = _
        rw [hmQ.1, fc_fv, fc_fi, hx.out]; rfl
      rw [← hmQ.1, ← hmQ.2]
      clear hmQ
      go_loopw [7, 29] (fun s j wr => ∃ (i : Nat) (x q : Nat), i ≤ k ∧ j = .int .i64 (i : Int) ∧ s = .float .f64 x ∧ Hid (fc x = osum (gsq xs (gmean xs k)) i) ∧ wr = w.drewN q) (fun s j _ => k - (intOf j).toNat)
      case atStart => exact ⟨0, 0, _, by omega, rfl, rfl, fc_nought, rfl⟩
      case round =>
        obtain ⟨i, z, q2, hi, rfl, rfl, hz, rfl⟩ := hrel
        by_cases hlt : i < k
        · obtain ⟨b1, o1, rfl, hc1⟩ := h.cells (by omega)
          have e1 := hc1 i hlt
          clear hc1
          have HS : Hid (osum (gsq xs (gmean xs k)) (i + 1) = ob .add (osum (gsq xs (gmean xs k)) i) (ob .mul (ob .sub (fc (xs.getD i 0)) (gmean xs k)) (ob .sub (fc (xs.getD i 0)) (gmean xs k)))) := rfl
          generalize xs.getD i 0 = y at e1 HS
          have hn := rfloat_ok (y : Int)
          have hkI : (i : Int) < (k : Int) := by omega
          have hk0 : (0 : Int) ≤ (i : Int) := by omega
          go_wp2_with (first | (go_at_call 66; refine same_at (hn _) ?_))
          go_roundw
          case rel => exact ⟨i + 1, _, _, by omega, by go_num, rfl, (by show fc _ = _; rw [HS.out, fc_fv, fc_fv, fc_fv, hz.out, HM.out]), rfl⟩
          case measure => simp [intOf]; omega
        · obtain rfl : i = k := by omega
          go_wp2_with (first | (go_at_call 61; refine same_at (ht _ _) ?_))
          go_ret
          refine ⟨?_, below_drewN (Below.refl _ _) _⟩
          simp only [oSpread, fc_fv, fc_fi, hz.out]
          rfl

set_option maxHeartbeats 1000000 in
theorem gaugeFollows_walk (a b : Nat) (hh : Int) (la : a < 18446744073709551616) (lb : b < 18446744073709551616) (p : Option Addr) (n c : Nat) (xs : List Nat) (w : World) (h : UI w p n xs) (h8 : n * 8 ≤ 140737488355328) :
    Calls Try.prog 6 #[.int .u64 (a : Int), .int .u64 (b : Int), .int .i64 hh, .slice p n c] w fun e w' => e = .returned (.bool true) ∧ Below w.heap.size w w' := by
  have hc := gaugesclone_ok p n c xs w h h8
  have f1 := smooth_ok a b hh
  have f2 := rsmooth_ok a b hh
  have f3 : ∀ q k w, UI w q n xs → Calls Try.prog 34 #[.slice q n k] w fun e w' => e = .returned (.int .u64 (tl (oSpread xs n))) ∧ Below w.heap.size w w' := fun q k w h => spread_ok q n k xs w h
  have f4 : ∀ q k w, UI w q n xs → Calls Try.prog 35 #[.slice q n k] w fun e w' => e = .returned (.int .u64 (tl (oSpread xs n))) ∧ Below w.heap.size w w' := fun q k w h => rspread_ok q n k xs w h
  have f5 := fun q1 q2 k1 k2 w h1 h2 => gaugesequal_same q1 q2 n k1 k2 xs w h1 h2
  have hbig := h.big
  clear h8 la lb
  go_enter Try.func6, Try.ntmps6
  go_wp2_with (first | (go_at_call 31; refine hc.mono ?_; rintro e w1 ⟨p', c', rfl, h', hb1⟩))
  have h1 := h.kept hb1
  go_wp2_with (first | (go_at_call 32; refine drew_at (f1 _) ?_; intro k1) | (go_at_call 33; refine drew_at (f2 _) ?_; intro k2))
  have h2 := h1.kept (below_drewN (Below.refl _ _) (k1 + k2))
  have h2' := h'.kept (below_drewN (Below.refl _ _) (k1 + k2))
  have hb2 := below_on hb1 (below_drewN (Below.refl _ _) (k1 + k2))
  go_wp2_with (first | (go_at_call 34; refine below_at (f3 _ _ _ h2') ?_; intro w4 hb4))
  have h4 := h2.kept hb4
  have h4' := h2'.kept hb4
  go_wp2_with (first | (go_at_call 35; refine below_at (f4 _ _ _ h4) ?_; intro w5 hb5))
  have h5 := h4.kept hb5
  have h5' := h4'.kept hb5
  go_wp2_with (first | (go_at_call 36; refine below_at (f5 _ _ _ _ _ h5' h5) ?_; intro w6 hb6))
  go_ret
  exact ⟨rfl, below_on (below_on (below_on hb2 hb4) hb5) hb6⟩
end Go.Proofs.Ytllcpggdfdnjcab
