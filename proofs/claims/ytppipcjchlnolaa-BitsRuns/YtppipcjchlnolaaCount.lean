/- How many bits are set, the first that is not, and where two rows part. -/
import Derived.Test.YtppipcjchlnolaaWith
namespace Go.Proofs.Ytppipcjchlnolaa
open Go.RowKit
set_option linter.unusedVariables false

namespace Bit
def count (xs : List Int) : Nat → Nat
  | 0 => 0
  | k + 1 => count xs k + (if on xs k then 1 else 0)
theorem count_le (xs : List Int) (k : Nat) : count xs k ≤ k := by
  induction k with
  | zero => simp [count]
  | succ k ih => simp only [count]; split <;> omega
end Bit

theorem BI.drewN {w : World} {p : Option Addr} {n : Nat} {xs : List Int} (h : BI w p n xs) (k : Nat) : BI (w.drewN k) p n xs := h.kept (below_drewN (Below.refl _ _) k)
theorem onI_nat (xs : List Int) (j : Nat) : Bit.onI xs (j : Int) = Bit.on xs j := by simp [Bit.onI]
theorem has_nat (p : Option Addr) (n c : Nat) (xs : List Int) (i : Nat) (w : World) (hb : BI w p n xs) (hi : i ≤ 9223372036854775807) :
    Calls Try.prog 12 #[.slice p n c, .int .i64 i] w fun e w' => e = .returned (.bool (Bit.on xs i)) ∧ ∃ k, w' = w.drewN k := by
  have := has_any p n c xs i w hb (by omega)
  rw [onI_nat] at this
  exact this
theorem rhas_nat (p : Option Addr) (n c : Nat) (xs : List Int) (i : Nat) (w : World) (hb : BI w p n xs) (hi : i ≤ 9223372036854775807) :
    Calls Try.prog 13 #[.slice p n c, .int .i64 i] w fun e w' => e = .returned (.bool (Bit.on xs i)) ∧ ∃ k, w' = w.drewN k := by
  have := rhas_any p n c xs i w hb (by omega)
  rw [onI_nat] at this
  exact this.mono fun e w' ⟨h1, h2⟩ => ⟨h1, 0, h2⟩

set_option maxHeartbeats 400000 in
theorem count_ok (p : Option Addr) (n c : Nat) (xs : List Int) (m : Int) (w : World) (hb : BI w p n xs) :
    Calls Try.prog 17 #[.slice p n c, .int .i64 m] w fun e w' => e = .returned (.int .i64 (Bit.count xs (Bit.cnt m))) ∧ ∃ k, w' = w.drewN k := by
  have hm := Bit.cnt_le m
  have hc := counted_ok m w
  generalize Bit.cnt m = M at *
  go_enter Try.func17, Try.ntmps17
  go_wp2_with (first | (go_at_call 28; refine same_at hc ?_))
  go_loopw [5, 9] (fun s i wr => ∃ j q : Nat, j ≤ M ∧ i = .int .i64 (j : Int) ∧ s = .int .i64 (Bit.count xs j : Int) ∧ wr = w.drewN q) (fun _ i _ => M - (intOf i).toNat)
  case atStart => exact ⟨0, 0, by omega, rfl, rfl, rfl⟩
  case round =>
    obtain ⟨j, q, hj, rfl, rfl, rfl⟩ := hrel
    have hcl := Bit.count_le xs j
    by_cases hlt : j < M
    · have hh := has_nat p n c xs j (w.drewN q) (hb.drewN q) (by omega)
      have HS : Hid (Bit.count xs (j + 1) = Bit.count xs j + (if Bit.on xs j then 1 else 0)) := rfl
      have hjI : (j : Int) < (M : Int) := by omega
      generalize Bit.count xs j = C at *
      cases ho : Bit.on xs j
      all_goals
        rw [ho] at hh HS
        have HO := (show Hid _ from ho)
        clear ho
        go_wp2_with (first | (go_at_call 12; refine drew_at hh ?_; intro k))
        go_roundw
        case rel => exact ⟨j + 1, q + k, by omega, by go_num, by rw [HS.out]; go_num, by simp⟩
        case measure => simp [intOf]; omega
    · obtain rfl : j = M := by omega
      go_wp2
      go_ret
      exact ⟨rfl, _, rfl⟩

set_option maxHeartbeats 400000 in
theorem rcount_ok (p : Option Addr) (n c : Nat) (xs : List Int) (m : Int) (w : World) (hb : BI w p n xs) :
    Calls Try.prog 18 #[.slice p n c, .int .i64 m] w fun e w' => e = .returned (.int .i64 (Bit.count xs (Bit.cnt m))) ∧ ∃ k, w' = w.drewN k := by
  have hm := Bit.cnt_le m
  have hc := first_ok m w
  generalize Bit.cnt m = M at *
  go_enter Try.func18, Try.ntmps18
  go_wp2_with (first | (go_at_call 29; refine same_at hc ?_))
  go_loopw [5, 9] (fun s i wr => ∃ j q : Nat, j ≤ M ∧ i = .int .i64 (j : Int) ∧ s = .int .i64 (Bit.count xs j : Int) ∧ wr = w.drewN q) (fun _ i _ => M - (intOf i).toNat)
  case atStart => exact ⟨0, 0, by omega, rfl, rfl, rfl⟩
  case round =>
    obtain ⟨j, q, hj, rfl, rfl, rfl⟩ := hrel
    have hcl := Bit.count_le xs j
    by_cases hlt : j < M
    · have hh := rhas_nat p n c xs j (w.drewN q) (hb.drewN q) (by omega)
      have HS : Hid (Bit.count xs (j + 1) = Bit.count xs j + (if Bit.on xs j then 1 else 0)) := rfl
      have hjI : (j : Int) < (M : Int) := by omega
      generalize Bit.count xs j = C at *
      cases ho : Bit.on xs j
      all_goals
        rw [ho] at hh HS
        have HO := (show Hid _ from ho)
        clear ho
        go_wp2_with (first | (go_at_call 13; refine drew_at hh ?_; intro k))
        go_roundw
        case rel => exact ⟨j + 1, q + k, by omega, by go_num, by rw [HS.out]; go_num, by simp⟩
        case measure => simp [intOf]; omega
    · obtain rfl : j = M := by omega
      go_wp2
      go_ret
      exact ⟨rfl, _, rfl⟩

end Go.Proofs.Ytppipcjchlnolaa
