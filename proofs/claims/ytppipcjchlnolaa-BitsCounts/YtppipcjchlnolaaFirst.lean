/- The first bit that is not set, going round. -/
import Derived.Test.YtppipcjchlnolaaCount
import Derived.Deep.DeepCutAuto
namespace Go.Proofs.Ytppipcjchlnolaa
open Go.RowKit
set_option linter.unusedVariables false

namespace Bit
def look (xs : List Int) (N F : Nat) : Nat → Option Nat
  | 0 => none
  | k + 1 => match look xs N F k with
    | some i => some i
    | none => if on xs ((F + k) % N) then none else some ((F + k) % N)
theorem look_on (xs : List Int) (N F : Nat) {k i : Nat} (h : look xs N F k = some i) (d : Nat) : look xs N F (k + d) = some i := by
  induction d with
  | zero => exact h
  | succ d ih => rw [← Nat.add_assoc]; simp only [look]; rw [ih]
def start (N : Nat) (f : Int) : Nat := if f < 0 ∨ (N : Int) ≤ f then 0 else f.toNat
def fI (o : Option Nat) : Int := match o with | some i => (i : Int) | none => 0
end Bit

set_option maxHeartbeats 400000 in
theorem first_from (p : Option Addr) (n c : Nat) (xs : List Int) (m fr : Int) (N : Nat) (w : World) (hb : BI w p n xs) (hN : N = Bit.cnt m) :
    Calls Try.prog 15 #[.slice p n c, .int .i64 m, .int .i64 fr] w fun e w' => e = .returned (.tuple #[.int .i64 (Bit.fI (Bit.look xs N (Bit.start N fr) N)), .bool (Bit.look xs N (Bit.start N fr) N).isSome]) ∧ ∃ k, w' = w.drewN k := by
  have hm := Bit.cnt_le m
  have hc := counted_ok m w
  rw [← hN] at hc hm
  clear hN
  obtain ⟨F, HF⟩ : ∃ F, Hid (Bit.start N fr = F) := ⟨_, rfl⟩
  have hF : F ≤ N := by rw [← HF.out]; unfold Bit.start; split <;> omega
  rw [HF.out]
  have hcs : (fr < 0 ∧ F = 0) ∨ (0 ≤ fr ∧ (N : Int) ≤ fr ∧ F = 0) ∨ (0 ≤ fr ∧ fr < N ∧ fr = (F : Int)) := by
    rw [← HF.out]; unfold Bit.start; split <;> omega
  clear HF
  rcases hcs with ⟨h0, rfl⟩ | ⟨h0, h1, rfl⟩ | ⟨h0, h1, rfl⟩
  · go_enter Try.func15, Try.ntmps15
    go_wp2_with (first | (go_at_call 28; refine same_at hc ?_))
    go_loopw [20] (fun i wr => ∃ j q : Nat, j ≤ N ∧ i = .int .i64 (j : Int) ∧ Bit.look xs N 0 j = none ∧ wr = w.drewN q) (fun i _ => N - (intOf i).toNat)
    case atStart => exact ⟨0, 0, by omega, rfl, rfl, rfl⟩
    case round =>
      obtain ⟨j, q, hj, rfl, hno, rfl⟩ := hrel
      by_cases hlt : j < N
      · have hmod : (((0 + j) % N : Nat) : Int) = ((j : Int)) % (N : Int) := by simp
        have hlt2 : (0 + j) % N < N := Nat.mod_lt _ (by omega)
        have hh := has_nat p n c xs ((0 + j) % N) (w.drewN q) (hb.drewN q) (by omega)
        have hS : Bit.look xs N 0 (j + 1) = if Bit.on xs ((0 + j) % N) then none else some ((0 + j) % N) := by simp only [Bit.look]; rw [hno]
        have HS := (show Hid _ from hS)
        have HM := (show Hid _ from hmod)
        have hjI : (j : Int) < (N : Int) := by omega
        have hNp : (0 : Int) < (N : Int) := by omega
        have hNp1 : (1 : Int) ≤ (N : Int) := by omega
        obtain ⟨r, hr⟩ : ∃ r, (0 + j) % N = r := ⟨_, rfl⟩
        rw [hr] at hh HS HM hlt2
        rw [HM.out] at hh
        clear hS hmod hr hno
        cases ho : Bit.on xs r
        · rw [ho] at hh HS
          have HO := (show Hid _ from ho)
          have hend := Bit.look_on xs N 0 HS.out (N - (j + 1))
          rw [show j + 1 + (N - (j + 1)) = N by omega] at hend
          have HE := (show Hid _ from hend)
          clear ho hend
          go_wp2_with (first | (go_at_call 12; refine drew_at hh ?_; intro k))
          go_ret2
          rw [HE.out]
          exact ⟨by rw [← HM.out]; rfl, _, rfl⟩
        · rw [ho] at hh HS
          have HO := (show Hid _ from ho)
          clear ho
          go_wp2_with (first | (go_at_call 12; refine drew_at hh ?_; intro k))
          go_roundw
          case rel => exact ⟨j + 1, q + k, by omega, by go_num, by rw [HS.out]; rfl, by simp⟩
          case measure => simp [intOf]; omega
      · obtain rfl : j = N := by omega
        have HN := (show Hid _ from hno)
        clear hno
        go_wp2
        go_ret2
        rw [HN.out]
        exact ⟨rfl, _, rfl⟩
  · go_enter Try.func15, Try.ntmps15
    go_wp2_with (first | (go_at_call 28; refine same_at hc ?_))
    go_loopw [20] (fun i wr => ∃ j q : Nat, j ≤ N ∧ i = .int .i64 (j : Int) ∧ Bit.look xs N 0 j = none ∧ wr = w.drewN q) (fun i _ => N - (intOf i).toNat)
    case atStart => exact ⟨0, 0, by omega, rfl, rfl, rfl⟩
    case round =>
      obtain ⟨j, q, hj, rfl, hno, rfl⟩ := hrel
      by_cases hlt : j < N
      · have hmod : (((0 + j) % N : Nat) : Int) = ((j : Int)) % (N : Int) := by simp
        have hlt2 : (0 + j) % N < N := Nat.mod_lt _ (by omega)
        have hh := has_nat p n c xs ((0 + j) % N) (w.drewN q) (hb.drewN q) (by omega)
        have hS : Bit.look xs N 0 (j + 1) = if Bit.on xs ((0 + j) % N) then none else some ((0 + j) % N) := by simp only [Bit.look]; rw [hno]
        have HS := (show Hid _ from hS)
        have HM := (show Hid _ from hmod)
        have hjI : (j : Int) < (N : Int) := by omega
        have hNp : (0 : Int) < (N : Int) := by omega
        have hNp1 : (1 : Int) ≤ (N : Int) := by omega
        obtain ⟨r, hr⟩ : ∃ r, (0 + j) % N = r := ⟨_, rfl⟩
        rw [hr] at hh HS HM hlt2
        rw [HM.out] at hh
        clear hS hmod hr hno
        cases ho : Bit.on xs r
        · rw [ho] at hh HS
          have HO := (show Hid _ from ho)
          have hend := Bit.look_on xs N 0 HS.out (N - (j + 1))
          rw [show j + 1 + (N - (j + 1)) = N by omega] at hend
          have HE := (show Hid _ from hend)
          clear ho hend
          go_wp2_with (first | (go_at_call 12; refine drew_at hh ?_; intro k))
          go_ret2
          rw [HE.out]
          exact ⟨by rw [← HM.out]; rfl, _, rfl⟩
        · rw [ho] at hh HS
          have HO := (show Hid _ from ho)
          clear ho
          go_wp2_with (first | (go_at_call 12; refine drew_at hh ?_; intro k))
          go_roundw
          case rel => exact ⟨j + 1, q + k, by omega, by go_num, by rw [HS.out]; rfl, by simp⟩
          case measure => simp [intOf]; omega
      · obtain rfl : j = N := by omega
        have HN := (show Hid _ from hno)
        clear hno
        go_wp2
        go_ret2
        rw [HN.out]
        exact ⟨rfl, _, rfl⟩
  · have d1 : decide ((F : Int) < 0) = false := decide_eq_false (by omega)
    have d2 : decide ((N : Int) ≤ (F : Int)) = false := decide_eq_false (by omega)
    have d3 : decide (N ≤ F) = false := decide_eq_false (by omega)
    go_enter Try.func15, Try.ntmps15
    go_wp2_with (first | (go_at_call 28; refine same_at hc ?_))
    go_loopw [20] (fun i wr => ∃ j q : Nat, j ≤ N ∧ i = .int .i64 (j : Int) ∧ Bit.look xs N F j = none ∧ wr = w.drewN q) (fun i _ => N - (intOf i).toNat)
    case atStart => exact ⟨0, 0, by omega, rfl, rfl, rfl⟩
    case round =>
      obtain ⟨j, q, hj, rfl, hno, rfl⟩ := hrel
      by_cases hlt : j < N
      · have hmod : (((F + j) % N : Nat) : Int) = ((F : Int) + (j : Int)) % (N : Int) := by simp
        have hlt2 : (F + j) % N < N := Nat.mod_lt _ (by omega)
        have hh := has_nat p n c xs ((F + j) % N) (w.drewN q) (hb.drewN q) (by omega)
        have hS : Bit.look xs N F (j + 1) = if Bit.on xs ((F + j) % N) then none else some ((F + j) % N) := by simp only [Bit.look]; rw [hno]
        have HS := (show Hid _ from hS)
        have HM := (show Hid _ from hmod)
        have hjI : (j : Int) < (N : Int) := by omega
        have hNp : (0 : Int) < (N : Int) := by omega
        have hNp1 : (1 : Int) ≤ (N : Int) := by omega
        obtain ⟨r, hr⟩ : ∃ r, (F + j) % N = r := ⟨_, rfl⟩
        rw [hr] at hh HS HM hlt2
        rw [HM.out] at hh
        clear hS hmod hr hno
        cases ho : Bit.on xs r
        · rw [ho] at hh HS
          have HO := (show Hid _ from ho)
          have hend := Bit.look_on xs N F HS.out (N - (j + 1))
          rw [show j + 1 + (N - (j + 1)) = N by omega] at hend
          have HE := (show Hid _ from hend)
          clear ho hend
          go_wp2_with (first | (go_at_call 12; refine drew_at hh ?_; intro k))
          go_ret2
          rw [HE.out]
          exact ⟨by rw [← HM.out]; rfl, _, rfl⟩
        · rw [ho] at hh HS
          have HO := (show Hid _ from ho)
          clear ho
          go_wp2_with (first | (go_at_call 12; refine drew_at hh ?_; intro k))
          go_roundw
          case rel => exact ⟨j + 1, q + k, by omega, by go_num, by rw [HS.out]; rfl, by simp⟩
          case measure => simp [intOf]; omega
      · obtain rfl : j = N := by omega
        have HN := (show Hid _ from hno)
        clear hno
        go_wp2
        go_ret2
        rw [HN.out]
        exact ⟨rfl, _, rfl⟩

set_option maxHeartbeats 400000 in
theorem rfirst_from (p : Option Addr) (n c : Nat) (xs : List Int) (m fr : Int) (N : Nat) (w : World) (hb : BI w p n xs) (hN : N = Bit.cnt m) :
    Calls Try.prog 16 #[.slice p n c, .int .i64 m, .int .i64 fr] w fun e w' => e = .returned (.tuple #[.int .i64 (Bit.fI (Bit.look xs N (Bit.start N fr) N)), .bool (Bit.look xs N (Bit.start N fr) N).isSome]) ∧ ∃ k, w' = w.drewN k := by
  have hm := Bit.cnt_le m
  have hc := first_ok m w
  rw [← hN] at hc hm
  clear hN
  obtain ⟨F, HF⟩ : ∃ F, Hid (Bit.start N fr = F) := ⟨_, rfl⟩
  have hF : F ≤ N := by rw [← HF.out]; unfold Bit.start; split <;> omega
  rw [HF.out]
  have hcs : (fr < 0 ∧ F = 0) ∨ (0 ≤ fr ∧ (N : Int) ≤ fr ∧ F = 0) ∨ (0 ≤ fr ∧ fr < N ∧ fr = (F : Int)) := by
    rw [← HF.out]; unfold Bit.start; split <;> omega
  clear HF
  rcases hcs with ⟨h0, rfl⟩ | ⟨h0, h1, rfl⟩ | ⟨h0, h1, rfl⟩
  · go_enter Try.func16, Try.ntmps16
    go_wp2_with (first | (go_at_call 29; refine same_at hc ?_))
    go_loopw [20] (fun i wr => ∃ j q : Nat, j ≤ N ∧ i = .int .i64 (j : Int) ∧ Bit.look xs N 0 j = none ∧ wr = w.drewN q) (fun i _ => N - (intOf i).toNat)
    case atStart => exact ⟨0, 0, by omega, rfl, rfl, rfl⟩
    case round =>
      obtain ⟨j, q, hj, rfl, hno, rfl⟩ := hrel
      by_cases hlt : j < N
      · have hmod : (((0 + j) % N : Nat) : Int) = ((j : Int)) % (N : Int) := by simp
        have hlt2 : (0 + j) % N < N := Nat.mod_lt _ (by omega)
        have hh := rhas_nat p n c xs ((0 + j) % N) (w.drewN q) (hb.drewN q) (by omega)
        have hS : Bit.look xs N 0 (j + 1) = if Bit.on xs ((0 + j) % N) then none else some ((0 + j) % N) := by simp only [Bit.look]; rw [hno]
        have HS := (show Hid _ from hS)
        have HM := (show Hid _ from hmod)
        have hjI : (j : Int) < (N : Int) := by omega
        have hNp : (0 : Int) < (N : Int) := by omega
        have hNp1 : (1 : Int) ≤ (N : Int) := by omega
        obtain ⟨r, hr⟩ : ∃ r, (0 + j) % N = r := ⟨_, rfl⟩
        rw [hr] at hh HS HM hlt2
        rw [HM.out] at hh
        clear hS hmod hr hno
        cases ho : Bit.on xs r
        · rw [ho] at hh HS
          have HO := (show Hid _ from ho)
          have hend := Bit.look_on xs N 0 HS.out (N - (j + 1))
          rw [show j + 1 + (N - (j + 1)) = N by omega] at hend
          have HE := (show Hid _ from hend)
          clear ho hend
          go_wp2_with (first | (go_at_call 13; refine drew_at hh ?_; intro k))
          go_ret2
          rw [HE.out]
          exact ⟨by rw [← HM.out]; rfl, _, rfl⟩
        · rw [ho] at hh HS
          have HO := (show Hid _ from ho)
          clear ho
          go_wp2_with (first | (go_at_call 13; refine drew_at hh ?_; intro k))
          go_roundw
          case rel => exact ⟨j + 1, q + k, by omega, by go_num, by rw [HS.out]; rfl, by simp⟩
          case measure => simp [intOf]; omega
      · obtain rfl : j = N := by omega
        have HN := (show Hid _ from hno)
        clear hno
        go_wp2
        go_ret2
        rw [HN.out]
        exact ⟨rfl, _, rfl⟩
  · go_enter Try.func16, Try.ntmps16
    go_wp2_with (first | (go_at_call 29; refine same_at hc ?_))
    go_loopw [20] (fun i wr => ∃ j q : Nat, j ≤ N ∧ i = .int .i64 (j : Int) ∧ Bit.look xs N 0 j = none ∧ wr = w.drewN q) (fun i _ => N - (intOf i).toNat)
    case atStart => exact ⟨0, 0, by omega, rfl, rfl, rfl⟩
    case round =>
      obtain ⟨j, q, hj, rfl, hno, rfl⟩ := hrel
      by_cases hlt : j < N
      · have hmod : (((0 + j) % N : Nat) : Int) = ((j : Int)) % (N : Int) := by simp
        have hlt2 : (0 + j) % N < N := Nat.mod_lt _ (by omega)
        have hh := rhas_nat p n c xs ((0 + j) % N) (w.drewN q) (hb.drewN q) (by omega)
        have hS : Bit.look xs N 0 (j + 1) = if Bit.on xs ((0 + j) % N) then none else some ((0 + j) % N) := by simp only [Bit.look]; rw [hno]
        have HS := (show Hid _ from hS)
        have HM := (show Hid _ from hmod)
        have hjI : (j : Int) < (N : Int) := by omega
        have hNp : (0 : Int) < (N : Int) := by omega
        have hNp1 : (1 : Int) ≤ (N : Int) := by omega
        obtain ⟨r, hr⟩ : ∃ r, (0 + j) % N = r := ⟨_, rfl⟩
        rw [hr] at hh HS HM hlt2
        rw [HM.out] at hh
        clear hS hmod hr hno
        cases ho : Bit.on xs r
        · rw [ho] at hh HS
          have HO := (show Hid _ from ho)
          have hend := Bit.look_on xs N 0 HS.out (N - (j + 1))
          rw [show j + 1 + (N - (j + 1)) = N by omega] at hend
          have HE := (show Hid _ from hend)
          clear ho hend
          go_wp2_with (first | (go_at_call 13; refine drew_at hh ?_; intro k))
          go_ret2
          rw [HE.out]
          exact ⟨by rw [← HM.out]; rfl, _, rfl⟩
        · rw [ho] at hh HS
          have HO := (show Hid _ from ho)
          clear ho
          go_wp2_with (first | (go_at_call 13; refine drew_at hh ?_; intro k))
          go_roundw
          case rel => exact ⟨j + 1, q + k, by omega, by go_num, by rw [HS.out]; rfl, by simp⟩
          case measure => simp [intOf]; omega
      · obtain rfl : j = N := by omega
        have HN := (show Hid _ from hno)
        clear hno
        go_wp2
        go_ret2
        rw [HN.out]
        exact ⟨rfl, _, rfl⟩
  · have d1 : decide ((F : Int) < 0) = false := decide_eq_false (by omega)
    have d2 : decide ((N : Int) ≤ (F : Int)) = false := decide_eq_false (by omega)
    have d3 : decide (N ≤ F) = false := decide_eq_false (by omega)
    go_enter Try.func16, Try.ntmps16
    go_wp2_with (first | (go_at_call 29; refine same_at hc ?_))
    go_loopw [20] (fun i wr => ∃ j q : Nat, j ≤ N ∧ i = .int .i64 (j : Int) ∧ Bit.look xs N F j = none ∧ wr = w.drewN q) (fun i _ => N - (intOf i).toNat)
    case atStart => exact ⟨0, 0, by omega, rfl, rfl, rfl⟩
    case round =>
      obtain ⟨j, q, hj, rfl, hno, rfl⟩ := hrel
      by_cases hlt : j < N
      · have hmod : (((F + j) % N : Nat) : Int) = ((F : Int) + (j : Int)) % (N : Int) := by simp
        have hlt2 : (F + j) % N < N := Nat.mod_lt _ (by omega)
        have hh := rhas_nat p n c xs ((F + j) % N) (w.drewN q) (hb.drewN q) (by omega)
        have hS : Bit.look xs N F (j + 1) = if Bit.on xs ((F + j) % N) then none else some ((F + j) % N) := by simp only [Bit.look]; rw [hno]
        have HS := (show Hid _ from hS)
        have HM := (show Hid _ from hmod)
        have hjI : (j : Int) < (N : Int) := by omega
        have hNp : (0 : Int) < (N : Int) := by omega
        have hNp1 : (1 : Int) ≤ (N : Int) := by omega
        obtain ⟨r, hr⟩ : ∃ r, (F + j) % N = r := ⟨_, rfl⟩
        rw [hr] at hh HS HM hlt2
        rw [HM.out] at hh
        clear hS hmod hr hno
        cases ho : Bit.on xs r
        · rw [ho] at hh HS
          have HO := (show Hid _ from ho)
          have hend := Bit.look_on xs N F HS.out (N - (j + 1))
          rw [show j + 1 + (N - (j + 1)) = N by omega] at hend
          have HE := (show Hid _ from hend)
          clear ho hend
          go_wp2_with (first | (go_at_call 13; refine drew_at hh ?_; intro k))
          go_ret2
          rw [HE.out]
          exact ⟨by rw [← HM.out]; rfl, _, rfl⟩
        · rw [ho] at hh HS
          have HO := (show Hid _ from ho)
          clear ho
          go_wp2_with (first | (go_at_call 13; refine drew_at hh ?_; intro k))
          go_roundw
          case rel => exact ⟨j + 1, q + k, by omega, by go_num, by rw [HS.out]; rfl, by simp⟩
          case measure => simp [intOf]; omega
      · obtain rfl : j = N := by omega
        have HN := (show Hid _ from hno)
        clear hno
        go_wp2
        go_ret2
        rw [HN.out]
        exact ⟨rfl, _, rfl⟩

end Go.Proofs.Ytppipcjchlnolaa
