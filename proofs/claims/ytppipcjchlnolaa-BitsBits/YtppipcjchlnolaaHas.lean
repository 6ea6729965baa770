/- Bits of a row: what Has, With and the document's Has and With answer. -/
import Derived.Test.YtppipcjchlnolaaMem
namespace Go.Proofs.Ytppipcjchlnolaa
open Go.RowKit
set_option linter.unusedVariables false

namespace Bit
def mk (i : Nat) : Int := 2 ^ (i % 8)
theorem mk_cases (i : Nat) : mk i = 1 ∨ mk i = 2 ∨ mk i = 4 ∨ mk i = 8 ∨ mk i = 16 ∨ mk i = 32 ∨ mk i = 64 ∨ mk i = 128 := by
  unfold mk
  have : i % 8 < 8 := Nat.mod_lt _ (by decide)
  generalize i % 8 = k at *
  rcases (by omega : k = 0 ∨ k = 1 ∨ k = 2 ∨ k = 3 ∨ k = 4 ∨ k = 5 ∨ k = 6 ∨ k = 7) with rfl | rfl | rfl | rfl | rfl | rfl | rfl | rfl <;> simp
def on (xs : List Int) (i : Nat) : Bool := decide (xs.getD (i / 8) 0 / mk i % 2 = 1)
def onI (xs : List Int) (i : Int) : Bool := decide (0 ≤ i) && on xs i.toNat
/-- A number of first bits as it counts. -/
def cnt (n : Int) : Nat := if n < 0 then 0 else if 65536 < n then 65536 else n.toNat
theorem cnt_le (n : Int) : cnt n ≤ 65536 := by
  unfold cnt
  repeat' split
  all_goals omega
theorem cnt_is (n : Int) : (n < 0 ∧ (cnt n : Int) = 0) ∨ (65536 < n ∧ (cnt n : Int) = 65536) ∨ (0 ≤ n ∧ n ≤ 65536 ∧ (cnt n : Int) = n) := by
  unfold cnt
  repeat' split
  all_goals omega
def turn (x m : Int) (b : Bool) : Int := if b then (if x / m % 2 = 1 then x else x + m) else (if x / m % 2 = 1 then x - m else x)
def put (xs : List Int) (i : Nat) (b : Bool) : List Int := xs.set (i / 8) (turn (xs.getD (i / 8) 0) (mk i) b)
theorem bits_all : ∀ x : Fin 256, ∀ k : Fin 8, (bits BinOp.and .u8 (x.val : Int) (2 ^ k.val) != 0) = decide ((x.val : Int) / 2 ^ k.val % 2 = 1) ∧ bits BinOp.or .u8 (x.val : Int) (2 ^ k.val) = turn x.val (2 ^ k.val) true ∧ bits BinOp.andNot .u8 (x.val : Int) (2 ^ k.val) = turn x.val (2 ^ k.val) false ∧
    bits BinOp.xor .u8 (x.val : Int) (2 ^ k.val) = turn x.val (2 ^ k.val) (! decide ((x.val : Int) / 2 ^ k.val % 2 = 1)) ∧ (0 ≤ turn x.val (2 ^ k.val) true ∧ turn x.val (2 ^ k.val) true < 256) ∧ (0 ≤ turn x.val (2 ^ k.val) false ∧ turn x.val (2 ^ k.val) false < 256) := by decide +kernel
theorem bits_at (x : Int) (h0 : 0 ≤ x) (h1 : x < 256) (i : Nat) : (bits BinOp.and .u8 x (mk i) != 0) = decide (x / mk i % 2 = 1) ∧ bits BinOp.or .u8 x (mk i) = turn x (mk i) true ∧ bits BinOp.andNot .u8 x (mk i) = turn x (mk i) false ∧
    bits BinOp.xor .u8 x (mk i) = turn x (mk i) (! decide (x / mk i % 2 = 1)) ∧ (0 ≤ turn x (mk i) true ∧ turn x (mk i) true < 256) ∧ (0 ≤ turn x (mk i) false ∧ turn x (mk i) false < 256) := by
  obtain ⟨n, rfl⟩ := Int.eq_ofNat_of_zero_le h0
  exact bits_all ⟨n, by omega⟩ ⟨i % 8, Nat.mod_lt _ (by decide)⟩
theorem turn_bd {xs : List Int} (h : Num.Byt xs) (i : Nat) (b : Bool) (j : Nat) : 0 ≤ turn (xs.getD j 0) (mk i) b ∧ turn (xs.getD j 0) (mk i) b < 256 := by
  have := bits_at _ (h j).1 (h j).2 i
  cases b
  · exact this.2.2.2.2.2
  · exact this.2.2.2.2.1
theorem put_len (xs : List Int) (i : Nat) (b : Bool) : (put xs i b).length = xs.length := by simp [put]
theorem put_byt {xs : List Int} (h : Num.Byt xs) (i : Nat) (b : Bool) : Num.Byt (put xs i b) := by
  intro j
  unfold put
  rw [Num.getD_set]
  split
  · exact turn_bd h i b _
  · exact h j
theorem on_far (xs : List Int) (i : Nat) (h : xs.length ≤ i / 8) : on xs i = false := by
  unfold on
  rw [List.getD_eq_getElem?_getD, List.getElem?_eq_none h]
  simp
end Bit

theorem ret_int {k : IntKind} {a b : Int} (h : a = b) : Ending.returned (.int k a) = .returned (.int k b) := by rw [h]

set_option maxHeartbeats 400000 in
theorem mask_ok (i : Nat) (w : World) (hi : i < 9223372036854775808) :
    Calls Try.prog 27 #[.int .i64 i] w fun e w' => e = .returned (.int .u8 (Bit.mk i)) ∧ w' = w := by
  have H : Hid ((2 : Int) ^ (i % 8) % 256 = Bit.mk i) := by
    show (2 : Int) ^ (i % 8) % 256 = Bit.mk i
    have := Bit.mk_cases i
    unfold Bit.mk at *
    omega
  have h0 : (0 : Int) ≤ (i : Int) := by omega
  go_enter Try.func27, Try.ntmps27
  go_wp2
  go_ret
  exact ⟨by show Ending.returned (.int .u8 _) = _; rw [H.out], rfl⟩

set_option maxHeartbeats 400000 in
theorem within_yes (p : Option Addr) (n c : Nat) (i : Nat) (w : World) (hn : n ≤ 140737488355328) (h : i / 8 < n) (hi : i < 9223372036854775808) :
    Calls Try.prog 26 #[.slice p n c, .int .i64 i] w fun e w' => e = .returned (.bool true) ∧ w' = w := by
  have h0 : (0 : Int) ≤ (i : Int) := by omega
  have h1 : (i : Int) / 8 < (n : Int) := by omega
  go_enter Try.func26, Try.ntmps26
  go_wp2
  go_ret
  exact ⟨rfl, rfl⟩

set_option maxHeartbeats 400000 in
theorem within_no (p : Option Addr) (n c : Nat) (i : Int) (w : World) (hn : n ≤ 140737488355328) (h : i < 0 ∨ (n : Int) ≤ i / 8) (hi : i < 9223372036854775808) :
    Calls Try.prog 26 #[.slice p n c, .int .i64 i] w fun e w' => e = .returned (.bool false) ∧ w' = w := by
  by_cases h0 : i < 0
  · clear h
    go_enter Try.func26, Try.ntmps26
    go_wp2
    go_ret
    exact ⟨rfl, rfl⟩
  · have h0 : (0 : Int) ≤ i := by omega
    have h1 : ¬ i / 8 < (n : Int) := by omega
    have h2 : decide (i / 8 < (n : Int)) = false := decide_eq_false h1
    clear h
    go_enter Try.func26, Try.ntmps26
    go_wp2
    go_ret
    exact ⟨rfl, rfl⟩

set_option maxHeartbeats 400000 in
theorem has_no (p : Option Addr) (n c : Nat) (i : Int) (w : World) (hn : n ≤ 140737488355328) (h : i < 0 ∨ (n : Int) ≤ i / 8) (hi : i < 9223372036854775808) :
    Calls Try.prog 12 #[.slice p n c, .int .i64 i] w fun e w' => e = .returned (.bool false) ∧ ∃ k, w' = w.drewN k := by
  have HH := (show Hid _ from h)
  clear h
  go_enter Try.func12, Try.ntmps12
  go_wp2_with fail
  go_quiet (first | (go_at_call 26; exact Calls.quiet_of_same (within_no p n c i _ hn HH.out hi)))
  go_wp2
  go_ret
  exact ⟨rfl, _, rfl⟩

theorem run_quo8 (i : Nat) (w : World) (hi : i < 9223372036854775808) : (binOp .quo 3 (.int .i64 i) (.int .i64 8)).run Try.prog w = .ok (.int .i64 ((i / 8 : Nat) : Int)) w := by
  have e8 : (i : Int) / 8 = ((i / 8 : Nat) : Int) := by omega
  simp [go_sem]
  exact IntWalk.i64_in _ (by omega)

set_option maxRecDepth 100000 in
set_option maxHeartbeats 400000 in
theorem has_yes (p : Option Addr) (n c : Nat) (xs : List Int) (i : Nat) (w : World) (hb : BI w p n xs) (h : i / 8 < n) (hi : i < 9223372036854775808) :
    Calls Try.prog 12 #[.slice p n c, .int .i64 i] w fun e w' => e = .returned (.bool (Bit.on xs i)) ∧ ∃ k, w' = w.drewN k := by
  have hn := hb.big
  have h0 : (0 : Int) ≤ (i : Int) := by omega
  have h1 : (i : Int) / 8 < (n : Int) := by omega
  obtain ⟨b, o, rfl, hc⟩ := hb.cells (by omega)
  have hc1 := hc (i / 8) h
  have hx := (Bit.bits_at _ (hb.byt (i / 8)).1 (hb.byt (i / 8)).2 i).1
  have HX : Hid ((bits BinOp.and .u8 (xs.getD (i / 8) 0) (Bit.mk i) != 0) = Bit.on xs i) := hx
  clear hc hx hb
  generalize xs.getD (i / 8) 0 = x at *
  have hq := fun W => run_quo8 i W hi
  go_enter Try.func12, Try.ntmps12
  go_wp2_with fail
  go_quiet (first | (go_at_call 26; exact Calls.quiet_of_same (within_yes _ n c i _ hn h hi)) | (go_at_call 27; exact Calls.quiet_of_same (mask_ok i _ hi)))
  go_wp2
  go_ret
  exact ⟨by show Ending.returned (.bool _) = _; rw [HX.out], _, rfl⟩

theorem has_any (p : Option Addr) (n c : Nat) (xs : List Int) (i : Int) (w : World) (hb : BI w p n xs) (hi : i < 9223372036854775808) :
    Calls Try.prog 12 #[.slice p n c, .int .i64 i] w fun e w' => e = .returned (.bool (Bit.onI xs i)) ∧ ∃ k, w' = w.drewN k := by
  have hl := hb.len
  by_cases h : i < 0 ∨ (n : Int) ≤ i / 8
  · have e : Bit.onI xs i = false := by
      unfold Bit.onI
      rcases h with h | h
      · simp [show ¬ 0 ≤ i by omega]
      · rw [Bit.on_far xs i.toNat (by omega)]; simp
    rw [e]
    exact has_no p n c i w hb.big h hi
  · obtain ⟨k, rfl⟩ := Int.eq_ofNat_of_zero_le (show 0 ≤ i by omega)
    have e : Bit.onI xs k = Bit.on xs k := by simp [Bit.onI]
    rw [e]
    exact has_yes p n c xs k w hb (by omega) (by omega)

set_option maxRecDepth 100000 in
set_option maxHeartbeats 400000 in
theorem rhas_no (p : Option Addr) (n c : Nat) (i : Int) (w : World) (hn : n ≤ 140737488355328) (h : i < 0 ∨ (n : Int) ≤ i / 8) (hi : i < 9223372036854775808) :
    Calls Try.prog 13 #[.slice p n c, .int .i64 i] w fun e w' => e = .returned (.bool false) ∧ w' = w := by
  by_cases h0 : i < 0
  · clear h
    go_enter Try.func13, Try.ntmps13
    go_wp2
    go_ret
    exact ⟨rfl, rfl⟩
  · have h0 : (0 : Int) ≤ i := by omega
    have h1 : ¬ i / 8 < (n : Int) := by omega
    have h2 : decide (i / 8 < (n : Int)) = false := decide_eq_false h1
    clear h
    go_enter Try.func13, Try.ntmps13
    go_wp2
    go_ret
    exact ⟨rfl, rfl⟩

set_option maxRecDepth 100000 in
set_option maxHeartbeats 400000 in
theorem rhas_yes (p : Option Addr) (n c : Nat) (xs : List Int) (i : Nat) (w : World) (hb : BI w p n xs) (h : i / 8 < n) (hi : i < 9223372036854775808) :
    Calls Try.prog 13 #[.slice p n c, .int .i64 i] w fun e w' => e = .returned (.bool (Bit.on xs i)) ∧ w' = w := by
  have hn := hb.big
  have h0 : (0 : Int) ≤ (i : Int) := by omega
  have h1 : (i : Int) / 8 < (n : Int) := by omega
  obtain ⟨b, o, rfl, hc⟩ := hb.cells (by omega)
  have hc1 := hc (i / 8) h
  have hy := hb.byt (i / 8)
  have HX : Hid (((xs.getD (i / 8) 0 / 2 ^ (i % 8)).tmod 2 == 1) = Bit.on xs i) := by
    show ((xs.getD (i / 8) 0 / 2 ^ (i % 8)).tmod 2 == 1) = Bit.on xs i
    rw [Int.tmod_eq_emod_of_nonneg (Int.ediv_nonneg hy.1 (Int.le_of_lt (Int.pow_pos (by decide))))]
    unfold Bit.on Bit.mk
    rw [Bool.eq_iff_iff]
    simp
  clear hc hb
  generalize xs.getD (i / 8) 0 = x at *
  have hq := fun W => run_quo8 i W hi
  go_enter Try.func13, Try.ntmps13
  go_wp2
  go_ret
  exact ⟨by show Ending.returned (.bool _) = _; rw [HX.out], rfl⟩

theorem rhas_any (p : Option Addr) (n c : Nat) (xs : List Int) (i : Int) (w : World) (hb : BI w p n xs) (hi : i < 9223372036854775808) :
    Calls Try.prog 13 #[.slice p n c, .int .i64 i] w fun e w' => e = .returned (.bool (Bit.onI xs i)) ∧ w' = w := by
  have hl := hb.len
  by_cases h : i < 0 ∨ (n : Int) ≤ i / 8
  · have e : Bit.onI xs i = false := by
      unfold Bit.onI
      rcases h with h | h
      · simp [show ¬ 0 ≤ i by omega]
      · rw [Bit.on_far xs i.toNat (by omega)]; simp
    rw [e]
    exact rhas_no p n c i w hb.big h hi
  · obtain ⟨k, rfl⟩ := Int.eq_ofNat_of_zero_le (show 0 ≤ i by omega)
    have e : Bit.onI xs k = Bit.on xs k := by simp [Bit.onI]
    rw [e]
    exact rhas_yes p n c xs k w hb (by omega) (by omega)

set_option maxHeartbeats 400000 in
theorem counted_ok (n : Int) (w : World) :
    Calls Try.prog 28 #[.int .i64 n] w fun e w' => e = .returned (.int .i64 (Bit.cnt n : Int)) ∧ w' = w := by
  have HC := (show Hid _ from Bit.cnt_is n)
  go_enter Try.func28, Try.ntmps28
  go_wp2
  all_goals go_ret
  all_goals refine ⟨ret_int ?_, rfl⟩
  all_goals have h := HC.out
  all_goals split at * <;> omega
set_option maxHeartbeats 400000 in
theorem first_ok (n : Int) (w : World) :
    Calls Try.prog 29 #[.int .i64 n] w fun e w' => e = .returned (.int .i64 (Bit.cnt n : Int)) ∧ w' = w := by
  have HC := (show Hid _ from Bit.cnt_is n)
  go_enter Try.func29, Try.ntmps29
  go_wp2
  all_goals go_ret
  all_goals refine ⟨ret_int ?_, rfl⟩
  all_goals have h := HC.out
  all_goals split at * <;> omega
end Go.Proofs.Ytppipcjchlnolaa
