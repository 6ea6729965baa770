/- The stretches of a row: the iterator hands them on one by one, in order. -/
import Derived.Test.YtppipcjchlnolaaApart
import Derived.RangeFuncNested
import Derived.RangeFuncBound
import Derived.RangeFuncCalls
import Derived.RangeFuncLeaves
import Derived.RangeFuncBox
import Derived.Shelf.Abstract
import Derived.Shelf.RegionOpen
import Derived.OwnWalkIn
import Derived.TacticsInMore
import Derived.LoopNIn
import Derived.LoopIn
namespace Go.Proofs.Ytppipcjchlnolaa
open Go.RowKit Go.Shelf
set_option linter.unusedVariables false
attribute [local go_sem] Oper.semAt_some

namespace Bit
/-- The stretches that have ended among the first i bits, and the length of the one that goes on. -/
def rr (xs : List Int) : Nat → List (Int × Int) × Nat
  | 0 => ([], 0)
  | i + 1 => if on xs i then ((if (rr xs i).2 = 0 then (rr xs i).1 else (rr xs i).1 ++ [((i : Int) - (rr xs i).2, ((rr xs i).2 : Int))]), 0) else ((rr xs i).1, (rr xs i).2 + 1)
def sts (xs : List Int) (m : Nat) : List (Int × Int) := if (rr xs m).2 = 0 then (rr xs m).1 else (rr xs m).1 ++ [((m : Int) - (rr xs m).2, ((rr xs m).2 : Int))]
theorem rr_len (xs : List Int) (i : Nat) : (rr xs i).1.length + (rr xs i).2 ≤ i := by
  induction i with
  | zero => simp [rr]
  | succ i ih =>
    simp only [rr]
    by_cases h : on xs i = true
    · rw [if_pos h]
      by_cases h0 : (rr xs i).2 = 0
      · simp only [h0, if_true]; omega
      · simp only [h0, if_false, List.length_append, List.length_cons, List.length_nil]; omega
    · rw [if_neg h]; simp only; omega
end Bit

/-- What a round of the loop over the stretches keeps: all below n₀, and the two boxes. -/
def Kb (n₀ a b : Nat) (W W' : World) : Prop := Below n₀ W W' ∧ W'.heap[a]? = W.heap[a]? ∧ W'.heap[b]? = W.heap[b]?
theorem Kb.refl (n₀ a b : Nat) (W : World) : Kb n₀ a b W W := ⟨Below.refl _ _, rfl, rfl⟩
theorem Kb.t {n₀ a b : Nat} {A B C : World} (h : Kb n₀ a b A B) (k : Kb n₀ a b B C) : Kb n₀ a b A C := ⟨h.1.trans k.1, k.2.1.trans h.2.1, k.2.2.trans h.2.2⟩
theorem Kb.b {n₀ a b : Nat} {w : World} (h0 : n₀ ≤ w.heap.size) (ha : a < w.heap.size) (hb : b < w.heap.size) (W : World) (l : Nat) (o o' : Obj) (hl : w.heap.size ≤ l) (hW : W.heap[l]? = some o) (h1 : o.isCells = false) (h2 : o.isWalk = false) : Kb n₀ a b W (W.putObj l o') :=
  ⟨belowK_b h0 W l o o' hl hW h1 h2, World.putObj_heap_other (by omega), World.putObj_heap_other (by omega)⟩
theorem grownBy_drewN (W : World) (k : Nat) : W.grownBy (W.drewN k) none := ⟨rfl, rfl, rfl, Nat.le_refl _, fun _ _ _ => rfl⟩

abbrev encP (x : Int × Int) : Array Value := #[.int .i64 x.1, .int .i64 x.2]

set_option maxRecDepth 100000 in
set_option maxHeartbeats 1000000 in
theorem stretches1_in (m l a b n₀ e : Nat) (hm : 1 ≤ m) (he : e ≤ 65536) (p : Option Addr) (n c : Nat) (xs : List Int) (J Jx : List (Int × Int) → World → Prop)
    (hY : ∀ pre x W, J pre W → pre.length < e → YieldAt Fence.wide (m - 1) Try.prog l (encP x) W fun e W' =>
      (e = .returned (.bool true) ∧ J (pre ++ [x]) W' ∧ Kb n₀ a b W W') ∨ (e = .returned (.bool false) ∧ Jx (pre ++ [x]) W'))
    (W : World) (hJ : ∀ pre W k, J pre W → J pre (W.drewN k))
    (ha : Boxed W a 3 (.int .i64 (e : Int))) (hb : Boxed W b 22 (.slice p n c)) (hrow : ∀ W', Below n₀ W W' → BI W' p n xs) (h0 : J [] W) :
    CallsIn Fence.wide m Try.prog 31 #[.func (.yield l) #[] #[], .pointer (some ⟨a, 0, none⟩), .pointer (some ⟨b, 0, none⟩)] W fun e' W' => (∃ v, e' = .returned v) ∧
      ((∃ ys, ys = Bit.sts xs e ∧ J ys W') ∨ (∃ pre : List (Int × Int), True ∧ Jx pre W')) := by
  have hf12 : Fence.wide.fn 12 := trivial
  refine callsIn_of_wp Try.func31 rfl trivial ?_ rfl
  simp only [Try.ntmps31, List.size_toArray, List.length_cons, List.length_nil, Nat.reduceAdd, Nat.reduceSub, Array.replicate_succ, Array.replicate_zero, List.push_toArray, List.append_toArray, List.nil_append, List.cons_append]
  gi_wp2
  gi_loopw [4] (fun i wr => ∃ (j : Nat) (pre : List (Int × Int)), i = .int .i64 (j : Int) ∧ ((j ≤ e ∧ Bit.rr xs j = (pre, 0)) ∨ (j = e + 1 ∧ pre = Bit.sts xs e)) ∧ Kb n₀ a b W wr ∧ J pre wr)
    (fun i _ => e + 1 - (intOf i).toNat)
  case atStart => exact ⟨0, [], rfl, .inl ⟨by omega, rfl⟩, Kb.refl _ _ _ _, h0⟩
  case round =>
    obtain ⟨j, pre, rfl, hj, hk, hJs⟩ := hrel
    have ha1 : Boxed wr a 3 (.int .i64 (e : Int)) := hk.2.1.trans ha
    have hb1 : Boxed wr b 22 (.slice p n c) := hk.2.2.trans hb
    have hca := ha1.cell
    have hcb := hb1.cell
    by_cases hlt : j < e
    · have hI : (j : Int) < (e : Int) := by omega
      obtain ⟨hje, hrr⟩ : j ≤ e ∧ Bit.rr xs j = (pre, 0) := by
        rcases hj with h | ⟨h, _⟩
        · exact h
        · omega
      have hpl : pre.length ≤ j := by have := Bit.rr_len xs j; rw [hrr] at this; simpa using this
      have HR := (show Hid _ from hrr)
      clear hrr hj
      gi_wp2
      gi_loopw [4] (fun i w2 => ∃ (t q : Nat), j ≤ t ∧ t ≤ e ∧ i = .int .i64 (t : Int) ∧ Hid (Bit.rr xs t = (pre, t - j)) ∧ w2 = wr.drewN q)
        (fun i _ => e - (intOf i).toNat)
      case atStart => exact ⟨j, 0, Nat.le_refl _, hje, rfl, by rw [Nat.sub_self]; exact HR, rfl⟩
      case round =>
        obtain ⟨t, q, htj, hte, rfl, HT, rfl⟩ := hrel
        by_cases ht : t < e
        · have htI : (t : Int) < (e : Int) := by omega
          have hh := has_nat p n c xs t (wr.drewN q) ((hrow wr hk.1).drewN q) (by omega)
          have HS : Hid (Bit.rr xs (t + 1) = if Bit.on xs t then ((if (Bit.rr xs t).2 = 0 then (Bit.rr xs t).1 else (Bit.rr xs t).1 ++ [((t : Int) - (Bit.rr xs t).2, ((Bit.rr xs t).2 : Int))]), 0) else ((Bit.rr xs t).1, (Bit.rr xs t).2 + 1)) := rfl
          cases ho : Bit.on xs t
          · rw [ho] at hh HS
            clear ho
            gi_wp2_with (first | (gi_at_call 12; refine (callsIn_wide.2 hh).mono ?_; rintro _ w3 ⟨rfl, k, rfl⟩))
            go_roundw
            case rel =>
              refine ⟨t + 1, q + k, by omega, by omega, by go_num, ?_, by simp⟩
              show Bit.rr xs (t + 1) = _
              rw [HS.out, HT.out]
              simp
              omega
            case measure => simp [intOf]; omega
          · rw [ho] at hh HS
            have HO := (show Hid _ from ho)
            clear ho
            by_cases hgt : j < t
            · have hgI : (j : Int) < (t : Int) := by omega
              have hout := fun k => hY pre ((j : Int), (t : Int) - (j : Int)) (wr.drewN (q + k)) (hJ _ _ _ hJs) (by omega)
              gi_wp2_with (first | (gi_at_call 12; refine (callsIn_wide.2 hh).mono ?_; rintro _ w3 ⟨rfl, k, rfl⟩; obtain ⟨fn, tmps, assign, body, hy, hR⟩ := hout k; dsimp only [encP] at hy))
              refine hR.mono ?_
              have HW : Hid (Bit.rr xs (t + 1) = (pre ++ [((j : Int), (t : Int) - (j : Int))], 0)) := by
                show Bit.rr xs (t + 1) = _
                rw [HS.out, HT.out]
                simp only [if_true, show ¬ t - j = 0 by omega, if_false]
                rw [show (t : Int) - ((t - j : Nat) : Int) = (j : Int) by omega, show ((t - j : Nat) : Int) = (t : Int) - (j : Int) by omega]
              rintro e3 W3 (⟨rfl, hJ3, hk3⟩ | ⟨rfl, hJx3⟩)
              · gi_wp2
                go_roundw
                case rel => exact ⟨t + 1, _, by go_num, .inl ⟨by omega, HW.out⟩, (hk.t ⟨below_drewN (Below.refl _ _) _, rfl, rfl⟩).t hk3, hJ3⟩
                case measure => simp [intOf]; omega
              · gi_wp2
                refine bodyPost_ret (results_none rfl _ _ _) rfl ?_
                exact ⟨⟨_, rfl⟩, .inr ⟨_, trivial, hJx3⟩⟩
            · obtain rfl : t = j := by omega
              gi_wp2_with (first | (gi_at_call 12; refine (callsIn_wide.2 hh).mono ?_; rintro _ w3 ⟨rfl, k, rfl⟩))
              refine ⟨fun _ h => (by cases h), ?_⟩
              gi_wp2
              go_roundw
              case rel =>
                refine ⟨t + 1, pre, by go_num, .inl ⟨by omega, ?_⟩, hk.t ⟨below_drewN (Below.refl _ _) _, rfl, rfl⟩, hJ _ _ _ hJs⟩
                rw [HS.out, HT.out]
                simp
              case measure => simp [intOf]; omega
        · have htI : ¬ (t : Int) < (e : Int) := by omega
          have hd : decide ((t : Int) < (e : Int)) = false := decide_eq_false htI
          obtain rfl : t = e := by omega
          have hgI : (j : Int) < (t : Int) := by omega
          obtain ⟨fn, tmps, assign, body, hy, hR⟩ := hY pre ((j : Int), (t : Int) - (j : Int)) (wr.drewN q) (hJ _ _ _ hJs) (by omega)
          dsimp only [encP] at hy
          have HW : Hid (pre ++ [((j : Int), (t : Int) - (j : Int))] = Bit.sts xs t) := by
            show _ = Bit.sts xs t
            unfold Bit.sts
            rw [HT.out]
            simp only [show ¬ t - j = 0 by omega, if_false]
            rw [show (t : Int) - ((t - j : Nat) : Int) = (j : Int) by omega, show ((t - j : Nat) : Int) = (t : Int) - (j : Int) by omega]
          gi_wp2
          refine hR.mono ?_
          rintro e3 W3 (⟨rfl, hJ3, hk3⟩ | ⟨rfl, hJx3⟩)
          · gi_wp2
            go_roundw
            case rel => exact ⟨t + 1, _, by go_num, .inr ⟨rfl, HW.out⟩, (hk.t ⟨below_drewN (Below.refl _ _) _, rfl, rfl⟩).t hk3, hJ3⟩
            case measure => simp [intOf]; omega
          · gi_wp2
            refine bodyPost_ret (results_none rfl _ _ _) rfl ?_
            exact ⟨⟨_, rfl⟩, .inr ⟨_, trivial, hJx3⟩⟩
    · have hI : ¬ (j : Int) < (e : Int) := by omega
      have hS : pre = Bit.sts xs e := by
        rcases hj with ⟨h, hr⟩ | ⟨_, h⟩
        · obtain rfl : j = e := by omega
          unfold Bit.sts
          rw [hr]
          simp
        · exact h
      have HS := (show Hid _ from hS)
      clear hS hj
      gi_wp2
      go_end0
      exact ⟨⟨_, rfl⟩, .inl (by rw [← HS.out]; exact hJs)⟩

set_option maxHeartbeats 1000000 in
/-- The iterator of a row's stretches: two boxes, for the row and for how many bits count. -/
theorem stretches_in (m : Nat) (hm : 1 ≤ m) (p : Option Addr) (n c : Nat) (M : Int) (w : World) :
    CallsIn Fence.wide m Try.prog 30 #[.slice p n c, .int .i64 M] w fun e w' => e = .returned (.func (.func 31) #[] #[.pointer (some ⟨w.heap.size + 1, 0, none⟩), .pointer (some ⟨w.heap.size, 0, none⟩)]) ∧
      w' = (w.alloc (.cells #[.slice p n c] 22)).alloc (.cells #[.int .i64 (Bit.cnt M : Int)] 3) := by
  have hf : Fence.wide.fn 28 := trivial
  refine callsIn_of_wp Try.func30 rfl trivial ?_ rfl
  simp only [Try.ntmps30, List.size_toArray, List.length_cons, List.length_nil, Nat.reduceAdd, Nat.reduceSub, Array.replicate_succ, Array.replicate_zero, List.push_toArray, List.append_toArray, List.nil_append, List.cons_append]
  gi_wp2_with (first | (gi_at_call 28; refine (callsIn_wide.2 (counted_ok M _)).mono ?_; rintro _ w3 ⟨rfl, rfl⟩))
  go_ret
  exact ⟨rfl, rfl⟩

theorem stretches_stops (m a b n₀ e : Nat) (hm : 1 ≤ m) (he : e ≤ 65536) (p : Option Addr) (n c : Nat) (xs : List Int) (w : World) (hn : n₀ ≤ w.heap.size)
    (ha : Boxed w a 3 (.int .i64 (e : Int))) (hb : Boxed w b 22 (.slice p n c)) (hrow : ∀ W', Below n₀ w W' → BI W' p n xs) :
    SeqStopsK Fence.wide m Try.prog 31 #[.pointer (some ⟨a, 0, none⟩), .pointer (some ⟨b, 0, none⟩)] encP (Kb n₀ a b) (fun ys => ys = Bit.sts xs e) (fun _ => True) e w := fun l J Jx W hW hJ _ hY h0 =>
  stretches1_in m l a b n₀ e hm he p n c xs J Jx hY W (fun pre W' k h => hJ pre W' _ none h (grownBy_drewN W' k) (by simp)) ((hW.block a ha.lt).trans ha) ((hW.block b hb.lt).trans hb) (fun W' h => hrow W' ((hW.mono hn).trans h)) h0
end Go.Proofs.Ytppipcjchlnolaa
