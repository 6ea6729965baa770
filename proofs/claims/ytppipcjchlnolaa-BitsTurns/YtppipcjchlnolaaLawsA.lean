/- BitsCounts, BitsRuns, BitsApart: the statements' own calls return true. -/
import Derived.Test.YtppipcjchlnolaaRRuns
namespace Go.Proofs.Ytppipcjchlnolaa
open Go.RowKit
set_option linter.unusedVariables false

theorem grew_to {P : Program} {f : FuncId} {args : Array Value} {w : World} {v : Value} {Q : Ending → World → Prop} (h : Calls P f args w fun e w' => e = .returned v ∧ Below w.heap.size w w') (hq : ∀ w1, Below w.heap.size w w1 → Q (.returned v) w1) : Calls P f args w Q :=
  h.mono (by rintro e w' ⟨rfl, hb⟩; exact hq w' hb)

set_option maxHeartbeats 1000000 in
theorem bitsCounts_walk (p : Option Addr) (n c : Nat) (xs : List Int) (m fr : Int) (w : World) (hb : BI w p n xs) :
    Calls Try.prog 4 #[.slice p n c, .int .i64 m, .int .i64 fr] w fun e w' => e = .returned (.bool true) ∧ Below w.heap.size w w' := by
  have h1 := first_from p n c xs m fr _ w hb rfl
  have h2 := fun w1 (h : Below w.heap.size w w1) => rfirst_from p n c xs m fr _ w1 (hb.kept h) rfl
  have h3 := fun w1 (h : Below w.heap.size w w1) => count_ok p n c xs m w1 (hb.kept h)
  have h4 := fun w1 (h : Below w.heap.size w w1) => rcount_ok p n c xs m w1 (hb.kept h)
  generalize Bit.fI (Bit.look xs (Bit.cnt m) (Bit.start (Bit.cnt m) fr) (Bit.cnt m)) = A at *
  generalize (Bit.look xs (Bit.cnt m) (Bit.start (Bit.cnt m) fr) (Bit.cnt m)).isSome = B at *
  generalize Bit.count xs (Bit.cnt m) = C at *
  go_enter Try.func4, Try.ntmps4
  go_wp2_with (first
    | (go_at_call 15; refine grew_at h1 ?_; intro wa ha)
    | (go_at_call 16; refine grew_at (h2 wa ha) ?_; intro wb hb'; have ha := grew_trans ha hb')
    | (go_at_call 17; refine grew_at (h3 wb ha) ?_; intro wc hb'; have ha := grew_trans ha hb')
    | (go_at_call 18; refine grew_at (h4 wc ha) ?_; intro wd hb'; have ha := grew_trans ha hb'))
  go_ret
  exact ⟨rfl, ha⟩

set_option maxHeartbeats 1000000 in
theorem bitsRuns_walk (p : Option Addr) (n c : Nat) (xs : List Int) (m : Int) (w : World) (hb : BI w p n xs) :
    Calls Try.prog 5 #[.slice p n c, .int .i64 m] w fun e w' => e = .returned (.bool true) ∧ Below w.heap.size w w' := by
  have h1 := longest_ok p n c xs m w hb
  have h2 := fun w1 (h : Below w.heap.size w w1) => rlongest_ok p n c xs m w1 (hb.kept h)
  have h3 := fun w1 (h : Below w.heap.size w w1) => runs_ok p n c xs m w1 (hb.kept h)
  have h4 := fun w1 (h : Below w.heap.size w w1) => rruns_ok p n c xs m w1 (hb.kept h)
  have hl : (Bit.lens (Bit.sts xs (Bit.cnt m))).length ≤ 140737488355328 := by
    have hc := Bit.cnt_le m
    have hr := Bit.rr_len xs (Bit.cnt m)
    simp only [Bit.lens, List.length_map, Bit.sts]
    by_cases h0 : (Bit.rr xs (Bit.cnt m)).2 = 0
    · rw [if_pos h0]; omega
    · rw [if_neg h0, List.length_append]; simp; omega
  generalize Bit.sts xs (Bit.cnt m) = S at *
  generalize (Bit.best S).1 = A at *
  generalize (Bit.best S).2 = B at *
  go_enter Try.func5, Try.ntmps5
  go_wp2_with (first
    | (go_at_call 19; refine grew_to h1 ?_; intro wa ha)
    | (go_at_call 20; refine grew_at (h2 wa ha) ?_; intro wb hb'; have ha := grew_trans ha hb')
    | (go_at_call 22; refine Calls.mono (h3 wb ha) ?_; rintro e wc ⟨v, rfl, hN, hb'⟩; have ha := grew_trans ha hb'; obtain ⟨pv, cv, rfl, hI⟩ := hN.ii hl)
    | (go_at_call 23; refine Calls.mono (h4 wc ha) ?_; rintro e wd ⟨v, rfl, hN2, hb'⟩; have ha := grew_trans ha hb'; have hN := hN.kept hb'; obtain ⟨pv2, cv2, rfl, hI2⟩ := hN2.ii hl)
    | (go_at_call 21; refine grew_at (nequal_ok hN hN2 hl) ?_; intro we hb'; have ha := grew_trans ha hb'))
  go_ret
  exact ⟨rfl, ha⟩

set_option maxHeartbeats 1000000 in
theorem bitsApart_walk (p p2 : Option Addr) (n c n2 c2 : Nat) (xs ys : List Int) (m : Int) (w : World) (hb : BI w p n xs) (hb2 : BI w p2 n2 ys) :
    Calls Try.prog 6 #[.slice p n c, .slice p2 n2 c2, .int .i64 m] w fun e w' => e = .returned (.bool true) ∧ Below w.heap.size w w' := by
  have h1 := apart_ok p p2 n c n2 c2 xs ys m w hb hb2
  have h2 := fun w1 (h : Below w.heap.size w w1) => rapart_ok p p2 n c n2 c2 xs ys m w1 (hb.kept h) (hb2.kept h)
  have h3 := fun w1 (h : Below w.heap.size w w1) => apart_ok p2 p n2 c2 n c ys xs m w1 (hb2.kept h) (hb.kept h)
  rw [Bit.apart_comm ys xs] at h3
  have hl : (Bit.apart xs ys (Bit.cnt m)).length ≤ 140737488355328 := by
    have hc := Bit.cnt_le m
    have hr := Bit.apart_len xs ys (Bit.cnt m)
    omega
  generalize Bit.apart xs ys (Bit.cnt m) = S at *
  have H1 := (show Hid _ from h1)
  have H3 := (show Hid _ from h3)
  clear h1 h3
  go_enter Try.func6, Try.ntmps6
  go_upto_region 2 with (first
    | (go_at_call 24; refine Calls.mono H1.out ?_; rintro e wa ⟨v, rfl, hN, ha⟩; obtain ⟨pv, cv, rfl, hI⟩ := hN.ii hl))
  clear H1
  go_wp2_with (first
    | (go_at_call 25; refine Calls.mono (h2 wa ha) ?_; rintro e wb ⟨v, rfl, hN2, hb'⟩; have ha := grew_trans ha hb'; have hN := hN.kept hb'; obtain ⟨pv2, cv2, rfl, hI2⟩ := hN2.ii hl; have hQ := nequal_ok hN hN2 hl)
    | (go_at_call_of 21 cv2; refine grew_at hQ ?_; intro wc hb'; have ha := grew_trans ha hb'; have hN := hN.kept hb'; clear hQ)
    | (go_at_call 24; refine Calls.mono (H3.out wc ha) ?_; rintro e wd ⟨v, rfl, hN3, hb'⟩; have ha := grew_trans ha hb'; have hN := hN.kept hb'; obtain ⟨pv3, cv3, rfl, hI3⟩ := hN3.ii hl)
    | (go_at_call_of 21 cv3; refine grew_at (nequal_ok hN hN3 hl) ?_; intro we hb'; have ha := grew_trans ha hb'))
  go_ret
  exact ⟨rfl, ha⟩
end Go.Proofs.Ytppipcjchlnolaa
