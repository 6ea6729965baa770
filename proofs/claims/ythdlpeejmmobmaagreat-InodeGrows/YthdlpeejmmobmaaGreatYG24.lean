/- KBits A1 -/
import Derived.Test.YthdlpeejmmobmaaGreatYG21
import Derived.Test.YthdlpeejmmobmaaGreatYG23
import Derived.Deep.DeepCutAuto
import Derived.Maps.AppendAt
import Derived.Test.YthdlpeejmmobmaaGreatYG20

namespace Go.Proofs.YthdlpeejmmobmaaGreat.Mk
open Go.RowKit
set_option maxRecDepth 100000
set_option linter.unusedVariables false
theorem bgrew_at {P : Program} {f : FuncId} {args : Array Value} {w : World} {v : Value} {Q : Ending → World → Prop} (h : Calls P f args w fun e w' => e = .returned v ∧ ∃ k, w' = w.drewN k) (hq : ∀ w1, Below w.heap.size w w1 → Q (.returned v) w1) : Calls P f args w Q :=
 h.mono (by rintro e w' ⟨rfl, k, rfl⟩; exact hq _ (below_drewN (Below.refl _ _) k))
namespace Bit
end Bit
set_option maxHeartbeats 400000 in
theorem has_no (p : Option Addr) (n c : Nat) (i : Int) (w : World) (hn : n ≤ 140737488355328) (h : i < 0 ∨ (n : Int) ≤ i / 8) (hi : i < 9223372036854775808) :
  Calls Tryz.prog 138 #[.slice p n c, .int .i64 i] w fun e w' => e = .returned (.bool false) ∧ ∃ k, w' = w.drewN k := by
 have HH := (show Hid _ from h)
 clear h
 go_enter Tryz.func138, Tryz.ntmps138
 go_wp2_with fail
 go_quiet (first | (go_at_call 224; exact Calls.quiet_of_same (within_no p n c i _ hn HH.out hi)))
 go_wp2
 go_ret
 exact ⟨rfl, _, rfl⟩
set_option maxRecDepth 100000 in
set_option maxHeartbeats 400000 in
theorem has_yes (p : Option Addr) (n c : Nat) (xs : List Int) (i : Nat) (w : World) (hb : BI w p n xs) (h : i / 8 < n) (hi : i < 9223372036854775808) :
  Calls Tryz.prog 138 #[.slice p n c, .int .i64 i] w fun e w' => e = .returned (.bool (Bit.on xs i)) ∧ ∃ k, w' = w.drewN k := by
 have hn := hb.big
 have h0 : (0 : Int) ≤ (i : Int) := by omega
 have h1 : (i : Int) / 8 < (n : Int) := by omega
 obtain ⟨b, o, rfl, hc⟩ := hb.cells (by omega)
 have hc1 := hc (i / 8) h
 have hx := (Bit.bits_at _ (hb.byt (i / 8)).1 (hb.byt (i / 8)).2 i).1
 have HX : Hid ((bits BinOp.and .u8 (xs.getD (i / 8) 0) (Bit.mk i) != 0) = Bit.on xs i) := hx
 clear hc hx hb
 generalize xs.getD (i / 8) 0 = x at *
 have hq := fun W => run_quo8 i W hi
 go_enter Tryz.func138, Tryz.ntmps138
 go_wp2_with fail
 go_quiet (first | (go_at_call 224; exact Calls.quiet_of_same (within_yes _ n c i _ hn h hi)) | (go_at_call 225; exact Calls.quiet_of_same (mask_ok i _ hi)))
 go_wp2
 go_ret
 exact ⟨by show Ending.returned (.bool _) = _; rw [HX.out], _, rfl⟩
theorem has_any (p : Option Addr) (n c : Nat) (xs : List Int) (i : Int) (w : World) (hb : BI w p n xs) (hi : i < 9223372036854775808) :
  Calls Tryz.prog 138 #[.slice p n c, .int .i64 i] w fun e w' => e = .returned (.bool (Bit.onI xs i)) ∧ ∃ k, w' = w.drewN k := by
 have hl := hb.len
 by_cases h : i < 0 ∨ (n : Int) ≤ i / 8
 ·have e : Bit.onI xs i = false := by
   unfold Bit.onI
   rcases h with h | h
   ·simp [show ¬ 0 ≤ i by omega]
   ·rw [Bit.on_far xs i.toNat (by omega)]; simp
  rw [e]
  exact has_no p n c i w hb.big h hi
 ·obtain ⟨k, rfl⟩ := Int.eq_ofNat_of_zero_le (show 0 ≤ i by omega)
  have e : Bit.onI xs k = Bit.on xs k := by simp [Bit.onI]
  rw [e]
  exact has_yes p n c xs k w hb (by omega) (by omega)
set_option maxHeartbeats 400000 in
theorem counted_ok (n : Int) (w : World) :
  Calls Tryz.prog 220 #[.int .i64 n] w fun e w' => e = .returned (.int .i64 (Bit.cnt n : Int)) ∧ w' = w := by
 have HC := (show Hid _ from Bit.cnt_is n)
 go_enter Tryz.func220, Tryz.ntmps220
 go_wp2
 all_goals go_ret
 all_goals refine ⟨ret_int ?_, rfl⟩
 all_goals have h := HC.out
 all_goals rcases h with h | h | h <;> omega
namespace Bit
def count (xs : List Int) : Nat → Nat
 | 0 => 0
 | k + 1 => count xs k + (if on xs k then 1 else 0)
theorem count_le (xs : List Int) (k : Nat) : count xs k ≤ k := by
 induction k with
 | zero => simp [count]
 | succ k ih => simp only [count]; split <;> omega
end Bit
theorem BI.drewN {w : World} {p : Option Addr} {n : Nat} {xs : List Int} (h : BI w p n xs) (k : Nat) : BI (w.drewN k) p n xs := h.kept (below_drewN (Below.refl _ _) k)
theorem onI_nat (xs : List Int) (j : Nat) : Bit.onI xs (j : Int) = Bit.on xs j := by simp [Bit.onI]
theorem has_nat (p : Option Addr) (n c : Nat) (xs : List Int) (i : Nat) (w : World) (hb : BI w p n xs) (hi : i ≤ 9223372036854775807) :
  Calls Tryz.prog 138 #[.slice p n c, .int .i64 i] w fun e w' => e = .returned (.bool (Bit.on xs i)) ∧ ∃ k, w' = w.drewN k := by
 have := has_any p n c xs i w hb (by omega)
 rw [onI_nat] at this
 exact this
set_option maxHeartbeats 400000 in
theorem count_ok (p : Option Addr) (n c : Nat) (xs : List Int) (m : Int) (w : World) (hb : BI w p n xs) :
  Calls Tryz.prog 131 #[.slice p n c, .int .i64 m] w fun e w' => e = .returned (.int .i64 (Bit.count xs (Bit.cnt m))) ∧ ∃ k, w' = w.drewN k := by
 have hm := Bit.cnt_le m
 have hc := counted_ok m w
 generalize Bit.cnt m = M at *
 go_enter Tryz.func131, Tryz.ntmps131
 go_wp2_with (first | (go_at_call 220; refine same_at hc ?_))
 go_loopw [5, 9] (fun s i wr => ∃ j q : Nat, j ≤ M ∧ i = .int .i64 (j : Int) ∧ s = .int .i64 (Bit.count xs j : Int) ∧ wr = w.drewN q) (fun _ i _ => M - (intOf i).toNat)
 case atStart => exact ⟨0, 0, by omega, rfl, rfl, rfl⟩
 case round =>
  obtain ⟨j, q, hj, rfl, rfl, rfl⟩ := hrel
  have hcl := Bit.count_le xs j
  by_cases hlt : j < M
  ·have hh := has_nat p n c xs j (w.drewN q) (hb.drewN q) (by omega)
   have HS : Hid (Bit.count xs (j + 1) = Bit.count xs j + (if Bit.on xs j then 1 else 0)) := rfl
   have hjI : (j : Int) < (M : Int) := by omega
   generalize Bit.count xs j = C at *
   cases ho : Bit.on xs j
   all_goals
    rw [ho] at hh HS
    have HO := (show Hid _ from ho)
    clear ho
    go_wp2_with (first | (go_at_call 138; refine drew_at hh ?_; intro k))
    go_roundw
    case rel => exact ⟨j + 1, q + k, by omega, by go_num, by rw [HS.out]; go_num, by simp⟩
    case measure => simp [intOf]; omega
  ·obtain rfl : j = M := by omega
   go_wp2
   go_ret
   exact ⟨rfl, _, rfl⟩
namespace Bit
def look (xs : List Int) (N F : Nat) : Nat → Option Nat
 | 0 => none
 | k + 1 => match look xs N F k with
  | some i => some i
  | none => if on xs ((F + k) % N) then none else some ((F + k) % N)
theorem look_on (xs : List Int) (N F : Nat) {k i : Nat} (h : look xs N F k = some i) (d : Nat) : look xs N F (k + d) = some i := by
 induction d with
 | zero => exact h
 | succ d ih => rw [← Nat.add_assoc]; simp only [look]; rw [ih]
def start (N : Nat) (f : Int) : Nat := if f < 0 ∨ (N : Int) ≤ f then 0 else f.toNat
def fI (o : Option Nat) : Int := match o with | some i => (i : Int) | none => 0
end Bit
set_option maxHeartbeats 400000 in
theorem first_from (p : Option Addr) (n c : Nat) (xs : List Int) (m fr : Int) (N : Nat) (w : World) (hb : BI w p n xs) (hN : N = Bit.cnt m) :
  Calls Tryz.prog 221 #[.slice p n c, .int .i64 m, .int .i64 fr] w fun e w' => e = .returned (.tuple #[.int .i64 (Bit.fI (Bit.look xs N (Bit.start N fr) N)), .bool (Bit.look xs N (Bit.start N fr) N).isSome]) ∧ ∃ k, w' = w.drewN k := by
 have hm := Bit.cnt_le m
 have hc := counted_ok m w
 rw [← hN] at hc hm
 clear hN
 obtain ⟨F, HF⟩ : ∃ F, Hid (Bit.start N fr = F) := ⟨_, rfl⟩
 have hF : F ≤ N := by rw [← HF.out]; unfold Bit.start; split <;> omega
 rw [HF.out]
 have hcs : (fr < 0 ∧ F = 0) ∨ (0 ≤ fr ∧ (N : Int) ≤ fr ∧ F = 0) ∨ (0 ≤ fr ∧ fr < N ∧ fr = (F : Int)) := by
  rw [← HF.out]; unfold Bit.start; split <;> omega
 clear HF
 rcases hcs with ⟨h0, rfl⟩ | ⟨h0, h1, rfl⟩ | ⟨h0, h1, rfl⟩
 ·go_enter Tryz.func221, Tryz.ntmps221
  go_wp2_with (first | (go_at_call 220; refine same_at hc ?_))
  go_loopw [20] (fun i wr => ∃ j q : Nat, j ≤ N ∧ i = .int .i64 (j : Int) ∧ Bit.look xs N 0 j = none ∧ wr = w.drewN q) (fun i _ => N - (intOf i).toNat)
  case atStart => exact ⟨0, 0, by omega, rfl, rfl, rfl⟩
  case round =>
   obtain ⟨j, q, hj, rfl, hno, rfl⟩ := hrel
   by_cases hlt : j < N
   ·have hmod : (((0 + j) % N : Nat) : Int) = ((j : Int)) % (N : Int) := by simp
    have hlt2 : (0 + j) % N < N := Nat.mod_lt _ (by omega)
    have hh := has_nat p n c xs ((0 + j) % N) (w.drewN q) (hb.drewN q) (by omega)
    have hS : Bit.look xs N 0 (j + 1) = if Bit.on xs ((0 + j) % N) then none else some ((0 + j) % N) := by simp only [Bit.look]; rw [hno]
    have HS := (show Hid _ from hS)
    have HM := (show Hid _ from hmod)
    have hjI : (j : Int) < (N : Int) := by omega
    have hNp : (0 : Int) < (N : Int) := by omega
    have hNp1 : (1 : Int) ≤ (N : Int) := by omega
    obtain ⟨r, hr⟩ : ∃ r, (0 + j) % N = r := ⟨_, rfl⟩
    rw [hr] at hh HS HM hlt2
    rw [HM.out] at hh
    clear hS hmod hr hno
    cases ho : Bit.on xs r
    ·rw [ho] at hh HS
     have HO := (show Hid _ from ho)
     have hend := Bit.look_on xs N 0 HS.out (N - (j + 1))
     rw [show j + 1 + (N - (j + 1)) = N by omega] at hend
     have HE := (show Hid _ from hend)
     clear ho hend
     go_wp2_with (first | (go_at_call 138; refine drew_at hh ?_; intro k))
     go_ret2
     rw [HE.out]
     exact ⟨by rw [← HM.out]; rfl, _, rfl⟩
    ·rw [ho] at hh HS
     have HO := (show Hid _ from ho)
     clear ho
     go_wp2_with (first | (go_at_call 138; refine drew_at hh ?_; intro k))
     go_roundw
     case rel => exact ⟨j + 1, q + k, by omega, by go_num, by rw [HS.out]; rfl, by simp⟩
     case measure => simp [intOf]; omega
   ·obtain rfl : j = N := by omega
    have HN := (show Hid _ from hno)
    clear hno
    go_wp2
    go_ret2
    rw [HN.out]
    exact ⟨rfl, _, rfl⟩
 ·go_enter Tryz.func221, Tryz.ntmps221
  go_wp2_with (first | (go_at_call 220; refine same_at hc ?_))
  go_loopw [20] (fun i wr => ∃ j q : Nat, j ≤ N ∧ i = .int .i64 (j : Int) ∧ Bit.look xs N 0 j = none ∧ wr = w.drewN q) (fun i _ => N - (intOf i).toNat)
  case atStart => exact ⟨0, 0, by omega, rfl, rfl, rfl⟩
  case round =>
   obtain ⟨j, q, hj, rfl, hno, rfl⟩ := hrel
   by_cases hlt : j < N
   ·have hmod : (((0 + j) % N : Nat) : Int) = ((j : Int)) % (N : Int) := by simp
    have hlt2 : (0 + j) % N < N := Nat.mod_lt _ (by omega)
    have hh := has_nat p n c xs ((0 + j) % N) (w.drewN q) (hb.drewN q) (by omega)
    have hS : Bit.look xs N 0 (j + 1) = if Bit.on xs ((0 + j) % N) then none else some ((0 + j) % N) := by simp only [Bit.look]; rw [hno]
    have HS := (show Hid _ from hS)
    have HM := (show Hid _ from hmod)
    have hjI : (j : Int) < (N : Int) := by omega
    have hNp : (0 : Int) < (N : Int) := by omega
    have hNp1 : (1 : Int) ≤ (N : Int) := by omega
    obtain ⟨r, hr⟩ : ∃ r, (0 + j) % N = r := ⟨_, rfl⟩
    rw [hr] at hh HS HM hlt2
    rw [HM.out] at hh
    clear hS hmod hr hno
    cases ho : Bit.on xs r
    ·rw [ho] at hh HS
     have HO := (show Hid _ from ho)
     have hend := Bit.look_on xs N 0 HS.out (N - (j + 1))
     rw [show j + 1 + (N - (j + 1)) = N by omega] at hend
     have HE := (show Hid _ from hend)
     clear ho hend
     go_wp2_with (first | (go_at_call 138; refine drew_at hh ?_; intro k))
     go_ret2
     rw [HE.out]
     exact ⟨by rw [← HM.out]; rfl, _, rfl⟩
    ·rw [ho] at hh HS
     have HO := (show Hid _ from ho)
     clear ho
     go_wp2_with (first | (go_at_call 138; refine drew_at hh ?_; intro k))
     go_roundw
     case rel => exact ⟨j + 1, q + k, by omega, by go_num, by rw [HS.out]; rfl, by simp⟩
     case measure => simp [intOf]; omega
   ·obtain rfl : j = N := by omega
    have HN := (show Hid _ from hno)
    clear hno
    go_wp2
    go_ret2
    rw [HN.out]
    exact ⟨rfl, _, rfl⟩
 ·have d1 : decide ((F : Int) < 0) = false := decide_eq_false (by omega)
  have d2 : decide ((N : Int) ≤ (F : Int)) = false := decide_eq_false (by omega)
  have d3 : decide (N ≤ F) = false := decide_eq_false (by omega)
  go_enter Tryz.func221, Tryz.ntmps221
  go_wp2_with (first | (go_at_call 220; refine same_at hc ?_))
  go_loopw [20] (fun i wr => ∃ j q : Nat, j ≤ N ∧ i = .int .i64 (j : Int) ∧ Bit.look xs N F j = none ∧ wr = w.drewN q) (fun i _ => N - (intOf i).toNat)
  case atStart => exact ⟨0, 0, by omega, rfl, rfl, rfl⟩
  case round =>
   obtain ⟨j, q, hj, rfl, hno, rfl⟩ := hrel
   by_cases hlt : j < N
   ·have hmod : (((F + j) % N : Nat) : Int) = ((F : Int) + (j : Int)) % (N : Int) := by simp
    have hlt2 : (F + j) % N < N := Nat.mod_lt _ (by omega)
    have hh := has_nat p n c xs ((F + j) % N) (w.drewN q) (hb.drewN q) (by omega)
    have hS : Bit.look xs N F (j + 1) = if Bit.on xs ((F + j) % N) then none else some ((F + j) % N) := by simp only [Bit.look]; rw [hno]
    have HS := (show Hid _ from hS)
    have HM := (show Hid _ from hmod)
    have hjI : (j : Int) < (N : Int) := by omega
    have hNp : (0 : Int) < (N : Int) := by omega
    have hNp1 : (1 : Int) ≤ (N : Int) := by omega
    obtain ⟨r, hr⟩ : ∃ r, (F + j) % N = r := ⟨_, rfl⟩
    rw [hr] at hh HS HM hlt2
    rw [HM.out] at hh
    clear hS hmod hr hno
    cases ho : Bit.on xs r
    ·rw [ho] at hh HS
     have HO := (show Hid _ from ho)
     have hend := Bit.look_on xs N F HS.out (N - (j + 1))
     rw [show j + 1 + (N - (j + 1)) = N by omega] at hend
     have HE := (show Hid _ from hend)
     clear ho hend
     go_wp2_with (first | (go_at_call 138; refine drew_at hh ?_; intro k))
     go_ret2
     rw [HE.out]
     exact ⟨by rw [← HM.out]; rfl, _, rfl⟩
    ·rw [ho] at hh HS
     have HO := (show Hid _ from ho)
     clear ho
     go_wp2_with (first | (go_at_call 138; refine drew_at hh ?_; intro k))
     go_roundw
     case rel => exact ⟨j + 1, q + k, by omega, by go_num, by rw [HS.out]; rfl, by simp⟩
     case measure => simp [intOf]; omega
   ·obtain rfl : j = N := by omega
    have HN := (show Hid _ from hno)
    clear hno
    go_wp2
    go_ret2
    rw [HN.out]
    exact ⟨rfl, _, rfl⟩
def Nums (B : Nat) (w : World) (v : Value) (zs : List Int) : Prop := w.ownsRow B 3 1 v zs.length (zs.map (Value.int .i64))
theorem Nums.ii {w : World} {B : Nat} {v : Value} {zs : List Int} (h : Nums B w v zs) (hn : zs.length ≤ 140737488355328) : ∃ p c, v = .slice p zs.length c ∧ II w p zs.length zs := by
 rcases h.2 with ⟨e, e0⟩ | ⟨g, cap, cur, e, k⟩
 ·rw [e0]
  exact ⟨_, _, e, ⟨e0, by omega, fun h => by omega⟩⟩
 ·refine ⟨_, _, e, ⟨rfl, hn, fun h0 => ⟨g, 0, rfl, fun i hi => ?_⟩⟩⟩
  have h' : w.ownsRow B 3 1 (.slice (some ⟨g, 0, none⟩) zs.length cap) zs.length (zs.map (Value.int .i64)) := by rw [← e]; exact h
  rw [Nat.zero_add, h'.cellAt i (by omega), List.getElem?_map, List.getD_eq_getElem?_getD, List.getElem?_eq_getElem (by omega)]
  rfl
theorem Nums.kept {B : Nat} {w w' : World} {v : Value} {zs : List Int} (h : Nums B w v zs) (hb : Below w.heap.size w w') : Nums B w' v zs := by
 refine ⟨h.1, ?_⟩
 rcases h.2 with h' | ⟨g', cap', cur, h', hbg, hg, rest⟩
 ·exact .inl h'
 ·have hlt : g' < w.heap.size := (Array.getElem?_eq_some_iff.1 hg).1
  exact .inr ⟨g', cap', cur, h', hbg, by rw [hb.block g' hlt]; exact hg, rest⟩
theorem Nums.nil (B : Nat) (w : World) : Nums B w (.slice none 0 0) [] := World.ownsRow_nil _ _ _ _
namespace Bit
def apart (xs ys : List Int) : Nat → List Int
 | 0 => []
 | k + 1 => if on xs k = on ys k then apart xs ys k else apart xs ys k ++ [(k : Int)]
theorem apart_len (xs ys : List Int) (k : Nat) : (apart xs ys k).length ≤ k := by
 induction k with
 | zero => simp [apart]
 | succ k ih =>
  simp only [apart]
  by_cases h : on xs k = on ys k
  ·rw [if_pos h]; omega
  ·rw [if_neg h, List.length_append]; simp; omega
end Bit
theorem Nums.snoc {B : Nat} {w : World} {v : Value} {zs : List Int} {x : Int} (h : w.ownsRow B 3 1 v (zs.length + 1) (zs.map (Value.int .i64) ++ [.int .i64 x])) : Nums B w v (zs ++ [x]) := by
 unfold Nums
 simpa using h
theorem Nums.succ {B : Nat} {w : World} {v : Value} {zs : List Int} {x : Int} (h : Nums B w v (zs ++ [x])) : ∃ g cap, v = .slice (some ⟨g, 0, none⟩) (zs.length + 1) cap := by
 rcases h.2 with ⟨_, e0⟩ | ⟨g, cap, cur, e, _⟩
 ·simp at e0
 ·exact ⟨g, cap, by simpa using e⟩
set_option maxHeartbeats 1000000 in
theorem apart_ok (p p2 : Option Addr) (n c n2 c2 : Nat) (xs ys : List Int) (m : Int) (w : World) (hb : BI w p n xs) (hb2 : BI w p2 n2 ys) :
  Calls Tryz.prog 223 #[.slice p n c, .slice p2 n2 c2, .int .i64 m] w fun e w' => ∃ v, e = .returned v ∧ Nums w.heap.size w' v (Bit.apart xs ys (Bit.cnt m)) ∧ Below w.heap.size w w' := by
 obtain ⟨i0, hi0, hz0, hz1, hz2⟩ := info_parts info3
 have hm := Bit.cnt_le m
 have hc := counted_ok m w
 generalize Bit.cnt m = M at *
 go_enter Tryz.func223, Tryz.ntmps223
 go_wp2_with (first | (go_at_call 220; refine same_at hc ?_))
 go_loopw [7, 11] (fun v i wr => ∃ j : Nat, j ≤ M ∧ i = .int .i64 (j : Int) ∧ Nums w.heap.size wr v (Bit.apart xs ys j) ∧ Below w.heap.size w wr) (fun _ i _ => M - (intOf i).toNat)
 case atStart => exact ⟨0, by omega, rfl, Nums.nil _ _, Below.refl _ _⟩
 case round =>
  obtain ⟨j, hj, rfl, hN, hbw⟩ := hrel
  have hal := Bit.apart_len xs ys j
  by_cases hlt : j < M
  ·have h1 := has_nat p n c xs j wr (hb.kept hbw) (by omega)
   have h2 := fun w1 (h : Below wr.heap.size wr w1) => has_nat p2 n2 c2 ys j w1 ((hb2.kept hbw).kept h) (by omega)
   have HS : Hid (Bit.apart xs ys (j + 1) = if Bit.on xs j = Bit.on ys j then Bit.apart xs ys j else Bit.apart xs ys j ++ [(j : Int)]) := rfl
   have hjI : (j : Int) < (M : Int) := by omega
   obtain ⟨pv, cv, rfl, _⟩ := hN.ii (by omega)
   generalize Bit.apart xs ys j = A at *
   generalize Bit.on xs j = o1 at *
   generalize Bit.on ys j = o2 at *
   by_cases ho : o1 = o2
   ·rw [if_pos ho] at HS
    subst ho
    go_wp2_with (first | (go_at_call_of 138 c; refine bgrew_at h1 ?_; intro wa ha) | (go_at_call 138; refine bgrew_at (h2 wa ha) ?_; intro wd hd))
    go_roundw
    case rel => exact ⟨j + 1, by omega, by go_num, by rw [HS.out]; exact (hN.kept ha).kept hd, grew_trans (grew_trans hbw ha) hd⟩
    case measure => simp [intOf]; omega
   ·rw [if_neg ho] at HS
    obtain rfl : o2 = ! o1 := by revert ho; cases o1 <;> cases o2 <;> simp
    clear ho
    have hne : (o1 != ! o1) = true := by cases o1 <;> rfl
    have hlen : A.length + 1 ≤ 65536 := by omega
    go_wp2_with (first | (go_at_call_of 138 c; refine bgrew_at h1 ?_; intro wa ha) | (go_at_call 138; refine bgrew_at (h2 wa ha) ?_; intro wd hd; have hN2 := (hN.kept ha).kept hd; have hbw2 := grew_trans (grew_trans hbw ha) hd) | (at_builtin; refine wpList_append_own _ rfl _ _ 49 rfl w.heap.size 3 i0 (.int .i64 0) 1 8 Tryz.underlying49 hi0 hz0 hz1 hz2 rfl (by decide) _ _ _ rfl (World.ownsRow.alloc hN2 _) ⟨wd.heap.size, 0, none⟩ 1 1 [.int .i64 (j : Int)] rfl rfl (cell_one_new _ _ _) (by simp [Value.oneCell']) (by unfold maxLen; omega) (by omega) (by have := hbw2.size; simp; omega) ?_; intro v' w1 hown hgrow _; have hown := Nums.snoc hown; obtain ⟨g', cap', rfl⟩ := Nums.succ hown))
    have hb3 := (hbw2.alloc (by have := hbw2.size; omega) _).grown hgrow (by have := hbw2.size; simp; omega) (by intro k hk; exact (World.ownsRow.lt hN2 k hk).1)
    go_roundw
    case rel => exact ⟨j + 1, by omega, by go_num, by rw [HS.out]; exact hown, hb3⟩
    case measure => simp [intOf]; omega
  ·obtain rfl : j = M := by omega
   go_wp2
   go_ret
   exact ⟨_, rfl, hN, hbw⟩
namespace Bit
theorem turn_all : ∀ x : Fin 256, ∀ k : Fin 8, ∀ b : Bool, decide (turn x.val (2 ^ k.val) b / 2 ^ k.val % 2 = 1) = b ∧ ∀ j : Fin 8, j ≠ k → decide (turn x.val (2 ^ k.val) b / 2 ^ j.val % 2 = 1) = decide ((x.val : Int) / 2 ^ j.val % 2 = 1) := by decide +kernel
theorem turn_at (x : Int) (h0 : 0 ≤ x) (h1 : x < 256) (i : Nat) (b : Bool) : decide (turn x (mk i) b / mk i % 2 = 1) = b ∧ ∀ j, ¬ j % 8 = i % 8 → decide (turn x (mk i) b / mk j % 2 = 1) = decide (x / mk j % 2 = 1) := by
 obtain ⟨n, rfl⟩ := Int.eq_ofNat_of_zero_le h0
 obtain ⟨k1, k2⟩ := turn_all ⟨n, by omega⟩ ⟨i % 8, Nat.mod_lt _ (by decide)⟩ b
 exact ⟨k1, fun j hj => k2 ⟨j % 8, Nat.mod_lt _ (by decide)⟩ (fun e => hj (by simpa using e))⟩
theorem put_on {xs : List Int} (hx : Num.Byt xs) {i : Nat} (h : i / 8 < xs.length) (b : Bool) : on (put xs i b) i = b := by
 unfold on put
 rw [Num.getD_set, if_pos ⟨rfl, h⟩]
 exact (turn_at _ (hx (i / 8)).1 (hx (i / 8)).2 i b).1
theorem put_other {xs : List Int} (hx : Num.Byt xs) {i j : Nat} (h : i / 8 < xs.length) (b : Bool) (hj : ¬ j = i) : on (put xs i b) j = on xs j := by
 unfold on put
 rw [Num.getD_set]
 by_cases e : j / 8 = i / 8
 ·rw [if_pos ⟨e, h⟩, e]
  exact (turn_at _ (hx (i / 8)).1 (hx (i / 8)).2 i b).2 j (by omega)
 ·rw [if_neg (fun k => e k.1)]
end Bit
end Go.Proofs.YthdlpeejmmobmaaGreat.Mk

namespace Go.Proofs.YthdlpeejmmobmaaGreat.Mk.Al
open Go.RowKit
set_option maxRecDepth 100000
set_option linter.unusedVariables false
def lo (xs : List Int) (f : Nat) : Nat → Option Nat
 | 0 => none
 | k + 1 => match lo xs f k with
  | some i => some i
  | none => if Bit.on xs (f + k) then none else some (f + k)
theorem lo_look (xs : List Int) {f E : Nat} : ∀ k, f + k ≤ E → lo xs f k = Bit.look xs E f k
 | 0, _ => rfl
 | k + 1, h => by
  have e : (f + k) % E = f + k := Nat.mod_eq_of_lt (by omega)
  simp only [lo, Bit.look]
  rw [lo_look (E := E) xs k (by omega), e]
  all_goals (cases Bit.look xs E f k <;> rfl)
theorem lo_some (xs : List Int) (f : Nat) : ∀ k {i : Nat}, lo xs f k = some i → f ≤ i ∧ i < f + k ∧ Bit.on xs i = false
 | 0, i, h => by cases h
 | k + 1, i, h => by
  simp only [lo] at h
  cases hk : lo xs f k with
  | some j =>
   rw [hk] at h
   cases h
   obtain ⟨a1, a2, a3⟩ := lo_some xs f k hk
   exact ⟨a1, by omega, a3⟩
  | none =>
   rw [hk] at h
   by_cases ho : Bit.on xs (f + k) = true
   ·rw [ho] at h; cases h
   ·have ho2 : Bit.on xs (f + k) = false := by simpa using ho
    rw [ho2] at h
    cases h
    exact ⟨by omega, by omega, ho2⟩
theorem look_low (xs : List Int) {f E : Nat} (hf : f < E) (hn : lo xs f (E - f) = none) : ∀ d {i : Nat}, d ≤ f → Bit.look xs E f (E - f + d) = some i → i < f
 | 0, i, _, h => by rw [Nat.add_zero, ← lo_look (E := E) xs (E - f) (by omega), hn] at h; cases h
 | d + 1, i, hd, h => by
  rw [← Nat.add_assoc] at h
  simp only [Bit.look] at h
  cases hk : Bit.look xs E f (E - f + d) with
  | some j => rw [hk] at h; cases h; exact look_low xs hf hn d (by omega) hk
  | none =>
   rw [hk] at h
   have e : (f + (E - f + d)) % E = d := by
    have : f + (E - f + d) = E + d := by omega
    rw [this, Nat.add_mod_left, Nat.mod_eq_of_lt (by omega)]
   rw [e] at h
   by_cases ho : Bit.on xs d = true
   ·rw [ho] at h; cases h
   ·have ho2 : Bit.on xs d = false := by simpa using ho
    rw [ho2] at h
    cases h
    omega
theorem look_lo (xs : List Int) {f E : Nat} (hf : f < E) : (∀ i, lo xs f (E - f) = some i → Bit.look xs E f E = some i) ∧ (lo xs f (E - f) = none → ∀ i, Bit.look xs E f E = some i → i < f) := by
 constructor
 ·intro i h
  rw [lo_look (E := E) xs (E - f) (by omega)] at h
  have := Bit.look_on xs E f h f
  rwa [show E - f + f = E by omega] at this
 ·intro h i hi
  refine look_low xs hf h f (Nat.le_refl _) (i := i) ?_
  rwa [show E - f + f = E by omega]
theorem pick_lo (xs : List Int) {f E : Nat} (hf : f < E) (o : Option Nat) (ho : o = Bit.look xs E f E) : (o.isSome && decide ((f : Int) ≤ Bit.fI o)) = (lo xs f (E - f)).isSome ∧ ∀ i, lo xs f (E - f) = some i → Bit.fI o = (i : Int) := by
 obtain ⟨h1, h2⟩ := look_lo xs hf
 cases hl : lo xs f (E - f) with
 | some i =>
  have := h1 i hl
  rw [ho, this]
  have := lo_some xs f _ hl
  refine ⟨by simp [Bit.fI]; omega, fun j hj => by cases hj; rfl⟩
 | none =>
  refine ⟨?_, fun j hj => by cases hj⟩
  cases hk : o with
  | none => rfl
  | some i =>
   have := h2 hl i (by rw [← ho, hk])
   simp [Bit.fI]; omega
def fN (r : Bool) (I n : Nat) : Nat := if r then (if n = 0 then 2 else 0) else 2 + I / 4
def eN (r : Bool) (B I : Nat) : Nat := if r then I else B
theorem fN_eq (r : Bool) (I n : Nat) : spF r I n = (fN r I n : Int) := by
 unfold spF fN
 cases r
 ·simp
 ·by_cases h : n = 0
  ·subst h; rfl
  ·have _ : ¬ (n : Int) = 0 := by omega
   simp [h]
theorem eN_eq (r : Bool) (B I : Nat) : spE r B I = (eN r B I : Int) := by unfold spE eN; cases r <;> rfl
theorem fe_lt {G B I : Nat} (h : Gm.May (G : Int) B I) (r : Bool) (n : Nat) : fN r I n < eN r B I ∧ eN r B I ≤ 8 * rLen r ∧ eN r B I ≤ 256 := by
 have := h.all
 unfold fN eN rLen
 cases r
 ·simp; omega
 ·simp; split <;> omega
theorem cnt_nat {n : Nat} (h : n ≤ 65536) : Bit.cnt (n : Int) = n := by have := Bit.cnt_is (n : Int); omega
theorem start_nat {f E : Nat} (h : f < E) : Bit.start E (f : Int) = f := by unfold Bit.start; rw [if_neg (by omega)]; rfl
theorem row_len (r : Bool) {ys : List Int} (hl : ys.length = 40) : (rowOf r ys).length = rLen r := by unfold rowOf rAt rLen; cases r <;> simp [hl]
set_option maxHeartbeats 1000000 in
theorem first_ok {G B I n : Nat} (r : Bool) (h : Gm.In (G : Int) B I n) (ys : List Int) (hl : ys.length = 40) (hy : Num.Byt ys) (w : World) :
  Calls Tryz.prog 133 #[.int .i64 (rI r), geomV G B I, groupV n ys] w fun e w' => ∃ i : Int, e = .returned (.tuple #[.int .i64 i, .bool (lo (rowOf r ys) (fN r I n) (eN r B I - fN r I n)).isSome]) ∧ (∀ j, lo (rowOf r ys) (fN r I n) (eN r B I - fN r I n) = some j → i = (j : Int)) ∧ Below w.heap.size w w' := by
 obtain ⟨W, hW⟩ : ∃ W, (w.alloc (geomO G B I)).alloc (groupO n ys) = W := ⟨_, rfl⟩
 have HB : Below w.heap.size w W := by rw [← hW]; exact ((Below.refl _ _).alloc (Nat.le_refl _) _).alloc (by simp) _
 have hg : W.heap[w.heap.size]? = some (geomO G B I) := by rw [← hW]; exact at_old (heap_new w _)
 have hx : W.heap[w.heap.size + 1]? = some (groupO n ys) := by rw [← hW]; exact at_new (by simp)
 have q0 : W.cell? ⟨w.heap.size + 1, 0, none⟩ = some (.int .i64 (n : Int)) := (cell_of_row _ _ 0 _ _ _ hx).trans (groupA_zero _ _)
 have hlt := fe_lt h.1 r n
 have hsp := fun w => span_ok r h w
 rw [fN_eq, eN_eq] at hsp
 have hbi := fun (w1 : World) (hb : Below W.heap.size W w1) => group_bi (w := w1) (b := w.heap.size + 1) (N := n) (ys := ys) (mk := (0, 0)) ((hb.block _ (Array.getElem?_eq_some_iff.1 hx).1).trans hx) hy (rAt r) (rLen r) (by unfold rAt rLen; cases r <;> simp [hl]) hl
 have hpk := pick_lo (rowOf r ys) hlt.1 _ rfl
 obtain ⟨f, hf⟩ : ∃ f, fN r I n = f := ⟨_, rfl⟩
 obtain ⟨E, hE⟩ : ∃ E, eN r B I = E := ⟨_, rfl⟩
 rw [hf, hE] at hlt hpk hsp ⊢
 have hfi := fun (w1 : World) (hb : Below W.heap.size W w1) => first_from (some ⟨w.heap.size + 1, rAt r + 1, none⟩) (rLen r) (rLen r) _ (E : Int) (f : Int) E w1 (hbi w1 hb) (cnt_nat (by omega)).symm
 rw [start_nat hlt.1] at hfi
 generalize hlk : Bit.look _ E f E = lk at hpk
 change ∀ w1, _ → Calls _ _ _ _ fun e w' => e = .returned (.tuple #[.int .i64 (Bit.fI (Bit.look (rowOf r ys) E f E)), .bool (Bit.look (rowOf r ys) E f E).isSome]) ∧ _ at hfi
 rw [hlk] at hfi
 have hof := fun w1 => of_ok r (w.heap.size + 1) 0 w1
 simp only [Nat.zero_add] at hof
 have HP : Hid (((lk.isSome && decide ((f : Int) ≤ Bit.fI lk)) = (lo (rowOf r ys) f (E - f)).isSome) ∧ ∀ i, lo (rowOf r ys) f (E - f) = some i → Bit.fI lk = (i : Int)) := hpk
 have HBB : Hid (Below w.heap.size w W) := HB
 clear hpk hlk hlt hbi hy hl h hf hE
 generalize rI r = ri at *
 generalize rAt r = ra at *
 generalize rLen r = rl at *
 generalize Bit.fI lk = fi at *
 generalize lk.isSome = sm at *
 generalize (lo (rowOf r ys) f (E - f)) = res at *
 have c0 : W.cell? ⟨w.heap.size, 0, none⟩ = some (.int .i64 (G : Int)) := cell_of_row _ _ 0 _ _ _ hg
 have c1 : W.cell? ⟨w.heap.size, 1, none⟩ = some (.int .i64 (B : Int)) := cell_of_row _ _ 1 _ _ _ hg
 have c2 : W.cell? ⟨w.heap.size, 2, none⟩ = some (.int .i64 (I : Int)) := cell_of_row _ _ 2 _ _ _ hg
 go_enter Tryz.func133, Tryz.ntmps133
 go_wp2_with fail
 refine grew_at (hsp _) ?_
 intro w1 hb1
 have h1 := hfi w1 hb1
 dsimp only
 go_wp2_with fail
 refine same_at (hof _) ?_
 dsimp only
 go_wp2_with fail
 refine Calls.mono h1 ?_
 rintro e w2 ⟨rfl, k, rfl⟩
 dsimp only
 go_wp2_with fail
 all_goals go_ret2
 all_goals refine ⟨fi, ?_, HP.out.2, HBB.out.trans ((below_drewN hb1 k).mono HBB.out.size)⟩
 all_goals rw [← HP.out.1]
 all_goals first | rfl | simp_all
def zc (xs : List Int) (f E : Nat) : Int := (E : Int) - f - ((Bit.count xs E : Int) - Bit.count xs f)
set_option maxHeartbeats 1000000 in
theorem left_ok {G B I n : Nat} (r : Bool) (h : Gm.In (G : Int) B I n) (ys : List Int) (hl : ys.length = 40) (hy : Num.Byt ys) (w : World) :
  Calls Tryz.prog 65 #[.int .i64 (rI r), geomV G B I, groupV n ys] w fun e w' => e = .returned (.int .i64 (zc (rowOf r ys) (fN r I n) (eN r B I))) ∧ Below w.heap.size w w' := by
 obtain ⟨W, hW⟩ : ∃ W, (w.alloc (geomO G B I)).alloc (groupO n ys) = W := ⟨_, rfl⟩
 have HB : Below w.heap.size w W := by rw [← hW]; exact ((Below.refl _ _).alloc (Nat.le_refl _) _).alloc (by simp) _
 have hg : W.heap[w.heap.size]? = some (geomO G B I) := by rw [← hW]; exact at_old (heap_new w _)
 have hx : W.heap[w.heap.size + 1]? = some (groupO n ys) := by rw [← hW]; exact at_new (by simp)
 have q0 : W.cell? ⟨w.heap.size + 1, 0, none⟩ = some (.int .i64 (n : Int)) := (cell_of_row _ _ 0 _ _ _ hx).trans (groupA_zero _ _)
 have hlt := fe_lt h.1 r n
 have hsp := fun w => span_ok r h w
 rw [fN_eq, eN_eq] at hsp
 have hbi := fun (w1 : World) (hb : Below W.heap.size W w1) => group_bi (w := w1) (b := w.heap.size + 1) (N := n) (ys := ys) (mk := (0, 0)) ((hb.block _ (Array.getElem?_eq_some_iff.1 hx).1).trans hx) hy (rAt r) (rLen r) (by unfold rAt rLen; cases r <;> simp [hl]) hl
 obtain ⟨f, hf⟩ : ∃ f, fN r I n = f := ⟨_, rfl⟩
 obtain ⟨E, hE⟩ : ∃ E, eN r B I = E := ⟨_, rfl⟩
 rw [hf, hE] at hlt hsp ⊢
 have hc1 := fun (w1 : World) (hb : Below W.heap.size W w1) => count_ok (some ⟨w.heap.size + 1, rAt r + 1, none⟩) (rLen r) (rLen r) _ (E : Int) w1 (hbi w1 hb)
 have hc2 := fun (w1 : World) (hb : Below W.heap.size W w1) => count_ok (some ⟨w.heap.size + 1, rAt r + 1, none⟩) (rLen r) (rLen r) _ (f : Int) w1 (hbi w1 hb)
 rw [cnt_nat (by omega)] at hc1 hc2
 have k1 := Bit.count_le (rowOf r ys) E
 have k2 := Bit.count_le (rowOf r ys) f
 change ∀ w1, _ → Calls _ _ _ _ fun e w' => e = .returned (.int .i64 (Bit.count (rowOf r ys) E)) ∧ _ at hc1
 change ∀ w1, _ → Calls _ _ _ _ fun e w' => e = .returned (.int .i64 (Bit.count (rowOf r ys) f)) ∧ _ at hc2
 unfold zc
 have hof := fun w1 => of_ok r (w.heap.size + 1) 0 w1
 simp only [Nat.zero_add] at hof
 have HBB : Hid (Below w.heap.size w W) := HB
 obtain ⟨hfE, _, h256⟩ := hlt
 clear hbi hy hl h hf hE
 generalize rI r = ri at *
 generalize rAt r = ra at *
 generalize rLen r = rl at *
 generalize Bit.count (rowOf r ys) E = cE at *
 generalize Bit.count (rowOf r ys) f = cF at *
 have c0 : W.cell? ⟨w.heap.size, 0, none⟩ = some (.int .i64 (G : Int)) := cell_of_row _ _ 0 _ _ _ hg
 have c1 : W.cell? ⟨w.heap.size, 1, none⟩ = some (.int .i64 (B : Int)) := cell_of_row _ _ 1 _ _ _ hg
 have c2 : W.cell? ⟨w.heap.size, 2, none⟩ = some (.int .i64 (I : Int)) := cell_of_row _ _ 2 _ _ _ hg
 go_enter Tryz.func65, Tryz.ntmps65
 go_wp2_with fail
 refine grew_at (hsp _) ?_
 intro w1 hb1
 have h1 := hc1 w1 hb1
 dsimp only
 go_wp2_with fail
 refine same_at (hof _) ?_
 dsimp only
 go_wp2_with fail
 refine Calls.mono h1 ?_
 rintro e w2 ⟨rfl, k, rfl⟩
 have hb2 := below_drewN hb1 k
 have h2 := hc2 _ hb2
 dsimp only
 go_wp2_with fail
 refine same_at (hof _) ?_
 dsimp only
 go_wp2_with fail
 refine Calls.mono h2 ?_
 rintro e w2 ⟨rfl, k', rfl⟩
 have hb3 := below_drewN hb2 k'
 dsimp only
 go_wp2_with fail
 go_ret
 exact ⟨rfl, HBB.out.trans ((below_drewN hb1 _).mono HBB.out.size)⟩
end Go.Proofs.YthdlpeejmmobmaaGreat.Mk.Al
