/- Where two rows part. -/
import Derived.Test.YtppipcjchlnolaaInts
namespace Go.Proofs.Ytppipcjchlnolaa
open Go.RowKit
set_option linter.unusedVariables false

namespace Bit
def apart (xs ys : List Int) : Nat → List Int
  | 0 => []
  | k + 1 => if on xs k = on ys k then apart xs ys k else apart xs ys k ++ [(k : Int)]
theorem apart_len (xs ys : List Int) (k : Nat) : (apart xs ys k).length ≤ k := by
  induction k with
  | zero => simp [apart]
  | succ k ih =>
    simp only [apart]
    by_cases h : on xs k = on ys k
    · rw [if_pos h]; omega
    · rw [if_neg h, List.length_append]; simp; omega
theorem apart_comm (xs ys : List Int) (k : Nat) : apart xs ys k = apart ys xs k := by
  induction k with
  | zero => rfl
  | succ k ih =>
    simp only [apart]
    rw [ih]
    by_cases h : on xs k = on ys k
    · rw [if_pos h, if_pos h.symm]
    · rw [if_neg h, if_neg (fun e => h e.symm)]
end Bit

theorem BI.keptB {w w' : World} {B : Nat} {p : Option Addr} {n : Nat} {xs : List Int} (h : BI w p n xs) (hB : w.heap.size ≤ B) (hb : Below B w w') : BI w' p n xs := h.kept (hb.mono hB)
theorem grew_at {P : Program} {f : FuncId} {args : Array Value} {w : World} {v : Value} {Q : Ending → World → Prop} (h : Calls P f args w fun e w' => e = .returned v ∧ ∃ k, w' = w.drewN k) (hq : ∀ w1, Below w.heap.size w w1 → Q (.returned v) w1) : Calls P f args w Q :=
  h.mono (by rintro e w' ⟨rfl, k, rfl⟩; exact hq _ (below_drewN (Below.refl _ _) k))
theorem grew_trans {w0 w w1 : World} (h : Below w0.heap.size w0 w) (hb : Below w.heap.size w w1) : Below w0.heap.size w0 w1 := h.trans (hb.mono h.size)
theorem Nums.snoc {B : Nat} {w : World} {v : Value} {zs : List Int} {x : Int} (h : w.ownsRow B 3 1 v (zs.length + 1) (zs.map (Value.int .i64) ++ [.int .i64 x])) : Nums B w v (zs ++ [x]) := by
  unfold Nums
  simpa using h
theorem Nums.succ {B : Nat} {w : World} {v : Value} {zs : List Int} {x : Int} (h : Nums B w v (zs ++ [x])) : ∃ g cap, v = .slice (some ⟨g, 0, none⟩) (zs.length + 1) cap := by
  rcases h.2 with ⟨_, e0⟩ | ⟨g, cap, cur, e, _⟩
  · simp at e0
  · exact ⟨g, cap, by simpa using e⟩

set_option maxHeartbeats 1000000 in
theorem apart_ok (p p2 : Option Addr) (n c n2 c2 : Nat) (xs ys : List Int) (m : Int) (w : World) (hb : BI w p n xs) (hb2 : BI w p2 n2 ys) :
    Calls Try.prog 24 #[.slice p n c, .slice p2 n2 c2, .int .i64 m] w fun e w' => ∃ v, e = .returned v ∧ Nums w.heap.size w' v (Bit.apart xs ys (Bit.cnt m)) ∧ Below w.heap.size w w' := by
  obtain ⟨i0, hi0, hz0, hz1, hz2⟩ := info_parts info3
  have hm := Bit.cnt_le m
  have hc := counted_ok m w
  generalize Bit.cnt m = M at *
  go_enter Try.func24, Try.ntmps24
  go_wp2_with (first | (go_at_call 28; refine same_at hc ?_))
  go_loopw [7, 11] (fun v i wr => ∃ j : Nat, j ≤ M ∧ i = .int .i64 (j : Int) ∧ Nums w.heap.size wr v (Bit.apart xs ys j) ∧ Below w.heap.size w wr) (fun _ i _ => M - (intOf i).toNat)
  case atStart => exact ⟨0, by omega, rfl, Nums.nil _ _, Below.refl _ _⟩
  case round =>
    obtain ⟨j, hj, rfl, hN, hbw⟩ := hrel
    have hal := Bit.apart_len xs ys j
    by_cases hlt : j < M
    · have h1 := has_nat p n c xs j wr (hb.kept hbw) (by omega)
      have h2 := fun w1 (h : Below wr.heap.size wr w1) => has_nat p2 n2 c2 ys j w1 ((hb2.kept hbw).kept h) (by omega)
      have HS : Hid (Bit.apart xs ys (j + 1) = if Bit.on xs j = Bit.on ys j then Bit.apart xs ys j else Bit.apart xs ys j ++ [(j : Int)]) := rfl
      have hjI : (j : Int) < (M : Int) := by omega
      obtain ⟨pv, cv, rfl, _⟩ := hN.ii (by omega)
      generalize Bit.apart xs ys j = A at *
      generalize Bit.on xs j = o1 at *
      generalize Bit.on ys j = o2 at *
      by_cases ho : o1 = o2
      · rw [if_pos ho] at HS
        subst ho
        go_wp2_with (first | (go_at_call_of 12 c; refine grew_at h1 ?_; intro wa ha) | (go_at_call 12; refine grew_at (h2 wa ha) ?_; intro wd hd))
        go_roundw
        case rel => exact ⟨j + 1, by omega, by go_num, by rw [HS.out]; exact (hN.kept ha).kept hd, grew_trans (grew_trans hbw ha) hd⟩
        case measure => simp [intOf]; omega
      · rw [if_neg ho] at HS
        obtain rfl : o2 = ! o1 := by revert ho; cases o1 <;> cases o2 <;> simp
        clear ho
        have hne : (o1 != ! o1) = true := by cases o1 <;> rfl
        have hlen : A.length + 1 ≤ 65536 := by omega
        go_wp2_with (first | (go_at_call_of 12 c; refine grew_at h1 ?_; intro wa ha) | (go_at_call 12; refine grew_at (h2 wa ha) ?_; intro wd hd; have hN2 := (hN.kept ha).kept hd; have hbw2 := grew_trans (grew_trans hbw ha) hd) | (at_builtin; refine wpList_append_own _ rfl _ _ 37 rfl w.heap.size 3 i0 (.int .i64 0) 1 8 Try.underlying37 hi0 hz0 hz1 hz2 rfl (by decide) _ _ _ rfl (World.ownsRow.alloc hN2 _) ⟨wd.heap.size, 0, none⟩ 1 1 [.int .i64 (j : Int)] rfl rfl (cell_one_new _ _ _) (by simp [Value.oneCell']) (by unfold maxLen; omega) (by omega) (by have := hbw2.size; simp; omega) ?_; intro v' w1 hown hgrow _; have hown := Nums.snoc hown; obtain ⟨g', cap', rfl⟩ := Nums.succ hown))
        have hb3 := (hbw2.alloc (by have := hbw2.size; omega) _).grown hgrow (by have := hbw2.size; simp; omega) (by intro k hk; exact (World.ownsRow.lt hN2 k hk).1)
        go_roundw
        case rel => exact ⟨j + 1, by omega, by go_num, by rw [HS.out]; exact hown, hb3⟩
        case measure => simp [intOf]; omega
    · obtain rfl : j = M := by omega
      go_wp2
      go_ret
      exact ⟨_, rfl, hN, hbw⟩

set_option maxHeartbeats 1000000 in
theorem rapart_ok (p p2 : Option Addr) (n c n2 c2 : Nat) (xs ys : List Int) (m : Int) (w : World) (hb : BI w p n xs) (hb2 : BI w p2 n2 ys) :
    Calls Try.prog 25 #[.slice p n c, .slice p2 n2 c2, .int .i64 m] w fun e w' => ∃ v, e = .returned v ∧ Nums w.heap.size w' v (Bit.apart xs ys (Bit.cnt m)) ∧ Below w.heap.size w w' := by
  obtain ⟨i0, hi0, hz0, hz1, hz2⟩ := info_parts info3
  have hm := Bit.cnt_le m
  have hc := first_ok m w
  generalize Bit.cnt m = M at *
  go_enter Try.func25, Try.ntmps25
  go_wp2_with (first | (go_at_call 29; refine same_at hc ?_))
  go_loopw [7, 11] (fun v i wr => ∃ j : Nat, j ≤ M ∧ i = .int .i64 (j : Int) ∧ Nums w.heap.size wr v (Bit.apart xs ys j) ∧ Below w.heap.size w wr) (fun _ i _ => M - (intOf i).toNat)
  case atStart => exact ⟨0, by omega, rfl, Nums.nil _ _, Below.refl _ _⟩
  case round =>
    obtain ⟨j, hj, rfl, hN, hbw⟩ := hrel
    have hal := Bit.apart_len xs ys j
    by_cases hlt : j < M
    · have h1 := rhas_nat p n c xs j wr (hb.kept hbw) (by omega)
      have h2 := fun w1 (h : Below wr.heap.size wr w1) => rhas_nat p2 n2 c2 ys j w1 ((hb2.kept hbw).kept h) (by omega)
      have HS : Hid (Bit.apart xs ys (j + 1) = if Bit.on xs j = Bit.on ys j then Bit.apart xs ys j else Bit.apart xs ys j ++ [(j : Int)]) := rfl
      have hjI : (j : Int) < (M : Int) := by omega
      obtain ⟨pv, cv, rfl, _⟩ := hN.ii (by omega)
      generalize Bit.apart xs ys j = A at *
      generalize Bit.on xs j = o1 at *
      generalize Bit.on ys j = o2 at *
      by_cases ho : o1 = o2
      · rw [if_pos ho] at HS
        subst ho
        go_wp2_with (first | (go_at_call_of 13 c; refine grew_at h1 ?_; intro wa ha) | (go_at_call 13; refine grew_at (h2 wa ha) ?_; intro wd hd))
        go_roundw
        case rel => exact ⟨j + 1, by omega, by go_num, by rw [HS.out]; exact (hN.kept ha).kept hd, grew_trans (grew_trans hbw ha) hd⟩
        case measure => simp [intOf]; omega
      · rw [if_neg ho] at HS
        obtain rfl : o2 = ! o1 := by revert ho; cases o1 <;> cases o2 <;> simp
        clear ho
        have hne : (o1 != ! o1) = true := by cases o1 <;> rfl
        have hlen : A.length + 1 ≤ 65536 := by omega
        go_wp2_with (first | (go_at_call_of 13 c; refine grew_at h1 ?_; intro wa ha) | (go_at_call 13; refine grew_at (h2 wa ha) ?_; intro wd hd; have hN2 := (hN.kept ha).kept hd; have hbw2 := grew_trans (grew_trans hbw ha) hd) | (at_builtin; refine wpList_append_own _ rfl _ _ 37 rfl w.heap.size 3 i0 (.int .i64 0) 1 8 Try.underlying37 hi0 hz0 hz1 hz2 rfl (by decide) _ _ _ rfl (World.ownsRow.alloc hN2 _) ⟨wd.heap.size, 0, none⟩ 1 1 [.int .i64 (j : Int)] rfl rfl (cell_one_new _ _ _) (by simp [Value.oneCell']) (by unfold maxLen; omega) (by omega) (by have := hbw2.size; simp; omega) ?_; intro v' w1 hown hgrow _; have hown := Nums.snoc hown; obtain ⟨g', cap', rfl⟩ := Nums.succ hown))
        have hb3 := (hbw2.alloc (by have := hbw2.size; omega) _).grown hgrow (by have := hbw2.size; simp; omega) (by intro k hk; exact (World.ownsRow.lt hN2 k hk).1)
        go_roundw
        case rel => exact ⟨j + 1, by omega, by go_num, by rw [HS.out]; exact hown, hb3⟩
        case measure => simp [intOf]; omega
    · obtain rfl : j = M := by omega
      go_wp2
      go_ret
      exact ⟨_, rfl, hN, hbw⟩

end Go.Proofs.Ytppipcjchlnolaa
