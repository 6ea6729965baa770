/- crash of a disk that no call made. -/
import Derived.Test.YtemhhgpgpjiijaaGreatEE
namespace Go.Proofs.YtemhhgpgpjiijaaGreat
open Go.RowKit Go.Shelf
set_option linter.unusedVariables false
attribute [local go_sem] Oper.semAt_some

theorem cmade_void (w : World) (d : Option Addr) (h : Void w d) : Calls Tryz.prog 10 #[.pointer d] w fun e w' => e = .returned (.bool false) ∧ w' = w := by
  go_enter Tryz.func10, Tryz.ntmps10
  go_wp2_with fail
  refine same_at (blocks_void w d h) ?_
  go_wp2
  go_ret
  exact ⟨rfl, rfl⟩

theorem after_void (w : World) (d : Option Addr) (v : Value) (h : Void w d) : Calls Tryz.prog 4 #[.pointer d, v] w fun e w' => e = .returned (.tuple #[.pointer none, .int .i64 2]) ∧ w' = w := by
  go_enter Tryz.func4, Tryz.ntmps4
  go_wp2_with fail
  refine same_at (cmade_void w d h) ?_
  go_wp2
  go_ret2
  exact ⟨rfl, rfl⟩

set_option maxHeartbeats 400000 in
theorem numbers_void (w : World) (d : Option Addr) (h : Void w d) : Calls Tryz.prog 12 #[.pointer d] w fun e w' => e = .returned (.slice none 0 0) ∧ w' = w := by
  go_enter Tryz.func12, Tryz.ntmps12
  go_wp2_with fail
  refine same_at (queue_void w d h) ?_
  go_wp2_with fail
  go_loopw [3, 9] (fun v i wr => v = .slice none 0 0 ∧ i = .int .i64 0 ∧ wr = w) (fun _ _ _ => 0)
  case atStart => exact ⟨rfl, rfl, rfl⟩
  case round =>
    obtain ⟨rfl, rfl, rfl⟩ := hrel
    go_wp2
    go_ret
    exact ⟨rfl, rfl⟩

theorem ii_nil (w : World) : II w none 0 [] := ⟨rfl, by omega, by simp, fun h => by omega⟩

theorem of_void (w : World) (d : Option Addr) (K : Nat) (hK : K < 18446744073709551616) (h : Void w d) : Calls Tryz.prog 8 #[.pointer d, .int .u64 (K : Int)] w fun e w' => ∃ p c, e = .returned (.slice p 0 c) ∧ Below w.heap.size w w' := by
  have HK := (show Hid _ from hK)
  clear hK
  go_enter Tryz.func8, Tryz.ntmps8
  go_wp2_with fail
  refine same_at (numbers_void w d h) ?_
  go_wp2_with fail
  refine (chosen_ok none 0 0 [] K w (ii_nil w) (by omega) HK.out).mono ?_
  rintro e w2 ⟨v, rfl, ho, hb⟩
  obtain ⟨p, c, rfl, _⟩ := row_case ho
  go_wp2
  go_ret
  exact ⟨p, c, rfl, hb⟩

theorem sets_void (w : World) (d : Option Addr) (most : Int) (h : Void w d) : Calls Tryz.prog 15 #[.pointer d, .int .i64 most] w fun e w' => e = .returned (sq w.heap.size) ∧ Bx w' w.heap.size none 0 0 0 ∧ w'.heap.size = w.heap.size + 3 ∧ Below w.heap.size w w' := by
  go_enter Tryz.func15, Tryz.ntmps15
  go_wp2_with fail
  refine same_at (cmade_void w d h) ?_
  go_wp2_with fail
  refine same_at (numbers_void w d h) ?_
  go_wp2_with fail
  refine (subsets_ok none 0 0 0 (by omega) w).mono ?_
  rintro e w2 ⟨rfl, hx, hs, hb2⟩
  go_wp2
  go_ret
  exact ⟨rfl, hx, hs, hb2⟩

theorem csets_void (w : World) (d : Option Addr) (most : Int) (h : Void w d) : Calls Tryz.prog 6 #[.pointer d, .int .i64 most] w fun e w' => ∃ p c, e = .returned (.slice p 0 c) ∧ Below w.heap.size w w' := by
  go_enter Tryz.func6, Tryz.ntmps6
  go_wp2_with fail
  refine (sets_void w d most h).mono ?_
  rintro e w1 ⟨rfl, hx, hs, hb⟩
  have HC := (show Hid _ from callsIn_wide.1 (collect_in w.heap.size none 0 0 0 [] (by omega) w1 (by omega) hx (ii_nil w1) (fun b o e => by cases e)))
  clear hx
  go_wp2_with fail
  refine Calls.mono HC.out ?_
  rintro e w2 ⟨v, vs, rfl, ho, hv, hb2⟩
  have h0 : mst 0 0 = 0 := by unfold mst al; decide
  rw [h0] at ho
  obtain ⟨p, c, rfl, _⟩ := row_case ho
  go_wp2
  go_ret
  exact ⟨p, c, rfl, hb.trans (hb2.mono hb.size)⟩

set_option maxRecDepth 100000 in
set_option maxHeartbeats 1000000 in
/-- The walk of no sets. -/
theorem subs0_in (n : Nat) (l H : Nat) (p : Option Addr) (m c : Nat) (J : List Value → World → Prop) (W : World) (hbx : Bx W H p m c 0) (h0 : J [] W) :
    CallsIn Fence.wide n Tryz.prog 38 #[.func (.yield l) #[] #[], .pointer (some ⟨H + 1, 0, none⟩), .pointer (some ⟨H + 1 + 1, 0, none⟩), .pointer (some ⟨H, 0, none⟩)] W fun e W' => (∃ v, e = .returned v) ∧ ∃ xs, xs = [] ∧ J xs W' := by
  have hc1 := hbx.b1.cell
  have hc2 := hbx.b2.cell
  have hal := al_le m
  obtain ⟨A, hA⟩ : ∃ A, al m = A := ⟨_, rfl⟩
  rw [hA] at hc2 hal
  have hA0 : (0 : Int) ≤ A := by omega
  clear hbx hA hal
  refine callsIn_of_wp Tryz.func38 rfl trivial ?_ rfl
  simp only [Tryz.ntmps38, List.size_toArray, List.length_cons, List.length_nil, Nat.reduceAdd, Nat.reduceSub, Array.replicate_succ, Array.replicate_zero, List.push_toArray, List.append_toArray, List.nil_append, List.cons_append]
  gi_wp2
  gi_loopw [9] (fun i wr => i = .int .i64 0 ∧ wr = W) (fun _ _ => 0)
  case atStart => exact ⟨rfl, rfl⟩
  case round =>
    obtain ⟨rfl, rfl⟩ := hrel
    gi_wp2
    go_end0
    exact ⟨⟨_, rfl⟩, [], rfl, h0⟩

theorem subs0_walks (n : Nat) (H : Nat) (p : Option Addr) (m c : Nat) (w : World) (hH : H + 3 ≤ w.heap.size) (hbx : Bx w H p m c 0) :
    Walks Fence.wide n Tryz.prog 38 #[.pointer (some ⟨H + 1, 0, none⟩), .pointer (some ⟨H + 1 + 1, 0, none⟩), .pointer (some ⟨H, 0, none⟩)] (fun x : Value => #[x]) (fun _ _ => True) (fun _ _ => True) (fun xs => xs = []) 0 w := fun l J W hW hJ hY h0 =>
  subs0_in n l H p m c J W (hbx.kb hH (Kb.below hW)) h0
end Go.Proofs.YtemhhgpgpjiijaaGreat
