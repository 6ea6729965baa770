/- A row with one bit turned. -/
import Derived.Test.YtppipcjchlnolaaHas
namespace Go.Proofs.Ytppipcjchlnolaa
open Go.RowKit
set_option linter.unusedVariables false

theorem same_at {P : Program} {f : FuncId} {args : Array Value} {w : World} {v : Value} {Q : Ending → World → Prop} (h : Calls P f args w fun e w' => e = .returned v ∧ w' = w) (hq : Q (.returned v) w) : Calls P f args w Q :=
  h.mono (by rintro e w' ⟨rfl, rfl⟩; exact hq)
theorem drew_at {P : Program} {f : FuncId} {args : Array Value} {w : World} {v : Value} {Q : Ending → World → Prop} (h : Calls P f args w fun e w' => e = .returned v ∧ ∃ k, w' = w.drewN k) (hq : ∀ k, Q (.returned v) (w.drewN k)) : Calls P f args w Q :=
  h.mono (by rintro e w' ⟨rfl, k, rfl⟩; exact hq k)

set_option maxHeartbeats 400000 in
theorem with_err (p : Option Addr) (n c : Nat) (i : Int) (on : Bool) (w : World) (hn : n ≤ 140737488355328) (h : i < 0 ∨ (n : Int) ≤ i / 8) (hi : i < 9223372036854775808) :
    Calls Try.prog 10 #[.slice p n c, .int .i64 i, .bool on] w fun e w' => e = .returned (.tuple #[.slice none 0 0, .int .i64 50]) ∧ w' = w := by
  have HH := (show Hid _ from h)
  clear h
  go_enter Try.func10, Try.ntmps10
  go_wp2_with (first | (go_at_call 26; refine same_at (within_no p n c i _ hn HH.out hi) ?_))
  go_ret2
  exact ⟨rfl, rfl⟩

set_option maxHeartbeats 400000 in
theorem rwith_err (p : Option Addr) (n c : Nat) (i : Int) (on : Bool) (w : World) (hn : n ≤ 140737488355328) (h : i < 0 ∨ (n : Int) ≤ i / 8) (hi : i < 9223372036854775808) :
    Calls Try.prog 11 #[.slice p n c, .int .i64 i, .bool on] w fun e w' => e = .returned (.tuple #[.slice none 0 0, .int .i64 50]) ∧ w' = w := by
  by_cases h0 : i < 0
  · clear h
    go_enter Try.func11, Try.ntmps11
    go_wp2
    go_ret2
    exact ⟨rfl, rfl⟩
  · have h0 : (0 : Int) ≤ i := by omega
    have h1 : (n : Int) ≤ i / 8 := by omega
    clear h
    go_enter Try.func11, Try.ntmps11
    go_wp2
    go_ret2
    exact ⟨rfl, rfl⟩

set_option maxRecDepth 100000 in
set_option maxHeartbeats 1000000 in
theorem with_ok (p : Option Addr) (n c : Nat) (xs : List Int) (i : Nat) (on : Bool) (w : World) (hb : BI w p n xs) (h : i / 8 < n) (hi : i < 9223372036854775808) :
    Calls Try.prog 10 #[.slice p n c, .int .i64 i, .bool on] w fun e w' => ∃ g cap, e = .returned (.tuple #[.slice (some ⟨g, 0, none⟩) n cap, .int .i64 0]) ∧ Own w.heap.size w' g n cap (Bit.put xs i on) ∧ Below w.heap.size w w' := by
  obtain ⟨i0, hi0, hz0, hz1, hz2⟩ := info_parts info5
  have hbig := hb.big
  have hlen := hb.len
  have h0 : (0 : Int) ≤ (i : Int) := by omega
  have h1 : (i : Int) / 8 < (n : Int) := by omega
  have hx := Bit.bits_at _ (hb.byt (i / 8)).1 (hb.byt (i / 8)).2 i
  have h2 : (0 : Int) ≤ (i : Int) / 8 := by omega
  have h3 : ((i / 8 : Nat) : Int) < (n : Int) := by omega
  have h4 : (0 : Int) ≤ ((i / 8 : Nat) : Int) := by omega
  go_enter Try.func10, Try.ntmps10
  go_wp2_with (first
    | (go_at_call 26; refine same_at (within_yes p n c i _ hbig h hi) ?_)
    | (at_make; refine wpList_make_full _ rfl _ _ 22 rfl w.heap.size 5 i0 (.int .u8 0) 1 Try.underlying22 hi0 hz0 hz1 .i64 .i64 _ _ n rfl rfl rfl rfl (by rw [hz2]; omega) (by unfold maxLen; omega) (Nat.le_refl _) ?_; intro w1 hown1 hgrow1; have hb1 := (Below.refl w.heap.size w).grown hgrow1 (Nat.le_refl _) (by intro k hk; cases hk))
    | (refine wpList_copy_splice rfl _ _ 22 22 rfl 5 Try.underlying22 size5 _ _ _ _ _ _ rfl rfl w.heap.size 0 _ 5 (own_row hown1) (xs.map (Value.int .u8)) ?c1 ?c2 ?c3 ?c4 w.heap.size w hb1 (Nat.le_refl _) ?_))
  case c1 => simp [hlen]
  case c2 => intro hp; simpa using (hb.kept hb1).src (by simpa [hlen] using hp)
  case c3 => simp [madeCells, hlen]
  case c4 => exact one_cells xs
  intro w2 hg2 hb2
  have ho : Own w.heap.size w2 w.heap.size n n xs := by
    refine own_of_row (Nat.le_refl _) (by unfold maxLen; omega) hlen ?_
    have hg := hg2.out
    rw [splice_all _ _ (by simp [madeCells, hlen])] at hg
    exact hg
  clear hg2 hown1 hgrow1 hb1
  obtain ⟨q, HQ⟩ : ∃ q, Hid (i / 8 = q) := ⟨_, rfl⟩
  have hqn : q < n := by rw [← HQ.out]; exact h
  have hqI : (q : Int) < (n : Int) := by omega
  have hq0 : (0 : Int) ≤ (q : Int) := by omega
  have HO : Hid (Own w.heap.size (w2.setCell ⟨w.heap.size, i / 8, none⟩ (.int .u8 (Bit.turn (xs.getD (i / 8) 0) (Bit.mk i) on))) w.heap.size n n (Bit.put xs i on)) := ho.set (i / 8) _
  rw [HQ.out] at HO hx
  have hc1 := ho.cell q hqn
  have hf1 := World.ownsRow.frozenAt ho q
  have hb3 := hb2.setCell (p := ⟨w.heap.size, q, none⟩) (Nat.le_refl _) (.int .u8 (Bit.turn (xs.getD q 0) (Bit.mk i) on))
  have h5 : (i : Int) / 8 = (q : Int) := by have := HQ.out; omega
  have hwq := IntWalk.i64_in (q : Int) (by omega)
  clear ho h
  generalize xs.getD q 0 = x at *
  obtain ⟨x1, x2, x3, x4, x5⟩ := hx
  cases on
  · have X := (show Hid _ from x3)
    clear x1 x2 x3 x4 x5
    go_wp2
    go_region_with (first | (go_at_call 27; refine same_at (mask_ok i _ hi) ?_))
    all_goals go_wp2
    all_goals go_ret2
    all_goals rw [X.out]
    all_goals exact ⟨_, _, rfl, HO.out.kept (below_drewN (Below.refl _ _) 1), below_drewN hb3 1⟩
  · have X := (show Hid _ from x2)
    clear x1 x2 x3 x4 x5
    go_wp2
    go_region_with (first | (go_at_call 27; refine same_at (mask_ok i _ hi) ?_))
    all_goals go_wp2
    all_goals go_ret2
    all_goals rw [X.out]
    all_goals exact ⟨_, _, rfl, HO.out.kept (below_drewN (Below.refl _ _) 1), below_drewN hb3 1⟩

set_option maxRecDepth 100000 in
set_option maxHeartbeats 1000000 in
theorem rwith_ok (a0 : Addr) (n c : Nat) (xs : List Int) (i : Nat) (on : Bool) (w : World) (hb : BI w (some a0) n xs) (h : i / 8 < n) (hi : i < 9223372036854775808) :
    Calls Try.prog 11 #[.slice (some a0) n c, .int .i64 i, .bool on] w fun e w' => ∃ g cap, e = .returned (.tuple #[.slice (some ⟨g, 0, none⟩) n cap, .int .i64 0]) ∧ Own w.heap.size w' g n cap (Bit.put xs i on) ∧ Below w.heap.size w w' := by
  obtain ⟨i0, hi0, hz0, hz1, hz2⟩ := info_parts info5
  have hbig := hb.big
  have hlen := hb.len
  have h0 : (0 : Int) ≤ (i : Int) := by omega
  have h1 : (i : Int) / 8 < (n : Int) := by omega
  have h2 : (0 : Int) ≤ (i : Int) / 8 := by omega
  have hx := Bit.bits_at _ (hb.byt (i / 8)).1 (hb.byt (i / 8)).2 i
  have hq := fun W => run_quo8 i W hi
  have hb0 := (Below.refl w.heap.size w).alloc (Nat.le_refl _) (Obj.cells #[] 5)
  go_enter Try.func11, Try.ntmps11
  go_wp2_with (first | (at_builtin; refine wpList_append_own _ rfl _ _ 22 rfl w.heap.size 5 i0 (.int .u8 0) 1 1 Try.underlying22 hi0 hz0 hz1 hz2 rfl (by decide) _ _ _ rfl (World.ownsRow_made w #[] 0 (Nat.le_refl _) (Nat.zero_le _) rfl) a0 n c (xs.map (Value.int .u8)) rfl ?c1 ?c2 ?c3 ?c4 ?c5 ?c6 ?_))
  case c1 => simp [hlen]
  case c2 => exact (hb.kept hb0).src'
  case c3 => exact one_cells xs
  case c4 => unfold maxLen; omega
  case c5 => omega
  case c6 => simp
  intro v' w1 hown hgrow hnil
  obtain ⟨g, cap, hv, ho⟩ := own_shape hown (by first | exact hnil | (intro e; exact absurd (hnil.1 e).1 (by simp)))
  rw [hv]
  have hb1 := hb0.grown hgrow (by simp) (by intro k hk; simp [Value.ownBlock] at hk; omega)
  clear hown hnil hv hgrow hb0
  have hh := rhas_yes (some a0) n c xs i w1 (hb.kept hb1) h hi
  have HO : Hid (Own w.heap.size (w1.setCell ⟨g, i / 8, none⟩ (.int .u8 (Bit.turn (xs.getD (i / 8) 0) (Bit.mk i) on))) g n cap (Bit.put xs i on)) := ho.set (i / 8) _
  have hb3 := hb1.setCell (p := ⟨g, i / 8, none⟩) ho.spot.1 (.int .u8 (Bit.turn (xs.getD (i / 8) 0) (Bit.mk i) on))
  by_cases hon : Bit.on xs i = on
  · have HS : Hid (Bit.put xs i on = xs) := by
      show Bit.put xs i on = xs
      unfold Bit.put
      have e : Bit.turn (xs.getD (i / 8) 0) (Bit.mk i) on = xs.getD (i / 8) 0 := by
        unfold Bit.on at hon
        unfold Bit.turn
        subst hon
        by_cases k : xs.getD (i / 8) 0 / Bit.mk i % 2 = 1
        · simp only [k, decide_true, if_true]
        · simp only [k, decide_false, if_false, Bool.false_eq_true]
      rw [e, List.getD_eq_getElem?_getD, List.getElem?_eq_getElem (by omega)]
      simp
    have HB := (show Hid _ from hb1)
    clear hx hb3 HO
    generalize Bit.on xs i = onv at *
    subst hon
    go_wp2_with (first | (go_at_call 13; refine same_at hh ?_))
    go_ret2
    exact ⟨_, _, rfl, by rw [HS.out]; exact ho, hb1⟩
  · obtain ⟨x1, x2, x3, x4, x5⟩ := hx
    have X : Hid (bits BinOp.xor .u8 (xs.getD (i / 8) 0) (2 ^ (i % 8) % 256) = Bit.turn (xs.getD (i / 8) 0) (Bit.mk i) on) := by
      show bits BinOp.xor .u8 (xs.getD (i / 8) 0) (2 ^ (i % 8) % 256) = Bit.turn (xs.getD (i / 8) 0) (Bit.mk i) on
      have e1 : (2 : Int) ^ (i % 8) % 256 = Bit.mk i := by
        have := Bit.mk_cases i
        unfold Bit.mk at *
        omega
      have e2 : (! decide (xs.getD (i / 8) 0 / Bit.mk i % 2 = 1)) = on := by
        have : decide (xs.getD (i / 8) 0 / Bit.mk i % 2 = 1) = Bit.on xs i := rfl
        rw [this]
        revert hon
        cases Bit.on xs i <;> cases on <;> simp
      rw [e1, x4, e2]
    clear x1 x2 x3 x4 x5
    obtain ⟨q, HQ⟩ : ∃ q, Hid (i / 8 = q) := ⟨_, rfl⟩
    have hqn : q < n := by rw [← HQ.out]; exact h
    have hqI : (q : Int) < (n : Int) := by omega
    have hq0 : (0 : Int) ≤ (q : Int) := by omega
    have h5 : (i : Int) / 8 = (q : Int) := by have := HQ.out; omega
    have hwq := IntWalk.i64_in (q : Int) (by omega)
    have hc1 := ho.cell q hqn
    have hf1 := World.ownsRow.frozenAt ho q
    rw [HQ.out] at HO X hb3
    clear ho h1 h2 hq
    generalize xs.getD q 0 = x at *
    generalize Bit.on xs i = onv at *
    obtain rfl : onv = ! on := by revert hon; cases onv <;> cases on <;> simp
    clear hon
    have ht : ((! on) != on) = true := by cases on <;> rfl
    go_wp2_with (first | (go_at_call 13; refine same_at hh ?_))
    go_region
    go_wp2
    go_ret2
    rw [X.out]
    exact ⟨_, _, rfl, HO.out.kept (below_drewN (Below.refl _ _) 1), below_drewN hb3 1⟩

def wE (n : Nat) (i : Int) : Int := if i < 0 ∨ (n : Int) ≤ i / 8 then 50 else 0
end Go.Proofs.Ytppipcjchlnolaa
