/- KHas KWith KEqual KDinode -/
import Derived.Test.YthdlpeejmmobmaaGreatYG01
import Derived.Test.YthdlpeejmmobmaaGreatYG20
import Derived.DeepKeys2

namespace Go.Proofs.YthdlpeejmmobmaaGreat.Mk
open Go.RowKit
set_option maxRecDepth 100000
set_option linter.unusedVariables false
namespace Bit
def mk (i : Nat) : Int := 2 ^ (i % 8)
theorem mk_cases (i : Nat) : mk i = 1 ∨ mk i = 2 ∨ mk i = 4 ∨ mk i = 8 ∨ mk i = 16 ∨ mk i = 32 ∨ mk i = 64 ∨ mk i = 128 := by
 unfold mk
 have : i % 8 < 8 := Nat.mod_lt _ (by decide)
 generalize i % 8 = k at *
 rcases (by omega : k = 0 ∨ k = 1 ∨ k = 2 ∨ k = 3 ∨ k = 4 ∨ k = 5 ∨ k = 6 ∨ k = 7) with rfl | rfl | rfl | rfl | rfl | rfl | rfl | rfl <;> simp
def on (xs : List Int) (i : Nat) : Bool := decide (xs.getD (i / 8) 0 / mk i % 2 = 1)
def onI (xs : List Int) (i : Int) : Bool := decide (0 ≤ i) && on xs i.toNat
def cnt (n : Int) : Nat := if n < 0 then 0 else if 65536 < n then 65536 else n.toNat
theorem cnt_le (n : Int) : cnt n ≤ 65536 := by
 unfold cnt
 repeat' split
 all_goals omega
theorem cnt_is (n : Int) : (n < 0 ∧ (cnt n : Int) = 0) ∨ (65536 < n ∧ (cnt n : Int) = 65536) ∨ (0 ≤ n ∧ n ≤ 65536 ∧ (cnt n : Int) = n) := by
 unfold cnt
 repeat' split
 all_goals omega
def turn (x m : Int) (b : Bool) : Int := if b then (if x / m % 2 = 1 then x else x + m) else (if x / m % 2 = 1 then x - m else x)
def put (xs : List Int) (i : Nat) (b : Bool) : List Int := xs.set (i / 8) (turn (xs.getD (i / 8) 0) (mk i) b)
theorem bits_all : ∀ x : Fin 256, ∀ k : Fin 8, (bits BinOp.and .u8 (x.val : Int) (2 ^ k.val) != 0) = decide ((x.val : Int) / 2 ^ k.val % 2 = 1) ∧ bits BinOp.or .u8 (x.val : Int) (2 ^ k.val) = turn x.val (2 ^ k.val) true ∧ bits BinOp.andNot .u8 (x.val : Int) (2 ^ k.val) = turn x.val (2 ^ k.val) false ∧
  bits BinOp.xor .u8 (x.val : Int) (2 ^ k.val) = turn x.val (2 ^ k.val) (! decide ((x.val : Int) / 2 ^ k.val % 2 = 1)) ∧ (0 ≤ turn x.val (2 ^ k.val) true ∧ turn x.val (2 ^ k.val) true < 256) ∧ (0 ≤ turn x.val (2 ^ k.val) false ∧ turn x.val (2 ^ k.val) false < 256) := by decide +kernel
theorem bits_at (x : Int) (h0 : 0 ≤ x) (h1 : x < 256) (i : Nat) : (bits BinOp.and .u8 x (mk i) != 0) = decide (x / mk i % 2 = 1) ∧ bits BinOp.or .u8 x (mk i) = turn x (mk i) true ∧ bits BinOp.andNot .u8 x (mk i) = turn x (mk i) false ∧
  bits BinOp.xor .u8 x (mk i) = turn x (mk i) (! decide (x / mk i % 2 = 1)) ∧ (0 ≤ turn x (mk i) true ∧ turn x (mk i) true < 256) ∧ (0 ≤ turn x (mk i) false ∧ turn x (mk i) false < 256) := by
 obtain ⟨n, rfl⟩ := Int.eq_ofNat_of_zero_le h0
 exact bits_all ⟨n, by omega⟩ ⟨i % 8, Nat.mod_lt _ (by decide)⟩
theorem turn_bd {xs : List Int} (h : Num.Byt xs) (i : Nat) (b : Bool) (j : Nat) : 0 ≤ turn (xs.getD j 0) (mk i) b ∧ turn (xs.getD j 0) (mk i) b < 256 := by
 have := bits_at _ (h j).1 (h j).2 i
 cases b
 ·exact this.2.2.2.2.2
 ·exact this.2.2.2.2.1
theorem put_len (xs : List Int) (i : Nat) (b : Bool) : (put xs i b).length = xs.length := by simp [put]
theorem put_byt {xs : List Int} (h : Num.Byt xs) (i : Nat) (b : Bool) : Num.Byt (put xs i b) := by
 intro j
 unfold put
 rw [Num.getD_set]
 split
 ·exact turn_bd h i b _
 ·exact h j
theorem on_far (xs : List Int) (i : Nat) (h : xs.length ≤ i / 8) : on xs i = false := by
 unfold on
 rw [List.getD_eq_getElem?_getD, List.getElem?_eq_none h]
 simp
end Bit
theorem ret_int {k : IntKind} {a b : Int} (h : a = b) : Ending.returned (.int k a) = .returned (.int k b) := by rw [h]
set_option maxHeartbeats 400000 in
theorem mask_ok (i : Nat) (w : World) (hi : i < 9223372036854775808) :
  Calls Tryz.prog 225 #[.int .i64 i] w fun e w' => e = .returned (.int .u8 (Bit.mk i)) ∧ w' = w := by
 have H : Hid ((2 : Int) ^ (i % 8) % 256 = Bit.mk i) := by
  show (2 : Int) ^ (i % 8) % 256 = Bit.mk i
  have := Bit.mk_cases i
  unfold Bit.mk at *
  omega
 have h0 : (0 : Int) ≤ (i : Int) := by omega
 go_enter Tryz.func225, Tryz.ntmps225
 go_wp2
 go_ret
 exact ⟨by show Ending.returned (.int .u8 _) = _; rw [H.out], rfl⟩
set_option maxHeartbeats 400000 in
theorem within_yes (p : Option Addr) (n c : Nat) (i : Nat) (w : World) (hn : n ≤ 140737488355328) (h : i / 8 < n) (hi : i < 9223372036854775808) :
  Calls Tryz.prog 224 #[.slice p n c, .int .i64 i] w fun e w' => e = .returned (.bool true) ∧ w' = w := by
 have h0 : (0 : Int) ≤ (i : Int) := by omega
 have h1 : (i : Int) / 8 < (n : Int) := by omega
 go_enter Tryz.func224, Tryz.ntmps224
 go_wp2
 go_ret
 exact ⟨rfl, rfl⟩
set_option maxHeartbeats 400000 in
theorem within_no (p : Option Addr) (n c : Nat) (i : Int) (w : World) (hn : n ≤ 140737488355328) (h : i < 0 ∨ (n : Int) ≤ i / 8) (hi : i < 9223372036854775808) :
  Calls Tryz.prog 224 #[.slice p n c, .int .i64 i] w fun e w' => e = .returned (.bool false) ∧ w' = w := by
 by_cases h0 : i < 0
 ·clear h
  go_enter Tryz.func224, Tryz.ntmps224
  go_wp2
  go_ret
  exact ⟨rfl, rfl⟩
 ·have h0 : (0 : Int) ≤ i := by omega
  have h1 : ¬ i / 8 < (n : Int) := by omega
  have h2 : decide (i / 8 < (n : Int)) = false := decide_eq_false h1
  clear h
  go_enter Tryz.func224, Tryz.ntmps224
  go_wp2
  go_ret
  exact ⟨rfl, rfl⟩
theorem run_quo8 (i : Nat) (w : World) (hi : i < 9223372036854775808) : (binOp .quo 3 (.int .i64 i) (.int .i64 8)).run Tryz.prog w = .ok (.int .i64 ((i / 8 : Nat) : Int)) w := by
 have e8 : (i : Int) / 8 = ((i / 8 : Nat) : Int) := by omega
 simp [go_sem]
 exact IntWalk.i64_in _ (by omega)
set_option maxRecDepth 100000 in
set_option maxHeartbeats 400000 in
theorem rhas_yes (p : Option Addr) (n c : Nat) (xs : List Int) (i : Nat) (w : World) (hb : BI w p n xs) (h : i / 8 < n) (hi : i < 9223372036854775808) :
  Calls Tryz.prog 255 #[.slice p n c, .int .i64 i] w fun e w' => e = .returned (.bool (Bit.on xs i)) ∧ w' = w := by
 have hn := hb.big
 have h0 : (0 : Int) ≤ (i : Int) := by omega
 have h1 : (i : Int) / 8 < (n : Int) := by omega
 obtain ⟨b, o, rfl, hc⟩ := hb.cells (by omega)
 have hc1 := hc (i / 8) h
 have hy := hb.byt (i / 8)
 have HX : Hid (((xs.getD (i / 8) 0 / 2 ^ (i % 8)).tmod 2 == 1) = Bit.on xs i) := by
  show ((xs.getD (i / 8) 0 / 2 ^ (i % 8)).tmod 2 == 1) = Bit.on xs i
  rw [Int.tmod_eq_emod_of_nonneg (Int.ediv_nonneg hy.1 (Int.le_of_lt (Int.pow_pos (by decide))))]
  unfold Bit.on Bit.mk
  rw [Bool.eq_iff_iff]
  simp
 clear hc hb
 generalize xs.getD (i / 8) 0 = x at *
 have hq := fun W => run_quo8 i W hi
 go_enter Tryz.func255, Tryz.ntmps255
 go_wp2
 go_ret
 exact ⟨by show Ending.returned (.bool _) = _; rw [HX.out], rfl⟩
end Go.Proofs.YthdlpeejmmobmaaGreat.Mk

namespace Go.Proofs.YthdlpeejmmobmaaGreat.Mk
open Go.RowKit
set_option maxRecDepth 100000
set_option linter.unusedVariables false
theorem drew_at {P : Program} {f : FuncId} {args : Array Value} {w : World} {v : Value} {Q : Ending → World → Prop} (h : Calls P f args w fun e w' => e = .returned v ∧ ∃ k, w' = w.drewN k) (hq : ∀ k, Q (.returned v) (w.drewN k)) : Calls P f args w Q :=
 h.mono (by rintro e w' ⟨rfl, k, rfl⟩; exact hq k)
set_option maxRecDepth 100000 in
set_option maxHeartbeats 1000000 in
theorem with_ok (p : Option Addr) (n c : Nat) (xs : List Int) (i : Nat) (on : Bool) (w : World) (hb : BI w p n xs) (h : i / 8 < n) (hi : i < 9223372036854775808) :
  Calls Tryz.prog 222 #[.slice p n c, .int .i64 i, .bool on] w fun e w' => ∃ g cap, e = .returned (.tuple #[.slice (some ⟨g, 0, none⟩) n cap, .int .i64 0]) ∧ Own w.heap.size w' g n cap (Bit.put xs i on) ∧ Below w.heap.size w w' := by
 obtain ⟨i0, hi0, hz0, hz1, hz2⟩ := info_parts info5
 have hbig := hb.big
 have hlen := hb.len
 have h0 : (0 : Int) ≤ (i : Int) := by omega
 have h1 : (i : Int) / 8 < (n : Int) := by omega
 have hx := Bit.bits_at _ (hb.byt (i / 8)).1 (hb.byt (i / 8)).2 i
 have h2 : (0 : Int) ≤ (i : Int) / 8 := by omega
 have h3 : ((i / 8 : Nat) : Int) < (n : Int) := by omega
 have h4 : (0 : Int) ≤ ((i / 8 : Nat) : Int) := by omega
 go_enter Tryz.func222, Tryz.ntmps222
 go_wp2_with (first
  | (go_at_call 224; refine same_at (within_yes p n c i _ hbig h hi) ?_)
  | (at_make; refine wpList_make_full _ rfl _ _ 42 rfl w.heap.size 5 i0 (.int .u8 0) 1 Tryz.underlying42 hi0 hz0 hz1 .i64 .i64 _ _ n rfl rfl rfl rfl (by rw [hz2]; omega) (by unfold maxLen; omega) (Nat.le_refl _) ?_; intro w1 hown1 hgrow1; have hb1 := (Below.refl w.heap.size w).grown hgrow1 (Nat.le_refl _) (by intro k hk; cases hk))
  | (refine wpList_copy_splice rfl _ _ 42 42 rfl 5 Tryz.underlying42 size5 _ _ _ _ _ _ rfl rfl w.heap.size 0 _ 5 (own_row hown1) (xs.map (Value.int .u8)) ?c1 ?c2 ?c3 ?c4 w.heap.size w hb1 (Nat.le_refl _) ?_))
 case c1 => simp [hlen]
 case c2 => intro hp; simpa using (hb.kept hb1).src (by simpa [hlen] using hp)
 case c3 => simp [madeCells, hlen]
 case c4 => exact one_cells xs
 intro w2 hg2 hb2
 have ho : Own w.heap.size w2 w.heap.size n n xs := by
  refine own_of_row (Nat.le_refl _) (by unfold maxLen; omega) hlen ?_
  have hg := hg2.out
  rw [splice_all _ _ (by simp [madeCells, hlen])] at hg
  exact hg
 clear hg2 hown1 hgrow1 hb1
 obtain ⟨q, HQ⟩ : ∃ q, Hid (i / 8 = q) := ⟨_, rfl⟩
 have hqn : q < n := by rw [← HQ.out]; exact h
 have hqI : (q : Int) < (n : Int) := by omega
 have hq0 : (0 : Int) ≤ (q : Int) := by omega
 have HO : Hid (Own w.heap.size (w2.setCell ⟨w.heap.size, i / 8, none⟩ (.int .u8 (Bit.turn (xs.getD (i / 8) 0) (Bit.mk i) on))) w.heap.size n n (Bit.put xs i on)) := ho.set (i / 8) _
 rw [HQ.out] at HO hx
 have hc1 := ho.cell q hqn
 have hf1 := World.ownsRow.frozenAt ho q
 have hb3 := hb2.setCell (p := ⟨w.heap.size, q, none⟩) (Nat.le_refl _) (.int .u8 (Bit.turn (xs.getD q 0) (Bit.mk i) on))
 have h5 : (i : Int) / 8 = (q : Int) := by have := HQ.out; omega
 have hwq := IntWalk.i64_in (q : Int) (by omega)
 clear ho h
 generalize xs.getD q 0 = x at *
 obtain ⟨x1, x2, x3, x4, x5⟩ := hx
 cases on
 ·have X := (show Hid _ from x3)
  clear x1 x2 x3 x4 x5
  go_wp2
  go_region_with (first | (go_at_call 225; refine same_at (mask_ok i _ hi) ?_))
  all_goals go_wp2
  all_goals go_ret2
  all_goals rw [X.out]
  all_goals exact ⟨_, _, rfl, HO.out.kept (below_drewN (Below.refl _ _) 1), below_drewN hb3 1⟩
 ·have X := (show Hid _ from x2)
  clear x1 x2 x3 x4 x5
  go_wp2
  go_region_with (first | (go_at_call 225; refine same_at (mask_ok i _ hi) ?_))
  all_goals go_wp2
  all_goals go_ret2
  all_goals rw [X.out]
  all_goals exact ⟨_, _, rfl, HO.out.kept (below_drewN (Below.refl _ _) 1), below_drewN hb3 1⟩
set_option maxRecDepth 100000 in
set_option maxHeartbeats 1000000 in
theorem rwith_ok (a0 : Addr) (n c : Nat) (xs : List Int) (i : Nat) (on : Bool) (w : World) (hb : BI w (some a0) n xs) (h : i / 8 < n) (hi : i < 9223372036854775808) :
  Calls Tryz.prog 181 #[.slice (some a0) n c, .int .i64 i, .bool on] w fun e w' => ∃ g cap, e = .returned (.tuple #[.slice (some ⟨g, 0, none⟩) n cap, .int .i64 0]) ∧ Own w.heap.size w' g n cap (Bit.put xs i on) ∧ Below w.heap.size w w' := by
 obtain ⟨i0, hi0, hz0, hz1, hz2⟩ := info_parts info5
 have hbig := hb.big
 have hlen := hb.len
 have h0 : (0 : Int) ≤ (i : Int) := by omega
 have h1 : (i : Int) / 8 < (n : Int) := by omega
 have h2 : (0 : Int) ≤ (i : Int) / 8 := by omega
 have hx := Bit.bits_at _ (hb.byt (i / 8)).1 (hb.byt (i / 8)).2 i
 have hq := fun W => run_quo8 i W hi
 have hb0 := (Below.refl w.heap.size w).alloc (Nat.le_refl _) (Obj.cells #[] 5)
 go_enter Tryz.func181, Tryz.ntmps181
 go_wp2_with (first | (at_builtin; refine wpList_append_own _ rfl _ _ 42 rfl w.heap.size 5 i0 (.int .u8 0) 1 1 Tryz.underlying42 hi0 hz0 hz1 hz2 rfl (by decide) _ _ _ rfl (World.ownsRow_made w #[] 0 (Nat.le_refl _) (Nat.zero_le _) rfl) a0 n c (xs.map (Value.int .u8)) rfl ?c1 ?c2 ?c3 ?c4 ?c5 ?c6 ?_))
 case c1 => simp [hlen]
 case c2 => exact (hb.kept hb0).src'
 case c3 => exact one_cells xs
 case c4 => unfold maxLen; omega
 case c5 => omega
 case c6 => simp
 intro v' w1 hown hgrow hnil
 obtain ⟨g, cap, hv, ho⟩ := own_shape hown (by first | exact hnil | (intro e; exact absurd (hnil.1 e).1 (by simp)))
 rw [hv]
 have hb1 := hb0.grown hgrow (by simp) (by intro k hk; simp [Value.ownBlock] at hk; omega)
 clear hown hnil hv hgrow hb0
 have hh := rhas_yes (some a0) n c xs i w1 (hb.kept hb1) h hi
 have HO : Hid (Own w.heap.size (w1.setCell ⟨g, i / 8, none⟩ (.int .u8 (Bit.turn (xs.getD (i / 8) 0) (Bit.mk i) on))) g n cap (Bit.put xs i on)) := ho.set (i / 8) _
 have hb3 := hb1.setCell (p := ⟨g, i / 8, none⟩) ho.spot.1 (.int .u8 (Bit.turn (xs.getD (i / 8) 0) (Bit.mk i) on))
 by_cases hon : Bit.on xs i = on
 ·have HS : Hid (Bit.put xs i on = xs) := by
   show Bit.put xs i on = xs
   unfold Bit.put
   have e : Bit.turn (xs.getD (i / 8) 0) (Bit.mk i) on = xs.getD (i / 8) 0 := by
    unfold Bit.on at hon
    unfold Bit.turn
    subst hon
    by_cases k : xs.getD (i / 8) 0 / Bit.mk i % 2 = 1
    ·simp only [k, decide_true, if_true]
    ·simp only [k, decide_false, if_false, Bool.false_eq_true]
   rw [e, List.getD_eq_getElem?_getD, List.getElem?_eq_getElem (by omega)]
   simp
  have HB := (show Hid _ from hb1)
  clear hx hb3 HO
  generalize Bit.on xs i = onv at *
  subst hon
  go_wp2_with (first | (go_at_call 255; refine same_at hh ?_))
  go_ret2
  exact ⟨_, _, rfl, by rw [HS.out]; exact ho, hb1⟩
 ·obtain ⟨x1, x2, x3, x4, x5⟩ := hx
  have X : Hid (bits BinOp.xor .u8 (xs.getD (i / 8) 0) (2 ^ (i % 8) % 256) = Bit.turn (xs.getD (i / 8) 0) (Bit.mk i) on) := by
   show bits BinOp.xor .u8 (xs.getD (i / 8) 0) (2 ^ (i % 8) % 256) = Bit.turn (xs.getD (i / 8) 0) (Bit.mk i) on
   have e1 : (2 : Int) ^ (i % 8) % 256 = Bit.mk i := by
    have := Bit.mk_cases i
    unfold Bit.mk at *
    omega
   have e2 : (! decide (xs.getD (i / 8) 0 / Bit.mk i % 2 = 1)) = on := by
    have : decide (xs.getD (i / 8) 0 / Bit.mk i % 2 = 1) = Bit.on xs i := rfl
    rw [this]
    revert hon
    cases Bit.on xs i <;> cases on <;> simp
   rw [e1, x4, e2]
  clear x1 x2 x3 x4 x5
  obtain ⟨q, HQ⟩ : ∃ q, Hid (i / 8 = q) := ⟨_, rfl⟩
  have hqn : q < n := by rw [← HQ.out]; exact h
  have hqI : (q : Int) < (n : Int) := by omega
  have hq0 : (0 : Int) ≤ (q : Int) := by omega
  have h5 : (i : Int) / 8 = (q : Int) := by have := HQ.out; omega
  have hwq := IntWalk.i64_in (q : Int) (by omega)
  have hc1 := ho.cell q hqn
  have hf1 := World.ownsRow.frozenAt ho q
  rw [HQ.out] at HO X hb3
  clear ho h1 h2 hq
  generalize xs.getD q 0 = x at *
  generalize Bit.on xs i = onv at *
  obtain rfl : onv = ! on := by revert hon; cases onv <;> cases on <;> simp
  clear hon
  have ht : ((! on) != on) = true := by cases on <;> rfl
  go_wp2_with (first | (go_at_call 255; refine same_at hh ?_))
  go_region
  go_wp2
  go_ret2
  rw [X.out]
  exact ⟨_, _, rfl, HO.out.kept (below_drewN (Below.refl _ _) 1), below_drewN hb3 1⟩
end Go.Proofs.YthdlpeejmmobmaaGreat.Mk

namespace Go.Proofs.YthdlpeejmmobmaaGreat.Mk
open Go.RowKit
set_option maxRecDepth 100000
set_option linter.unusedVariables false
theorem cells5' : Tryz.prog.cellsOf 5 = 1 := by kernel_rfl
theorem lit_byte (d : Nat) (v : Int) (h : 0 ≤ v ∧ v < 256) : Tryz.prog.keyLits (d + 1) 5 [.int .u8 v] = some [Lit.int .u8 v] := by
 unfold Program.keyLits
 simp only [Tryz.underlying5]
 rw [if_pos ⟨trivial, by simp [Lit.wf, IntKind.min, IntKind.max, IntKind.signed, IntKind.bits]; omega⟩]
theorem mapM_some {α β : Type} (f : α → Option β) : ∀ l : List α, (∀ x ∈ l, ∃ y, f x = some y) → ∃ ys, l.mapM f = some ys
 | [], _ => ⟨[], rfl⟩
 | x :: l, h => by
  obtain ⟨y, hy⟩ := h x (by simp)
  obtain ⟨ys, hys⟩ := mapM_some f l (fun z hz => h z (by simp [hz]))
  exact ⟨y :: ys, by rw [List.mapM_cons, hy, hys]; rfl⟩
theorem lits_bytes {t : TypeId} {n : Nat} (ht : Tryz.prog.underlying t = some (.array n 5)) (hc : Tryz.prog.cellsOf t = n) (d : Nat) (ys : List Int) (hl : ys.length = n) (hy : Num.Byt ys) : ∃ l, Tryz.prog.keyLits (d + 2) t (ys.map (Value.int .u8)) = some l := by
 rw [show d + 2 = (d + 1) + 1 from rfl]
 unfold Program.keyLits
 simp only [ht]
 rw [if_pos (by rw [hc, List.length_map, hl])]
 obtain ⟨ls, hls⟩ := mapM_some (fun i => Tryz.prog.keyLits (d + 1) 5 (((ys.map (Value.int .u8)).drop (i * Tryz.prog.cellsOf 5)).take (Tryz.prog.cellsOf 5))) (List.range n) (by
  intro i hi
  have hi := List.mem_range.1 hi
  rw [cells5', Nat.mul_one]
  have e : ((ys.map (Value.int .u8)).drop i).take 1 = [Value.int .u8 (ys.getD i 0)] := by
   rw [List.drop_eq_getElem_cons (by simp; omega)]
   simp [List.getD_eq_getElem?_getD, List.getElem?_eq_getElem (show i < ys.length by omega)]
  rw [e]
  exact ⟨_, lit_byte d _ (hy i)⟩)
 rw [hls]
 exact ⟨_, rfl⟩
theorem cells36 : Tryz.prog.cellsOf 62 = 32 := by kernel_rfl
theorem wpList_eql_wanted {P : Program} {ops : Array Oper} {rest : List Oper} {o : Oper} {a : Act} {w : World} {Q : Exit → Act → World → Prop} (hwant : Region.wanted o (yielded ops a.tmps) = true) (t : TypeId) (x y : Operand) (ho : o.op = .binOp .eql t x y t)
  (A B : Array Value) (hx : a.eval x = .agg A) (hy : a.eval y = .agg B) (hg : P.eqGuardType P.depth t = false) (r : Bool) (hr : (Op.equalIn 10000 t (.agg A) (.agg B)).run P w = .ok r w)
  (h : wpList P ops Q rest (a.put o.dst (.bool r)) w) : wpList P ops Q (o :: rest) a w :=
 wpList_step fun K hK => by
  rw [if_pos hwant]
  unfold Oper.wp
  have h1 := run_eqGuard_agg (P := P) (w := w) BinOp.eql t x y A B hg
  have h2 := run_eql_struct (P := P) (w := w) t A B
  rw [hr] at h2
  simp [execOp, ho, hx, hy, h1, h2, Result.andThen]
  exact hK _ _ h
end Go.Proofs.YthdlpeejmmobmaaGreat.Mk

namespace Go.Proofs.YthdlpeejmmobmaaGreat.Mk
open Go.RowKit
set_option maxRecDepth 100000
set_option linter.unusedVariables false
def Ads (zs : List Int) : Prop := ∀ z ∈ zs, 0 ≤ z ∧ z ≤ 2047
instance (zs : List Int) : Decidable (Ads zs) := by unfold Ads; infer_instance
set_option maxHeartbeats 400000 in
theorem areAd_ok (p : Option Addr) (n c : Nat) (zs : List Int) (w : World) (h : II w p n zs) : Calls Tryz.prog 283 #[.slice p n c] w fun e w' => e = .returned (.bool (decide (Ads zs))) ∧ w' = w := by
 have hbig := h.big
 have hlen := h.len
 go_enter Tryz.func283, Tryz.ntmps283
 go_wp2_with fail
 go_loopw [7] (fun i wr => ∃ j : Nat, j ≤ n ∧ i = .int .i64 (j : Int) ∧ Ads (zs.take j) ∧ wr = w) (fun i _ => n - (intOf i).toNat)
 case atStart => exact ⟨0, by omega, rfl, by simp [Ads], rfl⟩
 case round =>
  obtain ⟨j, hj, rfl, hA, rfl⟩ := hrel
  by_cases hlt : j < n
  ·obtain ⟨b, o, rfl, hc⟩ := h.cells (by omega)
   have hcell := hc j hlt
   have hjI : (j : Int) < (n : Int) := by omega
   have hz : zs[j]? = some (zs.getD j 0) := by rw [List.getD_eq_getElem?_getD, List.getElem?_eq_getElem (by omega)]; rfl
   generalize zs.getD j 0 = z at *
   have HZ : Hid (zs[j]? = some z) := hz
   clear hz hc
   have hw := within_ok z 0 2047 wr
   by_cases hok : 0 ≤ z ∧ z ≤ 2047
   ·rw [decide_eq_true hok] at hw
    have hA2 : Ads (zs.take (j + 1)) := by
     intro y hy
     rw [List.take_add_one, HZ.out] at hy
     rcases List.mem_append.1 hy with h' | h'
     ·exact hA y h'
     ·simp at h'
      subst h'
      exact hok
    clear hok
    go_wp2_with (first | (go_at_call 230; refine same_at hw ?_))
    go_roundw
    case rel =>
     exact ⟨j + 1, by omega, by go_num, hA2, by first | rfl | trivial⟩
    case measure => simp [intOf]; omega
   ·rw [decide_eq_false hok] at hw
    have hno : ¬ Ads zs := fun k => hok (k z (List.mem_of_getElem? HZ.out))
    clear hok
    go_wp2_with (first | (go_at_call 230; refine same_at hw ?_))
    go_ret
    rw [decide_eq_false hno]
    exact ⟨rfl, rfl⟩
  ·obtain rfl : j = n := by omega
   rw [List.take_of_length_le (by omega)] at hA
   go_wp2
   go_ret
   rw [decide_eq_true hA]
   exact ⟨rfl, rfl⟩
abbrev dinV (m l s a b c d i j : Int) : Value := .agg #[.int .i64 m, .int .i64 l, .int .i64 s, .int .i64 a, .int .i64 b, .int .i64 c, .int .i64 d, .int .i64 i, .int .i64 j]
abbrev dinO (m l s a b c d i j : Int) : Obj := .cells #[.int .i64 m, .int .i64 l, .int .i64 s, .int .i64 a, .int .i64 b, .int .i64 c, .int .i64 d, .int .i64 i, .int .i64 j] 75
theorem din_ii {w : World} {x : Nat} {m l s a b c d i j : Int} (h : w.heap[x]? = some (dinO m l s a b c d i j)) : II w (some ⟨x, 3, none⟩) 4 [a, b, c, d] := by
 refine ⟨rfl, by decide, fun _ => ⟨x, 3, rfl, fun k hk => ?_⟩⟩
 rcases (by omega : k = 0 ∨ k = 1 ∨ k = 2 ∨ k = 3) with rfl | rfl | rfl | rfl <;> exact cell_row h _ _ rfl
def UMay (l s a b c d i j : Int) : Prop := (0 ≤ l ∧ l ≤ 1000) ∧ (0 ≤ s ∧ s ≤ 532992) ∧ Ads [a, b, c, d] ∧ Ads [i, j]
instance (l s a b c d i j : Int) : Decidable (UMay l s a b c d i j) := by unfold UMay; infer_instance
theorem two_ii (w : World) (i j : Int) : II (w.alloc (.cells #[.int .i64 i, .int .i64 j] 3)) (some ⟨w.heap.size, 0, none⟩) 2 [i, j] := by
 refine ⟨rfl, by decide, fun _ => ⟨w.heap.size, 0, rfl, fun k hk => ?_⟩⟩
 rw [Nat.zero_add]
 rcases (by omega : k = 0 ∨ k = 1) with rfl | rfl
 ·exact cell_row (heap_new w _) 0 _ rfl
 ·exact cell_row (heap_new w _) 1 _ rfl
set_option maxHeartbeats 1000000 in
theorem usedMay_ok (m l s a b c d i j : Int) (w : World) : Calls Tryz.prog 240 #[dinV m l s a b c d i j] w fun e w' => e = .returned (.bool (decide (UMay l s a b c d i j))) ∧ Below w.heap.size w w' := by
 have HB := grew_alloc w (dinO m l s a b c d i j)
 have hx := heap_new w (dinO m l s a b c d i j)
 have q4 := areAd_ok _ 4 4 _ _ (din_ii hx)
 have hb2 := grew_alloc (w.alloc (dinO m l s a b c d i j)) (.cells #[.int .i64 i, .int .i64 j] 3)
 have q2 := areAd_ok _ 2 2 _ _ (two_ii (w.alloc (dinO m l s a b c d i j)) i j)
 rw [size_alloc] at q2
 by_cases h1 : 0 ≤ l ∧ l ≤ 1000
 ·by_cases h2 : 0 ≤ s ∧ s ≤ 532992
  ·by_cases h3 : Ads [a, b, c, d]
   ·rw [decide_eq_true h3] at q4
    rw [show decide (UMay l s a b c d i j) = decide (Ads [i, j]) from decide_eq_decide.2 ⟨fun k => k.2.2.2, fun k => ⟨h1, h2, h3, k⟩⟩]
    clear h3
    go_enter Tryz.func240, Tryz.ntmps240
    go_wp2_with (first | (go_at_call 230; refine same_at (within_ok _ _ _ _) ?_))
    refine same_at q4 ?_
    go_wp2_with fail
    refine same_at q2 ?_
    go_wp2
    go_ret
    exact ⟨rfl, grew_trans HB hb2⟩
   ·rw [decide_eq_false h3] at q4
    rw [show decide (UMay l s a b c d i j) = false from decide_eq_false (fun k => h3 k.2.2.1)]
    clear h3
    go_enter Tryz.func240, Tryz.ntmps240
    go_wp2_with (first | (go_at_call 230; refine same_at (within_ok _ _ _ _) ?_))
    refine same_at q4 ?_
    go_wp2
    go_ret
    exact ⟨rfl, HB⟩
  ·rw [show decide (UMay l s a b c d i j) = false from decide_eq_false (fun k => h2 k.2.1)]
   go_enter Tryz.func240, Tryz.ntmps240
   go_wp2_with (first | (go_at_call 230; refine same_at (within_ok _ _ _ _) ?_))
   go_ret
   exact ⟨rfl, HB⟩
 ·rw [show decide (UMay l s a b c d i j) = false from decide_eq_false (fun k => h1 k.1)]
  go_enter Tryz.func240, Tryz.ntmps240
  go_wp2_with (first | (go_at_call 230; refine same_at (within_ok _ _ _ _) ?_))
  go_ret
  exact ⟨rfl, HB⟩
set_option maxRecDepth 10000 in
set_option maxHeartbeats 1000000 in
theorem eq43 (a b c d e f g h : Int) (w : World) : (Op.equalIn 9999 73 (.agg #[.int .i64 a, .int .i64 b, .int .i64 c, .int .i64 d]) (.agg #[.int .i64 e, .int .i64 f, .int .i64 g, .int .i64 h])).run Tryz.prog w = .ok (a == e && b == f && c == g && d == h) w := by
 have u3 := Tryz.underlying3
 have a3 := Tryz.isAgg3
 have z3 := Tryz.sizeOf3
 rw [show (9999 : Nat) = 9998 + 1 from rfl, Op.equalIn]
 simp only [Sem.run_bind, run_underlying Tryz.underlying73, Result.andThen_ok]
 simp only [Std.Legacy.Range.forIn_eq_forIn_range', Std.Legacy.Range.size, Nat.sub_zero, Nat.add_sub_cancel, Nat.div_one, List.range'_succ, List.range'_zero, List.forIn_cons, List.forIn_nil]
 go_simp
 by_cases h1 : a = e <;> by_cases h2 : b = f <;> by_cases h3 : c = g <;> by_cases h4 : d = h <;> simp [h1, h2, h3, h4]
theorem eq45 (m l s a b c d i j m' l' s' a' b' c' d' i' j' : Int) (w : World) : (Op.equalIn 10000 75 (.agg #[.int .i64 m, .int .i64 l, .int .i64 s, .int .i64 a, .int .i64 b, .int .i64 c, .int .i64 d, .int .i64 i, .int .i64 j]) (.agg #[.int .i64 m', .int .i64 l', .int .i64 s', .int .i64 a', .int .i64 b', .int .i64 c', .int .i64 d', .int .i64 i', .int .i64 j'])).run Tryz.prog w = .ok (decide (m = m' ∧ l = l' ∧ s = s' ∧ (a = a' ∧ b = b' ∧ c = c' ∧ d = d') ∧ i = i' ∧ j = j')) w := by
 have u3 := Tryz.underlying3
 have a3 := Tryz.isAgg3
 have z3 := Tryz.sizeOf3
 have q := eq43 a b c d a' b' c' d'
 have hS : Tryz.prog.underlying 75 = some (.struct (Tryz.prog.fieldsOf 75)) := by kernel_rfl
 have hp : Tryz.prog.stoodInHeld 75 = false := by kernel_rfl
 have hq : (a == a' && b == b' && c == c' && d == d') = decide (a = a' ∧ b = b' ∧ c = c' ∧ d = d') := by
  rw [Bool.eq_iff_iff]; simp; constructor
  ·rintro ⟨⟨⟨h1, h2⟩, h3⟩, h4⟩; exact ⟨h1, h2, h3, h4⟩
  ·rintro ⟨h1, h2, h3, h4⟩; exact ⟨⟨⟨h1, h2⟩, h3⟩, h4⟩
 rw [hq] at q
 clear hq
 rw [show (10000 : Nat) = 9999 + 1 from rfl, run_equalIn_agg w 9999 75 _ _ hS hp]
 simp only [Program.fieldsOf, Tryz.underlying75]
 by_cases hX : (a = a' ∧ b = b' ∧ c = c' ∧ d = d')
 ·rw [decide_eq_true hX] at q
  rw [show decide (m = m' ∧ l = l' ∧ s = s' ∧ (a = a' ∧ b = b' ∧ c = c' ∧ d = d') ∧ i = i' ∧ j = j') = decide (m = m' ∧ l = l' ∧ s = s' ∧ i = i' ∧ j = j') from decide_eq_decide.2 ⟨fun k => ⟨k.1, k.2.1, k.2.2.1, k.2.2.2.2⟩, fun k => ⟨k.1, k.2.1, k.2.2.1, hX, k.2.2.2⟩⟩]
  clear hX
  go_simp
  by_cases h1 : m = m' <;> by_cases h2 : l = l' <;> by_cases h3 : s = s' <;> by_cases h4 : i = i' <;> by_cases h5 : j = j' <;> simp [h1, h2, h3, h4, h5]
 ·rw [decide_eq_false hX] at q
  rw [show decide (m = m' ∧ l = l' ∧ s = s' ∧ (a = a' ∧ b = b' ∧ c = c' ∧ d = d') ∧ i = i' ∧ j = j') = false from decide_eq_false (fun k => hX k.2.2.2.1)]
  clear hX
  go_simp
theorem guard45 : Tryz.prog.eqGuardType Tryz.prog.depth 75 = false := by kernel_rfl
def DMay (m l s a b c d i j : Int) : Prop := (m = 0 ∧ l = 0 ∧ s = 0 ∧ a = 0 ∧ b = 0 ∧ c = 0 ∧ d = 0 ∧ i = 0 ∧ j = 0) ∨ (m = 1 ∧ UMay l s a b c d i j) ∨ (m = 2 ∧ UMay l s a b c d i j ∧ s % 128 = 0)
instance (m l s a b c d i j : Int) : Decidable (DMay m l s a b c d i j) := by unfold DMay; infer_instance
theorem din_cells (w : World) (m l s a b c d i j : Int) : (w.alloc (dinO m l s a b c d i j)).cell? ⟨w.heap.size, 2, none⟩ = some (.int .i64 s) := cell_row (heap_new w _) 2 _ rfl
set_option maxRecDepth 10000 in
set_option maxHeartbeats 1000000 in
theorem dinodeMay_ok (m l s a b c d i j : Int) (w : World) : Calls Tryz.prog 155 #[dinV m l s a b c d i j] w fun e w' => e = .returned (.bool (decide (DMay m l s a b c d i j))) ∧ Below w.heap.size w w' := by
 have HB := grew_alloc w (dinO m l s a b c d i j)
 have c2 := din_cells w m l s a b c d i j
 have hu := fun w => usedMay_ok m l s a b c d i j w
 by_cases h0 : m = 0
 ·subst h0
  rw [show decide (DMay 0 l s a b c d i j) = decide ((0 : Int) = 0 ∧ l = 0 ∧ s = 0 ∧ (a = 0 ∧ b = 0 ∧ c = 0 ∧ d = 0) ∧ i = 0 ∧ j = 0) from decide_eq_decide.2 (by unfold DMay; omega)]
  have hq := eq45 0 l s a b c d i j 0 0 0 0 0 0 0 0 0 (w.alloc (dinO 0 l s a b c d i j))
  go_enter Tryz.func155, Tryz.ntmps155
  go_wp2_with (refine wpList_eql_wanted (by rfl) 75 (.tmp 7) (.tmp 8) rfl _ _ rfl rfl guard45 _ hq ?_)
  go_ret
  exact ⟨rfl, HB⟩
 ·by_cases h1 : m = 1
  ·subst h1
   rw [show decide (DMay 1 l s a b c d i j) = decide (UMay l s a b c d i j) from decide_eq_decide.2 (by unfold DMay; constructor; rintro (h | h | h); omega; exact h.2; omega; exact fun h => .inr (.inl ⟨rfl, h⟩))]
   go_enter Tryz.func155, Tryz.ntmps155
   go_wp2_with (first | (go_at_call 240; refine grew_at (hu _) ?_; intro wn hbn; have HB := grew_trans HB hbn))
   go_ret
   exact ⟨rfl, HB⟩
  ·by_cases h2 : m = 2
   ·subst h2
    by_cases hU : UMay l s a b c d i j
    ·rw [decide_eq_true hU] at hu
     have hs := hU.2.1
     rw [show decide (DMay 2 l s a b c d i j) = decide (s % 128 = 0) from decide_eq_decide.2 (by unfold DMay; constructor; rintro (h | h | h); omega; omega; exact h.2.2; exact fun h => .inr (.inr ⟨rfl, hU, h⟩))]
     clear hU
     go_enter Tryz.func155, Tryz.ntmps155
     go_wp2_with (first | (go_at_call 240; refine grew_at (hu _) ?_; intro wn hbn; have HB := grew_trans HB hbn; have c2 := cell_kept c2 hbn))
     go_ret
     refine ⟨?_, HB⟩
     rw [show decide (s % 128 = 0) = (s % 128 == 0) from rfl]
     rfl
    ·rw [decide_eq_false hU] at hu
     rw [show decide (DMay 2 l s a b c d i j) = false from decide_eq_false (by unfold DMay; rintro (h | h | h); omega; omega; exact hU h.2.1)]
     clear hU
     go_enter Tryz.func155, Tryz.ntmps155
     go_wp2_with (first | (go_at_call 240; refine grew_at (hu _) ?_; intro wn hbn; have HB := grew_trans HB hbn; have c2 := cell_kept c2 hbn))
     go_ret
     exact ⟨rfl, HB⟩
   ·rw [show decide (DMay m l s a b c d i j) = false from decide_eq_false (by unfold DMay; rintro (h | h | h) <;> omega)]
    go_enter Tryz.func155, Tryz.ntmps155
    go_wp2
    go_ret
    exact ⟨rfl, HB⟩
end Go.Proofs.YthdlpeejmmobmaaGreat.Mk
