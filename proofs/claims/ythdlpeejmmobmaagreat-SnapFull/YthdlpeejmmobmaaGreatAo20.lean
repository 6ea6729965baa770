/- KWith KEqual KDinode KEDin KRDinM KRDin KTake -/
import Derived.Test.YthdlpeejmmobmaaGreatAo19
import Derived.DeepKeys2

namespace Go.Proofs.YthdlpeejmmobmaaGreat.Mk
open Go.RowKit
set_option maxRecDepth 100000
set_option linter.unusedVariables false

theorem drew_at {P : Program} {f : FuncId} {args : Array Value} {w : World} {v : Value} {Q : Ending → World → Prop} (h : Calls P f args w fun e w' => e = .returned v ∧ ∃ k, w' = w.drewN k) (hq : ∀ k, Q (.returned v) (w.drewN k)) : Calls P f args w Q :=
  h.mono (by rintro e w' ⟨rfl, k, rfl⟩; exact hq k)

set_option maxRecDepth 100000 in
set_option maxHeartbeats 1000000 in
theorem with_ok (p : Option Addr) (n c : Nat) (xs : List Int) (i : Nat) (on : Bool) (w : World) (hb : BI w p n xs) (h : i / 8 < n) (hi : i < 9223372036854775808) :
    Calls Tryz.prog 222 #[.slice p n c, .int .i64 i, .bool on] w fun e w' => ∃ g cap, e = .returned (.tuple #[.slice (some ⟨g, 0, none⟩) n cap, .int .i64 0]) ∧ Own w.heap.size w' g n cap (Bit.put xs i on) ∧ Below w.heap.size w w' := by
  obtain ⟨i0, hi0, hz0, hz1, hz2⟩ := info_parts info5
  have hbig := hb.big
  have hlen := hb.len
  have h0 : (0 : Int) ≤ (i : Int) := by omega
  have h1 : (i : Int) / 8 < (n : Int) := by omega
  have hx := Bit.bits_at _ (hb.byt (i / 8)).1 (hb.byt (i / 8)).2 i
  have h2 : (0 : Int) ≤ (i : Int) / 8 := by omega
  have h3 : ((i / 8 : Nat) : Int) < (n : Int) := by omega
  have h4 : (0 : Int) ≤ ((i / 8 : Nat) : Int) := by omega
  go_enter Tryz.func222, Tryz.ntmps222
  go_wp2_with (first
    | (go_at_call 224; refine same_at (within_yes p n c i _ hbig h hi) ?_)
    | (at_make; refine wpList_make_full _ rfl _ _ 42 rfl w.heap.size 5 i0 (.int .u8 0) 1 Tryz.underlying42 hi0 hz0 hz1 .i64 .i64 _ _ n rfl rfl rfl rfl (by rw [hz2]; omega) (by unfold maxLen; omega) (Nat.le_refl _) ?_; intro w1 hown1 hgrow1; have hb1 := (Below.refl w.heap.size w).grown hgrow1 (Nat.le_refl _) (by intro k hk; cases hk))
    | (refine wpList_copy_splice rfl _ _ 42 42 rfl 5 Tryz.underlying42 size5 _ _ _ _ _ _ rfl rfl w.heap.size 0 _ 5 (own_row hown1) (xs.map (Value.int .u8)) ?c1 ?c2 ?c3 ?c4 w.heap.size w hb1 (Nat.le_refl _) ?_))
  case c1 => simp [hlen]
  case c2 => intro hp; simpa using (hb.kept hb1).src (by simpa [hlen] using hp)
  case c3 => simp [madeCells, hlen]
  case c4 => exact one_cells xs
  intro w2 hg2 hb2
  have ho : Own w.heap.size w2 w.heap.size n n xs := by
    refine own_of_row (Nat.le_refl _) (by unfold maxLen; omega) hlen ?_
    have hg := hg2.out
    rw [splice_all _ _ (by simp [madeCells, hlen])] at hg
    exact hg
  clear hg2 hown1 hgrow1 hb1
  obtain ⟨q, HQ⟩ : ∃ q, Hid (i / 8 = q) := ⟨_, rfl⟩
  have hqn : q < n := by rw [← HQ.out]; exact h
  have hqI : (q : Int) < (n : Int) := by omega
  have hq0 : (0 : Int) ≤ (q : Int) := by omega
  have HO : Hid (Own w.heap.size (w2.setCell ⟨w.heap.size, i / 8, none⟩ (.int .u8 (Bit.turn (xs.getD (i / 8) 0) (Bit.mk i) on))) w.heap.size n n (Bit.put xs i on)) := ho.set (i / 8) _
  rw [HQ.out] at HO hx
  have hc1 := ho.cell q hqn
  have hf1 := World.ownsRow.frozenAt ho q
  have hb3 := hb2.setCell (p := ⟨w.heap.size, q, none⟩) (Nat.le_refl _) (.int .u8 (Bit.turn (xs.getD q 0) (Bit.mk i) on))
  have h5 : (i : Int) / 8 = (q : Int) := by have := HQ.out; omega
  have hwq := IntWalk.i64_in (q : Int) (by omega)
  clear ho h
  generalize xs.getD q 0 = x at *
  obtain ⟨x1, x2, x3, x4, x5⟩ := hx
  cases on
  · have X := (show Hid _ from x3)
    clear x1 x2 x3 x4 x5
    go_wp2
    go_region_with (first | (go_at_call 225; refine same_at (mask_ok i _ hi) ?_))
    all_goals go_wp2
    all_goals go_ret2
    all_goals rw [X.out]
    all_goals exact ⟨_, _, rfl, HO.out.kept (below_drewN (Below.refl _ _) 1), below_drewN hb3 1⟩
  · have X := (show Hid _ from x2)
    clear x1 x2 x3 x4 x5
    go_wp2
    go_region_with (first | (go_at_call 225; refine same_at (mask_ok i _ hi) ?_))
    all_goals go_wp2
    all_goals go_ret2
    all_goals rw [X.out]
    all_goals exact ⟨_, _, rfl, HO.out.kept (below_drewN (Below.refl _ _) 1), below_drewN hb3 1⟩

set_option maxRecDepth 100000 in
set_option maxHeartbeats 1000000 in
theorem rwith_ok (a0 : Addr) (n c : Nat) (xs : List Int) (i : Nat) (on : Bool) (w : World) (hb : BI w (some a0) n xs) (h : i / 8 < n) (hi : i < 9223372036854775808) :
    Calls Tryz.prog 181 #[.slice (some a0) n c, .int .i64 i, .bool on] w fun e w' => ∃ g cap, e = .returned (.tuple #[.slice (some ⟨g, 0, none⟩) n cap, .int .i64 0]) ∧ Own w.heap.size w' g n cap (Bit.put xs i on) ∧ Below w.heap.size w w' := by
  obtain ⟨i0, hi0, hz0, hz1, hz2⟩ := info_parts info5
  have hbig := hb.big
  have hlen := hb.len
  have h0 : (0 : Int) ≤ (i : Int) := by omega
  have h1 : (i : Int) / 8 < (n : Int) := by omega
  have h2 : (0 : Int) ≤ (i : Int) / 8 := by omega
  have hx := Bit.bits_at _ (hb.byt (i / 8)).1 (hb.byt (i / 8)).2 i
  have hq := fun W => run_quo8 i W hi
  have hb0 := (Below.refl w.heap.size w).alloc (Nat.le_refl _) (Obj.cells #[] 5)
  go_enter Tryz.func181, Tryz.ntmps181
  go_wp2_with (first | (at_builtin; refine wpList_append_own _ rfl _ _ 42 rfl w.heap.size 5 i0 (.int .u8 0) 1 1 Tryz.underlying42 hi0 hz0 hz1 hz2 rfl (by decide) _ _ _ rfl (World.ownsRow_made w #[] 0 (Nat.le_refl _) (Nat.zero_le _) rfl) a0 n c (xs.map (Value.int .u8)) rfl ?c1 ?c2 ?c3 ?c4 ?c5 ?c6 ?_))
  case c1 => simp [hlen]
  case c2 => exact (hb.kept hb0).src'
  case c3 => exact one_cells xs
  case c4 => unfold maxLen; omega
  case c5 => omega
  case c6 => simp
  intro v' w1 hown hgrow hnil
  obtain ⟨g, cap, hv, ho⟩ := own_shape hown (by first | exact hnil | (intro e; exact absurd (hnil.1 e).1 (by simp)))
  rw [hv]
  have hb1 := hb0.grown hgrow (by simp) (by intro k hk; simp [Value.ownBlock] at hk; omega)
  clear hown hnil hv hgrow hb0
  have hh := rhas_yes (some a0) n c xs i w1 (hb.kept hb1) h hi
  have HO : Hid (Own w.heap.size (w1.setCell ⟨g, i / 8, none⟩ (.int .u8 (Bit.turn (xs.getD (i / 8) 0) (Bit.mk i) on))) g n cap (Bit.put xs i on)) := ho.set (i / 8) _
  have hb3 := hb1.setCell (p := ⟨g, i / 8, none⟩) ho.spot.1 (.int .u8 (Bit.turn (xs.getD (i / 8) 0) (Bit.mk i) on))
  by_cases hon : Bit.on xs i = on
  · have HS : Hid (Bit.put xs i on = xs) := by
      show Bit.put xs i on = xs
      unfold Bit.put
      have e : Bit.turn (xs.getD (i / 8) 0) (Bit.mk i) on = xs.getD (i / 8) 0 := by
        unfold Bit.on at hon
        unfold Bit.turn
        subst hon
        by_cases k : xs.getD (i / 8) 0 / Bit.mk i % 2 = 1
        · simp only [k, decide_true, if_true]
        · simp only [k, decide_false, if_false, Bool.false_eq_true]
      rw [e, List.getD_eq_getElem?_getD, List.getElem?_eq_getElem (by omega)]
      simp
    have HB := (show Hid _ from hb1)
    clear hx hb3 HO
    generalize Bit.on xs i = onv at *
    subst hon
    go_wp2_with (first | (go_at_call 255; refine same_at hh ?_))
    go_ret2
    exact ⟨_, _, rfl, by rw [HS.out]; exact ho, hb1⟩
  · obtain ⟨x1, x2, x3, x4, x5⟩ := hx
    have X : Hid (bits BinOp.xor .u8 (xs.getD (i / 8) 0) (2 ^ (i % 8) % 256) = Bit.turn (xs.getD (i / 8) 0) (Bit.mk i) on) := by
      show bits BinOp.xor .u8 (xs.getD (i / 8) 0) (2 ^ (i % 8) % 256) = Bit.turn (xs.getD (i / 8) 0) (Bit.mk i) on
      have e1 : (2 : Int) ^ (i % 8) % 256 = Bit.mk i := by
        have := Bit.mk_cases i
        unfold Bit.mk at *
        omega
      have e2 : (! decide (xs.getD (i / 8) 0 / Bit.mk i % 2 = 1)) = on := by
        have : decide (xs.getD (i / 8) 0 / Bit.mk i % 2 = 1) = Bit.on xs i := rfl
        rw [this]
        revert hon
        cases Bit.on xs i <;> cases on <;> simp
      rw [e1, x4, e2]
    clear x1 x2 x3 x4 x5
    obtain ⟨q, HQ⟩ : ∃ q, Hid (i / 8 = q) := ⟨_, rfl⟩
    have hqn : q < n := by rw [← HQ.out]; exact h
    have hqI : (q : Int) < (n : Int) := by omega
    have hq0 : (0 : Int) ≤ (q : Int) := by omega
    have h5 : (i : Int) / 8 = (q : Int) := by have := HQ.out; omega
    have hwq := IntWalk.i64_in (q : Int) (by omega)
    have hc1 := ho.cell q hqn
    have hf1 := World.ownsRow.frozenAt ho q
    rw [HQ.out] at HO X hb3
    clear ho h1 h2 hq
    generalize xs.getD q 0 = x at *
    generalize Bit.on xs i = onv at *
    obtain rfl : onv = ! on := by revert hon; cases onv <;> cases on <;> simp
    clear hon
    have ht : ((! on) != on) = true := by cases on <;> rfl
    go_wp2_with (first | (go_at_call 255; refine same_at hh ?_))
    go_region
    go_wp2
    go_ret2
    rw [X.out]
    exact ⟨_, _, rfl, HO.out.kept (below_drewN (Below.refl _ _) 1), below_drewN hb3 1⟩

end Go.Proofs.YthdlpeejmmobmaaGreat.Mk

namespace Go.Proofs.YthdlpeejmmobmaaGreat.Mk
open Go.RowKit
set_option maxRecDepth 100000
set_option linter.unusedVariables false

theorem wpList_eql_wanted {P : Program} {ops : Array Oper} {rest : List Oper} {o : Oper} {a : Act} {w : World} {Q : Exit → Act → World → Prop} (hwant : Region.wanted o (yielded ops a.tmps) = true) (t : TypeId) (x y : Operand) (ho : o.op = .binOp .eql t x y t)
    (A B : Array Value) (hx : a.eval x = .agg A) (hy : a.eval y = .agg B) (hg : P.eqGuardType P.depth t = false) (r : Bool) (hr : (Op.equalIn 10000 t (.agg A) (.agg B)).run P w = .ok r w)
    (h : wpList P ops Q rest (a.put o.dst (.bool r)) w) : wpList P ops Q (o :: rest) a w :=
  wpList_step fun K hK => by
    rw [if_pos hwant]
    unfold Oper.wp
    have h1 := run_eqGuard_agg (P := P) (w := w) BinOp.eql t x y A B hg
    have h2 := run_eql_struct (P := P) (w := w) t A B
    rw [hr] at h2
    simp [execOp, ho, hx, hy, h1, h2, Result.andThen]
    exact hK _ _ h
end Go.Proofs.YthdlpeejmmobmaaGreat.Mk

namespace Go.Proofs.YthdlpeejmmobmaaGreat.Mk
open Go.RowKit
set_option maxRecDepth 100000
set_option linter.unusedVariables false

def Ads (zs : List Int) : Prop := ∀ z ∈ zs, 0 ≤ z ∧ z ≤ 2047
instance (zs : List Int) : Decidable (Ads zs) := by unfold Ads; infer_instance

abbrev dinV (m l s a b c d i j : Int) : Value := .agg #[.int .i64 m, .int .i64 l, .int .i64 s, .int .i64 a, .int .i64 b, .int .i64 c, .int .i64 d, .int .i64 i, .int .i64 j]
abbrev dinO (m l s a b c d i j : Int) : Obj := .cells #[.int .i64 m, .int .i64 l, .int .i64 s, .int .i64 a, .int .i64 b, .int .i64 c, .int .i64 d, .int .i64 i, .int .i64 j] 75

/-- What files and directories have in common. -/
def UMay (l s a b c d i j : Int) : Prop := (0 ≤ l ∧ l ≤ 1000) ∧ (0 ≤ s ∧ s ≤ 532992) ∧ Ads [a, b, c, d] ∧ Ads [i, j]
instance (l s a b c d i j : Int) : Decidable (UMay l s a b c d i j) := by unfold UMay; infer_instance

set_option maxRecDepth 10000 in
set_option maxHeartbeats 1000000 in
theorem eq43 (a b c d e f g h : Int) (w : World) : (Op.equalIn 9999 73 (.agg #[.int .i64 a, .int .i64 b, .int .i64 c, .int .i64 d]) (.agg #[.int .i64 e, .int .i64 f, .int .i64 g, .int .i64 h])).run Tryz.prog w = .ok (a == e && b == f && c == g && d == h) w := by
  have u3 := Tryz.underlying3
  have a3 := Tryz.isAgg3
  have z3 := Tryz.sizeOf3
  rw [show (9999 : Nat) = 9998 + 1 from rfl, Op.equalIn]
  simp only [Sem.run_bind, run_underlying Tryz.underlying73, Result.andThen_ok]
  simp only [Std.Legacy.Range.forIn_eq_forIn_range', Std.Legacy.Range.size, Nat.sub_zero, Nat.add_sub_cancel, Nat.div_one, List.range'_succ, List.range'_zero, List.forIn_cons, List.forIn_nil]
  go_simp
  by_cases h1 : a = e <;> by_cases h2 : b = f <;> by_cases h3 : c = g <;> by_cases h4 : d = h <;> simp [h1, h2, h3, h4]

/-- Inodes compared. -/
theorem eq45 (m l s a b c d i j m' l' s' a' b' c' d' i' j' : Int) (w : World) : (Op.equalIn 10000 75 (.agg #[.int .i64 m, .int .i64 l, .int .i64 s, .int .i64 a, .int .i64 b, .int .i64 c, .int .i64 d, .int .i64 i, .int .i64 j]) (.agg #[.int .i64 m', .int .i64 l', .int .i64 s', .int .i64 a', .int .i64 b', .int .i64 c', .int .i64 d', .int .i64 i', .int .i64 j'])).run Tryz.prog w = .ok (decide (m = m' ∧ l = l' ∧ s = s' ∧ (a = a' ∧ b = b' ∧ c = c' ∧ d = d') ∧ i = i' ∧ j = j')) w := by
  have u3 := Tryz.underlying3
  have a3 := Tryz.isAgg3
  have z3 := Tryz.sizeOf3
  have q := eq43 a b c d a' b' c' d'
  have hS : Tryz.prog.underlying 75 = some (.struct (Tryz.prog.fieldsOf 75)) := by kernel_rfl
  have hp : Tryz.prog.stoodInHeld 75 = false := by kernel_rfl
  have hq : (a == a' && b == b' && c == c' && d == d') = decide (a = a' ∧ b = b' ∧ c = c' ∧ d = d') := by
    rw [Bool.eq_iff_iff]; simp; constructor
    · rintro ⟨⟨⟨h1, h2⟩, h3⟩, h4⟩; exact ⟨h1, h2, h3, h4⟩
    · rintro ⟨h1, h2, h3, h4⟩; exact ⟨⟨⟨h1, h2⟩, h3⟩, h4⟩
  rw [hq] at q
  clear hq
  rw [show (10000 : Nat) = 9999 + 1 from rfl, run_equalIn_agg w 9999 75 _ _ hS hp]
  simp only [Program.fieldsOf, Tryz.underlying75]
  by_cases hX : (a = a' ∧ b = b' ∧ c = c' ∧ d = d')
  · rw [decide_eq_true hX] at q
    rw [show decide (m = m' ∧ l = l' ∧ s = s' ∧ (a = a' ∧ b = b' ∧ c = c' ∧ d = d') ∧ i = i' ∧ j = j') = decide (m = m' ∧ l = l' ∧ s = s' ∧ i = i' ∧ j = j') from decide_eq_decide.2 ⟨fun k => ⟨k.1, k.2.1, k.2.2.1, k.2.2.2.2⟩, fun k => ⟨k.1, k.2.1, k.2.2.1, hX, k.2.2.2⟩⟩]
    clear hX
    go_simp
    by_cases h1 : m = m' <;> by_cases h2 : l = l' <;> by_cases h3 : s = s' <;> by_cases h4 : i = i' <;> by_cases h5 : j = j' <;> simp [h1, h2, h3, h4, h5]
  · rw [decide_eq_false hX] at q
    rw [show decide (m = m' ∧ l = l' ∧ s = s' ∧ (a = a' ∧ b = b' ∧ c = c' ∧ d = d') ∧ i = i' ∧ j = j') = false from decide_eq_false (fun k => hX k.2.2.2.1)]
    clear hX
    go_simp
theorem guard45 : Tryz.prog.eqGuardType Tryz.prog.depth 75 = false := by kernel_rfl

/-- Whether an inode may be. -/
def DMay (m l s a b c d i j : Int) : Prop := (m = 0 ∧ l = 0 ∧ s = 0 ∧ a = 0 ∧ b = 0 ∧ c = 0 ∧ d = 0 ∧ i = 0 ∧ j = 0) ∨ (m = 1 ∧ UMay l s a b c d i j) ∨ (m = 2 ∧ UMay l s a b c d i j ∧ s % 128 = 0)
instance (m l s a b c d i j : Int) : Decidable (DMay m l s a b c d i j) := by unfold DMay; infer_instance

end Go.Proofs.YthdlpeejmmobmaaGreat.Mk

namespace Go.Proofs.YthdlpeejmmobmaaGreat.Mk
open Go.RowKit
set_option maxRecDepth 100000
set_option linter.unusedVariables false

/-- An inode's bytes, but for the sum. -/
def dinL (m l s a b c d i j : Int) : List Int := Num.putTo (Num.putTo (putsTo (Num.putTo (Num.putTo (Num.putTo (zers 32) 0 m 1) 2 l 2) 4 s 4) 8 2 [a, b, c, d] 4) 16 i 2) 18 j 2
def dinS (m l s a b c d i j : Int) : List Int := sealL (dinL m l s a b c d i j)
/-- An inode's bytes: a free one's are all 0. -/
def dinB (m l s a b c d i j : Int) : List Int := if m = 0 then zers 32 else dinS m l s a b c d i j

theorem dinL_len (m l s a b c d i j : Int) : (dinL m l s a b c d i j).length = 32 := by
  unfold dinL
  simp only [Num.putTo_length, putsTo_len, zers_len]
theorem dinL_byt (m l s a b c d i j : Int) : Num.Byt (dinL m l s a b c d i j) :=
  Num.putTo_byt (Num.putTo_byt (putsTo_byt (Num.putTo_byt (Num.putTo_byt (Num.putTo_byt (zers_byt _) _ _ _) _ _ _) _ _ _) _ _ _ _) _ _ _) _ _ _
theorem din_all (w : World) (m l s a b c d i j : Int) : (w.alloc (dinO m l s a b c d i j)).cell? ⟨w.heap.size, 0, none⟩ = some (.int .i64 m) ∧ (w.alloc (dinO m l s a b c d i j)).cell? ⟨w.heap.size, 1, none⟩ = some (.int .i64 l) ∧ (w.alloc (dinO m l s a b c d i j)).cell? ⟨w.heap.size, 2, none⟩ = some (.int .i64 s) ∧ (w.alloc (dinO m l s a b c d i j)).cell? ⟨w.heap.size, 7, none⟩ = some (.int .i64 i) ∧ (w.alloc (dinO m l s a b c d i j)).cell? ⟨w.heap.size, 8, none⟩ = some (.int .i64 j) :=
  ⟨cell_row (heap_new w _) 0 _ rfl, cell_row (heap_new w _) 1 _ rfl, cell_row (heap_new w _) 2 _ rfl, cell_row (heap_new w _) 7 _ rfl, cell_row (heap_new w _) 8 _ rfl⟩
end Go.Proofs.YthdlpeejmmobmaaGreat.Mk

namespace Go.Proofs.YthdlpeejmmobmaaGreat.Mk
open Go.RowKit
set_option maxRecDepth 100000
set_option linter.unusedVariables false

theorem address_ok (n : Int) (w : World) : Calls Tryz.prog 256 #[.int .i64 n] w fun e w' => e = .returned (.bool (decide (0 ≤ n ∧ n ≤ 2047))) ∧ w' = w := by
  go_enter Tryz.func256, Tryz.ntmps256
  go_wp2
  all_goals
    go_ret
    refine ⟨ret_bool ?_, rfl⟩
    rw [Bool.eq_iff_iff]
    simp
    omega

theorem din_five (w : World) (m l s a b c d i j : Int) : (w.alloc (dinO m l s a b c d i j)).cell? ⟨w.heap.size, 3, none⟩ = some (.int .i64 a) ∧ (w.alloc (dinO m l s a b c d i j)).cell? ⟨w.heap.size, 4, none⟩ = some (.int .i64 b) ∧ (w.alloc (dinO m l s a b c d i j)).cell? ⟨w.heap.size, 5, none⟩ = some (.int .i64 c) ∧ (w.alloc (dinO m l s a b c d i j)).cell? ⟨w.heap.size, 6, none⟩ = some (.int .i64 d) :=
  ⟨cell_row (heap_new w _) 3 _ rfl, cell_row (heap_new w _) 4 _ rfl, cell_row (heap_new w _) 5 _ rfl, cell_row (heap_new w _) 6 _ rfl⟩

theorem idx43 (a b c d : Int) (k : Nat) (hk : k < 4) (w : World) : (Instr.index 73 (.agg #[.int .i64 a, .int .i64 b, .int .i64 c, .int .i64 d]) (.int .i64 (k : Int))).run Tryz.prog w = .ok (.int .i64 ([a, b, c, d].getD k 0)) w := by
  rcases (by omega : k = 0 ∨ k = 1 ∨ k = 2 ∨ k = 3) with rfl | rfl | rfl | rfl <;> kernel_rfl
theorem ads_step {zs : List Int} {k : Nat} (hk : k < zs.length) (h : Ads (zs.take k)) (h1 : 0 ≤ zs.getD k 0 ∧ zs.getD k 0 ≤ 2047) : Ads (zs.take (k + 1)) := by
  intro y hy
  rw [List.take_add_one, List.getElem?_eq_getElem hk] at hy
  rcases List.mem_append.1 hy with h' | h'
  · exact h y h'
  · simp at h'
    subst h'
    simpa [List.getD_eq_getElem?_getD, List.getElem?_eq_getElem hk] using h1

theorem ads_two (i j : Int) : Ads [i, j] ↔ (0 ≤ i ∧ i ≤ 2047) ∧ (0 ≤ j ∧ j ≤ 2047) := by
  simp [Ads]

set_option maxRecDepth 10000 in
set_option maxHeartbeats 2000000 in
theorem rmay_used (m l s a b c d i j : Int) (hm : m = 1 ∨ m = 2) (hl : 0 ≤ l ∧ l ≤ 1000) (hs : 0 ≤ s ∧ s ≤ 532992) (w : World) : Calls Tryz.prog 183 #[dinV m l s a b c d i j] w fun e w' => e = .returned (.bool (decide (DMay m l s a b c d i j))) ∧ Below w.heap.size w w' := by
  have HB := grew_alloc w (dinO m l s a b c d i j)
  obtain ⟨c0, c1, c2, c7, c8⟩ := din_all w m l s a b c d i j
  have hm0 : ¬ m = 0 := by omega
  have hX : decide (DMay m l s a b c d i j) = decide (Ads [a, b, c, d] ∧ Ads [i, j] ∧ (m = 2 → s % 128 = 0)) := by
    apply decide_eq_decide.2
    unfold DMay UMay
    constructor
    · rintro (h | h | h)
      · omega
      · exact ⟨h.2.2.2.1, h.2.2.2.2, by omega⟩
      · exact ⟨h.2.1.2.2.1, h.2.1.2.2.2, fun _ => h.2.2⟩
    · rintro ⟨h1, h2, h3⟩
      rcases hm with rfl | rfl
      · exact .inr (.inl ⟨rfl, hl, hs, h1, h2⟩)
      · exact .inr (.inr ⟨rfl, ⟨hl, hs, h1, h2⟩, h3 rfl⟩)
  rw [hX]
  clear hX
  rcases hm with rfl | rfl
  · rw [show decide (Ads [a, b, c, d] ∧ Ads [i, j] ∧ ((1 : Int) = 2 → s % 128 = 0)) = decide (Ads [a, b, c, d] ∧ Ads [i, j]) from decide_eq_decide.2 (by simp)]
    go_enter Tryz.func183, Tryz.ntmps183
    go_wp2_with fail
    generalize w.alloc (dinO 1 l s a b c d i j) = w0 at *
    go_loopw [41] (fun x wr => ∃ k : Nat, k ≤ 4 ∧ x = .int .i64 (k : Int) ∧ Ads ([a, b, c, d].take k) ∧ wr = w0) (fun x _ => 4 - (intOf x).toNat)
    case atStart => exact ⟨0, by omega, rfl, by simp [Ads], rfl⟩
    case round =>
      obtain ⟨k, hk, rfl, hA, rfl⟩ := hrel
      by_cases hlt : k < 4
      · have hd := idx43 a b c d k hlt wr
        have hst := fun h1 => ads_step (zs := [a, b, c, d]) hlt hA h1
        have hno : ¬ (0 ≤ [a, b, c, d].getD k 0 ∧ [a, b, c, d].getD k 0 ≤ 2047) → ¬ Ads [a, b, c, d] := fun hh hh2 => hh (hh2 _ (by
          rcases (by omega : k = 0 ∨ k = 1 ∨ k = 2 ∨ k = 3) with rfl | rfl | rfl | rfl <;> simp))
        have HS := (show Hid _ from hst)
        have HN := (show Hid _ from hno)
        clear hst hno
        generalize [a, b, c, d].getD k 0 = z at *
        have hq := address_ok z wr
        have hkI : (k : Int) < 4 := by omega
        by_cases hz : 0 ≤ z ∧ z ≤ 2047
        · rw [decide_eq_true hz] at hq
          have hA2 := HS.out hz
          clear hz HS HN
          go_wp2_with (first | (go_at_call 256; refine same_at hq ?_))
          go_roundw
          case rel => exact ⟨k + 1, by omega, by go_num, hA2, by first | rfl | trivial⟩
          case measure => simp [intOf]; omega
        · rw [decide_eq_false hz] at hq
          have hno := HN.out hz
          clear hz HS HN
          go_wp2_with (first | (go_at_call 256; refine same_at hq ?_))
          go_ret
          rw [show decide (Ads [a, b, c, d] ∧ Ads [i, j]) = false from decide_eq_false (fun h => hno h.1)]
          exact ⟨rfl, HB⟩
      · have e : k = 4 := by omega
        subst e
        have hA4 : Ads [a, b, c, d] := hA
        have hpost : decide (Ads [a, b, c, d] ∧ Ads [i, j]) = decide (Ads [i, j]) := decide_eq_decide.2 ⟨fun h => h.2, fun h => ⟨hA4, h⟩⟩
        have HP := (show Hid _ from hpost)
        clear hpost hA
        go_wp2_with (first | (go_at_call 256; refine same_at (address_ok _ _) ?_))
        all_goals go_ret
        all_goals
          refine ⟨?_, HB⟩
          rw [HP.out]
          refine ret_bool ?_
          rw [Bool.eq_iff_iff]
          simp only [ads_two]
          simp [*]
          done
  · rw [show decide (Ads [a, b, c, d] ∧ Ads [i, j] ∧ ((2 : Int) = 2 → s % 128 = 0)) = decide (Ads [a, b, c, d] ∧ Ads [i, j] ∧ s % 128 = 0) from decide_eq_decide.2 (by simp)]
    go_enter Tryz.func183, Tryz.ntmps183
    go_wp2_with fail
    generalize w.alloc (dinO 2 l s a b c d i j) = w0 at *
    go_loopw [41] (fun x wr => ∃ k : Nat, k ≤ 4 ∧ x = .int .i64 (k : Int) ∧ Ads ([a, b, c, d].take k) ∧ wr = w0) (fun x _ => 4 - (intOf x).toNat)
    case atStart => exact ⟨0, by omega, rfl, by simp [Ads], rfl⟩
    case round =>
      obtain ⟨k, hk, rfl, hA, rfl⟩ := hrel
      by_cases hlt : k < 4
      · have hd := idx43 a b c d k hlt wr
        have hst := fun h1 => ads_step (zs := [a, b, c, d]) hlt hA h1
        have hno : ¬ (0 ≤ [a, b, c, d].getD k 0 ∧ [a, b, c, d].getD k 0 ≤ 2047) → ¬ Ads [a, b, c, d] := fun hh hh2 => hh (hh2 _ (by
          rcases (by omega : k = 0 ∨ k = 1 ∨ k = 2 ∨ k = 3) with rfl | rfl | rfl | rfl <;> simp))
        have HS := (show Hid _ from hst)
        have HN := (show Hid _ from hno)
        clear hst hno
        generalize [a, b, c, d].getD k 0 = z at *
        have hq := address_ok z wr
        have hkI : (k : Int) < 4 := by omega
        by_cases hz : 0 ≤ z ∧ z ≤ 2047
        · rw [decide_eq_true hz] at hq
          have hA2 := HS.out hz
          clear hz HS HN
          go_wp2_with (first | (go_at_call 256; refine same_at hq ?_))
          go_roundw
          case rel => exact ⟨k + 1, by omega, by go_num, hA2, by first | rfl | trivial⟩
          case measure => simp [intOf]; omega
        · rw [decide_eq_false hz] at hq
          have hno := HN.out hz
          clear hz HS HN
          go_wp2_with (first | (go_at_call 256; refine same_at hq ?_))
          go_ret
          rw [show decide (Ads [a, b, c, d] ∧ Ads [i, j] ∧ s % 128 = 0) = false from decide_eq_false (fun h => hno h.1)]
          exact ⟨rfl, HB⟩
      · have e : k = 4 := by omega
        subst e
        have hA4 : Ads [a, b, c, d] := hA
        have hpost : decide (Ads [a, b, c, d] ∧ Ads [i, j] ∧ s % 128 = 0) = decide (Ads [i, j] ∧ s % 128 = 0) := decide_eq_decide.2 ⟨fun h => h.2, fun h => ⟨hA4, h⟩⟩
        have HP := (show Hid _ from hpost)
        clear hpost hA
        go_wp2_with (first | (go_at_call 256; refine same_at (address_ok _ _) ?_))
        all_goals go_ret
        all_goals
          refine ⟨?_, HB⟩
          rw [HP.out]
          refine ret_bool ?_
          rw [Bool.eq_iff_iff]
          simp only [ads_two]
          simp [*]
          done

set_option maxRecDepth 10000 in
set_option maxHeartbeats 2000000 in
theorem rmayD_ok (m l s a b c d i j : Int) (w : World) : Calls Tryz.prog 183 #[dinV m l s a b c d i j] w fun e w' => e = .returned (.bool (decide (DMay m l s a b c d i j))) ∧ Below w.heap.size w w' := by
  by_cases hm : m = 1 ∨ m = 2
  · by_cases hl : 0 ≤ l ∧ l ≤ 1000
    · by_cases hs : 0 ≤ s ∧ s ≤ 532992
      · exact rmay_used m l s a b c d i j hm hl hs w
      · have HB := grew_alloc w (dinO m l s a b c d i j)
        obtain ⟨c0, c1, c2, c7, c8⟩ := din_all w m l s a b c d i j
        rw [decide_eq_false (by unfold DMay UMay; omega)]
        go_enter Tryz.func183, Tryz.ntmps183
        rcases hm with rfl | rfl
        all_goals
          go_wp2_with fail
        all_goals
          go_ret
          exact ⟨rfl, HB⟩
    · have HB := grew_alloc w (dinO m l s a b c d i j)
      obtain ⟨c0, c1, c2, c7, c8⟩ := din_all w m l s a b c d i j
      rw [decide_eq_false (by unfold DMay UMay; omega)]
      go_enter Tryz.func183, Tryz.ntmps183
      rcases hm with rfl | rfl
      all_goals
        go_wp2_with fail
      all_goals
        go_ret
        exact ⟨rfl, HB⟩
  · have HB := grew_alloc w (dinO m l s a b c d i j)
    obtain ⟨c0, c1, c2, c7, c8⟩ := din_all w m l s a b c d i j
    by_cases h0 : m = 0
    · subst h0
      rw [show decide (DMay 0 l s a b c d i j) = decide ((0 : Int) = 0 ∧ l = 0 ∧ s = 0 ∧ (a = 0 ∧ b = 0 ∧ c = 0 ∧ d = 0) ∧ i = 0 ∧ j = 0) from decide_eq_decide.2 (by unfold DMay; omega)]
      have hq := eq45 0 l s a b c d i j 0 0 0 0 0 0 0 0 0 (w.alloc (dinO 0 l s a b c d i j))
      go_enter Tryz.func183, Tryz.ntmps183
      go_wp2_with (first
        | (refine wpList_eql_wanted (by rfl) 75 (.tmp 8) (.tmp 9) rfl _ _ rfl rfl guard45 _ hq ?_))

      go_ret
      exact ⟨rfl, HB⟩
    · rw [decide_eq_false (by unfold DMay; omega)]
      have h1 : ¬ m = 1 := by omega
      have h2 : ¬ m = 2 := by omega
      go_enter Tryz.func183, Tryz.ntmps183
      go_wp2_with fail
      all_goals
        go_ret
        exact ⟨rfl, HB⟩
end Go.Proofs.YthdlpeejmmobmaaGreat.Mk

namespace Go.Proofs.YthdlpeejmmobmaaGreat.Mk
open Go.RowKit
set_option maxRecDepth 100000
set_option linter.unusedVariables false

set_option maxRecDepth 10000 in
set_option maxHeartbeats 2000000 in
theorem rencodeDinode_used (m l s a b c d i j : Int) (h : DMay m l s a b c d i j) (h0 : ¬ m = 0) (w : World) : Calls Tryz.prog 105 #[dinV m l s a b c d i j] w fun e w' => ∃ g cap, e = .returned (.tuple #[.slice (some ⟨g, 0, none⟩) 32 cap, .int .i64 0]) ∧ Own w.heap.size w' g 32 cap (dinS m l s a b c d i j) ∧ Below w.heap.size w w' := by
  obtain ⟨i0, hi0, hz0, hz1, hz2⟩ := info_parts info5
  have HB := grew_alloc w (dinO m l s a b c d i j)
  have hx := heap_new w (dinO m l s a b c d i j)
  have hm := rmayD_ok m l s a b c d i j
  rw [decide_eq_true h] at hm
  obtain ⟨c0, c1, c2, c7, c8⟩ := din_all w m l s a b c d i j
  obtain ⟨c3, c4, c5, c6⟩ := din_five w m l s a b c d i j
  have hmm : m = 1 ∨ m = 2 := by unfold DMay at h; omega
  have hU : UMay l s a b c d i j := by
    unfold DMay at h
    rcases h with h | h | h
    · exact absurd h.1 h0
    · exact h.2
    · exact h.2.1
  have hl := hU.1
  have hs := hU.2.1
  have hA : ∀ k, k < 4 → 0 ≤ [a, b, c, d].getD k 0 ∧ [a, b, c, d].getD k 0 < 256 ^ 2 := by
    intro k hk
    have := hU.2.2.1 ([a, b, c, d].getD k 0) (by rcases (by omega : k = 0 ∨ k = 1 ∨ k = 2 ∨ k = 3) with rfl | rfl | rfl | rfl <;> simp)
    omega
  have hi := hU.2.2.2 i (by simp)
  have hj := hU.2.2.2 j (by simp)
  clear hU h
  have HA := (show Hid _ from hA)
  clear hA
  go_enter Tryz.func105, Tryz.ntmps105
  go_wp2_with (first
    | (go_at_call 183; refine grew_at (hm _) ?_; intro wn hbn; have HB := grew_trans HB hbn; have c0 := cell_kept c0 hbn; have c1 := cell_kept c1 hbn; have c2 := cell_kept c2 hbn; have c7 := cell_kept c7 hbn; have c3 := cell_kept c3 hbn; have c4 := cell_kept c4 hbn; have c5 := cell_kept c5 hbn; have c6 := cell_kept c6 hbn; have c8 := cell_kept c8 hbn; have hx : wn.heap[w.heap.size]? = some (dinO m l s a b c d i j) := (hbn.block _ (by rw [size_alloc]; omega)).trans hx)
    | (at_make; refine wpList_make_full _ rfl _ _ 42 rfl wn.heap.size 5 i0 (.int .u8 0) 1 Tryz.underlying42 hi0 hz0 hz1 .i64 .i64 _ _ 32 rfl rfl rfl rfl (by rw [hz2]; omega) (by unfold maxLen; omega) (Nat.le_refl _) ?_; intro w1 hown1 hgrow1; have hbn := (Below.refl wn.heap.size wn).grown hgrow1 (Nat.le_refl _) (by intro k hk; cases hk); have hrow := own_row hown1; rw [made_zers 32] at hrow; have ho := own_of_row HB.size (by decide) (zers_len 32) hrow; have HB := grew_trans HB hbn; have c0 := cell_kept c0 hbn; have c1 := cell_kept c1 hbn; have c2 := cell_kept c2 hbn; have c7 := cell_kept c7 hbn; have c3 := cell_kept c3 hbn; have c4 := cell_kept c4 hbn; have c5 := cell_kept c5 hbn; have c6 := cell_kept c6 hbn; have c8 := cell_kept c8 hbn; have hx : w1.heap[w.heap.size]? = some (dinO m l s a b c d i j) := (hbn.block _ (Array.getElem?_eq_some_iff.1 hx).1).trans hx; have hy := zers_byt 32; clear hown1 hgrow1 hrow)
    | (go_at_call_of 184 m; refine Calls.mono (rnumber_ok _ 32 _ _ 0 1 m _ (ho.bi (by omega) hy) (by omega) (by omega) (by omega) (by omega) (by omega)) ?_; rintro e wm ⟨g, cap, rfl, ho, hbn⟩; have hy := Num.putTo_byt hy 0 m 1; have ho := ho.base HB.size; have HB := grew_trans HB hbn; have c0 := cell_kept c0 hbn; have c1 := cell_kept c1 hbn; have c2 := cell_kept c2 hbn; have c7 := cell_kept c7 hbn; have c3 := cell_kept c3 hbn; have c4 := cell_kept c4 hbn; have c5 := cell_kept c5 hbn; have c6 := cell_kept c6 hbn; have c8 := cell_kept c8 hbn; have hx : wm.heap[w.heap.size]? = some (dinO m l s a b c d i j) := (hbn.block _ (Array.getElem?_eq_some_iff.1 hx).1).trans hx; clear hbn)
    | (go_at_call_of 184 l; refine Calls.mono (rnumber_ok _ 32 _ _ 2 2 l _ (ho.bi (by omega) hy) (by omega) (by omega) (by omega) (by omega) (by omega)) ?_; rintro e wm ⟨g, cap, rfl, ho, hbn⟩; have hy := Num.putTo_byt hy 2 l 2; have ho := ho.base HB.size; have HB := grew_trans HB hbn; have c0 := cell_kept c0 hbn; have c1 := cell_kept c1 hbn; have c2 := cell_kept c2 hbn; have c7 := cell_kept c7 hbn; have c3 := cell_kept c3 hbn; have c4 := cell_kept c4 hbn; have c5 := cell_kept c5 hbn; have c6 := cell_kept c6 hbn; have c8 := cell_kept c8 hbn; have hx : wm.heap[w.heap.size]? = some (dinO m l s a b c d i j) := (hbn.block _ (Array.getElem?_eq_some_iff.1 hx).1).trans hx; clear hbn)
    | (go_at_call_of 184 s; refine Calls.mono (rnumber_ok _ 32 _ _ 4 4 s _ (ho.bi (by omega) hy) (by omega) (by omega) (by omega) (by omega) (by omega)) ?_; rintro e wm ⟨g, cap, rfl, ho, hbn⟩; have hy := Num.putTo_byt hy 4 s 4; have ho := ho.base HB.size; have HB := grew_trans HB hbn; have c0 := cell_kept c0 hbn; have c1 := cell_kept c1 hbn; have c2 := cell_kept c2 hbn; have c7 := cell_kept c7 hbn; have c3 := cell_kept c3 hbn; have c4 := cell_kept c4 hbn; have c5 := cell_kept c5 hbn; have c6 := cell_kept c6 hbn; have c8 := cell_kept c8 hbn; have hx : wm.heap[w.heap.size]? = some (dinO m l s a b c d i j) := (hbn.block _ (Array.getElem?_eq_some_iff.1 hx).1).trans hx; clear hbn))
  have c7' := c7
  have c8' := c8
  have HB0 := HB
  have hb0 := Below.refl wm.heap.size wm
  clear hx c0 c1 c2 c3 c4 c5 c6 hm
  go_loopw [4, 29] (fun v x wr => ∃ (k g cap : Nat), k ≤ 4 ∧ x = .int .i64 (k : Int) ∧ v = .slice (some ⟨g, 0, none⟩) 32 cap ∧ Own w.heap.size wr g 32 cap (putsTo (Num.putTo (Num.putTo (Num.putTo (zers 32) 0 m 1) 2 l 2) 4 s 4) 8 2 [a, b, c, d] k) ∧ Below w.heap.size w wr ∧ wr.cell? ⟨w.heap.size, 7, none⟩ = some (.int .i64 i) ∧ wr.cell? ⟨w.heap.size, 8, none⟩ = some (.int .i64 j)) (fun _ x _ => 4 - (intOf x).toNat)
  case atStart => exact ⟨0, _, _, by omega, rfl, rfl, ho, HB, c7, c8⟩
  case round =>
    obtain ⟨k, g, cap, hk, rfl, rfl, ho, HB, c7, c8⟩ := hrel
    have hy := putsTo_byt hy 8 2 [a, b, c, d] k
    by_cases hlt : k < 4
    · have hd := idx43 a b c d k hlt wr
      have hv := HA.out k hlt
      have hst : putsTo (Num.putTo (Num.putTo (Num.putTo (zers 32) 0 m 1) 2 l 2) 4 s 4) 8 2 [a, b, c, d] (k + 1) = Num.putTo (putsTo (Num.putTo (Num.putTo (Num.putTo (zers 32) 0 m 1) 2 l 2) 4 s 4) 8 2 [a, b, c, d] k) (8 + 2 * k) ([a, b, c, d].getD k 0) 2 := rfl
      have HS := (show Hid _ from hst)
      clear hst
      generalize putsTo (Num.putTo (Num.putTo (Num.putTo (zers 32) 0 m 1) 2 l 2) 4 s 4) 8 2 [a, b, c, d] k = L at *
      generalize [a, b, c, d].getD k 0 = z at *
      have hq := rnumber_ok _ 32 cap _ (8 + 2 * k) 2 z wr (ho.bi (by omega) hy) (by omega) (by omega) (by omega) hv.1 hv.2
      rw [show (((8 + 2 * k : Nat) : Int)) = 8 + 2 * (k : Int) by omega] at hq
      have hkI : (k : Int) < 4 := by omega
      clear hv
      go_wp2_with (first | (go_at_call 184; refine Calls.mono hq ?_; rintro e wm ⟨g, cap, rfl, ho, hbn⟩; have ho := ho.base HB.size; have HB := grew_trans HB hbn; have c7 := cell_kept c7 hbn; have c8 := cell_kept c8 hbn))
      go_roundw
      case rel => exact ⟨k + 1, g, cap, by omega, by go_num, rfl, by rw [HS.out]; exact ho, HB, c7, c8⟩
      case measure => simp [intOf]; omega
    · have e : k = 4 := by omega
      subst e
      generalize hL : putsTo (Num.putTo (Num.putTo (Num.putTo (zers 32) 0 m 1) 2 l 2) 4 s 4) 8 2 [a, b, c, d] 4 = L at *
      have HL := (show Hid _ from hL)
      clear hL
      go_wp2_with (first
        | (go_at_call_of 184 i; refine Calls.mono (rnumber_ok _ 32 _ _ 16 2 i _ (ho.bi (by omega) hy) (by omega) (by omega) (by omega) (by omega) (by omega)) ?_; rintro e wm ⟨g, cap, rfl, ho, hbn⟩; have hy := Num.putTo_byt hy 16 i 2; have ho := ho.base HB.size; have HB := grew_trans HB hbn; have c7 := cell_kept c7 hbn; have c8 := cell_kept c8 hbn; clear hbn)
        | (go_at_call_of 184 j; refine Calls.mono (rnumber_ok _ 32 _ _ 18 2 j _ (ho.bi (by omega) hy) (by omega) (by omega) (by omega) (by omega) (by omega)) ?_; rintro e wm ⟨g, cap, rfl, ho, hbn⟩; have hy := Num.putTo_byt hy 18 j 2; have ho := ho.base HB.size; have HB := grew_trans HB hbn; have c7 := cell_kept c7 hbn; have c8 := cell_kept c8 hbn; clear hbn)
        | (go_at_call 185; refine Calls.mono (rseal_ok _ 32 _ _ _ (ho.bi (by omega) hy) ho.room.1 (by omega)) ?_; rintro e wz ⟨g2, cap2, rfl, ho2, hb⟩))
      go_ret2
      refine ⟨g2, cap2, rfl, ?_, HB.trans (hb.mono HB.size)⟩
      have ho2 := ho2.base HB.size
      have e1 := dinL_len m l s a b c d i j
      unfold dinS sealL
      rw [e1]
      unfold dinL
      rw [HL.out]
      exact ho2
end Go.Proofs.YthdlpeejmmobmaaGreat.Mk

namespace Go.Proofs.YthdlpeejmmobmaaGreat.Mk
open Go.RowKit
set_option maxRecDepth 100000
set_option linter.unusedVariables false

/-- Nothing but two blocks has turned. -/
structure Two (w w' : World) (rb ib : Nat) : Prop where
  os : w'.os = w.os
  tape : w'.tape = w.tape
  output : w'.output = w.output
  size : w.heap.size ≤ w'.heap.size
  block : ∀ k, k < w.heap.size → k ≠ rb → k ≠ ib → w'.heap[k]? = w.heap[k]?
theorem Two.refl (w : World) (rb ib : Nat) : Two w w rb ib := ⟨rfl, rfl, rfl, Nat.le_refl _, fun _ _ _ _ => rfl⟩
theorem Two.grown {w w1 w2 : World} {rb ib : Nat} (h : Two w w1 rb ib) (g : w1.grownBy w2 (some rb)) : Two w w2 rb ib :=
  ⟨g.os.trans h.os, g.tape.trans h.tape, g.output.trans h.output, Nat.le_trans h.size g.size, fun k hk h1 h2 => (g.block k (Nat.lt_of_lt_of_le hk h.size) (by simpa using h1)).trans (h.block k hk h1 h2)⟩
theorem Two.set {w w1 : World} {rb ib : Nat} (h : Two w w1 rb ib) (i : Nat) (v : Value) : Two w (w1.setCell ⟨ib, i, none⟩ v) rb ib :=
  ⟨h.os, h.tape, h.output, by simpa [World.setCell] using h.size, fun k hk h1 h2 => (Below.heap_setCell _ _ _ _ h2).trans (h.block k hk h1 h2)⟩
theorem Two.below {w w1 : World} {rb ib : Nat} (h : Two w w1 rb ib) {B : Nat} (h1 : B ≤ rb) (h2 : B ≤ ib) (h3 : B ≤ w.heap.size) : Below B w w1 :=
  ⟨h.os, h.tape, h.output, h.size, fun k hk => h.block k (by omega) (by omega) (by omega)⟩

/-- Cells of which some were written anew. -/
def fill (cs : Array Value) (o : Nat) (f : Nat → Int) : Nat → Array Value
  | 0 => cs
  | j + 1 => (fill cs o f j).setIfInBounds (o + j) (.int .i64 (f j))
end Go.Proofs.YthdlpeejmmobmaaGreat.Mk
