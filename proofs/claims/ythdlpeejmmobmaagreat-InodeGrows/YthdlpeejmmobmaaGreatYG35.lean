/- J21 J1 C2 C1 C3 -/
import Derived.Test.YthdlpeejmmobmaaGreatYG04
import Derived.Test.YthdlpeejmmobmaaGreatYG34
import Derived.Maps.RangeWalk
import Derived.Test.YthdlpeejmmobmaaGreatYG23
import Derived.Test.YthdlpeejmmobmaaGreatYG33
import Derived.Test.YthdlpeejmmobmaaGreatYG30
import Derived.Test.YthdlpeejmmobmaaGreatYG27
import Derived.Deep.MidRow
import Derived.Laws.MakeOwn
import Derived.WalkMore
import Derived.Deep.LoopGhost

namespace Go.Proofs.YthdlpeejmmobmaaGreat
open Go.RowKit Go.Maps
set_option linter.unusedVariables false
theorem zero3i (w : World) : (zeroValue 3).run Tryz.prog w = .ok (.int .i64 0) w := by kernel_rfl
abbrev numD (n : Nat) : DataW Unit := .lit (.int .i64 (n : Int))
def Wnt (w : World) (mb n : Nat) (f : Nat → Nat) : Prop :=
 ∃ D, w.ownsMap Tryz.prog 3 (plainElem Tryz.prog 3) mb (size D) D ∧ size D ≤ n ∧ (∀ x : Int, has D (.int .i64 x) = true → ∃ k : Nat, x = (k : Int) ∧ k < 4164 ∧ f k ≠ 0) ∧ ∀ k, k < 4164 → (f k = 0 → has D (key k) = false) ∧ (f k ≠ 0 → has D (key k) = true ∧ ∀ z, D.atKey (key k) z = numD (f k))
theorem wnt_made (w : World) : Wnt (w.alloc (.map #[] 0)) w.heap.size 0 (fun _ => 0) :=
 ⟨.map [], w.ownsMap_made _ _ _, Nat.le_refl _, fun x hx => by simp [has] at hx, fun k _ => ⟨fun _ => by simp [has], fun h => absurd rfl h⟩⟩
theorem Wnt.kept {w w' : World} {mb n : Nat} {f : Nat → Nat} (h : Wnt w mb n f) (hb : w'.heap[mb]? = w.heap[mb]?) : Wnt w' mb n f := by
 obtain ⟨D, ⟨es, c, ho, r⟩, h2⟩ := h
 exact ⟨D, ⟨es, c, hb.trans ho, r⟩, h2⟩
theorem Wnt.lt {w : World} {mb n : Nat} {f : Nat → Nat} (h : Wnt w mb n f) : mb < w.heap.size := by
 obtain ⟨D, ho, _⟩ := h
 exact ho.lt
theorem Wnt.isMap {w : World} {mb n : Nat} {f : Nat → Nat} (h : Wnt w mb n f) : ∃ es c, w.heap[mb]? = some (.map es c) := by
 obtain ⟨D, ⟨es, c, ho, r⟩, k⟩ := h
 exact ⟨es, c, ho⟩
theorem Wnt.mono {w : World} {mb n n' : Nat} {f : Nat → Nat} (h : Wnt w mb n f) (hn : n ≤ n') : Wnt w mb n' f := by
 obtain ⟨D, ho, hs, r⟩ := h
 exact ⟨D, ho, Nat.le_trans hs hn, r⟩
theorem num_wf {k : Nat} (h : k < 9223372036854775808) : (Lit.int IntKind.i64 (k : Int)).wf = true := by
 have h1 : IntKind.i64.min = -9223372036854775808 := by decide
 have h2 : IntKind.i64.max = 9223372036854775807 := by decide
 simp only [Lit.wf, h1, h2]
 simp; omega
theorem Wnt.look {w : World} {mb n : Nat} {f : Nat → Nat} (h : Wnt w mb n f) (k : Nat) (hk : k < 4164) :
  (Instr.lookup 72 (.map (some mb)) (.int .i64 (k : Int)) false).run Tryz.prog w = .ok (.int .i64 (f k : Int)) w := by
 obtain ⟨D, ho, _, _, hat⟩ := h
 obtain ⟨u, ps, hr, hv⟩ := ho.lookup keyed3 Tryz.underlying72 (zero3i w) (zd := numD 0) (zp := []) (plainElem_int Tryz.underlying3 (num_wf (k := 0) (by omega))) (key_of (by omega : k < 9223372036854775808))
 obtain ⟨a, rfl, e, _⟩ := plainElem_int_inv Tryz.underlying3 hv
 rw [hr]
 by_cases h0 : f k = 0
 ·rw [atKey_of_not_has ((hat k hk).1 h0)] at e
  simp only [Prod.mk.injEq, DataW.lit.injEq, Lit.int.injEq, true_and] at e
  rw [← e.1, h0]
 ·rw [((hat k hk).2 h0).2] at e
  simp only [Prod.mk.injEq, DataW.lit.injEq, Lit.int.injEq, true_and] at e
  rw [← e.1]
theorem Wnt.put {w : World} {mb n : Nat} {f : Nat → Nat} (h : Wnt w mb n f) (hn : n < 100000) (k : Nat) (hk : k < 4164) (b : Nat) (hb : b < 100000) (hb0 : b ≠ 0) :
  ∃ w', (Instr.mapUpdate 72 (.map (some mb)) (.int .i64 (k : Int)) (.int .i64 (b : Int))).run Tryz.prog w = .ok () w' ∧ Wnt w' mb (n + 1) (updV f k b) ∧ w.grownBy w' (some mb) := by
 obtain ⟨D, ho, hs, hin, hat⟩ := h
 obtain ⟨w', hr, ho', hg⟩ := ho.update keyed3 Tryz.underlying72 (show size D < maxLen by unfold maxLen; omega) (val := .int .i64 (b : Int)) (key_of (by omega : k < 9223372036854775808)) (plainElem_int Tryz.underlying3 (num_wf (by omega)))
 refine ⟨w', hr, ⟨_, tight ho', ?_, fun x hx => ?_, fun y hy => ?_⟩, hg⟩
 ·rw [size_put (ho.tidy keyed3)]
  split <;> omega
 ·by_cases e : x = (k : Int)
  ·exact ⟨k, e, hk, by show (if k = k then b else f k) ≠ 0; rw [if_pos rfl]; exact hb0⟩
  ·rw [has_put_other (fun h => e (by simpa [key] using h))] at hx
   obtain ⟨j, rfl, hj, hf⟩ := hin x hx
   exact ⟨j, rfl, hj, by show (if j = k then b else f j) ≠ 0; rw [if_neg (fun e2 => e (by rw [e2]))]; exact hf⟩
 ·show ((if y = k then b else f y) = 0 → _) ∧ ((if y = k then b else f y) ≠ 0 → _ ∧ ∀ z, DataW.atKey _ _ z = numD (if y = k then b else f y))
  by_cases e : y = k
  ·subst e
   rw [if_pos rfl]
   exact ⟨fun h => absurd h hb0, fun _ => ⟨has_put_same ho.isMap (key_is y) _, fun z => atKey_put_same ho.isMap (key_is y) _ _⟩⟩
  ·rw [if_neg e, has_put_other (fun h => e (key_inj h))]
   refine ⟨(hat y hy).1, fun h0 => ⟨((hat y hy).2 h0).1, fun z => ?_⟩⟩
   rw [atKey_put_other (fun h => e (key_inj h))]
   exact ((hat y hy).2 h0).2 z
theorem wpList_wnt_put (w : World) {ops : Array Oper} {rest : List Oper} {o : Oper} {a : Act} {Q : Exit → Act → World → Prop}
  (hg : o.guard = none) (m x v : Operand) (hop : o.op = Op.mapUpdate 72 m x v) {mb n : Nat} {f : Nat → Nat} (h : Wnt w mb n f) (hn : n < 100000) (k : Nat) (hk : k < 4164) (b : Nat) (hb : b < 100000) (hb0 : b ≠ 0)
  (hm : a.eval m = .map (some mb)) (hx : a.eval x = .int .i64 (k : Int)) (hv : a.eval v = .int .i64 (b : Int))
  (hK : ∀ w', Wnt w' mb (n + 1) (updV f k b) → w.grownBy w' (some mb) → wpList Tryz.prog ops Q rest (a.put o.dst undef) w') :
  wpList Tryz.prog ops Q (o :: rest) a w := by
 refine wpList_plain hg fun K' hK' => ?_
 obtain ⟨w', hrun, r1, r2⟩ := h.put hn k hk b hb hb0
 unfold Oper.wp
 simp [execOp, hop, hm, hx, hv, hrun, Result.andThen]
 exact hK' _ _ (hK w' r1 r2)
def WntR (w : World) (mb r n : Nat) (f : Nat → Nat) (cnt : Nat) : Prop :=
 ∃ (D : DataW Unit) (left : Lit → Bool), w.ranges Tryz.prog 3 (plainElem Tryz.prog 3) mb r (size D) D left cnt ∧ size D ≤ n ∧ (∀ x : Int, has D (.int .i64 x) = true → ∃ k : Nat, x = (k : Int) ∧ k < 4164 ∧ f k ≠ 0) ∧ ∀ k, k < 4164 → (f k = 0 → has D (key k) = false) ∧ (f k ≠ 0 → has D (key k) = true ∧ ∀ z, D.atKey (key k) z = numD (f k))
theorem WntR.wnt {w : World} {mb r n : Nat} {f : Nat → Nat} {cnt : Nat} (h : WntR w mb r n f cnt) : Wnt w mb n f := by
 obtain ⟨D, left, hr, h2⟩ := h
 exact ⟨D, hr.owns, h2⟩
theorem WntR.lt {w : World} {mb r n : Nat} {f : Nat → Nat} {cnt : Nat} (h : WntR w mb r n f cnt) : mb < w.heap.size ∧ r < w.heap.size ∧ r ≠ mb := by
 obtain ⟨D, left, hr, h2⟩ := h
 exact ⟨hr.owns.lt, hr.lt, hr.ne⟩
theorem WntR.left {w : World} {mb r n : Nat} {f : Nat → Nat} {cnt : Nat} (h : WntR w mb r n f cnt) : w.rangeLeft mb r = cnt := by
 obtain ⟨D, left, hr, h2⟩ := h
 exact hr.left_eq
theorem WntR.kept {w w' : World} {mb r n : Nat} {f : Nat → Nat} {cnt : Nat} (h : WntR w mb r n f cnt) (hm : w'.heap[mb]? = w.heap[mb]?) (hr : w'.heap[r]? = w.heap[r]?) : WntR w' mb r n f cnt := by
 obtain ⟨D, left, ⟨es, clock, since, seen, c0, h1, a1, a2, a3, h3, h4⟩, h2⟩ := h
 exact ⟨D, left, ⟨es, clock, since, seen, c0, hm.trans h1, a1, a2, a3, hr.trans h3, h4⟩, h2⟩
theorem wpList_wnt_range (w : World) {ops : Array Oper} {rest : List Oper} {o : Oper} {a : Act} {Q : Exit → Act → World → Prop}
  (hg : o.guard = none) (m : Operand) (hop : o.op = Op.range 72 m) {mb n : Nat} {f : Nat → Nat} (h : Wnt w mb n f) (hm : a.eval m = .map (some mb))
  (hK : ∀ w' cnt, WntR w' mb w.heap.size n f cnt → cnt ≤ n → w.grownBy w' none → w'.heap.size = w.heap.size + 1 → wpList Tryz.prog ops Q rest (a.put o.dst (.pointer (some ⟨w.heap.size, 0, none⟩))) w') :
  wpList Tryz.prog ops Q (o :: rest) a w := by
 obtain ⟨D, ho, h2⟩ := h
 exact wpList_range_own w hg m 72 hop 3 3 keyed3 Tryz.underlying72 (plainElem Tryz.prog 3) mb (size D) D hm ho fun w' hr hg hs => hK w' _ ⟨D, _, hr, h2⟩ h2.1 hg hs
theorem wpList_wnt_next (w : World) {ops : Array Oper} {rest : List Oper} {o : Oper} {a : Act} {Q : Exit → Act → World → Prop}
  (hg : o.guard = none) (it : Operand) (hop : o.op = Op.next it false) {mb r n : Nat} {f : Nat → Nat} {cnt : Nat} (h : WntR w mb r n f cnt) (hit : a.eval it = .pointer (some ⟨r, 0, none⟩))
  (hDone : cnt = 0 → wpList Tryz.prog ops Q rest (a.put o.dst (.tuple #[.bool false])) w)
  (hMore : ∀ (k : Nat) (w' : World) (cnt' : Nat), k < 4164 → f k ≠ 0 → WntR w' mb r n f cnt' → cnt' < cnt → w.grownBy w' (some r) → w'.heap.size = w.heap.size → (Instr.entry (.pointer (some ⟨r, 0, none⟩))).run Tryz.prog w' = .ok (.tuple #[.int .i64 (k : Int), .int .i64 (f k : Int)]) w' → wpList Tryz.prog ops Q rest (a.put o.dst (.tuple #[.bool true, .int .i64 (k : Int), .int .i64 (f k : Int)])) w') :
  wpList Tryz.prog ops Q (o :: rest) a w := by
 obtain ⟨D, left, hr, hs, hin, hat⟩ := h
 refine wpList_next_ranges_ii w hg it hop 3 3 .i64 .i64 keyed3 Tryz.underlying3 Tryz.underlying3 mb r (size D) D left cnt hit hr (fun h0 _ => hDone h0) ?_
 intro x c w' cnt' hwx hwc hlk ha hr' hlt hgr hsz hen
 obtain ⟨k, rfl, hk, hf⟩ := hin x (Maps.has_true_of_atKey ha)
 have e := ha (numD 0)
 rw [show (Lit.int IntKind.i64 (k : Int)) = key k from rfl, ((hat k hk).2 hf).2] at e
 simp only [DataW.lit.injEq, Lit.int.injEq, true_and] at e
 subst e
 exact hMore k w' cnt' hk hf ⟨D, _, hr', hs, hin, hat⟩ hlt hgr hsz hen
end Go.Proofs.YthdlpeejmmobmaaGreat

namespace Go.Proofs.YthdlpeejmmobmaaGreat.Mk.Num
open Go.RowKit
set_option linter.unusedVariables false
theorem sum_congr {xs ys : List Int} (m : Nat) (h : ∀ i, i < m → xs.getD i 0 = ys.getD i 0) : ∀ k, k ≤ m → lo xs k = lo ys k ∧ hi xs k = hi ys k := by
 intro k
 induction k with
 | zero => intro _; exact ⟨rfl, rfl⟩
 | succ k ih =>
  intro hk
  obtain ⟨i1, i2⟩ := ih (by omega)
  have e : lo xs (k + 1) = lo ys (k + 1) := by
   show (lo xs k + xs.getD k 0) % 65521 = (lo ys k + ys.getD k 0) % 65521
   rw [i1, h k (by omega)]
  refine ⟨e, ?_⟩
  show (hi xs k + lo xs (k + 1)) % 65521 = (hi ys k + lo ys (k + 1)) % 65521
  rw [i2, e]
theorem sum_same {xs ys : List Int} (m : Nat) (h : ∀ i, i < m → xs.getD i 0 = ys.getD i 0) : sum xs m = sum ys m := by
 obtain ⟨h1, h2⟩ := sum_congr m h m (Nat.le_refl _)
 unfold sum
 rw [h1, h2]
end Go.Proofs.YthdlpeejmmobmaaGreat.Mk.Num
namespace Go.Proofs.YthdlpeejmmobmaaGreat.Mk
open Go.RowKit
theorem num_out (xs : List Int) (b m : Nat) (v : Int) (a k : Nat) (h : a + k ≤ b ∨ b + m ≤ a) : Num.numD (Num.putTo xs b v m) a k = Num.numD xs a k :=
 Num.numD_congr k a fun i hi => Num.putTo_out xs b v m (a + i) (by omega)
theorem num_outs (xs : List Int) (b m : Nat) (zs : List Int) (n : Nat) (a k : Nat) (h : a + k ≤ b ∨ b + m * n ≤ a) : Num.numD (putsTo xs b m zs n) a k = Num.numD xs a k := by
 induction n with
 | zero => rfl
 | succ n ih =>
  rw [Nat.mul_succ] at h
  rw [putsTo, num_out _ _ _ _ _ _ (by omega), ih (by omega)]
theorem num_ins (xs : List Int) (b m : Nat) (zs : List Int) (n j : Nat) (hj : j < n) (hl : b + m * n ≤ xs.length) (h0 : 0 ≤ zs.getD j 0) (h1 : zs.getD j 0 < 256 ^ m) : Num.numD (putsTo xs b m zs n) (b + m * j) m = zs.getD j 0 := by
 induction n with
 | zero => omega
 | succ n ih =>
  rw [Nat.mul_succ] at hl
  rw [putsTo]
  by_cases e : j = n
  ·subst e
   exact Num.num_put _ _ _ _ (by rw [putsTo_len]; omega) h0 h1
  ·have : m * (j + 1) ≤ m * n := Nat.mul_le_mul_left m (by omega)
   rw [Nat.mul_succ] at this
   rw [num_out _ _ _ _ _ _ (by omega), ih (by omega) (by omega)]
theorem ads_of {zs : List Int} (h : Ads zs) (j : Nat) : 0 ≤ zs.getD j 0 ∧ zs.getD j 0 < 256 ^ 2 := by
 have := ads_at h j
 omega
theorem seal_seals (xs : List Int) (n : Nat) (hn : 4 ≤ n) (hl : xs.length = n) :
  (Num.numD (Num.putTo xs (n - 4) (Num.sum xs (n - 4)) 4) (n - 4) 4 == Num.sum (Num.putTo xs (n - 4) (Num.sum xs (n - 4)) 4) (n - 4)) = true := by
 have hs := Num.sum_bd xs (n - 4)
 rw [Num.num_put xs (n - 4) _ 4 (by omega) hs.1 (by simpa using hs.2), Num.sum_same (n - 4) (fun i hi => Num.putTo_out xs (n - 4) (Num.sum xs (n - 4)) 4 i (by omega))]
 simp
theorem din_says {m l s a b c d i j : Int} (h : UMay l s a b c d i j) (hm : 0 ≤ m ∧ m < 256) : Num.numD (dinS m l s a b c d i j) 0 1 = m ∧ rdV (dinS m l s a b c d i j) = dinV m l s a b c d i j ∧ (Num.numD (dinS m l s a b c d i j) 28 4 == Num.sum (dinS m l s a b c d i j) 28) = true := by
 have hl := dinL_len m l s a b c d i j
 have e : dinS m l s a b c d i j = Num.putTo (dinL m l s a b c d i j) 28 (Num.sum (dinL m l s a b c d i j) 28) 4 := by unfold dinS sealL; rw [hl]
 have hi := ads_of h.2.2.2 0
 have hj := ads_of h.2.2.2 1
 have z0 : (zers 32).length = 32 := zers_len 32
 have e0 : Num.numD (dinS m l s a b c d i j) 0 1 = m := by
  rw [e, num_out _ _ _ _ _ _ (by omega)]
  unfold dinL
  rw [num_out _ _ _ _ _ _ (by omega), num_out _ _ _ _ _ _ (by omega), num_outs _ _ _ _ _ _ _ (by omega), num_out _ _ _ _ _ _ (by omega), num_out _ _ _ _ _ _ (by omega)]
  exact Num.num_put _ _ _ _ (by omega) hm.1 (by omega)
 have e1 : Num.numD (dinS m l s a b c d i j) 2 2 = l := by
  rw [e, num_out _ _ _ _ _ _ (by omega)]
  unfold dinL
  rw [num_out _ _ _ _ _ _ (by omega), num_out _ _ _ _ _ _ (by omega), num_outs _ _ _ _ _ _ _ (by omega), num_out _ _ _ _ _ _ (by omega)]
  exact Num.num_put _ _ _ _ (by rw [Num.putTo_length]; omega) h.1.1 (by have := h.1.2; omega)
 have e2 : Num.numD (dinS m l s a b c d i j) 4 4 = s := by
  rw [e, num_out _ _ _ _ _ _ (by omega)]
  unfold dinL
  rw [num_out _ _ _ _ _ _ (by omega), num_out _ _ _ _ _ _ (by omega), num_outs _ _ _ _ _ _ _ (by omega)]
  exact Num.num_put _ _ _ _ (by simp only [Num.putTo_length]; omega) h.2.1.1 (by have := h.2.1.2; omega)
 have ej : ∀ k, k < 4 → Num.numD (dinS m l s a b c d i j) (8 + 2 * k) 2 = [a, b, c, d].getD k 0 := by
  intro k hk
  have hv := ads_of h.2.2.1 k
  rw [e, num_out _ _ _ _ _ _ (by omega)]
  unfold dinL
  rw [num_out _ _ _ _ _ _ (by omega), num_out _ _ _ _ _ _ (by omega)]
  exact num_ins _ _ _ _ _ _ hk (by simp only [Num.putTo_length]; omega) hv.1 hv.2
 have e8 : Num.numD (dinS m l s a b c d i j) 16 2 = i := by
  rw [e, num_out _ _ _ _ _ _ (by omega)]
  unfold dinL
  rw [num_out _ _ _ _ _ _ (by omega)]
  exact Num.num_put _ _ _ _ (by rw [putsTo_len]; simp only [Num.putTo_length]; omega) hi.1 hi.2
 have e9 : Num.numD (dinS m l s a b c d i j) 18 2 = j := by
  rw [e, num_out _ _ _ _ _ _ (by omega)]
  unfold dinL
  exact Num.num_put _ _ _ _ (by rw [Num.putTo_length, putsTo_len]; simp only [Num.putTo_length]; omega) hj.1 hj.2
 refine ⟨e0, ?_, ?_⟩
 ·unfold rdV
  rw [e0, e1, e2, e8, e9, show Num.numD (dinS m l s a b c d i j) 8 2 = a from ej 0 (by omega), show Num.numD (dinS m l s a b c d i j) 10 2 = b from ej 1 (by omega), show Num.numD (dinS m l s a b c d i j) 12 2 = c from ej 2 (by omega), show Num.numD (dinS m l s a b c d i j) 14 2 = d from ej 3 (by omega)]
 ·have := seal_seals (dinL m l s a b c d i j) 32 (by omega) hl
  rw [e]
  exact this
theorem dinode_back {m l s a b c d i j : Int} (h : DMay m l s a b c d i j) : ddE 32 (dinB m l s a b c d i j) = 0 ∧ ddV 32 (dinB m l s a b c d i j) = dinV m l s a b c d i j := by
 by_cases h0 : m = 0
 ·subst h0
  obtain ⟨rfl, rfl, rfl, rfl, rfl, rfl, rfl, rfl⟩ := dmay_zero h
  have e : dinB 0 0 0 0 0 0 0 0 0 = zers 32 := by unfold dinB; rw [if_pos rfl]
  rw [e]
  have hE : ddE 32 (zers 32) = 0 := by unfold ddE; rw [if_neg (by omega), if_pos rfl]
  refine ⟨hE, ?_⟩
  unfold ddV
  rw [if_pos hE]
  unfold rdV
  simp only [numD_zers]
 ·have e : dinB m l s a b c d i j = dinS m l s a b c d i j := by unfold dinB; rw [if_neg h0]
  have hU : UMay l s a b c d i j := by
   unfold DMay at h
   rcases h with h | h | h
   ·exact absurd h.1 h0
   ·exact h.2
   ·exact h.2.1
  have hm : 0 ≤ m ∧ m < 256 := by unfold DMay at h; omega
  obtain ⟨e0, eV, eS⟩ := din_says hU hm
  rw [e]
  have hz : ¬ dinS m l s a b c d i j = zers 32 := by
   intro k
   rw [k, numD_zers] at e0
   exact h0 e0.symm
  have hR : RGood (dinS m l s a b c d i j) := by
   unfold RGood
   unfold rdV at eV
   have := eV
   simp only [Value.agg.injEq, Array.mk.injEq, List.cons.injEq, Value.int.injEq, true_and, and_true] at this
   obtain ⟨q0, q1, q2, q3, q4, q5, q6, q7, q8⟩ := this
   rw [q0, q1, q2, q3, q4, q5, q6, q7, q8]
   exact ⟨h, e⟩
  have hE : ddE 32 (dinS m l s a b c d i j) = 0 := by
   unfold ddE
   rw [if_neg (by omega), if_neg hz, if_neg (by rw [eS]; simp), if_pos hR]
  refine ⟨hE, ?_⟩
  unfold ddV
  rw [if_pos hE, eV]
end Go.Proofs.YthdlpeejmmobmaaGreat.Mk

namespace Go.Proofs.YthdlpeejmmobmaaGreat
open Go.RowKit Go.Maps
open Mk.Al (putY rowOf fN eN lo zc)
set_option maxRecDepth 100000
set_option linter.unusedVariables false
def zn (p : Nat → Bool) (f : Nat) : Nat → Nat
 | 0 => 0
 | k + 1 => zn p f k + if p (f + k) then 0 else 1
theorem zn_le (p : Nat → Bool) (f : Nat) : ∀ k, zn p f k ≤ k
 | 0 => Nat.le_refl _
 | k + 1 => by
  have := zn_le p f k
  simp only [zn]
  split <;> omega
theorem zc_zn (xs : List Int) (f : Nat) : ∀ k, zc xs f (f + k) = (zn (Mk.Bit.on xs) f k : Int)
 | 0 => by simp [zc, zn]
 | k + 1 => by
  have ih := zc_zn xs f k
  unfold zc at ih ⊢
  have hc : Mk.Bit.count xs (f + (k + 1)) = Mk.Bit.count xs (f + k) + (if Mk.Bit.on xs (f + k) then 1 else 0) := rfl
  have hz : zn (Mk.Bit.on xs) f (k + 1) = zn (Mk.Bit.on xs) f k + (if Mk.Bit.on xs (f + k) then 0 else 1) := rfl
  rw [hc, hz]
  cases Mk.Bit.on xs (f + k) <;> simp <;> omega
def fre (H : Nat → List Int) (r : Bool) (B Q n : Nat) : Nat := zn (Mk.Bit.on (rowOf r (H n))) (fN r Q n) (eN r B Q - fN r Q n)
theorem fre_zc {G B Q n : Nat} (hm : Mk.Gm.May (G : Int) B Q) (H : Nat → List Int) (r : Bool) : zc (rowOf r (H n)) (fN r Q n) (eN r B Q) = (fre H r B Q n : Int) := by
 have := (Mk.Al.fe_lt hm r n).1
 unfold fre
 rw [← zc_zn]
 congr 1
 omega
end Go.Proofs.YthdlpeejmmobmaaGreat

namespace Go.Proofs.YthdlpeejmmobmaaGreat
open Go.RowKit Go.Maps
set_option maxRecDepth 100000
set_option linter.unusedVariables false
theorem heap_setCells (b : Nat) : ∀ (vs : List Value) (o : Nat) (w : World), (w.setCells b o vs).heap.size = w.heap.size ∧ (w.setCells b o vs).os = w.os ∧ (w.setCells b o vs).tape = w.tape ∧ (w.setCells b o vs).output = w.output ∧ ∀ k, k ≠ b → (w.setCells b o vs).heap[k]? = w.heap[k]?
 | [], o, w => ⟨rfl, rfl, rfl, rfl, fun _ _ => rfl⟩
 | v :: r, o, w => by
  obtain ⟨h1, h2, h3, h4, h5⟩ := heap_setCells b r (o + 1) (w.setCell ⟨b, o, none⟩ v)
  refine ⟨h1.trans (by simp [World.setCell]), h2.trans rfl, h3.trans rfl, h4.trans rfl, fun k hk => (h5 k hk).trans ?_⟩
  simp only [World.setCell, Array.getElem?_modify]
  rw [if_neg (fun e => hk e.symm)]
theorem below_setCells {B : Nat} {a w : World} (h : Below B a w) (b : Nat) (hb : B ≤ b) (o : Nat) (vs : List Value) : Below B a (w.setCells b o vs) := by
 obtain ⟨h1, h2, h3, h4, h5⟩ := heap_setCells b vs o w
 exact ⟨h2.trans h.os, h3.trans h.tape, h4.trans h.output, by rw [h1]; exact h.size, fun k hk => (h5 k (by omega)).trans (h.block k hk)⟩
structure Hrow (w : World) (b G k : Nat) (H : Nat → List Int) : Prop where
 there : w.there b 0 (41 * G)
 row : ∀ n, n < k → w.rangeAt b (n * 41) (Mk.groupA n (H n)).toList
theorem Hrow.keep {w w' : World} {b G k : Nat} {H : Nat → List Int} (h : Hrow w b G k H) (hb : w'.heap[b]? = w.heap[b]?) : Hrow w' b G k H :=
 ⟨fun j hj => by have := h.there j hj; simp only [World.cell?, World.frozen?, hb] at this ⊢; exact this, fun n hn j v hv => by have := h.row n hn j v hv; simp only [World.cell?, hb] at this ⊢; exact this⟩
theorem Hrow.put {w : World} {b G k : Nat} {H : Nat → List Int} (h : Hrow w b G k H) (hk : k < G) (hl : ∀ n, n ≤ k → (H n).length = 40) : Hrow (w.setCells b (k * 41) (Mk.groupA k (H k)).toList) b G (k + 1) H := by
 have hs : ∀ n, n ≤ k → (Mk.groupA n (H n)).toList.length = 41 := fun n hn => by rw [Array.length_toList]; exact Mk.groupA_size _ _ (hl n hn)
 refine ⟨World.there_setCells h.there _ _ _, fun n hn => ?_⟩
 by_cases e : n = k
 ·subst e
  exact World.rangeAt_setCells_same _ _ _ _ (fun j hj => by
   have := hs n (Nat.le_refl _)
   have h2 := h.there (n * 41 + j) (by omega)
   rw [Nat.zero_add] at h2
   exact h2)
 ·exact World.rangeAt_setCells_apart (h.row n (by omega)) _ _ _ (.inr (.inl (by rw [hs n (by omega)]; omega)))
theorem Hrow.at_ {w : World} {b G k : Nat} {H : Nat → List Int} (h : Hrow w b G k H) (hk : k < G) : w.there b (k * 41) 41 := fun j hj => by
 have h2 := h.there (k * 41 + j) (by omega)
 rw [Nat.zero_add] at h2
 exact h2
theorem hrow_new {w : World} {b G : Nat} {Z : Array Value} (h : w.heap[b]? = some (.cells Z 64 (0, 0))) (hz : Z.size = 41 * G) (H : Nat → List Int) : Hrow w b G 0 H :=
 ⟨fun j hj => by
  have hj' : j < Z.size := by omega
  simp [World.cell?, World.frozen?, h, Array.getElem?_eq_getElem hj'], fun n hn => absurd hn (by omega)⟩
theorem info64 : (Tryz.prog.info? 64).map (fun i => (i.zero, i.size, i.bytes)) = some (some (Mk.groupV 0 (Mk.zers 40)), 41, 48) := by kernel_rfl
theorem made_hdrs {G : Nat} (hG : G ≤ 8) : ∃ Z, Z.size = 41 * G ∧ ∀ w : World, (Instr.makeSlice 131 (.int .i64 (G : Int)) (.int .i64 (G : Int))).run Tryz.prog w = .ok (.slice (some ⟨w.heap.size, 0, none⟩) G G) (w.alloc (.cells Z 64)) := by
 obtain ⟨i0, hi, hz0, hz1, hz2⟩ := Mk.info_partsS info64
 refine ⟨madeCells (Mk.groupV 0 (Mk.zers 40)).cells (G * i0.size), by rw [size_madeCells, hz1]; omega, fun w => ?_⟩
 have h := run_make (P := Tryz.prog) w 131 64 i0 _ Tryz.underlying131 hi hz0 .i64 .i64 (G : Int) (G : Int) (by omega) (by omega) (by rw [hz2]; omega) (by omega)
 simpa using h
end Go.Proofs.YthdlpeejmmobmaaGreat

namespace Go.Proofs.YthdlpeejmmobmaaGreat
open Go.RowKit Go.Maps
set_option maxRecDepth 100000
set_option linter.unusedVariables false
section
variable {w w' : World} {v : Nat} {F : Nat → Prop} {N : Nat} {I : Nat → List Int} {l c G B Q : Nat}
open Mk.Al in
set_option maxHeartbeats 4000000 in
theorem allHeaders_ok (h : Vol w v F N I l c) (hg : Geo G B Q N) {H : Nat → List Int} (hH : Hds I G B H) (hc : c + 8 < 4611686018427387904) :
  Calls Tryz.prog 64 #[.pointer (some ⟨v, 0, none⟩), Mk.geomV G B Q] w fun e w' => ∃ b, e = .returned (.tuple #[.slice (some ⟨b, 0, none⟩) G G, .int .i64 0]) ∧ ∃ F' c', c' ≤ c + 8 ∧ Vol w' v F' N I l c' ∧ Pt.Stp F F' w w' ∧ w.heap.size ≤ b ∧ ¬ F' b ∧ Hrow w' b G G H := by
 have hfit := hg.fit
 obtain ⟨W, hW⟩ : ∃ W, w.alloc (Mk.geomO G B Q) = W := ⟨_, rfl⟩
 have hb : Below w.heap.size w W := by rw [← hW]; exact Mk.grew_alloc _ _
 have hx : W.heap[w.heap.size]? = some (Mk.geomO G B Q) := by rw [← hW]; exact at_new rfl
 have hsz : W.heap.size = w.heap.size + 1 := by rw [← hW]; simp
 have c0 := (g3_of hx).c0
 have c1 := (g3_of hx).c1
 have c2 := (g3_of hx).c2
 have hlt := h.lt
 have hv := h.later hb
 obtain ⟨Z, hZ, hmk⟩ := made_hdrs (G := G) (by omega)
 obtain ⟨W1, hW1⟩ : ∃ W1, W.alloc (.cells Z 64) = W1 := ⟨_, rfl⟩
 have hb1 : Below W.heap.size W W1 := by rw [← hW1]; exact Mk.grew_alloc _ _
 have hn1 : W1.heap[w.heap.size + 1]? = some (.cells Z 64 (0, 0)) := by rw [← hW1]; exact at_new (by omega)
 have hx1 := (hb1.block _ (Array.getElem?_eq_some_iff.1 hx).1).trans hx
 have hmkW := hmk W
 rw [hW1, hsz] at hmkW
 have hr1 := hrow_new hn1 hZ H
 have hs1 : w.heap.size + 2 ≤ W1.heap.size := by have := (Array.getElem?_eq_some_iff.1 hn1).1; omega
 clear hmk hn1
 go_enter Tryz.func64, Tryz.ntmps64
 go_wp2_with fail
 have HC : Hid (Below w.heap.size w W ∧ (∀ k, F k → k < w.heap.size) ∧ c + 8 < 4611686018427387904 ∧ w.heap.size + 2 ≤ W1.heap.size) := ⟨hb, hlt, hc, hs1⟩
 have hI0 : ∃ k F1 c1, k ≤ G ∧ (.int .i64 0 : Value) = .int .i64 (k : Int) ∧ c1 ≤ c + k ∧ Vol W1 v F1 N I l c1 ∧ Pt.Stp F F1 W W1 ∧ ¬ F1 (w.heap.size + 1) ∧ w.heap.size + 2 ≤ W1.heap.size ∧ W1.heap[w.heap.size]? = some (Mk.geomO G B Q) ∧ Hrow W1 (w.heap.size + 1) G k H :=
  ⟨0, F, c, by omega, rfl, by omega, hv.later hb1, Pt.stp_below hb1, fun hf => by have := hlt _ hf; omega, hs1, hx1, hr1⟩
 clear hb1 hb hx hx1 hW1 hW hv h hlt hr1 hmkW hs1
 go_loopw [15] (fun v15 wr => ∃ k F1 c1, k ≤ G ∧ v15 = .int .i64 (k : Int) ∧ c1 ≤ c + k ∧ Vol wr v F1 N I l c1 ∧ Pt.Stp F F1 W wr ∧ ¬ F1 (w.heap.size + 1) ∧ w.heap.size + 2 ≤ wr.heap.size ∧ wr.heap[w.heap.size]? = some (Mk.geomO G B Q) ∧ Hrow wr (w.heap.size + 1) G k H) (fun v15 _ => G - (intOf v15).toNat)
 case atStart => exact hI0
 case round =>
  clear hI0
  obtain ⟨k, F1, c1, hkG, rfl, hc1, hv, hst, hnh, hszr, hx, hr⟩ := hrel
  have c0 := (g3_of hx).c0
  have c1' := (g3_of hx).c1
  have c2 := (g3_of hx).c2
  have hnF : ∀ k, F1 k → k ≠ w.heap.size ∧ k ≠ w.heap.size + 1 := fun k hk => ⟨fun e => (hst.new k hk).elim (fun h => by have := HC.out.2.1 k h; omega) (fun h => by have : W.heap.size ≤ k := h; omega), fun e => hnh (e ▸ hk)⟩
  by_cases hlt : k < G
  ·have hkI : (k : Int) < (G : Int) := by omega
   have hln := hH.len k hlt
   have hsg := Mk.groupA_size (k : Int) (H k) hln
   have hsg0 := Mk.groupA_size 0 (Mk.zers 40) (Mk.zers_len 40)
   have hhd := header_ok hv hg hlt (hH.at_ k hlt) hln (by have := HC.out.2.2.1; omega)
   have HV : Hid (Vol wr v F1 N I l c1 ∧ Pt.Stp F F1 W wr ∧ Hrow wr (w.heap.size + 1) G k H) := ⟨hv, hst, hr⟩
   clear hv hst hr
   go_wp2_with fail
   refine Calls.mono hhd ?_
   rintro e w5 ⟨rfl, F2, hv5, hst5⟩
   dsimp only
   obtain ⟨hv, hst, hr⟩ := HV.out
   have hx5 : w5.heap[w.heap.size]? = some (Mk.geomO G B Q) := (hst5.fr.block _ (by omega) (fun hf => by have := hnF _ hf; omega)).trans hx
   have hr5 : Hrow w5 (w.heap.size + 1) G k H := hr.keep (hst5.fr.block _ (by omega) (fun hf => by have := hnF _ hf; omega))
   have hs5 : w.heap.size + 2 ≤ w5.heap.size := by have := hst5.fr.size; omega
   have hst6 : Pt.Stp F F2 W w5 := stp_trans hst hst5
   have hnF2 : ∀ k, F2 k → k ≠ w.heap.size + 1 := fun k hk e => (hst5.new k hk).elim (fun h => (hnF k h).2 e) (fun h => by have : wr.heap.size ≤ k := h; omega)
   obtain ⟨W6, hW6⟩ : ∃ W6, w5.alloc (Mk.groupO 0 (Mk.zers 40)) = W6 := ⟨_, rfl⟩
   have hb6 : Below w5.heap.size w5 W6 := by rw [← hW6]; exact Mk.grew_alloc _ _
   have hn6 : W6.heap[w5.heap.size]? = some (Mk.groupO 0 (Mk.zers 40)) := by rw [← hW6]; exact at_new rfl
   obtain ⟨W7, hW7⟩ : ∃ W7, W6.setRow w5.heap.size (Mk.groupA k (H k)) = W7 := ⟨_, rfl⟩
   have hn7 : W7.heap[w5.heap.size]? = some (Mk.groupO k (H k)) := by rw [← hW7]; exact setRow_heap _ _ _ _ _ _ hn6
   have hb7 : Below w5.heap.size w5 W7 := by rw [← hW7]; exact below_setRow hb6 (Nat.le_refl _) _
   have hr7 := hr5.keep (hb7.block _ (by omega))
   have hx7 := (hb7.block _ (by omega)).trans hx5
   have hv7 := hv5.later hb7
   have hst7 := stp_grown hst6 hb7
   have hth : W7.there (w.heap.size + 1) (k * 41) (Mk.groupA k (H k)).size := by rw [hsg]; exact hr7.at_ hlt
   dsimp only [Mk.groupO] at hW6
   rw [Mk.zero38] at hW6
   obtain ⟨W8, hW8⟩ : ∃ W8, W7.setCells (w.heap.size + 1) (k * 41) (Mk.groupA k (H k)).toList = W8 := ⟨_, rfl⟩
   have hoth : ∀ q, q ≠ w.heap.size + 1 → W8.heap[q]? = W7.heap[q]? := by rw [← hW8]; exact (heap_setCells _ _ _ _).2.2.2.2
   have hr8 : Hrow W8 (w.heap.size + 1) G (k + 1) H := by rw [← hW8]; exact hr7.put hlt (fun n hn => hH.len n (by omega))
   have hs8 : W8.heap.size = W7.heap.size := by rw [← hW8]; exact (heap_setCells _ _ _ _).1
   have hb8 : Below W.heap.size W7 W8 := by rw [← hW8]; exact below_setCells (Below.refl _ _) _ (by omega) _ _
   have HN : Hid (Vol W8 v F2 N I l (c1 + 1) ∧ W8.heap[w.heap.size]? = some (Mk.geomO G B Q) ∧ Hrow W8 (w.heap.size + 1) G (k + 1) H) := ⟨hv7.else (by omega) (fun q hq => hoth q (hnF2 q hq)), (hoth _ (by omega)).trans hx7, hr8⟩
   clear hst hr hv hv5 hst5 hst6 hv7 hr7 hr5 hr8
   go_wp2_with (first
    | (refine wpList_store_row rfl 64 _ _ rfl w5.heap.size (Mk.groupA k (H k)) rfl rfl 64 _ hn6 (Mk.info38 (k : Int) (H k) hln) (hsg0.trans hsg.symm) (Mk.group_one (k : Int) (H k)) ?_; rw [hW7])
    | (refine wpList_load_row rfl 64 _ rfl w5.heap.size rfl 64 _ (0, 0) _ hn7 Tryz.underlying64 rfl (Mk.info38 (k : Int) (H k) hln) ?_)
    | (refine wpList_store_mid rfl 64 _ _ rfl (w.heap.size + 1) (k * 41) (Mk.groupA k (H k)) rfl rfl hth (Mk.info38 (k : Int) (H k) hln) (Mk.group_one (k : Int) (H k)) ?_; rw [hW8]))
   go_roundw
   case rel =>
    exact ⟨k + 1, F2, c1 + 1, by omega, by go_num, by omega, HN.out.1, stp_low hst7 hb8, fun hf => hnF2 _ hf rfl, by have := hb7.size; omega, HN.out.2.1, HN.out.2.2⟩
   case measure => simp [intOf]; omega
  ·have hkG' : k = G := by omega
   subst hkG'
   have hkI : ¬ ((k : Int) < (k : Int)) := by omega
   go_wp2_with fail
   go_ret2
   refine ⟨w.heap.size + 1, rfl, F1, c1, by omega, hv, stp_after HC.out.1 hst, by omega, hnh, hr⟩
end
end Go.Proofs.YthdlpeejmmobmaaGreat
