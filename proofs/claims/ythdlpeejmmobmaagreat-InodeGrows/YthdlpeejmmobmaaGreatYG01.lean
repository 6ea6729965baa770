/- TK KNum KSpan KMem KBack -/
import Derived.OrdersHeld
import Derived.KernelRfl
import Derived.WalkKit
import Derived.Test.YthdlpeejmmobmaaGreatProg
import Derived.WalkSpells
import Derived.WalkLawsBesides
import Derived.BigQuiet
import Derived.Deep.QuietTactic
import Derived.Laws.CopyOwn
import Derived.Lib.Bytes

namespace Go.Proofs.YthdlpeejmmobmaaGreat
theorem tk {P : Program} {ops : Array Oper} {Q : Exit → Act → World → Prop} {md : Region.Mode} {S : World → Prop} {fuel : Nat} {listed : Array Bool} {a : Act} {w : World} (i : Nat) (oi : Oper) (v : Value) (hy : ∀ w, S w → (execOp a.eval oi).run P w = .ok (.value v) w) (hS : S w) (h : wpAnyH P md ops Q S fuel (listed.setIfInBounds i true) (a.put oi.dst v) w) (hi : ops[i]? = some oi := by rfl) (hs : Region.noSelect ops = true := by kernel_rfl) (hf : Region.free md ops listed i = true := by kernel_rfl) (hr : (Region.ready md ops listed).contains i = true := by kernel_rfl) (hQ : ∀ c a w, Q (.panic c) (a.put oi.dst v) w → Q (.panic c) a w := by exact fun _ _ _ h => h) (hw : Region.wanted oi (yielded ops a.tmps) = true := by rfl) : wpAnyH P md ops Q S (fuel + 1) listed a w :=
 wpAnyH_take hi hs hf hr hQ (Or.inl ⟨hw, hy⟩) hS h
theorem sA {α : Type _} {l : List α} {i : Nat} {a : α} : l.toArray.setIfInBounds i a = (l.set i a).toArray := List.setIfInBounds_toArray ..
theorem sZ {α : Type _} {x : α} {xs : List α} {a : α} : (x :: xs).set 0 a = a :: xs := List.set_cons_zero ..
theorem sS {α : Type _} {x : α} {xs : List α} {n : Nat} {a : α} : (x :: xs).set (n + 1) a = x :: xs.set n a := List.set_cons_succ ..
end Go.Proofs.YthdlpeejmmobmaaGreat

namespace Go.Proofs.YthdlpeejmmobmaaGreat.Mk
set_option maxRecDepth 100000
namespace Num
def numD (xs : List Int) : Nat → Nat → Int
 | _, 0 => 0
 | a, k + 1 => xs.getD a 0 + 256 * numD xs (a + 1) k
def Byt (xs : List Int) : Prop := ∀ i, 0 ≤ xs.getD i 0 ∧ xs.getD i 0 < 256
theorem numD_snoc (xs : List Int) (k : Nat) : ∀ a, numD xs a (k + 1) = numD xs a k + xs.getD (a + k) 0 * 256 ^ k := by
 induction k with
 | zero => intro a; simp [numD]
 | succ k ih =>
  intro a
  have h1 : numD xs a (k + 1 + 1) = xs.getD a 0 + 256 * numD xs (a + 1) (k + 1) := rfl
  have h2 : numD xs a (k + 1) = xs.getD a 0 + 256 * numD xs (a + 1) k := rfl
  rw [h1, h2, ih (a + 1), Int.pow_succ, show a + 1 + k = a + (k + 1) from by omega]
  generalize xs.getD (a + (k + 1)) 0 = y
  generalize (256 : Int) ^ k = p
  have : y * (p * 256) = 256 * (y * p) := by rw [← Int.mul_assoc, Int.mul_comm]
  rw [this]; omega
theorem numD_bd {xs : List Int} (h : Byt xs) (k : Nat) : ∀ a, 0 ≤ numD xs a k ∧ numD xs a k < 256 ^ k := by
 induction k with
 | zero => intro a; simp [numD]
 | succ k ih =>
  intro a
  have h1 : numD xs a (k + 1) = xs.getD a 0 + 256 * numD xs (a + 1) k := rfl
  have h2 := ih (a + 1)
  have h3 := h a
  rw [h1, Int.pow_succ]
  generalize (256 : Int) ^ k = p at *
  omega
def putTo (xs : List Int) (a : Nat) (v : Int) : Nat → List Int
 | 0 => xs
 | k + 1 => (putTo xs a v k).set (a + k) (v / 256 ^ k % 256)
theorem putTo_length (xs : List Int) (a : Nat) (v : Int) (k : Nat) : (putTo xs a v k).length = xs.length := by
 induction k with
 | zero => rfl
 | succ k ih => simp [putTo, ih]
theorem getD_set (xs : List Int) (j i : Nat) (y : Int) : (xs.set j y).getD i 0 = if i = j ∧ j < xs.length then y else xs.getD i 0 := by
 simp only [List.getD_eq_getElem?_getD, List.getElem?_set]
 by_cases h : j = i
 ·subst h
  by_cases hl : j < xs.length
  ·simp [hl]
  ·simp [hl]
 ·have h' : ¬ i = j := fun e => h e.symm
  simp [h, h']
theorem putTo_byt {xs : List Int} (h : Byt xs) (a : Nat) (v : Int) (k : Nat) : Byt (putTo xs a v k) := by
 induction k with
 | zero => exact h
 | succ k ih =>
  intro i
  show 0 ≤ ((putTo xs a v k).set (a + k) (v / 256 ^ k % 256)).getD i 0 ∧ ((putTo xs a v k).set (a + k) (v / 256 ^ k % 256)).getD i 0 < 256
  rw [getD_set]
  split
  ·omega
  ·exact ih i
theorem putTo_out (xs : List Int) (a : Nat) (v : Int) (k : Nat) (i : Nat) (hi : i < a ∨ a + k ≤ i) : (putTo xs a v k).getD i 0 = xs.getD i 0 := by
 induction k with
 | zero => rfl
 | succ k ih =>
  show ((putTo xs a v k).set (a + k) (v / 256 ^ k % 256)).getD i 0 = _
  rw [getD_set, if_neg (by omega)]
  exact ih (by omega)
theorem putTo_in (xs : List Int) (a : Nat) (v : Int) (k : Nat) (hk : a + k ≤ xs.length) (i : Nat) (hi : i < k) : (putTo xs a v k).getD (a + i) 0 = v / 256 ^ i % 256 := by
 induction k with
 | zero => omega
 | succ k ih =>
  show ((putTo xs a v k).set (a + k) (v / 256 ^ k % 256)).getD (a + i) 0 = _
  rw [getD_set, putTo_length]
  by_cases e : i = k
  ·subst e; rw [if_pos ⟨rfl, by omega⟩]
  ·rw [if_neg (by omega)]; exact ih (by omega) (by omega)
theorem numD_congr {xs ys : List Int} (k : Nat) : ∀ a, (∀ i, i < k → xs.getD (a + i) 0 = ys.getD (a + i) 0) → numD xs a k = numD ys a k := by
 induction k with
 | zero => intro a _; rfl
 | succ k ih =>
  intro a h
  show xs.getD a 0 + 256 * numD xs (a + 1) k = ys.getD a 0 + 256 * numD ys (a + 1) k
  rw [ih (a + 1) (fun i hi => by rw [show a + 1 + i = a + (i + 1) from by omega]; exact h (i + 1) (by omega))]
  have := h 0 (by omega)
  simp only [Nat.add_zero] at this
  rw [this]
theorem numD_digits (ys : List Int) (v : Int) (k : Nat) (a : Nat) (h : ∀ i, i < k → ys.getD (a + i) 0 = v / 256 ^ i % 256) : numD ys a k = v % 256 ^ k := by
 induction k with
 | zero => simp [numD]
 | succ k ih =>
  rw [numD_snoc, ih (fun i hi => h i (by omega)), h k (by omega), Int.pow_succ]
  have hp : (0 : Int) < 256 ^ k := Int.pow_pos (by decide)
  generalize (256 : Int) ^ k = p at *
  have e1 := Int.emod_add_mul_ediv v p
  have e2 := Int.emod_add_mul_ediv (v / p) 256
  have e3 : v / (p * 256) = v / p / 256 := (Int.ediv_ediv_of_nonneg (by omega)).symm
  have e4 := Int.emod_add_mul_ediv v (p * 256)
  rw [e3] at e4
  generalize v / p / 256 = q2 at *
  generalize v / p % 256 = r2 at *
  generalize v / p = q1 at *
  generalize v % p = r1 at *
  generalize v % (p * 256) = r4 at *
  subst e2
  rw [Int.mul_add, ← Int.mul_assoc] at e1
  rw [Int.mul_comm r2 p]
  omega
theorem num_put (xs : List Int) (a : Nat) (v : Int) (k : Nat) (hk : a + k ≤ xs.length) (h0 : 0 ≤ v) (h1 : v < 256 ^ k) : numD (putTo xs a v k) a k = v := by
 rw [numD_digits _ v k a (fun i hi => putTo_in xs a v k hk i hi)]
 exact Int.emod_eq_of_lt h0 h1
theorem wraps_i64 (n : Int) (h0 : 0 ≤ n) (h1 : n < 2 ^ 40) : IntKind.i64.wrap n = n := by
 rw [IntKind.wrap_i64]; simp at h1; omega
theorem or_comm' (k : IntKind) (x y : Int) : bits .or k x y = bits .or k y x := by
 simp only [bits]
 rw [BitVec.or_comm]
theorem or_num (t x : Int) (j : Nat) (hj : j ≤ 3) (h0 : 0 ≤ t) (h1 : t < 256 ^ j) (hx0 : 0 ≤ x) (hx1 : x < 256) :
  bits BinOp.or IntKind.i64 t (RowKit.wrap64 (x * 2 ^ (8 * j))) = t + x * 256 ^ j := by
 have e : RowKit.wrap64 (x * 2 ^ (8 * j)) = x * 256 ^ j := by
  unfold RowKit.wrap64
  rcases (by omega : j = 0 ∨ j = 1 ∨ j = 2 ∨ j = 3) with rfl | rfl | rfl | rfl <;> simp <;> omega
 rw [e, or_comm']
 have := bits_join IntKind.i64 40 (by decide) wraps_i64 (8 * j) (x * 256 ^ j) t
  (by rcases (by omega : j = 0 ∨ j = 1 ∨ j = 2 ∨ j = 3) with rfl | rfl | rfl | rfl <;> simp <;> omega)
  (by rcases (by omega : j = 0 ∨ j = 1 ∨ j = 2 ∨ j = 3) with rfl | rfl | rfl | rfl <;> simp <;> omega)
  (by rcases (by omega : j = 0 ∨ j = 1 ∨ j = 2 ∨ j = 3) with rfl | rfl | rfl | rfl <;> simp <;> omega)
  h0
  (by rcases (by omega : j = 0 ∨ j = 1 ∨ j = 2 ∨ j = 3) with rfl | rfl | rfl | rfl <;> simp at h1 ⊢ <;> omega)
  (by rcases (by omega : j = 0 ∨ j = 1 ∨ j = 2 ∨ j = 3) with rfl | rfl | rfl | rfl <;> simp at h1 ⊢ <;> omega)
 rw [this, Int.add_comm]
theorem byt_of_wf {xs : List Int} (h : ∀ n ∈ xs, (Lit.int .u8 n).wf = true) : Byt xs := by
 intro i
 rw [List.getD_eq_getElem?_getD]
 by_cases hi : i < xs.length
 ·rw [List.getElem?_eq_getElem hi]
  have := h _ (List.getElem_mem hi)
  simp [Lit.wf, IntKind.min, IntKind.max, IntKind.signed, IntKind.bits] at this
  simp only [Option.getD_some]
  omega
 ·rw [List.getElem?_eq_none (by omega)]; simp
end Num
end Go.Proofs.YthdlpeejmmobmaaGreat.Mk

namespace Go.Proofs.YthdlpeejmmobmaaGreat.Mk
open Go.RowKit
set_option maxRecDepth 100000
set_option maxHeartbeats 400000 in
theorem span_arg (p : Option Addr) (n c : Nat) (at_ wd : Int) (w : World) (h : wd < 1 ∨ 4 < wd ∨ at_ < 0) :
  Calls Tryz.prog 280 #[.slice p n c, .int .i64 at_, .int .i64 wd] w fun e w' => e = .returned (.int .i64 1) ∧ w' = w := by
 by_cases h1 : wd < 1
 ·go_enter Tryz.func280, Tryz.ntmps280
  go_wp2
  go_ret
  exact ⟨rfl, rfl⟩
 ·by_cases h2 : 4 < wd
  ·go_enter Tryz.func280, Tryz.ntmps280
   go_wp2
   go_ret
   exact ⟨rfl, rfl⟩
  ·have h3 : at_ < 0 := by omega
   go_enter Tryz.func280, Tryz.ntmps280
   go_wp2
   go_ret
   exact ⟨rfl, rfl⟩
set_option maxHeartbeats 400000 in
theorem span_past (p : Option Addr) (n c : Nat) (at_ wd : Int) (w : World) (h1 : 1 ≤ wd) (h2 : wd ≤ 4) (h3 : 0 ≤ at_) (hn : n ≤ 140737488355328) (h4 : (n : Int) - wd < at_) :
  Calls Tryz.prog 280 #[.slice p n c, .int .i64 at_, .int .i64 wd] w fun e w' => e = .returned (.int .i64 10) ∧ w' = w := by
 go_enter Tryz.func280, Tryz.ntmps280
 go_wp2
 go_ret
 exact ⟨rfl, rfl⟩
set_option maxHeartbeats 400000 in
theorem span_ok (p : Option Addr) (n c : Nat) (at_ wd : Int) (w : World) (h1 : 1 ≤ wd) (h2 : wd ≤ 4) (h3 : 0 ≤ at_) (hn : n ≤ 140737488355328) (h4 : at_ ≤ (n : Int) - wd) :
  Calls Tryz.prog 280 #[.slice p n c, .int .i64 at_, .int .i64 wd] w fun e w' => e = .returned (.int .i64 0) ∧ w' = w := by
 go_enter Tryz.func280, Tryz.ntmps280
 go_wp2
 go_ret
 exact ⟨rfl, rfl⟩
theorem pow_eq (k : Nat) : (2 : Int) ^ (8 * k) = 256 ^ k := by
 rw [Int.pow_mul]
 rfl
theorem fits_bool_yes (n : Int) (k : Nat) (h0 : 0 ≤ n) (h : n < 256 ^ k) : (n / 2 ^ (8 * k) == 0) = true := by
 rw [pow_eq, Int.ediv_eq_zero_of_lt h0 h]; rfl
set_option maxHeartbeats 400000 in
theorem fits_yes (n : Int) (k : Nat) (w : World) (h1 : 1 ≤ k) (h2 : k ≤ 4) (h0 : 0 ≤ n) (h : n < 256 ^ k) :
  Calls Tryz.prog 284 #[.int .i64 n, .int .i64 k] w fun e w' => e = .returned (.bool true) ∧ w' = w := by
 have hb := fits_bool_yes n k h0 h
 clear h
 go_enter Tryz.func284, Tryz.ntmps284
 go_wp2
 go_ret
 exact ⟨rfl, rfl⟩
theorem pow_le (m : Nat) (h : m ≤ 4) : (256 : Int) ^ m ≤ 4294967296 := by
 rcases (by omega : m = 0 ∨ m = 1 ∨ m = 2 ∨ m = 3 ∨ m = 4) with rfl | rfl | rfl | rfl | rfl <;> decide
set_option maxHeartbeats 400000 in
theorem get_arg (p : Option Addr) (n c : Nat) (at_ wd : Int) (w : World) (h : wd < 1 ∨ 4 < wd ∨ at_ < 0) :
  Calls Tryz.prog 233 #[.slice p n c, .int .i64 at_, .int .i64 wd] w fun e w' => e = .returned (.tuple #[.int .i64 0, .int .i64 1]) ∧ w' = w := by
 go_enter Tryz.func233, Tryz.ntmps233
 go_wp2_with (go_at_call 280; refine (span_arg _ _ _ _ _ _ h).mono ?_; rintro e w' ⟨rfl, rfl⟩)
 go_ret2
 exact ⟨rfl, rfl⟩
set_option maxHeartbeats 400000 in
theorem get_past (p : Option Addr) (n c : Nat) (at_ wd : Int) (w : World) (h1 : 1 ≤ wd) (h2 : wd ≤ 4) (h3 : 0 ≤ at_) (hn : n ≤ 140737488355328) (h4 : (n : Int) - wd < at_) :
  Calls Tryz.prog 233 #[.slice p n c, .int .i64 at_, .int .i64 wd] w fun e w' => e = .returned (.tuple #[.int .i64 0, .int .i64 10]) ∧ w' = w := by
 go_enter Tryz.func233, Tryz.ntmps233
 go_wp2_with (go_at_call 280; refine (span_past _ _ _ _ _ _ h1 h2 h3 hn h4).mono ?_; rintro e w' ⟨rfl, rfl⟩)
 go_ret2
 exact ⟨rfl, rfl⟩
set_option maxHeartbeats 400000 in
theorem get_ok (b o n c : Nat) (xs : List Int) (a k : Nat) (w : World) (h1 : 1 ≤ k) (h2 : k ≤ 4) (hn : n ≤ 140737488355328) (h4 : a + k ≤ n) (hx : Num.Byt xs)
  (hc : ∀ i, i < n → w.cell? ⟨b, o + i, none⟩ = some (.int .u8 (xs.getD i 0))) :
  Calls Tryz.prog 233 #[.slice (some ⟨b, o, none⟩) n c, .int .i64 a, .int .i64 k] w fun e w' => e = .returned (.tuple #[.int .i64 (Num.numD xs a k), .int .i64 0]) ∧ w' = w := by
 go_enter Tryz.func233, Tryz.ntmps233
 go_wp2_with (go_at_call 280; refine (span_ok _ _ _ _ _ _ (by omega) (by omega) (by omega) hn (by omega)).mono ?_; rintro e w' ⟨rfl, rfl⟩)
 go_loop [9, 19] (fun t i => ∃ j : Nat, j ≤ k ∧ i = .int .i64 j ∧ t = .int .i64 (Num.numD xs a j)) (fun _ i => k - (intOf i).toNat)
 case atStart => exact ⟨0, Nat.zero_le _, rfl, rfl⟩
 case round =>
  obtain ⟨j, hj, rfl, rfl⟩ := hrel
  by_cases hlt : j < k
  ·have hcj := hc (a + j) (by omega)
   obtain ⟨x, hxe⟩ : ∃ x, x = xs.getD (a + j) 0 := ⟨_, rfl⟩
   rw [← hxe] at hcj
   have hxb := hx (a + j)
   rw [← hxe] at hxb
   have HX : Hid (x = xs.getD (a + j) 0) := hxe
   clear hxe
   have hnb := Num.numD_bd hx j a
   have HN : Hid (bits BinOp.or IntKind.i64 (Num.numD xs a j) (wrap64 (x * 2 ^ (8 * j))) = Num.numD xs a (j + 1)) := by
    rw [Num.numD_snoc, ← HX.out]
    exact Num.or_num _ _ _ (by omega) hnb.1 hnb.2 hxb.1 hxb.2
   clear hnb
   go_wp2
   go_round
   case rel => exact ⟨j + 1, by omega, by go_num, by rw [HN.out]⟩
   case measure => simp [intOf]; omega
  ·obtain rfl : j = k := by omega
   go_wp2
   go_ret2
   exact ⟨rfl, rfl⟩
end Go.Proofs.YthdlpeejmmobmaaGreat.Mk

namespace Go.Proofs.YthdlpeejmmobmaaGreat.Mk
open Go.RowKit
set_option maxRecDepth 100000
structure BI (w : World) (p : Option Addr) (n : Nat) (xs : List Int) : Prop where
 len : xs.length = n
 big : n ≤ 140737488355328
 byt : Num.Byt xs
 cells : 0 < n → ∃ b o, p = some ⟨b, o, none⟩ ∧ ∀ i, i < n → w.cell? ⟨b, o + i, none⟩ = some (.int .u8 (xs.getD i 0))
theorem lt_of_cell {w : World} {b o : Nat} {v : Value} (h : w.cell? ⟨b, o, none⟩ = some v) : b < w.heap.size := by
 by_cases hb : b < w.heap.size
 ·exact hb
 ·have : w.heap[b]? = none := Array.getElem?_eq_none (by omega)
  simp [World.cell?, this] at h
theorem BI.kept {w w' : World} {p : Option Addr} {n : Nat} {xs : List Int} (h : BI w p n xs) (hb : Below w.heap.size w w') : BI w' p n xs := by
 refine ⟨h.len, h.big, h.byt, fun hn => ?_⟩
 obtain ⟨b, o, rfl, hc⟩ := h.cells hn
 refine ⟨b, o, rfl, fun i hi => ?_⟩
 have hlt := lt_of_cell (hc i hi)
 rw [hb.cell (p := ⟨b, o + i, none⟩) hlt]
 exact hc i hi
def Own (B : Nat) (w : World) (g n cap : Nat) (xs : List Int) : Prop :=
 w.ownsRow B 5 1 (.slice (some ⟨g, 0, none⟩) n cap) n (xs.map (Value.int .u8))
theorem Own.len {B : Nat} {w : World} {g n cap : Nat} {xs : List Int} (h : Own B w g n cap xs) : xs.length = n := by
 have := h.1
 simpa using this
theorem Own.spot {B : Nat} {w : World} {g n cap : Nat} {xs : List Int} (h : Own B w g n cap xs) : B ≤ g ∧ g < w.heap.size := World.ownsRow.lt h g rfl
theorem Own.cell {B : Nat} {w : World} {g n cap : Nat} {xs : List Int} (h : Own B w g n cap xs) (j : Nat) (hj : j < n) : w.cell? ⟨g, j, none⟩ = some (.int .u8 (xs.getD j 0)) := by
 have h1 := World.ownsRow.cellAt h j (by omega)
 rw [h1, List.getElem?_map, List.getD_eq_getElem?_getD, List.getElem?_eq_getElem (show j < xs.length by rw [h.len]; exact hj)]
 rfl
theorem Own.bi {B : Nat} {w : World} {g n cap : Nat} {xs : List Int} (h : Own B w g n cap xs) (hb : n ≤ 140737488355328) (hx : Num.Byt xs) : BI w (some ⟨g, 0, none⟩) n xs :=
 ⟨h.len, hb, hx, fun _ => ⟨g, 0, rfl, fun i hi => by rw [Nat.zero_add]; exact h.cell i hi⟩⟩
theorem Own.kept {B : Nat} {w w' : World} {g n cap : Nat} {xs : List Int} (h : Own B w g n cap xs) (hb : Below w.heap.size w w') : Own B w' g n cap xs := by
 refine ⟨h.1, ?_⟩
 rcases h.2 with ⟨h', _⟩ | ⟨g', cap', cur, h', hbg, hg, rest⟩
 ·simp at h'
 ·have hlt : g' < w.heap.size := (Array.getElem?_eq_some_iff.1 hg).1
  exact .inr ⟨g', cap', cur, h', hbg, by rw [hb.block g' hlt]; exact hg, rest⟩
theorem Own.base {B B' : Nat} {w : World} {g n cap : Nat} {xs : List Int} (h : Own B w g n cap xs) (hB : B' ≤ B) : Own B' w g n cap xs := by
 refine ⟨h.1, ?_⟩
 rcases h.2 with ⟨h', _⟩ | ⟨g', cap', cur, h', hbg, rest⟩
 ·simp at h'
 ·exact .inr ⟨g', cap', cur, h', by omega, rest⟩
theorem set_map (xs : List Int) (j : Nat) (y : Int) : (xs.map (Value.int .u8)).set j (.int .u8 y) = (xs.set j y).map (Value.int .u8) := by
 rw [List.map_set]
theorem Own.set {B : Nat} {w : World} {g n cap : Nat} {xs : List Int} (h : Own B w g n cap xs) (j : Nat) (y : Int) : Own B (w.setCell ⟨g, j, none⟩ (.int .u8 y)) g n cap (xs.set j y) := by
 have := (World.ownsRow.stored h j (.int .u8 y)).1
 rw [set_map] at this
 exact this
theorem info5 : (Tryz.prog.info? 5).map (fun i => (i.zero, i.size, i.bytes)) = some (some (.int .u8 0), 1, 1) := by kernel_rfl
theorem size5 : (Tryz.prog.info? 5).map (·.size) = some 1 := by kernel_rfl
theorem one_cells (xs : List Int) : ∀ u ∈ xs.map (Value.int .u8), u.oneCell' = true := by
 intro u hu; obtain ⟨x, _, rfl⟩ := List.mem_map.1 hu; rfl
theorem BI.src {w : World} {p : Option Addr} {n : Nat} {xs : List Int} (h : BI w p n xs) : 0 < n → ∃ ad, p = some ad ∧ ∀ j v, (xs.map (Value.int .u8))[j]? = some v → w.cell? (ad.add j) = some v := by
 intro hn
 obtain ⟨b, o, rfl, hc⟩ := h.cells hn
 refine ⟨_, rfl, fun j v hj => ?_⟩
 have hjl : j < xs.length := by
  have := (List.getElem?_eq_some_iff.1 hj).1
  simpa using this
 have e : (⟨b, o, none⟩ : Addr).add j = ⟨b, o + j, none⟩ := by unfold Addr.add; split <;> simp_all
 rw [e, hc j (by rw [← h.len]; exact hjl), ← hj, List.getElem?_map, List.getD_eq_getElem?_getD, List.getElem?_eq_getElem hjl]
 rfl
theorem own_row {w : World} {B g n : Nat} {L : List Value} (h : w.ownsRow B 5 1 (.slice (some ⟨g, 0, none⟩) n n) n L) : w.heap[g]? = some (.cells L.toArray 5 (0, 0)) := by
 rcases h.2 with ⟨h', _⟩ | ⟨g', cap', cur, h', _, hg, _, _, hcs, ht⟩
 ·simp at h'
 ·simp only [Value.slice.injEq, Option.some.injEq, Addr.mk.injEq, and_true, true_and] at h'
  obtain ⟨rfl, rfl⟩ := h'
  rw [List.take_of_length_le (by simp; omega)] at ht
  subst ht
  simpa using hg
theorem own_of_row {w : World} {B g n : Nat} {xs : List Int} (hB : B ≤ g) (hn : n ≤ maxLen) (hx : xs.length = n) (h : w.heap[g]? = some (.cells (xs.map (Value.int .u8)).toArray 5 (0, 0))) : Own B w g n n xs :=
 ⟨by simpa using hx, .inr ⟨g, n, _, rfl, hB, h, Nat.le_refl _, hn, by simpa using hx, by simp [← hx, List.take_of_length_le]⟩⟩
theorem splice_all (L cs : List Value) (h : L.length = cs.length) : splice L 0 cs = cs := by
 simp [splice, ← h]
set_option maxHeartbeats 400000 in
theorem clone_ok (p : Option Addr) (n c : Nat) (xs : List Int) (w : World) (h : BI w p n xs) :
  Calls Tryz.prog 273 #[.slice p n c] w fun e w' => ∃ g cap, e = .returned (.slice (some ⟨g, 0, none⟩) n cap) ∧ Own w.heap.size w' g n cap xs ∧ Below w.heap.size w w' := by
 obtain ⟨i0, hi, hz0, hz1, hz2⟩ := info_parts info5
 have hbig := h.big
 have hlen := h.len
 go_enter Tryz.func273, Tryz.ntmps273
 go_wp2_with (first
  | (at_make; refine wpList_make_full _ rfl _ _ 42 rfl w.heap.size 5 i0 (.int .u8 0) 1 Tryz.underlying42 hi hz0 hz1 .i64 .i64 _ _ n rfl rfl rfl rfl (by rw [hz2]; omega) (by unfold maxLen; omega) (Nat.le_refl _) ?_; intro w1 hown1 hgrow1; have hb1 := (Below.refl w.heap.size w).grown hgrow1 (Nat.le_refl _) (by intro k hk; cases hk))
  | (refine wpList_copy_splice rfl _ _ 42 42 rfl 5 Tryz.underlying42 size5 _ _ _ _ _ _ rfl rfl w.heap.size 0 _ 5 (own_row hown1) (xs.map (Value.int .u8)) ?c1 ?c2 ?c3 ?c4 w.heap.size w hb1 (Nat.le_refl _) ?_))
 case c1 => simp [hlen]
 case c2 => intro hp; simpa using (h.kept hb1).src (by simpa [hlen] using hp)
 case c3 => simp [madeCells, hlen]
 case c4 => exact one_cells xs
 intro w2 hg2 hb2
 go_wp2
 go_ret
 refine ⟨_, _, rfl, own_of_row (Nat.le_refl _) (by unfold maxLen; omega) hlen ?_, hb2⟩
 have hg := hg2.out
 rw [splice_all _ _ (by simp [madeCells, hlen])] at hg
 exact hg
theorem BI.src' {w : World} {a : Addr} {n : Nat} {xs : List Int} (h : BI w (some a) n xs) : ∀ j v, (xs.map (Value.int .u8))[j]? = some v → w.cell? (a.add j) = some v := by
 intro j v hj
 have hjl : j < xs.length := by
  have := (List.getElem?_eq_some_iff.1 hj).1
  simpa using this
 obtain ⟨ad, e, hc⟩ := h.src (by rw [← h.len]; omega)
 cases e
 exact hc j v hj
theorem BI.conv {w : World} {p : Option Addr} {n : Nat} {xs : List Int} (h : BI w p n xs) (c : Nat) : (convert 42 9 (.slice p n c)).run Tryz.prog w = .ok (.string (strOfNums xs)) w := by
 rcases Nat.eq_zero_or_pos n with hn | hn
 ·subst hn
  obtain rfl : xs = [] := List.eq_nil_of_length_eq_zero h.len
  cases p with
  | none => exact run_convert_bytes_nil (P := Tryz.prog) w 42 5 Tryz.underlying42 Tryz.underlying5 0 c 9 Tryz.underlying9
  | some a =>
   rw [run_convert_bytes_string w 42 9 5 _ _ _ Tryz.underlying42 Tryz.underlying5 Tryz.underlying9]
   exact run_bytesToString w a 0 c [] (by simp [loadCells, loadCellsFrom])
 ·obtain ⟨b, o, rfl, hc⟩ := h.cells hn
  exact run_convert_bytes_arg (P := Tryz.prog) w 42 5 Tryz.underlying42 Tryz.underlying5 b o n c xs h.len hc 9 Tryz.underlying9
theorem byt_mem {xs : List Int} (h : Num.Byt xs) : ∀ x ∈ xs, 0 ≤ x ∧ x < 256 := by
 intro x hx
 obtain ⟨i, hi, rfl⟩ := List.getElem_of_mem hx
 have := h i
 rw [List.getD_eq_getElem?_getD, List.getElem?_eq_getElem hi] at this
 exact this
theorem back_bytes {xs : List Int} (h : Num.Byt xs) : (Lib.bytesOf xs).map (fun b => (b.toNat : Int)) = xs := by
 unfold Lib.bytesOf
 rw [List.map_map]
 conv => rhs; rw [← List.map_id xs]
 apply List.map_congr_left
 intro x hx
 have := byt_mem h x hx
 simp
 omega
theorem str_beq {xs ys : List Int} (hx : Num.Byt xs) (hy : Num.Byt ys) : ((strOfNums xs).toList == (strOfNums ys).toList) = (xs == ys) := by
 rw [Lib.strOfNums_toList, Lib.strOfNums_toList]
 rw [Bool.eq_iff_iff, beq_iff_eq, beq_iff_eq]
 constructor
 ·intro h
  rw [← back_bytes hx, ← back_bytes hy, h]
 ·rintro rfl; rfl
theorem ret_bool {a b : Bool} (h : a = b) : Ending.returned (.bool a) = .returned (.bool b) := by rw [h]
set_option maxHeartbeats 400000 in
theorem equal_any (p q : Option Addr) (n c m d : Nat) (xs ys : List Int) (w : World) (h : BI w p n xs) (k : BI w q m ys) :
  Calls Tryz.prog 86 #[.slice p n c, .slice q m d] w fun e w' => e = .returned (.bool (xs == ys)) ∧ w' = w := by
 have h1 := h.conv c
 have h2 := k.conv d
 go_enter Tryz.func86, Tryz.ntmps86
 go_wp2
 go_ret
 exact ⟨ret_bool (str_beq h.byt k.byt), rfl⟩
theorem own_shape {w : World} {B n : Nat} {v : Value} {xs : List Int} (h : w.ownsRow B 5 1 v n (xs.map (Value.int .u8))) (hv : v ≠ .slice none 0 0) : ∃ g cap, v = .slice (some ⟨g, 0, none⟩) n cap ∧ Own B w g n cap xs := by
 rcases h.2 with ⟨h', _⟩ | ⟨g', cap', cur, h', r⟩
 ·exact absurd h' hv
 ·exact ⟨g', cap', h', by subst h'; exact h⟩
set_option maxHeartbeats 400000 in
theorem put_past (p : Option Addr) (n c : Nat) (at_ v : Int) (k : Nat) (w : World) (hn : n ≤ 140737488355328) (h1 : 1 ≤ k) (h2 : k ≤ 4) (h3 : 0 ≤ at_) (hv0 : 0 ≤ v) (hv1 : v < 256 ^ k) (h4 : (n : Int) - k < at_) :
  Calls Tryz.prog 242 #[.slice p n c, .int .i64 at_, .int .i64 k, .int .i64 v] w fun e w' => e = .returned (.tuple #[.slice none 0 0, .int .i64 10]) ∧ w' = w := by
 have HV := (show Hid (v < 256 ^ k) from hv1)
 clear hv1
 go_enter Tryz.func242, Tryz.ntmps242
 go_wp2_with (first | (go_at_call 280; refine (span_past _ _ _ _ _ _ (by omega) (by omega) (by omega) hn h4).mono ?_; rintro e w' ⟨rfl, rfl⟩) | (go_at_call 284; refine (fits_yes _ _ _ (by omega) (by omega) hv0 HV.out).mono ?_; rintro e w' ⟨rfl, rfl⟩))
 go_ret2
 exact ⟨rfl, rfl⟩
set_option maxHeartbeats 400000 in
theorem put_ok (p : Option Addr) (n c : Nat) (xs : List Int) (a k : Nat) (v : Int) (w : World) (h : BI w p n xs) (h1 : 1 ≤ k) (h2 : k ≤ 4) (hv0 : 0 ≤ v) (hv1 : v < 256 ^ k) (h4 : a + k ≤ n) :
  Calls Tryz.prog 242 #[.slice p n c, .int .i64 a, .int .i64 k, .int .i64 v] w fun e w' => ∃ g cap, e = .returned (.tuple #[.slice (some ⟨g, 0, none⟩) n cap, .int .i64 0]) ∧ Own w.heap.size w' g n cap (Num.putTo xs a v k) ∧ Below w.heap.size w w' := by
 have HV := (show Hid (v < 256 ^ k) from hv1)
 have hn := h.big
 clear hv1
 go_enter Tryz.func242, Tryz.ntmps242
 go_wp2_with (first | (go_at_call 280; refine (span_ok _ _ _ _ _ _ (by omega) (by omega) (by omega) hn (by omega)).mono ?_; rintro e w' ⟨rfl, rfl⟩) | (go_at_call 284; refine (fits_yes _ _ _ (by omega) (by omega) hv0 HV.out).mono ?_; rintro e w' ⟨rfl, rfl⟩) | (go_at_call 273; refine (clone_ok _ _ _ _ _ h).mono ?_; rintro e w1 ⟨g, cap, rfl, hown, hbel⟩))
 go_loopw [31] (fun i wr => ∃ j : Nat, j ≤ k ∧ i = .int .i64 j ∧ Own w'.heap.size wr g n cap (Num.putTo xs a v j) ∧ Below w'.heap.size w' wr) (fun i _ => k - (intOf i).toNat)
 case atStart => exact ⟨0, Nat.zero_le _, rfl, hown, hbel⟩
 case round =>
  obtain ⟨j, hj, rfl, ho, hb⟩ := hrel
  by_cases hlt : j < k
  ·obtain ⟨y, hy⟩ : ∃ y, y = (Num.putTo xs a v j).getD (a + j) 0 := ⟨_, rfl⟩
   have hc1 := ho.cell (a + j) (by omega)
   rw [← hy] at hc1
   clear hy
   have hf1 := World.ownsRow.frozenAt ho (a + j)
   have ho2 := ho.set (a + j) (v / 2 ^ (8 * j) % 256)
   have hb2 := hb.setCell (p := ⟨g, a + j, none⟩) ho.spot.1 (.int .u8 (v / 2 ^ (8 * j) % 256))
   rw [show (Num.putTo xs a v j).set (a + j) (v / 2 ^ (8 * j) % 256) = Num.putTo xs a v (j + 1) from by rw [pow_eq]; rfl] at ho2
   go_wp2
   go_roundw
   case rel => exact ⟨j + 1, by omega, by go_num, ho2, hb2⟩
   case measure => simp [intOf]; omega
  ·obtain rfl : j = k := by omega
   go_wp2
   go_ret2
   exact ⟨g, cap, rfl, ho, hb⟩
theorem wrap_pow (k : Nat) (h : k ≤ 4) : wrap64 (2 ^ (8 * k)) = 256 ^ k := by
 unfold wrap64
 rcases (by omega : k = 0 ∨ k = 1 ∨ k = 2 ∨ k = 3 ∨ k = 4) with rfl | rfl | rfl | rfl | rfl <;> rfl
set_option maxHeartbeats 400000 in
theorem rput_past (p : Option Addr) (n c : Nat) (at_ v : Int) (k : Nat) (w : World) (hn : n ≤ 140737488355328) (h1 : 1 ≤ k) (h2 : k ≤ 4) (h3 : 0 ≤ at_) (hv0 : 0 ≤ v) (hv1 : v < 256 ^ k) (h4 : (n : Int) - k < at_) :
  Calls Tryz.prog 257 #[.slice p n c, .int .i64 at_, .int .i64 k, .int .i64 v] w fun e w' => e = .returned (.tuple #[.slice none 0 0, .int .i64 10]) ∧ w' = w := by
 rw [← wrap_pow k (by omega)] at hv1
 go_enter Tryz.func257, Tryz.ntmps257
 go_wp2
 go_ret2
 exact ⟨rfl, rfl⟩
theorem quo_pow (v : Int) (j : Nat) : v / 256 ^ j / 256 = v / 256 ^ (j + 1) := by
 rw [Int.pow_succ, Int.ediv_ediv_of_nonneg (Int.le_of_lt (Int.pow_pos (by decide)))]
set_option maxRecDepth 10000 in
set_option maxHeartbeats 400000 in
theorem rput_ok (a0 : Addr) (n c : Nat) (xs : List Int) (a k : Nat) (v : Int) (w : World) (h : BI w (some a0) n xs) (h1 : 1 ≤ k) (h2 : k ≤ 4) (hv0 : 0 ≤ v) (hv1 : v < 256 ^ k) (h4 : a + k ≤ n) :
  Calls Tryz.prog 257 #[.slice (some a0) n c, .int .i64 a, .int .i64 k, .int .i64 v] w fun e w' => ∃ g cap, e = .returned (.tuple #[.slice (some ⟨g, 0, none⟩) n cap, .int .i64 0]) ∧ Own w.heap.size w' g n cap (Num.putTo xs a v k) ∧ Below w.heap.size w w' := by
 obtain ⟨i0, hi, hz0, hz1, hz2⟩ := info_parts info5
 have hbig := h.big
 have hlen := h.len
 have hvb : v < 4294967296 := by have := pow_le k h2; omega
 rw [← wrap_pow k (by omega)] at hv1
 have hb0 := (Below.refl w.heap.size w).alloc (Nat.le_refl _) (Obj.cells #[] 5)
 go_enter Tryz.func257, Tryz.ntmps257
 go_wp2_with (at_builtin; refine wpList_append_own _ rfl _ _ 42 rfl w.heap.size 5 i0 (.int .u8 0) 1 1 Tryz.underlying42 hi hz0 hz1 hz2 rfl (by decide) _ _ _ rfl (World.ownsRow_made w #[] 0 (Nat.le_refl _) (Nat.zero_le _) rfl) a0 n c (xs.map (Value.int .u8)) rfl ?c1 ?c2 ?c3 ?c4 ?c5 ?c6 ?_)
 case c1 => simp [hlen]
 case c2 => exact (h.kept hb0).src'
 case c3 => exact one_cells xs
 case c4 => unfold maxLen; omega
 case c5 => omega
 case c6 => simp
 intro v' w1 hown hgrow hnil
 obtain ⟨g, cap, hv, ho⟩ := own_shape hown (by first | exact hnil | (intro e; exact absurd (hnil.1 e).1 (by simp)))
 rw [hv]
 clear hown hnil hv hv1
 have hb1 := hb0.grown hgrow (by simp) (by intro k hk; simp [Value.ownBlock] at hk; omega)
 clear hgrow hb0
 go_wp2
 go_loopw [3, 43] (fun t i wr => ∃ j : Nat, j ≤ k ∧ i = .int .i64 j ∧ t = .int .i64 (v / 256 ^ j) ∧ Own w.heap.size wr g n cap (Num.putTo xs a v j) ∧ Below w.heap.size w wr) (fun _ i _ => k - (intOf i).toNat)
 case atStart => exact ⟨0, Nat.zero_le _, rfl, by simp, ho, hb1⟩
 case round =>
  obtain ⟨j, hj, rfl, rfl, ho, hb⟩ := hrel
  by_cases hlt : j < k
  ·obtain ⟨y, hy⟩ : ∃ y, y = (Num.putTo xs a v j).getD (a + j) 0 := ⟨_, rfl⟩
   have hc1 := ho.cell (a + j) (by omega)
   rw [← hy] at hc1
   clear hy
   have hf1 := World.ownsRow.frozenAt ho (a + j)
   obtain ⟨q, hq⟩ : ∃ q, q = v / 256 ^ j := ⟨_, rfl⟩
   have hq0 : 0 ≤ q := by rw [hq]; exact Int.ediv_nonneg hv0 (Int.le_of_lt (Int.pow_pos (by decide)))
   have hq1 : q < 4294967296 := by
    rw [hq]
    exact Int.lt_of_le_of_lt (Int.ediv_le_self _ hv0) hvb
   have ho2 := ho.set (a + j) (v / 256 ^ j % 256)
   rw [show (Num.putTo xs a v j).set (a + j) (v / 256 ^ j % 256) = Num.putTo xs a v (j + 1) from rfl] at ho2
   have hb2 := hb.setCell (p := ⟨g, a + j, none⟩) ho.spot.1 (.int .u8 (v / 256 ^ j % 256))
   have HQ : Hid (q / 256 = v / 256 ^ (j + 1)) := by rw [hq]; exact quo_pow v j
   rw [← hq] at ho2 hb2 ⊢
   clear hq
   go_wp2
   go_roundw
   case rel => exact ⟨j + 1, by omega, by go_num, by rw [HQ.out], ho2, hb2⟩
   case measure => simp [intOf]; omega
  ·obtain rfl : j = k := by omega
   go_wp2
   go_ret2
   exact ⟨g, cap, rfl, ho, hb⟩
end Go.Proofs.YthdlpeejmmobmaaGreat.Mk

namespace Go.Proofs.YthdlpeejmmobmaaGreat.Mk
open Go.RowKit
set_option maxRecDepth 100000
theorem Own.room {B : Nat} {w : World} {g n cap : Nat} {xs : List Int} (h : Own B w g n cap xs) : n ≤ cap ∧ cap ≤ 9223372036854775807 := by
 rcases h.2 with ⟨h', _⟩ | ⟨g', cap', cur, h', _, _, h1, h2, _⟩
 ·simp at h'
 ·simp only [Value.slice.injEq, Option.some.injEq, Addr.mk.injEq, and_true, true_and] at h'
  obtain ⟨rfl, rfl⟩ := h'
  unfold maxLen at h2
  exact ⟨h1, h2⟩
theorem getD_take (xs : List Int) (m i : Nat) (h : i < m) : (xs.take m).getD i 0 = xs.getD i 0 := by
 simp [List.getD_eq_getElem?_getD, h]
theorem getD_drop' (xs : List Int) (m i : Nat) : (xs.drop m).getD i 0 = xs.getD (m + i) 0 := by
 simp [List.getD_eq_getElem?_getD, List.getElem?_drop]
theorem byt_take {xs : List Int} (h : Num.Byt xs) (m : Nat) : Num.Byt (xs.take m) := by
 intro i
 by_cases hi : i < m
 ·rw [getD_take xs m i hi]; exact h i
 ·rw [List.getD_eq_getElem?_getD, List.getElem?_eq_none (by simp; omega)]; simp
theorem byt_drop {xs : List Int} (h : Num.Byt xs) (m : Nat) : Num.Byt (xs.drop m) := by
 intro i
 rw [getD_drop']; exact h _
theorem BI.take {w : World} {p : Option Addr} {n : Nat} {xs : List Int} (h : BI w p n xs) (m : Nat) (hm : m ≤ n) : BI w p m (xs.take m) := by
 refine ⟨by rw [List.length_take, h.len]; omega, by have := h.big; omega, byt_take h.byt m, fun h0 => ?_⟩
 obtain ⟨b, o, rfl, hc⟩ := h.cells (by omega)
 exact ⟨b, o, rfl, fun i hi => by rw [getD_take xs m i hi]; exact hc i (by omega)⟩
theorem BI.drop {w : World} {b o : Nat} {n : Nat} {xs : List Int} (h : BI w (some ⟨b, o, none⟩) n xs) (m : Nat) (hm : m ≤ n) : BI w (some ⟨b, o + m, none⟩) (n - m) (xs.drop m) := by
 refine ⟨by rw [List.length_drop, h.len], by have := h.big; omega, byt_drop h.byt m, fun h0 => ?_⟩
 obtain ⟨b', o', e, hc⟩ := h.cells (by omega)
 cases e
 exact ⟨b, o + m, rfl, fun i hi => by rw [getD_drop', Nat.add_assoc]; exact hc _ (by omega)⟩
theorem BI.cut {w : World} {b o : Nat} {n : Nat} {xs : List Int} (h : BI w (some ⟨b, o, none⟩) n xs) (m c : Nat) (hm : m ≤ n) (hc : n ≤ c) : BI w (if c = m then some ⟨b, o, none⟩ else some ⟨b, o + m, none⟩) (n - m) (xs.drop m) := by
 have hd := h.drop m hm
 by_cases e : c = m
 ·rw [if_pos e]
  exact ⟨hd.len, hd.big, hd.byt, fun h0 => by omega⟩
 ·rw [if_neg e]; exact hd
theorem ext_getD {xs ys : List Int} (hl : xs.length = ys.length) (h : ∀ i, i < xs.length → xs.getD i 0 = ys.getD i 0) : xs = ys := by
 apply List.ext_getElem hl
 intro i h1 h2
 have := h i h1
 simpa [List.getD_eq_getElem?_getD, List.getElem?_eq_getElem h1, List.getElem?_eq_getElem h2] using this
end Go.Proofs.YthdlpeejmmobmaaGreat.Mk
