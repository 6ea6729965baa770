/- KFns KSums KRead KRead2 KRead3 KRead4 KNobody -/
import Derived.Test.YthdlpeejmmobmaaGreatYG01
import Derived.Defers
import Derived.Recover

namespace Go.Proofs.YthdlpeejmmobmaaGreat.Mk
open Go.RowKit
set_option maxRecDepth 100000
namespace Num
def gE (n : Nat) (at_ wd : Int) : Int := if wd < 1 ∨ 4 < wd ∨ at_ < 0 then 1 else if (n : Int) - wd < at_ then 10 else 0
def gN (n : Nat) (xs : List Int) (at_ wd : Int) : Int := if gE n at_ wd = 0 then numD xs at_.toNat wd.toNat else 0
def pE (n : Nat) (at_ wd v : Int) : Int := if wd < 1 ∨ 4 < wd ∨ at_ < 0 ∨ v < 0 ∨ (256 : Int) ^ wd.toNat ≤ v then 1 else if (n : Int) - wd < at_ then 10 else 0
def lo (xs : List Int) : Nat → Int
 | 0 => 1
 | k + 1 => (lo xs k + xs.getD k 0) % 65521
def hi (xs : List Int) : Nat → Int
 | 0 => 0
 | k + 1 => (hi xs k + lo xs (k + 1)) % 65521
def sum (xs : List Int) (n : Nat) : Int := hi xs n * 65536 + lo xs n
theorem lo_bd (xs : List Int) (k : Nat) : 0 ≤ lo xs k ∧ lo xs k < 65521 := by
 cases k with
 | zero => simp [lo]
 | succ k => simp only [lo]; omega
theorem hi_bd (xs : List Int) (k : Nat) : 0 ≤ hi xs k ∧ hi xs k < 65521 := by
 cases k with
 | zero => simp [hi]
 | succ k => simp only [hi]; omega
theorem sum_bd (xs : List Int) (n : Nat) : 0 ≤ sum xs n ∧ sum xs n < 4294967296 := by
 have h1 := lo_bd xs n
 have h2 := hi_bd xs n
 unfold sum
 omega
end Num
theorem pE_zero {n : Nat} {at_ wd v : Int} (h : Num.pE n at_ wd v = 0) : 1 ≤ wd ∧ wd ≤ 4 ∧ 0 ≤ at_ ∧ 0 ≤ v ∧ v < 256 ^ wd.toNat ∧ at_ + wd ≤ n := by
 unfold Num.pE at h
 split at h
 ·omega
 ·split at h <;> omega
theorem put_yes (p : Option Addr) (n c : Nat) (xs : List Int) (at_ wd v : Int) (w : World) (h : BI w p n xs) (h0 : Num.pE n at_ wd v = 0) :
  Calls Tryz.prog 242 #[.slice p n c, .int .i64 at_, .int .i64 wd, .int .i64 v] w fun e w' => ∃ g cap, e = .returned (.tuple #[.slice (some ⟨g, 0, none⟩) n cap, .int .i64 0]) ∧ Own w.heap.size w' g n cap (Num.putTo xs at_.toNat v wd.toNat) ∧ Below w.heap.size w w' := by
 obtain ⟨h1, h2, h3, h4, h5, h6⟩ := pE_zero h0
 clear h0
 obtain ⟨a, rfl⟩ := Int.eq_ofNat_of_zero_le h3
 obtain ⟨k, rfl⟩ := Int.eq_ofNat_of_zero_le (show 0 ≤ wd by omega)
 exact put_ok p n c xs a k v w h (by omega) (by omega) h4 h5 (by omega)
theorem rput_yes (p : Option Addr) (n c : Nat) (xs : List Int) (at_ wd v : Int) (w : World) (h : BI w p n xs) (h0 : Num.pE n at_ wd v = 0) :
  Calls Tryz.prog 257 #[.slice p n c, .int .i64 at_, .int .i64 wd, .int .i64 v] w fun e w' => ∃ g cap, e = .returned (.tuple #[.slice (some ⟨g, 0, none⟩) n cap, .int .i64 0]) ∧ Own w.heap.size w' g n cap (Num.putTo xs at_.toNat v wd.toNat) ∧ Below w.heap.size w w' := by
 obtain ⟨h1, h2, h3, h4, h5, h6⟩ := pE_zero h0
 clear h0
 obtain ⟨a, rfl⟩ := Int.eq_ofNat_of_zero_le h3
 obtain ⟨k, rfl⟩ := Int.eq_ofNat_of_zero_le (show 0 ≤ wd by omega)
 obtain ⟨b, o, rfl, _⟩ := h.cells (by omega)
 exact rput_ok _ n c xs a k v w h (by omega) (by omega) h4 h5 (by omega)
set_option maxHeartbeats 400000 in
theorem sum_none (p : Option Addr) (c : Nat) (w : World) :
  Calls Tryz.prog 234 #[.slice p 0 c] w fun e w' => e = .returned (.int .i64 1) ∧ w' = w := by
 go_enter Tryz.func234, Tryz.ntmps234
 go_wp2
 refine wp_loop_rounds 1 ?_
 rw [rounds_succ]
 go_wp2
 go_ret
 exact ⟨rfl, rfl⟩
set_option maxHeartbeats 400000 in
theorem rsum_none (p : Option Addr) (c : Nat) (w : World) :
  Calls Tryz.prog 258 #[.slice p 0 c] w fun e w' => e = .returned (.int .i64 1) ∧ w' = w := by
 go_enter Tryz.func258, Tryz.ntmps258
 go_wp2
 refine wp_loop_rounds 1 ?_
 rw [rounds_succ]
 go_wp2
 go_ret
 exact ⟨rfl, rfl⟩
set_option maxHeartbeats 400000 in
theorem sum_some (b o n c : Nat) (xs : List Int) (w : World) (hn : n ≤ 140737488355328) (hx : Num.Byt xs) (hc : ∀ i, i < n → w.cell? ⟨b, o + i, none⟩ = some (.int .u8 (xs.getD i 0))) :
  Calls Tryz.prog 234 #[.slice (some ⟨b, o, none⟩) n c] w fun e w' => e = .returned (.int .i64 (Num.sum xs n)) ∧ w' = w := by
 go_enter Tryz.func234, Tryz.ntmps234
 go_wp2
 go_loop [3, 4, 9] (fun l h i => ∃ j : Nat, j ≤ n ∧ i = .int .i64 j ∧ l = .int .i64 (Num.lo xs j) ∧ h = .int .i64 (Num.hi xs j)) (fun _ _ i => n - (intOf i).toNat)
 case atStart => exact ⟨0, Nat.zero_le _, rfl, rfl, rfl⟩
 case round =>
  obtain ⟨j, hj, rfl, rfl, rfl⟩ := hrel
  have hl := Num.lo_bd xs j
  have hh := Num.hi_bd xs j
  by_cases hlt : j < n
  ·have hcj := hc j hlt
   have hxb := hx j
   clear hc
   have HL : Hid (Num.lo xs (j + 1) = (Num.lo xs j + xs.getD j 0) % 65521) := rfl
   have HH : Hid (Num.hi xs (j + 1) = (Num.hi xs j + (Num.lo xs j + xs.getD j 0) % 65521) % 65521) := rfl
   generalize Num.lo xs j = l at *
   generalize Num.hi xs j = h at *
   generalize xs.getD j 0 = x at *
   go_wp2
   go_round
   case rel => exact ⟨j + 1, by omega, by go_num, by rw [HL.out], by rw [HH.out]⟩
   case measure => simp [intOf]; omega
  ·obtain rfl : j = n := by omega
   go_wp2
   go_ret
   exact ⟨rfl, rfl⟩
set_option maxHeartbeats 400000 in
theorem rsum_some (b o n c : Nat) (xs : List Int) (w : World) (hn : n ≤ 140737488355328) (hx : Num.Byt xs) (hc : ∀ i, i < n → w.cell? ⟨b, o + i, none⟩ = some (.int .u8 (xs.getD i 0))) :
  Calls Tryz.prog 258 #[.slice (some ⟨b, o, none⟩) n c] w fun e w' => e = .returned (.int .i64 (Num.sum xs n)) ∧ w' = w := by
 go_enter Tryz.func258, Tryz.ntmps258
 go_wp2
 go_loop [3, 4, 9] (fun l h i => ∃ j : Nat, j ≤ n ∧ i = .int .i64 j ∧ l = .int .i64 (Num.lo xs j) ∧ h = .int .i64 (Num.hi xs j)) (fun _ _ i => n - (intOf i).toNat)
 case atStart => exact ⟨0, Nat.zero_le _, rfl, rfl, rfl⟩
 case round =>
  obtain ⟨j, hj, rfl, rfl, rfl⟩ := hrel
  have hl := Num.lo_bd xs j
  have hh := Num.hi_bd xs j
  by_cases hlt : j < n
  ·have hcj := hc j hlt
   have hxb := hx j
   clear hc
   have HL : Hid (Num.lo xs (j + 1) = (Num.lo xs j + xs.getD j 0) % 65521) := rfl
   have HH : Hid (Num.hi xs (j + 1) = (Num.hi xs j + (Num.lo xs j + xs.getD j 0) % 65521) % 65521) := rfl
   generalize Num.lo xs j = l at *
   generalize Num.hi xs j = h at *
   generalize xs.getD j 0 = x at *
   go_wp2
   go_round
   case rel => exact ⟨j + 1, by omega, by go_num, by rw [HL.out], by rw [HH.out]⟩
   case measure => simp [intOf]; omega
  ·obtain rfl : j = n := by omega
   go_wp2
   go_ret
   exact ⟨rfl, rfl⟩
theorem sum_any (p : Option Addr) (n c : Nat) (xs : List Int) (w : World) (h : BI w p n xs) :
  Calls Tryz.prog 234 #[.slice p n c] w fun e w' => e = .returned (.int .i64 (Num.sum xs n)) ∧ w' = w := by
 rcases Nat.eq_zero_or_pos n with hn | hn
 ·subst hn
  exact sum_none p c w
 ·obtain ⟨b, o, rfl, hc⟩ := h.cells hn
  exact sum_some b o n c xs w h.big h.byt hc
theorem rsum_any (p : Option Addr) (n c : Nat) (xs : List Int) (w : World) (h : BI w p n xs) :
  Calls Tryz.prog 258 #[.slice p n c] w fun e w' => e = .returned (.int .i64 (Num.sum xs n)) ∧ w' = w := by
 rcases Nat.eq_zero_or_pos n with hn | hn
 ·subst hn
  exact rsum_none p c w
 ·obtain ⟨b, o, rfl, hc⟩ := h.cells hn
  exact rsum_some b o n c xs w h.big h.byt hc
theorem sum_take (xs : List Int) (m : Nat) : ∀ k, k ≤ m → Num.lo (xs.take m) k = Num.lo xs k ∧ Num.hi (xs.take m) k = Num.hi xs k := by
 intro k
 induction k with
 | zero => intro _; exact ⟨rfl, rfl⟩
 | succ k ih =>
  intro hk
  obtain ⟨i1, i2⟩ := ih (by omega)
  have e : Num.lo (xs.take m) (k + 1) = Num.lo xs (k + 1) := by
   show (Num.lo (xs.take m) k + (xs.take m).getD k 0) % 65521 = (Num.lo xs k + xs.getD k 0) % 65521
   rw [i1, getD_take xs m k (by omega)]
  refine ⟨e, ?_⟩
  show (Num.hi (xs.take m) k + Num.lo (xs.take m) (k + 1)) % 65521 = (Num.hi xs k + Num.lo xs (k + 1)) % 65521
  rw [i2, e]
theorem sum_cut (xs : List Int) (m : Nat) : Num.sum (xs.take m) m = Num.sum xs m := by
 obtain ⟨h1, h2⟩ := sum_take xs m m (Nat.le_refl _)
 unfold Num.sum
 rw [h1, h2]
theorem pE_seal (n : Nat) (s : Int) (hn : 4 ≤ n) (h0 : 0 ≤ s) (h1 : s < 4294967296) : Num.pE n ((n : Int) - 4) 4 s = 0 := by
 unfold Num.pE
 rw [if_neg, if_neg (by omega)]
 have : (256 : Int) ^ (4 : Int).toNat = 4294967296 := by decide
 rw [this]
 omega
theorem gE_seal (n : Nat) (hn : 4 ≤ n) : Num.gE n ((n : Int) - 4) 4 = 0 := by
 unfold Num.gE
 rw [if_neg (by omega), if_neg (by omega)]
theorem gN_seal (n : Nat) (xs : List Int) (hn : 4 ≤ n) : Num.gN n xs ((n : Int) - 4) 4 = Num.numD xs (n - 4) 4 := by
 unfold Num.gN
 rw [gE_seal n hn, show ((n : Int) - 4).toNat = n - 4 from by omega]
 rfl
set_option maxHeartbeats 400000 in
theorem seal_ok (p : Option Addr) (n c : Nat) (xs : List Int) (w : World) (h : BI w p n xs) (hnc : n ≤ c) (hn : 4 ≤ n) :
  Calls Tryz.prog 160 #[.slice p n c] w fun e w' => ∃ g cap, e = .returned (.tuple #[.slice (some ⟨g, 0, none⟩) n cap, .int .i64 0]) ∧ Own w.heap.size w' g n cap (Num.putTo xs (n - 4) (Num.sum xs (n - 4)) 4) ∧ Below w.heap.size w w' := by
 have hbig := h.big
 have ht := h.take (n - 4) (by omega)
 have hs := Num.sum_bd xs (n - 4)
 have HS := sum_cut xs (n - 4)
 have HP : Hid (Num.pE n ((n : Int) - 4) 4 (Num.sum xs (n - 4)) = 0) := pE_seal n _ hn hs.1 hs.2
 have e1 : ((n : Int) - 4).toNat = n - 4 := by omega
 have hcon := put_yes p n c xs ((n : Int) - 4) 4 (Num.sum xs (n - 4)) w h HP.out
 rw [e1] at hcon
 have HC := (show Hid _ from hcon)
 have hsu := sum_any p (n - 4) c (xs.take (n - 4)) w ht
 rw [HS] at hsu
 have HU := (show Hid _ from hsu)
 clear hcon hsu e1 HS
 generalize Num.sum xs (n - 4) = S at *
 go_enter Tryz.func160, Tryz.ntmps160
 go_wp2_with (first | (go_at_call 234; refine Calls.mono HU.out ?_; rintro e w' ⟨rfl, hw⟩; have hw' := hw.symm; subst hw'; clear hw) | (go_at_call 242; refine Calls.mono HC.out ?_; rintro e w1 ⟨g, cap, rfl, ho, hb⟩))
 go_ret2
 exact ⟨g, cap, rfl, ho, hb⟩
set_option maxHeartbeats 400000 in
theorem rseal_ok (p : Option Addr) (n c : Nat) (xs : List Int) (w : World) (h : BI w p n xs) (hnc : n ≤ c) (hn : 4 ≤ n) :
  Calls Tryz.prog 185 #[.slice p n c] w fun e w' => ∃ g cap, e = .returned (.tuple #[.slice (some ⟨g, 0, none⟩) n cap, .int .i64 0]) ∧ Own w.heap.size w' g n cap (Num.putTo xs (n - 4) (Num.sum xs (n - 4)) 4) ∧ Below w.heap.size w w' := by
 have hbig := h.big
 have ht := h.take (n - 4) (by omega)
 have hs := Num.sum_bd xs (n - 4)
 have HS := sum_cut xs (n - 4)
 have HP : Hid (Num.pE n ((n : Int) - 4) 4 (Num.sum xs (n - 4)) = 0) := pE_seal n _ hn hs.1 hs.2
 have e1 : ((n : Int) - 4).toNat = n - 4 := by omega
 have hcon := rput_yes p n c xs ((n : Int) - 4) 4 (Num.sum xs (n - 4)) w h HP.out
 rw [e1] at hcon
 have HC := (show Hid _ from hcon)
 have hsu := rsum_any p (n - 4) c (xs.take (n - 4)) w ht
 rw [HS] at hsu
 have HU := (show Hid _ from hsu)
 clear hcon hsu e1 HS
 generalize Num.sum xs (n - 4) = S at *
 go_enter Tryz.func185, Tryz.ntmps185
 go_wp2_with (first | (go_at_call 258; refine Calls.mono HU.out ?_; rintro e w' ⟨rfl, hw⟩; have hw' := hw.symm; subst hw'; clear hw) | (go_at_call 257; refine Calls.mono HC.out ?_; rintro e w1 ⟨g, cap, rfl, ho, hb⟩))
 go_ret2
 exact ⟨g, cap, rfl, ho, hb⟩
theorem get_any (p : Option Addr) (n c : Nat) (xs : List Int) (at_ wd : Int) (w : World) (h : BI w p n xs) :
  Calls Tryz.prog 233 #[.slice p n c, .int .i64 at_, .int .i64 wd] w fun e w' => e = .returned (.tuple #[.int .i64 (Num.gN n xs at_ wd), .int .i64 (Num.gE n at_ wd)]) ∧ w' = w := by
 by_cases h1 : wd < 1 ∨ 4 < wd ∨ at_ < 0
 ·have e1 : Num.gE n at_ wd = 1 := by unfold Num.gE; rw [if_pos h1]
  have e2 : Num.gN n xs at_ wd = 0 := by unfold Num.gN; rw [e1]; rfl
  rw [e1, e2]
  exact get_arg p n c at_ wd w h1
 ·by_cases h2 : (n : Int) - wd < at_
  ·have e1 : Num.gE n at_ wd = 10 := by unfold Num.gE; rw [if_neg h1, if_pos h2]
   have e2 : Num.gN n xs at_ wd = 0 := by unfold Num.gN; rw [e1]; rfl
   rw [e1, e2]
   exact get_past p n c at_ wd w (by omega) (by omega) (by omega) h.big h2
  ·have e1 : Num.gE n at_ wd = 0 := by unfold Num.gE; rw [if_neg h1, if_neg h2]
   have e2 : Num.gN n xs at_ wd = Num.numD xs at_.toNat wd.toNat := by unfold Num.gN; rw [e1]; rfl
   rw [e1, e2]
   obtain ⟨a, rfl⟩ := Int.eq_ofNat_of_zero_le (show 0 ≤ at_ by omega)
   obtain ⟨k, rfl⟩ := Int.eq_ofNat_of_zero_le (show 0 ≤ wd by omega)
   obtain ⟨b, o, rfl, hc⟩ := h.cells (by omega)
   exact get_ok b o n c xs a k w (by omega) (by omega) h.big (by omega) h.byt hc
set_option maxHeartbeats 400000 in
theorem sealed_ok (p : Option Addr) (n c : Nat) (xs : List Int) (w : World) (h : BI w p n xs) (hnc : n ≤ c) (hn : 4 ≤ n) :
  Calls Tryz.prog 145 #[.slice p n c] w fun e w' => e = .returned (.bool (Num.numD xs (n - 4) 4 == Num.sum xs (n - 4))) ∧ w' = w := by
 have hbig := h.big
 have ht := h.take (n - 4) (by omega)
 have hcon := get_any p n c xs ((n : Int) - 4) 4 w h
 rw [gN_seal n xs hn, gE_seal n hn] at hcon
 have HC := (show Hid _ from hcon)
 have hsu := sum_any p (n - 4) c (xs.take (n - 4)) w ht
 rw [sum_cut xs (n - 4)] at hsu
 have HU := (show Hid _ from hsu)
 clear hcon hsu
 generalize Num.sum xs (n - 4) = S at *
 generalize Num.numD xs (n - 4) 4 = N at *
 go_enter Tryz.func145, Tryz.ntmps145
 go_wp2_with (first | (go_at_call 234; refine Calls.mono HU.out ?_; rintro e w' ⟨rfl, hw⟩; have hw' := hw.symm; subst hw'; clear hw) | (go_at_call 233; refine Calls.mono HC.out ?_; rintro e w' ⟨rfl, hw⟩; have hw' := hw.symm; subst hw'; clear hw))
 go_ret
 exact ⟨rfl, rfl⟩
end Go.Proofs.YthdlpeejmmobmaaGreat.Mk

namespace Go.Proofs.YthdlpeejmmobmaaGreat.Mk
open Go.RowKit
set_option maxRecDepth 100000
theorem BI.none (w : World) (p : Option Addr) : BI w p 0 [] := ⟨rfl, by omega, fun i => by simp, fun h => by omega⟩
theorem same_at {P : Program} {f : FuncId} {args : Array Value} {w : World} {v : Value} {Q : Ending → World → Prop} (h : Calls P f args w fun e w' => e = .returned v ∧ w' = w) (hq : Q (.returned v) w) : Calls P f args w Q :=
 h.mono (by rintro e w' ⟨rfl, rfl⟩; exact hq)
end Go.Proofs.YthdlpeejmmobmaaGreat.Mk

namespace Go.Proofs.YthdlpeejmmobmaaGreat.Mk
open Go.RowKit
set_option maxRecDepth 100000
theorem makes (fn : Fn) (first cap : Array Value) (w : World) : (Instr.makeFunc fn first cap).run Tryz.prog w = .ok (.func fn first cap) w := rfl
theorem assert_nil (w : World) : (Instr.typeAssert .nilIface 20 36 true).run Tryz.prog w = .ok (.tuple #[.int .i64 0, .bool false]) w := by kernel_rfl
def RdR (w : World) (rb : Nat) (v : Value) (E : Int) (made : Bool) : Prop := w.heap[rb]? = some (.cells #[v, .int .i64 E, .bool made] 387 (0, 0))
theorem RdR.c0 {w : World} {rb : Nat} {v : Value} {E : Int} {made : Bool} (h : RdR w rb v E made) : w.cell? ⟨rb, 0, none⟩ = some v := by
 simp [World.cell?, show w.heap[rb]? = _ from h]
theorem RdR.c1 {w : World} {rb : Nat} {v : Value} {E : Int} {made : Bool} (h : RdR w rb v E made) : w.cell? ⟨rb, 1, none⟩ = some (.int .i64 E) := by
 simp [World.cell?, show w.heap[rb]? = _ from h]
theorem RdR.c2 {w : World} {rb : Nat} {v : Value} {E : Int} {made : Bool} (h : RdR w rb v E made) : w.cell? ⟨rb, 2, none⟩ = some (.bool made) := by
 simp [World.cell?, show w.heap[rb]? = _ from h]
theorem RdR.fz {w : World} {rb : Nat} {v : Value} {E : Int} {made : Bool} (h : RdR w rb v E made) (j : Nat) : w.frozen? ⟨rb, j, none⟩ = false := by
 simp [World.frozen?, show w.heap[rb]? = _ from h]
theorem RdR.lt {w : World} {rb : Nat} {v : Value} {E : Int} {made : Bool} (h : RdR w rb v E made) : rb < w.heap.size := (Array.getElem?_eq_some_iff.1 h).1
theorem RdR.set0 {w : World} {rb : Nat} {v : Value} {E : Int} {made : Bool} (h : RdR w rb v E made) (u : Value) : RdR (w.setCell ⟨rb, 0, none⟩ u) rb u E made := by
 have := heap_setCell_same w rb 0 _ 387 u h
 simpa [RdR] using this
set_option maxHeartbeats 400000 in
theorem err_made (w : World) (rb : Nat) (v : Value) (E : Int) (h : RdR w rb v E true) : Calls Tryz.prog 305 #[.pointer (some ⟨rb, 0, none⟩)] w fun e w' => e = .returned (.int .i64 E) ∧ w' = w := by
 have h2 := h.c2
 have h1 := h.c1
 go_enter Tryz.func305, Tryz.ntmps305
 go_wp2
 go_ret
 exact ⟨rfl, rfl⟩
theorem catch_idle (q : Addr) (w : World) :
  CallsD Tryz.prog 306 #[.pointer (some q)] .returning w fun e u' w' => e = .returned (.tuple #[]) ∧ u' = .returning ∧ w' = w := by
 refine callsD_of_wpS Tryz.func306 rfl fun c₀ cs hu => ?_
 apply wpS_seq
 apply wpS_region
 simp [wpOpsS, go_sem, recoverD, hu, Tryz.ntmps306, Exit.thenS, assert_nil]
 apply wpS_seq
 apply wpS_region
 simp [wpOpsS, go_sem, Exit.thenS]
 refine wpS_cond (t := false) (by simp [Act.eval, Array.replicate]) ?_
 simp only [Bool.false_eq_true, if_false]
 refine wpS_of_wp (wp_skip ?_)
 cases c₀
 simp_all [bodyPostS, results, Tryz.results306]
end Go.Proofs.YthdlpeejmmobmaaGreat.Mk

namespace Go.Proofs.YthdlpeejmmobmaaGreat.Mk
open Go.RowKit
set_option maxRecDepth 100000
def Cutoff (w w' : World) (rb n : Nat) (xs : List Int) (k : Nat) : Prop :=
 ∃ b o c, w' = w.setCell ⟨rb, 0, none⟩ (.slice (some ⟨b, o, none⟩) (n - k) c) ∧ n - k ≤ c ∧ BI w (some ⟨b, o, none⟩) (n - k) (xs.drop k)
theorem cutoff_mk {w : World} {rb b o n c k : Nat} {xs : List Int} (hb : BI w (some ⟨b, o, none⟩) n xs) (hnc : n ≤ c) (hk : k ≤ n) :
  Cutoff w (w.setCell ⟨rb, 0, none⟩ (.slice (if c = k then some ⟨b, o, none⟩ else some ⟨b, o + k, none⟩) (n - k) (c - k))) rb n xs k := by
 have hc := hb.cut k c hk hnc
 by_cases e : c = k
 ·rw [if_pos e] at hc ⊢
  exact ⟨b, o, _, rfl, by omega, hc⟩
 ·rw [if_neg e] at hc ⊢
  exact ⟨b, o + k, _, rfl, by omega, hc⟩
set_option maxHeartbeats 400000 in
theorem number_ok (w : World) (rb : Nat) (b o n c : Nat) (E : Int) (m : Bool) (xs : List Int) (k : Nat) (h : RdR w rb (.slice (some ⟨b, o, none⟩) n c) E m) (hb : BI w (some ⟨b, o, none⟩) n xs) (h1 : 1 ≤ k) (h2 : k ≤ 4) (h3 : k ≤ n) :
  Calls Tryz.prog 278 #[.pointer (some ⟨rb, 0, none⟩), .int .i64 k] w fun e w' => e = .returned (.int .i64 (Num.numD xs 0 k)) ∧ w' = w.setCell ⟨rb, 0, none⟩ (.slice (if c = k then some ⟨b, o, none⟩ else some ⟨b, o + k, none⟩) (n - k) (c - k)) := by
 have c0 := h.c0
 have f0 := h.fz 0
 obtain ⟨b', o', e, hc⟩ := hb.cells (by omega)
 cases e
 have hg := (show Hid _ from get_ok b o n c xs 0 k w h1 h2 hb.big (by omega) hb.byt hc)
 clear hc
 generalize Num.numD xs 0 k = N at *
 go_enter Tryz.func278, Tryz.ntmps278
 go_wp2_with fail
 refine same_at hg.out ?_
 go_wp2
 all_goals
  go_ret
  exact ⟨rfl, rfl⟩
theorem number_yes (w : World) (rb : Nat) (b o n c : Nat) (E : Int) (m : Bool) (xs : List Int) (k : Nat) (h : RdR w rb (.slice (some ⟨b, o, none⟩) n c) E m) (hb : BI w (some ⟨b, o, none⟩) n xs) (hnc : n ≤ c) (h1 : 1 ≤ k) (h2 : k ≤ 4) (h3 : k ≤ n) :
  Calls Tryz.prog 278 #[.pointer (some ⟨rb, 0, none⟩), .int .i64 k] w fun e w' => e = .returned (.int .i64 (Num.numD xs 0 k)) ∧ Cutoff w w' rb n xs k :=
 (number_ok w rb b o n c E m xs k h hb h1 h2 h3).mono fun e w' ⟨he, hw⟩ => ⟨he, by rw [hw]; exact cutoff_mk hb hnc h3⟩
set_option maxHeartbeats 400000 in
theorem next_past (w : World) (rb : Nat) (p : Option Addr) (n c : Nat) (E : Int) (m : Bool) (k : Int) (h : RdR w rb (.slice p n c) E m) (hk : (n : Int) < k) :
  Calls Tryz.prog 276 #[.pointer (some ⟨rb, 0, none⟩), .int .i64 k] w fun e w' => e = .panicked [{ v := .iface 36 (.int .i64 10), recovered := false }] ∧ w' = w := by
 have c0 := h.c0
 have hk0 : 0 ≤ k := by omega
 go_enter Tryz.func276, Tryz.ntmps276
 go_wp2
 exact ⟨rfl, rfl, rfl⟩
set_option maxHeartbeats 400000 in
theorem next_ok (w : World) (rb : Nat) (b o n c : Nat) (E : Int) (m : Bool) (k : Nat) (h : RdR w rb (.slice (some ⟨b, o, none⟩) n c) E m) (hnc : n ≤ c) (hk : k ≤ n) :
  Calls Tryz.prog 276 #[.pointer (some ⟨rb, 0, none⟩), .int .i64 k] w fun e w' => e = .returned (.slice (some ⟨b, o, none⟩) k c) ∧ w' = w.setCell ⟨rb, 0, none⟩ (.slice (if c = k then some ⟨b, o, none⟩ else some ⟨b, o + k, none⟩) (n - k) (c - k)) := by
 have c0 := h.c0
 have f0 := h.fz 0
 go_enter Tryz.func276, Tryz.ntmps276
 go_wp2
 all_goals
  go_ret
  exact ⟨rfl, rfl⟩
theorem next_yes (w : World) (rb : Nat) (b o n c : Nat) (E : Int) (m : Bool) (xs : List Int) (k : Nat) (h : RdR w rb (.slice (some ⟨b, o, none⟩) n c) E m) (hb : BI w (some ⟨b, o, none⟩) n xs) (hnc : n ≤ c) (hk : k ≤ n) :
  Calls Tryz.prog 276 #[.pointer (some ⟨rb, 0, none⟩), .int .i64 k] w fun e w' => e = .returned (.slice (some ⟨b, o, none⟩) k c) ∧ Cutoff w w' rb n xs k :=
 (next_ok w rb b o n c E m k h hnc hk).mono fun e w' ⟨he, hw⟩ => ⟨he, by rw [hw]; exact cutoff_mk hb hnc hk⟩
set_option maxHeartbeats 400000 in
theorem take1_yes (w : World) (rb B0 B1 B2 : Nat) (b o n c : Nat) (E : Int) (m : Bool) (xs : List Int) (k : Nat) (u : Value) (h : RdR w rb (.slice (some ⟨b, o, none⟩) n c) E m) (hb : BI w (some ⟨b, o, none⟩) n xs) (hnc : n ≤ c) (h1 : 1 ≤ k) (h2 : k ≤ 4) (h3 : k ≤ n)
  (c0 : w.cell? ⟨B0, 0, none⟩ = some (.pointer (some ⟨rb, 0, none⟩))) (c1 : w.cell? ⟨B1, 0, none⟩ = some (.int .i64 k)) (c2 : w.cell? ⟨B2, 0, none⟩ = some u) (f2 : w.frozen? ⟨B2, 0, none⟩ = false) (hne : B2 ≠ rb) :
  Calls Tryz.prog 277 #[.pointer (some ⟨B0, 0, none⟩), .pointer (some ⟨B1, 0, none⟩), .pointer (some ⟨B2, 0, none⟩)] w fun e w' => e = .returned (.tuple #[]) ∧ ∃ w1, Cutoff w w1 rb n xs k ∧ w' = w1.setCell ⟨B2, 0, none⟩ (.int .i64 (Num.numD xs 0 k)) := by
 have hg := (show Hid _ from number_yes w rb b o n c E m xs k h hb hnc h1 h2 h3)
 clear hb h
 generalize Num.numD xs 0 k = N at *
 go_enter Tryz.func277, Tryz.ntmps277
 go_wp2_with fail
 refine Calls.mono hg.out ?_
 rintro e w1 ⟨rfl, hcut⟩
 have hc2 : w1.cell? ⟨B2, 0, none⟩ = some u := by
  obtain ⟨b', o', c', rfl, _⟩ := hcut
  rw [World.cell?_of_block (Below.heap_setCell _ _ _ _ hne)]; exact c2
 have hf2 : w1.frozen? ⟨B2, 0, none⟩ = false := by
  obtain ⟨b', o', c', rfl, _⟩ := hcut
  rw [World.frozen?_of_block (Below.heap_setCell _ _ _ _ hne)]; exact f2
 clear c0 c1 c2 f2 hg
 go_wp2
 go_end0
 exact ⟨rfl, w1, hcut, rfl⟩
set_option maxHeartbeats 800000 in
theorem attempt34_yes (w : World) (rb : Nat) (v : Value) (q0 q1 q2 : Addr) (R : World → Prop) (h : RdR w rb v 0 true)
  (hs : Calls Tryz.prog 277 #[.pointer (some q0), .pointer (some q1), .pointer (some q2)] (w.alloc (.cells #[.pointer (some ⟨rb, 0, none⟩)] 338)) fun e w' => e = .returned (.tuple #[]) ∧ R w') :
  Calls Tryz.prog 274 #[.pointer (some ⟨rb, 0, none⟩), .func (Fn.func 277) #[] #[.pointer (some q0), .pointer (some q1), .pointer (some q2)]] w fun e w' => e = .returned (.tuple #[]) ∧ R w' := by
 have hmf := makes
 have h1 : RdR (w.alloc (.cells #[.pointer (some ⟨rb, 0, none⟩)] 338)) rb v 0 true := by unfold RdR; rw [Below.heap_alloc _ _ _ h.lt]; exact h
 have HS := (show Hid _ from hs)
 clear hs
 go_enter_defers Tryz.func274, Tryz.ntmps274
 go_wp2_with fail
 refine same_at (err_made _ rb v 0 h1) ?_
 go_wp2_with fail
 refine Calls.mono HS.out ?_
 rintro e w1 ⟨rfl, hR⟩
 go_wp2
 refine leaves_cons (f := 306) (args := #[.pointer (some ⟨w.heap.size, 0, none⟩)]) (by simp) (by simp [go_sem]) ?_
 refine (catch_idle ⟨w.heap.size, 0, none⟩ _).mono ?_
 rintro e u' w'' ⟨rfl, rfl, rfl⟩
 simp [Leaves, settle, results, Tryz.results274, go_sem]
 exact hR
set_option maxHeartbeats 800000 in
theorem attempt37_yes (w : World) (rb : Nat) (v : Value) (q0 q1 q2 : Addr) (R : World → Prop) (h : RdR w rb v 0 true)
  (hs : Calls Tryz.prog 279 #[.pointer (some q0), .pointer (some q1), .pointer (some q2)] (w.alloc (.cells #[.pointer (some ⟨rb, 0, none⟩)] 338)) fun e w' => e = .returned (.tuple #[]) ∧ R w') :
  Calls Tryz.prog 274 #[.pointer (some ⟨rb, 0, none⟩), .func (Fn.func 279) #[] #[.pointer (some q0), .pointer (some q1), .pointer (some q2)]] w fun e w' => e = .returned (.tuple #[]) ∧ R w' := by
 have hmf := makes
 have h1 : RdR (w.alloc (.cells #[.pointer (some ⟨rb, 0, none⟩)] 338)) rb v 0 true := by unfold RdR; rw [Below.heap_alloc _ _ _ h.lt]; exact h
 have HS := (show Hid _ from hs)
 clear hs
 go_enter_defers Tryz.func274, Tryz.ntmps274
 go_wp2_with fail
 refine same_at (err_made _ rb v 0 h1) ?_
 go_wp2_with fail
 refine Calls.mono HS.out ?_
 rintro e w1 ⟨rfl, hR⟩
 go_wp2
 refine leaves_cons (f := 306) (args := #[.pointer (some ⟨w.heap.size, 0, none⟩)]) (by simp) (by simp [go_sem]) ?_
 refine (catch_idle ⟨w.heap.size, 0, none⟩ _).mono ?_
 rintro e u' w'' ⟨rfl, rfl, rfl⟩
 simp [Leaves, settle, results, Tryz.results274, go_sem]
 exact hR
set_option maxHeartbeats 800000 in
theorem attempt39_yes (w : World) (rb : Nat) (v : Value) (q0 q1 : Addr) (R : World → Prop) (h : RdR w rb v 0 true)
  (hs : Calls Tryz.prog 275 #[.pointer (some q0), .pointer (some q1)] (w.alloc (.cells #[.pointer (some ⟨rb, 0, none⟩)] 338)) fun e w' => e = .returned (.tuple #[]) ∧ R w') :
  Calls Tryz.prog 274 #[.pointer (some ⟨rb, 0, none⟩), .func (Fn.func 275) #[] #[.pointer (some q0), .pointer (some q1)]] w fun e w' => e = .returned (.tuple #[]) ∧ R w' := by
 have hmf := makes
 have h1 : RdR (w.alloc (.cells #[.pointer (some ⟨rb, 0, none⟩)] 338)) rb v 0 true := by unfold RdR; rw [Below.heap_alloc _ _ _ h.lt]; exact h
 have HS := (show Hid _ from hs)
 clear hs
 go_enter_defers Tryz.func274, Tryz.ntmps274
 go_wp2_with fail
 refine same_at (err_made _ rb v 0 h1) ?_
 go_wp2_with fail
 refine Calls.mono HS.out ?_
 rintro e w1 ⟨rfl, hR⟩
 go_wp2
 refine leaves_cons (f := 306) (args := #[.pointer (some ⟨w.heap.size, 0, none⟩)]) (by simp) (by simp [go_sem]) ?_
 refine (catch_idle ⟨w.heap.size, 0, none⟩ _).mono ?_
 rintro e u' w'' ⟨rfl, rfl, rfl⟩
 simp [Leaves, settle, results, Tryz.results274, go_sem]
 exact hR
end Go.Proofs.YthdlpeejmmobmaaGreat.Mk

namespace Go.Proofs.YthdlpeejmmobmaaGreat.Mk
open Go.RowKit
set_option maxRecDepth 100000
theorem bi_same {w w' : World} {p : Option Addr} {n : Nat} {xs : List Int} (h : BI w p n xs) (hs : ∀ b o, p = some ⟨b, o, none⟩ → 0 < n → w'.heap[b]? = w.heap[b]?) : BI w' p n xs := by
 refine ⟨h.len, h.big, h.byt, fun hn => ?_⟩
 obtain ⟨b, o, rfl, hc⟩ := h.cells hn
 refine ⟨b, o, rfl, fun i hi => ?_⟩
 rw [World.cell?_of_block (w := w) (a := ⟨b, o + i, none⟩) (hs b o rfl hn)]
 exact hc i hi
theorem bi_ne {w : World} {b o n : Nat} {xs : List Int} (h : BI w (some ⟨b, o, none⟩) n xs) (hn : 0 < n) {g : Nat} {cs : Array Value} {t : TypeId} {mk : Nat × Nat} (hg : w.heap[g]? = some (.cells cs t mk)) (hno : ∀ (x : Int) (j : Nat), cs[j]? ≠ some (Value.int .u8 x)) : b ≠ g := by
 obtain ⟨b', o', e, hc⟩ := h.cells hn
 cases e
 rintro rfl
 have := hc 0 hn
 rw [cell_of_row w b (o + 0) cs t mk hg] at this
 exact hno _ _ this
theorem rd_no (v : Value) (E : Int) (m : Bool) (hv : ∀ x, v ≠ Value.int .u8 x) : ∀ (x : Int) (j : Nat), (#[v, .int .i64 E, .bool m] : Array Value)[j]? ≠ some (Value.int .u8 x) := by
 intro x j
 rcases j with _ | _ | _ | j
 ·simp; exact hv x
 ·simp
 ·simp
 ·simp
theorem one_no (v : Value) (hv : ∀ x, v ≠ Value.int .u8 x) : ∀ (x : Int) (j : Nat), (#[v] : Array Value)[j]? ≠ some (Value.int .u8 x) := by
 intro x j
 rcases j with _ | j
 ·simp; exact hv x
 ·simp
theorem at_old {w : World} {k : Nat} {o u : Obj} (h : w.heap[k]? = some u) : (w.alloc o).heap[k]? = some u := by
 rw [Below.heap_alloc _ _ _ (Array.getElem?_eq_some_iff.1 h).1]; exact h
theorem at_new {w : World} {k : Nat} {o : Obj} (h : k = w.heap.size) : (w.alloc o).heap[k]? = some o := by
 subst h; exact heap_alloc_new w o
theorem cell_one {w : World} {g : Nat} {v : Value} {t : TypeId} (h : w.heap[g]? = some (.cells #[v] t (0, 0))) : w.cell? ⟨g, 0, none⟩ = some v := by
 rw [cell_of_row w g 0 _ t _ h]; simp
theorem fz_one {w : World} {g : Nat} {v : Value} {t : TypeId} (h : w.heap[g]? = some (.cells #[v] t (0, 0))) : w.frozen? ⟨g, 0, none⟩ = false := frozen_of_row w g 0 _ t h
theorem three (w : World) (a b c d : Value) (ta tb tc td : TypeId) :
  (((((w.alloc (.cells #[a] ta)).alloc (.cells #[b] tb)).alloc (.cells #[c] tc)).alloc (.cells #[d] td)).heap[w.heap.size]? = some (.cells #[a] ta (0, 0))) ∧
  (((((w.alloc (.cells #[a] ta)).alloc (.cells #[b] tb)).alloc (.cells #[c] tc)).alloc (.cells #[d] td)).heap[w.heap.size + 1]? = some (.cells #[b] tb (0, 0))) ∧
  (((((w.alloc (.cells #[a] ta)).alloc (.cells #[b] tb)).alloc (.cells #[c] tc)).alloc (.cells #[d] td)).heap[w.heap.size + 1 + 1]? = some (.cells #[c] tc (0, 0))) ∧
  Below w.heap.size w ((((w.alloc (.cells #[a] ta)).alloc (.cells #[b] tb)).alloc (.cells #[c] tc)).alloc (.cells #[d] td)) ∧
  Below w.heap.size w (((w.alloc (.cells #[a] ta)).alloc (.cells #[b] tb)).alloc (.cells #[c] tc)) := by
 refine ⟨at_old (at_old (at_old (at_new rfl))), at_old (at_old (at_new (by simp))), at_old (at_new (by simp)), ?_, ?_⟩
 ·exact ((((Below.refl _ _).alloc (Nat.le_refl _) _).alloc (by simp) _).alloc (by simp; omega) _).alloc (by simp; omega) _
 ·exact (((Below.refl _ _).alloc (Nat.le_refl _) _).alloc (by simp) _).alloc (by simp; omega) _
def Rest (w : World) (rb : Nat) (n : Nat) (xs : List Int) (E : Int) : Prop :=
 ∃ b o c, RdR w rb (.slice (some ⟨b, o, none⟩) n c) E true ∧ n ≤ c ∧ BI w (some ⟨b, o, none⟩) n xs
theorem fin_yes {w W w1 : World} {rb B2 n k : Nat} {xs : List Int} {u v : Value} {t : TypeId} {p : Option Addr} {m c : Nat} (hb : Below w.heap.size w W) (hr : RdR W rb (.slice p m c) 0 true) (hB : w.heap.size ≤ B2) (h2 : W.heap[B2]? = some (.cells #[u] t (0, 0))) (hu : ∀ x, u ≠ Value.int .u8 x) (hlt : rb < w.heap.size)
  (hc : Cutoff W w1 rb n xs k) : (w1.setCell ⟨B2, 0, none⟩ v).cell? ⟨B2, 0, none⟩ = some v ∧ w.grownBy (w1.setCell ⟨B2, 0, none⟩ v) (some rb) ∧ Rest (w1.setCell ⟨B2, 0, none⟩ v) rb (n - k) (xs.drop k) 0 := by
 obtain ⟨b, o, c', rfl, hnc, hbi⟩ := hc
 have hne : rb ≠ B2 := by omega
 have e2 : (W.setCell ⟨rb, 0, none⟩ (.slice (some ⟨b, o, none⟩) (n - k) c')).heap[B2]? = some (.cells #[u] t (0, 0)) := by
  rw [Below.heap_setCell _ _ _ _ (by simp; omega)]; exact h2
 have e3 := heap_setCell_same _ B2 0 _ t v e2
 have er : RdR ((W.setCell ⟨rb, 0, none⟩ (.slice (some ⟨b, o, none⟩) (n - k) c')).setCell ⟨B2, 0, none⟩ v) rb (.slice (some ⟨b, o, none⟩) (n - k) c') 0 true := by
  unfold RdR
  rw [Below.heap_setCell _ _ _ _ (by simpa using hne)]
  exact hr.set0 _
 refine ⟨?_, ⟨?_, ?_, ?_, ?_, ?_⟩, ⟨b, o, c', er, hnc, ?_⟩⟩
 ·rw [cell_of_row _ B2 0 _ t (0, 0) e3]; simp
 ·exact hb.os
 ·exact hb.tape
 ·exact hb.output
 ·have := hb.size; simpa using this
 ·intro j hj hn
  rw [Below.heap_setCell _ _ _ _ (by simp; omega), Below.heap_setCell _ _ _ _ (by simp; intro e; exact hn (by rw [e]))]
  exact hb.block j hj
 ·refine bi_same hbi fun b' o' e hn => ?_
  cases e
  have n1 := bi_ne hbi hn hr (rd_no _ _ _ (by intro x; simp))
  have n2 := bi_ne hbi hn h2 (one_no _ hu)
  rw [Below.heap_setCell _ _ _ _ (by simpa using n2), Below.heap_setCell _ _ _ _ (by simpa using n1)]
theorem rd_kept {w w' : World} {rb : Nat} {v : Value} {E : Int} {m : Bool} (h : RdR w rb v E m) (hb : Below w.heap.size w w') : RdR w' rb v E m := by
 unfold RdR
 rw [hb.block rb h.lt]
 exact h
set_option maxHeartbeats 800000 in
theorem take_yes (w : World) (rb n k : Nat) (xs : List Int) (h : Rest w rb n xs 0) (h1 : 1 ≤ k) (h2 : k ≤ 4) (h3 : k ≤ n) :
  Calls Tryz.prog 228 #[.pointer (some ⟨rb, 0, none⟩), .int .i64 k] w fun e w' => e = .returned (.int .i64 (Num.numD xs 0 k)) ∧ w.grownBy w' (some rb) ∧ Rest w' rb (n - k) (xs.drop k) 0 := by
 obtain ⟨b, o, c, hr, hnc, hbi⟩ := h
 have hmf := makes
 have hlt := hr.lt
 obtain ⟨t0, t1, t2, t3, t4⟩ := three w (.pointer (some ⟨rb, 0, none⟩)) (.int .i64 k) (.int .i64 0) (.pointer (some ⟨rb, 0, none⟩)) 338 3 3 338
 have hcon := attempt34_yes _ rb _ ⟨w.heap.size, 0, none⟩ ⟨w.heap.size + 1, 0, none⟩ ⟨w.heap.size + 1 + 1, 0, none⟩
  (fun w' => w'.cell? ⟨w.heap.size + 1 + 1, 0, none⟩ = some (.int .i64 (Num.numD xs 0 k)) ∧ w.grownBy w' (some rb) ∧ Rest w' rb (n - k) (xs.drop k) 0) (rd_kept hr t4)
  ((take1_yes _ rb _ _ _ b o n c 0 true xs k _ (rd_kept hr t3) (hbi.kept t3) hnc h1 h2 h3 (cell_one t0) (cell_one t1) (cell_one t2) (fz_one t2) (by omega)).mono
   (by rintro e w' ⟨he, w1, hc, rfl⟩; exact ⟨he, fin_yes t3 (rd_kept hr t3) (by omega) t2 (by intro x; simp) hlt hc⟩))
 have HC := (show Hid _ from hcon)
 clear hcon t0 t1 t2 t3 t4 hr hbi
 go_enter Tryz.func228, Tryz.ntmps228
 go_wp2_with fail
 refine Calls.mono HC.out ?_
 rintro e w' ⟨rfl, hcell, hgr, hrest⟩
 clear HC
 go_wp2
 go_ret
 exact ⟨rfl, hgr, hrest⟩
end Go.Proofs.YthdlpeejmmobmaaGreat.Mk

namespace Go.Proofs.YthdlpeejmmobmaaGreat.Mk
open Go.RowKit
set_option maxRecDepth 100000
theorem two (w : World) (a b d : Value) (ta tb td : TypeId) :
  ((((w.alloc (.cells #[a] ta)).alloc (.cells #[b] tb)).alloc (.cells #[d] td)).heap[w.heap.size]? = some (.cells #[a] ta (0, 0))) ∧
  ((((w.alloc (.cells #[a] ta)).alloc (.cells #[b] tb)).alloc (.cells #[d] td)).heap[w.heap.size + 1]? = some (.cells #[b] tb (0, 0))) ∧
  Below w.heap.size w (((w.alloc (.cells #[a] ta)).alloc (.cells #[b] tb)).alloc (.cells #[d] td)) ∧
  Below w.heap.size w ((w.alloc (.cells #[a] ta)).alloc (.cells #[b] tb)) := by
 refine ⟨at_old (at_old (at_new rfl)), at_old (at_new (by simp)), ?_, ?_⟩
 ·exact (((Below.refl _ _).alloc (Nat.le_refl _) _).alloc (by simp) _).alloc (by simp; omega) _
 ·exact ((Below.refl _ _).alloc (Nat.le_refl _) _).alloc (by simp) _
end Go.Proofs.YthdlpeejmmobmaaGreat.Mk

namespace Go.Proofs.YthdlpeejmmobmaaGreat.Mk
open Go.RowKit
set_option maxRecDepth 100000
set_option maxHeartbeats 800000 in
theorem over_ok (w : World) (p : Option Addr) (n c : Nat) (xs : List Int) (h : BI w p n xs) :
  Calls Tryz.prog 226 #[.slice p n c] w fun e w' => ∃ rb, e = .returned (.pointer (some ⟨rb, 0, none⟩)) ∧ w.heap.size ≤ rb ∧ Rest w' rb n xs 0 ∧ Below w.heap.size w w' := by
 go_enter Tryz.func226, Tryz.ntmps226
 go_wp2_with fail
 refine (clone_ok p n c xs w h).mono ?_
 rintro e w1 ⟨g, cap, rfl, ho, hb⟩
 go_wp2
 go_ret
 refine ⟨w1.heap.size, rfl, hb.size, ⟨g, 0, cap, ?_, ho.room.1, ?_⟩, ?_⟩
 ·exact heap_alloc_new w1 _
 ·exact (ho.bi h.big h.byt).kept ((Below.refl _ _).alloc (Nat.le_refl _) _)
 ·exact hb.alloc hb.size _
def Pair (w wr : World) : Prop :=
 RdR wr w.heap.size (.slice none 0 0) 0 false ∧ wr.heap[w.heap.size + 1]? = some (.cells #[.pointer none, .pointer (some ⟨w.heap.size, 0, none⟩)] 338 (0, 0)) ∧ Below w.heap.size w wr
theorem Pair.c1 {w wr : World} (h : Pair w wr) : wr.cell? ⟨w.heap.size + 1, 1, none⟩ = some (.pointer (some ⟨w.heap.size, 0, none⟩)) := by
 rw [cell_of_row wr _ 1 _ _ _ h.2.1]; rfl
end Go.Proofs.YthdlpeejmmobmaaGreat.Mk
