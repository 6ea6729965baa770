/- KFns KSums KRead KRead2 KRead3 KRead4 KNobody KRead5 -/
import Derived.Test.YtomkhipdcjnkhaaGreatFb01
import Derived.Defers
import Derived.Recover

/- What word's and the document's Get, Put and Sum answer, each said once for all arguments. -/
namespace Go.Proofs.YtomkhipdcjnkhaaGreat.Mk
open Go.RowKit
set_option maxRecDepth 100000

namespace Num
def gE (n : Nat) (at_ wd : Int) : Int := if wd < 1 ∨ 4 < wd ∨ at_ < 0 then 1 else if (n : Int) - wd < at_ then 10 else 0
def gN (n : Nat) (xs : List Int) (at_ wd : Int) : Int := if gE n at_ wd = 0 then numD xs at_.toNat wd.toNat else 0
def pE (n : Nat) (at_ wd v : Int) : Int := if wd < 1 ∨ 4 < wd ∨ at_ < 0 ∨ v < 0 ∨ (256 : Int) ^ wd.toNat ≤ v then 1 else if (n : Int) - wd < at_ then 10 else 0
def lo (xs : List Int) : Nat → Int
  | 0 => 1
  | k + 1 => (lo xs k + xs.getD k 0) % 65521
def hi (xs : List Int) : Nat → Int
  | 0 => 0
  | k + 1 => (hi xs k + lo xs (k + 1)) % 65521
def sum (xs : List Int) (n : Nat) : Int := hi xs n * 65536 + lo xs n

theorem lo_bd (xs : List Int) (k : Nat) : 0 ≤ lo xs k ∧ lo xs k < 65521 := by
  cases k with
  | zero => simp [lo]
  | succ k => simp only [lo]; omega
theorem hi_bd (xs : List Int) (k : Nat) : 0 ≤ hi xs k ∧ hi xs k < 65521 := by
  cases k with
  | zero => simp [hi]
  | succ k => simp only [hi]; omega
theorem sum_bd (xs : List Int) (n : Nat) : 0 ≤ sum xs n ∧ sum xs n < 4294967296 := by
  have h1 := lo_bd xs n
  have h2 := hi_bd xs n
  unfold sum
  omega
end Num

theorem put_err (p : Option Addr) (n c : Nat) (at_ wd v : Int) (w : World) (hn : n ≤ 140737488355328) (h : Num.pE n at_ wd v ≠ 0) :
    Calls Tryz.prog 326 #[.slice p n c, .int .i64 at_, .int .i64 wd, .int .i64 v] w fun e w' => e = .returned (.tuple #[.slice none 0 0, .int .i64 (Num.pE n at_ wd v)]) ∧ w' = w := by
  by_cases h1 : wd < 1 ∨ 4 < wd ∨ at_ < 0 ∨ v < 0 ∨ (256 : Int) ^ wd.toNat ≤ v
  · have e1 : Num.pE n at_ wd v = 1 := by unfold Num.pE; rw [if_pos h1]
    rw [e1]
    exact put_arg p n c at_ wd v w hn h1
  · by_cases h2 : (n : Int) - wd < at_
    · have e1 : Num.pE n at_ wd v = 10 := by unfold Num.pE; rw [if_neg h1, if_pos h2]
      rw [e1]
      obtain ⟨k, rfl⟩ := Int.eq_ofNat_of_zero_le (show 0 ≤ wd by omega)
      rw [Int.toNat_natCast] at h1
      exact put_past p n c at_ v k w hn (by omega) (by omega) (by omega) (by omega) (by omega) h2
    · exact absurd (by unfold Num.pE; rw [if_neg h1, if_neg h2]) h

theorem rput_err (p : Option Addr) (n c : Nat) (at_ wd v : Int) (w : World) (hn : n ≤ 140737488355328) (h : Num.pE n at_ wd v ≠ 0) :
    Calls Tryz.prog 308 #[.slice p n c, .int .i64 at_, .int .i64 wd, .int .i64 v] w fun e w' => e = .returned (.tuple #[.slice none 0 0, .int .i64 (Num.pE n at_ wd v)]) ∧ w' = w := by
  by_cases h1 : wd < 1 ∨ 4 < wd ∨ at_ < 0 ∨ v < 0 ∨ (256 : Int) ^ wd.toNat ≤ v
  · have e1 : Num.pE n at_ wd v = 1 := by unfold Num.pE; rw [if_pos h1]
    rw [e1]
    exact rput_arg p n c at_ wd v w h1
  · by_cases h2 : (n : Int) - wd < at_
    · have e1 : Num.pE n at_ wd v = 10 := by unfold Num.pE; rw [if_neg h1, if_pos h2]
      rw [e1]
      obtain ⟨k, rfl⟩ := Int.eq_ofNat_of_zero_le (show 0 ≤ wd by omega)
      rw [Int.toNat_natCast] at h1
      exact rput_past p n c at_ v k w hn (by omega) (by omega) (by omega) (by omega) (by omega) h2
    · exact absurd (by unfold Num.pE; rw [if_neg h1, if_neg h2]) h

theorem pE_zero {n : Nat} {at_ wd v : Int} (h : Num.pE n at_ wd v = 0) : 1 ≤ wd ∧ wd ≤ 4 ∧ 0 ≤ at_ ∧ 0 ≤ v ∧ v < 256 ^ wd.toNat ∧ at_ + wd ≤ n := by
  unfold Num.pE at h
  split at h
  · omega
  · split at h <;> omega

theorem put_yes (p : Option Addr) (n c : Nat) (xs : List Int) (at_ wd v : Int) (w : World) (h : BI w p n xs) (h0 : Num.pE n at_ wd v = 0) :
    Calls Tryz.prog 326 #[.slice p n c, .int .i64 at_, .int .i64 wd, .int .i64 v] w fun e w' => ∃ g cap, e = .returned (.tuple #[.slice (some ⟨g, 0, none⟩) n cap, .int .i64 0]) ∧ Own w.heap.size w' g n cap (Num.putTo xs at_.toNat v wd.toNat) ∧ Below w.heap.size w w' := by
  obtain ⟨h1, h2, h3, h4, h5, h6⟩ := pE_zero h0
  clear h0
  obtain ⟨a, rfl⟩ := Int.eq_ofNat_of_zero_le h3
  obtain ⟨k, rfl⟩ := Int.eq_ofNat_of_zero_le (show 0 ≤ wd by omega)
  exact put_ok p n c xs a k v w h (by omega) (by omega) h4 h5 (by omega)

theorem rput_yes (p : Option Addr) (n c : Nat) (xs : List Int) (at_ wd v : Int) (w : World) (h : BI w p n xs) (h0 : Num.pE n at_ wd v = 0) :
    Calls Tryz.prog 308 #[.slice p n c, .int .i64 at_, .int .i64 wd, .int .i64 v] w fun e w' => ∃ g cap, e = .returned (.tuple #[.slice (some ⟨g, 0, none⟩) n cap, .int .i64 0]) ∧ Own w.heap.size w' g n cap (Num.putTo xs at_.toNat v wd.toNat) ∧ Below w.heap.size w w' := by
  obtain ⟨h1, h2, h3, h4, h5, h6⟩ := pE_zero h0
  clear h0
  obtain ⟨a, rfl⟩ := Int.eq_ofNat_of_zero_le h3
  obtain ⟨k, rfl⟩ := Int.eq_ofNat_of_zero_le (show 0 ≤ wd by omega)
  obtain ⟨b, o, rfl, _⟩ := h.cells (by omega)
  exact rput_ok _ n c xs a k v w h (by omega) (by omega) h4 h5 (by omega)

set_option maxHeartbeats 400000 in
theorem sum_none (p : Option Addr) (c : Nat) (w : World) :
    Calls Tryz.prog 374 #[.slice p 0 c] w fun e w' => e = .returned (.int .i64 1) ∧ w' = w := by
  go_enter Tryz.func374, Tryz.ntmps374
  go_wp2
  refine wp_loop_rounds 1 ?_
  rw [rounds_succ]
  go_wp2
  go_ret
  exact ⟨rfl, rfl⟩

set_option maxHeartbeats 400000 in
theorem rsum_none (p : Option Addr) (c : Nat) (w : World) :
    Calls Tryz.prog 309 #[.slice p 0 c] w fun e w' => e = .returned (.int .i64 1) ∧ w' = w := by
  go_enter Tryz.func309, Tryz.ntmps309
  go_wp2
  refine wp_loop_rounds 1 ?_
  rw [rounds_succ]
  go_wp2
  go_ret
  exact ⟨rfl, rfl⟩

set_option maxHeartbeats 400000 in
theorem sum_some (b o n c : Nat) (xs : List Int) (w : World) (hn : n ≤ 140737488355328) (hx : Num.Byt xs) (hc : ∀ i, i < n → w.cell? ⟨b, o + i, none⟩ = some (.int .u8 (xs.getD i 0))) :
    Calls Tryz.prog 374 #[.slice (some ⟨b, o, none⟩) n c] w fun e w' => e = .returned (.int .i64 (Num.sum xs n)) ∧ w' = w := by
  go_enter Tryz.func374, Tryz.ntmps374
  go_wp2
  go_loop [3, 4, 9] (fun l h i => ∃ j : Nat, j ≤ n ∧ i = .int .i64 j ∧ l = .int .i64 (Num.lo xs j) ∧ h = .int .i64 (Num.hi xs j)) (fun _ _ i => n - (intOf i).toNat)
  case atStart => exact ⟨0, Nat.zero_le _, rfl, rfl, rfl⟩
  case round =>
    obtain ⟨j, hj, rfl, rfl, rfl⟩ := hrel
    have hl := Num.lo_bd xs j
    have hh := Num.hi_bd xs j
    by_cases hlt : j < n
    · have hcj := hc j hlt
      have hxb := hx j
      clear hc
      have HL : Hid (Num.lo xs (j + 1) = (Num.lo xs j + xs.getD j 0) % 65521) := rfl
      have HH : Hid (Num.hi xs (j + 1) = (Num.hi xs j + (Num.lo xs j + xs.getD j 0) % 65521) % 65521) := rfl
      generalize Num.lo xs j = l at *
      generalize Num.hi xs j = h at *
      generalize xs.getD j 0 = x at *
      go_wp2
      go_round
      case rel => exact ⟨j + 1, by omega, by go_num, by rw [HL.out], by rw [HH.out]⟩
      case measure => simp [intOf]; omega
    · obtain rfl : j = n := by omega
      go_wp2
      go_ret
      exact ⟨rfl, rfl⟩

set_option maxHeartbeats 400000 in
theorem rsum_some (b o n c : Nat) (xs : List Int) (w : World) (hn : n ≤ 140737488355328) (hx : Num.Byt xs) (hc : ∀ i, i < n → w.cell? ⟨b, o + i, none⟩ = some (.int .u8 (xs.getD i 0))) :
    Calls Tryz.prog 309 #[.slice (some ⟨b, o, none⟩) n c] w fun e w' => e = .returned (.int .i64 (Num.sum xs n)) ∧ w' = w := by
  go_enter Tryz.func309, Tryz.ntmps309
  go_wp2
  go_loop [3, 4, 9] (fun l h i => ∃ j : Nat, j ≤ n ∧ i = .int .i64 j ∧ l = .int .i64 (Num.lo xs j) ∧ h = .int .i64 (Num.hi xs j)) (fun _ _ i => n - (intOf i).toNat)
  case atStart => exact ⟨0, Nat.zero_le _, rfl, rfl, rfl⟩
  case round =>
    obtain ⟨j, hj, rfl, rfl, rfl⟩ := hrel
    have hl := Num.lo_bd xs j
    have hh := Num.hi_bd xs j
    by_cases hlt : j < n
    · have hcj := hc j hlt
      have hxb := hx j
      clear hc
      have HL : Hid (Num.lo xs (j + 1) = (Num.lo xs j + xs.getD j 0) % 65521) := rfl
      have HH : Hid (Num.hi xs (j + 1) = (Num.hi xs j + (Num.lo xs j + xs.getD j 0) % 65521) % 65521) := rfl
      generalize Num.lo xs j = l at *
      generalize Num.hi xs j = h at *
      generalize xs.getD j 0 = x at *
      go_wp2
      go_round
      case rel => exact ⟨j + 1, by omega, by go_num, by rw [HL.out], by rw [HH.out]⟩
      case measure => simp [intOf]; omega
    · obtain rfl : j = n := by omega
      go_wp2
      go_ret
      exact ⟨rfl, rfl⟩

theorem sum_any (p : Option Addr) (n c : Nat) (xs : List Int) (w : World) (h : BI w p n xs) :
    Calls Tryz.prog 374 #[.slice p n c] w fun e w' => e = .returned (.int .i64 (Num.sum xs n)) ∧ w' = w := by
  rcases Nat.eq_zero_or_pos n with hn | hn
  · subst hn
    exact sum_none p c w
  · obtain ⟨b, o, rfl, hc⟩ := h.cells hn
    exact sum_some b o n c xs w h.big h.byt hc

theorem rsum_any (p : Option Addr) (n c : Nat) (xs : List Int) (w : World) (h : BI w p n xs) :
    Calls Tryz.prog 309 #[.slice p n c] w fun e w' => e = .returned (.int .i64 (Num.sum xs n)) ∧ w' = w := by
  rcases Nat.eq_zero_or_pos n with hn | hn
  · subst hn
    exact rsum_none p c w
  · obtain ⟨b, o, rfl, hc⟩ := h.cells hn
    exact rsum_some b o n c xs w h.big h.byt hc

theorem sum_take (xs : List Int) (m : Nat) : ∀ k, k ≤ m → Num.lo (xs.take m) k = Num.lo xs k ∧ Num.hi (xs.take m) k = Num.hi xs k := by
  intro k
  induction k with
  | zero => intro _; exact ⟨rfl, rfl⟩
  | succ k ih =>
    intro hk
    obtain ⟨i1, i2⟩ := ih (by omega)
    have e : Num.lo (xs.take m) (k + 1) = Num.lo xs (k + 1) := by
      show (Num.lo (xs.take m) k + (xs.take m).getD k 0) % 65521 = (Num.lo xs k + xs.getD k 0) % 65521
      rw [i1, getD_take xs m k (by omega)]
    refine ⟨e, ?_⟩
    show (Num.hi (xs.take m) k + Num.lo (xs.take m) (k + 1)) % 65521 = (Num.hi xs k + Num.lo xs (k + 1)) % 65521
    rw [i2, e]

theorem sum_cut (xs : List Int) (m : Nat) : Num.sum (xs.take m) m = Num.sum xs m := by
  obtain ⟨h1, h2⟩ := sum_take xs m m (Nat.le_refl _)
  unfold Num.sum
  rw [h1, h2]

/-- Seal: refused below four bytes. -/
theorem seal_past (p : Option Addr) (n c : Nat) (w : World) (hn : n < 4) :
    Calls Tryz.prog 341 #[.slice p n c] w fun e w' => e = .returned (.tuple #[.slice none 0 0, .int .i64 10]) ∧ w' = w := by
  go_enter Tryz.func341, Tryz.ntmps341
  go_wp2
  go_ret2
  exact ⟨rfl, rfl⟩

theorem rseal_past (p : Option Addr) (n c : Nat) (w : World) (hn : n < 4) :
    Calls Tryz.prog 211 #[.slice p n c] w fun e w' => e = .returned (.tuple #[.slice none 0 0, .int .i64 10]) ∧ w' = w := by
  go_enter Tryz.func211, Tryz.ntmps211
  go_wp2
  go_ret2
  exact ⟨rfl, rfl⟩

theorem pE_seal (n : Nat) (s : Int) (hn : 4 ≤ n) (h0 : 0 ≤ s) (h1 : s < 4294967296) : Num.pE n ((n : Int) - 4) 4 s = 0 := by
  unfold Num.pE
  rw [if_neg, if_neg (by omega)]
  have : (256 : Int) ^ (4 : Int).toNat = 4294967296 := by decide
  rw [this]
  omega

theorem gE_seal (n : Nat) (hn : 4 ≤ n) : Num.gE n ((n : Int) - 4) 4 = 0 := by
  unfold Num.gE
  rw [if_neg (by omega), if_neg (by omega)]

theorem gN_seal (n : Nat) (xs : List Int) (hn : 4 ≤ n) : Num.gN n xs ((n : Int) - 4) 4 = Num.numD xs (n - 4) 4 := by
  unfold Num.gN
  rw [gE_seal n hn, show ((n : Int) - 4).toNat = n - 4 from by omega]
  rfl

set_option maxHeartbeats 400000 in
theorem seal_ok (p : Option Addr) (n c : Nat) (xs : List Int) (w : World) (h : BI w p n xs) (hnc : n ≤ c) (hn : 4 ≤ n) :
    Calls Tryz.prog 341 #[.slice p n c] w fun e w' => ∃ g cap, e = .returned (.tuple #[.slice (some ⟨g, 0, none⟩) n cap, .int .i64 0]) ∧ Own w.heap.size w' g n cap (Num.putTo xs (n - 4) (Num.sum xs (n - 4)) 4) ∧ Below w.heap.size w w' := by
  have hbig := h.big
  have ht := h.take (n - 4) (by omega)
  have hs := Num.sum_bd xs (n - 4)
  have HS := sum_cut xs (n - 4)
  have HP : Hid (Num.pE n ((n : Int) - 4) 4 (Num.sum xs (n - 4)) = 0) := pE_seal n _ hn hs.1 hs.2
  have e1 : ((n : Int) - 4).toNat = n - 4 := by omega
  have hcon := put_yes p n c xs ((n : Int) - 4) 4 (Num.sum xs (n - 4)) w h HP.out
  rw [e1] at hcon
  have HC := (show Hid _ from hcon)
  have hsu := sum_any p (n - 4) c (xs.take (n - 4)) w ht
  rw [HS] at hsu
  have HU := (show Hid _ from hsu)
  clear hcon hsu e1 HS
  generalize Num.sum xs (n - 4) = S at *
  go_enter Tryz.func341, Tryz.ntmps341
  go_wp2_with (first | (go_at_call 374; refine Calls.mono HU.out ?_; rintro e w' ⟨rfl, hw⟩; have hw' := hw.symm; subst hw'; clear hw) | (go_at_call 326; refine Calls.mono HC.out ?_; rintro e w1 ⟨g, cap, rfl, ho, hb⟩))
  go_ret2
  exact ⟨g, cap, rfl, ho, hb⟩

set_option maxHeartbeats 400000 in
theorem rseal_ok (p : Option Addr) (n c : Nat) (xs : List Int) (w : World) (h : BI w p n xs) (hnc : n ≤ c) (hn : 4 ≤ n) :
    Calls Tryz.prog 211 #[.slice p n c] w fun e w' => ∃ g cap, e = .returned (.tuple #[.slice (some ⟨g, 0, none⟩) n cap, .int .i64 0]) ∧ Own w.heap.size w' g n cap (Num.putTo xs (n - 4) (Num.sum xs (n - 4)) 4) ∧ Below w.heap.size w w' := by
  have hbig := h.big
  have ht := h.take (n - 4) (by omega)
  have hs := Num.sum_bd xs (n - 4)
  have HS := sum_cut xs (n - 4)
  have HP : Hid (Num.pE n ((n : Int) - 4) 4 (Num.sum xs (n - 4)) = 0) := pE_seal n _ hn hs.1 hs.2
  have e1 : ((n : Int) - 4).toNat = n - 4 := by omega
  have hcon := rput_yes p n c xs ((n : Int) - 4) 4 (Num.sum xs (n - 4)) w h HP.out
  rw [e1] at hcon
  have HC := (show Hid _ from hcon)
  have hsu := rsum_any p (n - 4) c (xs.take (n - 4)) w ht
  rw [HS] at hsu
  have HU := (show Hid _ from hsu)
  clear hcon hsu e1 HS
  generalize Num.sum xs (n - 4) = S at *
  go_enter Tryz.func211, Tryz.ntmps211
  go_wp2_with (first | (go_at_call 309; refine Calls.mono HU.out ?_; rintro e w' ⟨rfl, hw⟩; have hw' := hw.symm; subst hw'; clear hw) | (go_at_call 308; refine Calls.mono HC.out ?_; rintro e w1 ⟨g, cap, rfl, ho, hb⟩))
  go_ret2
  exact ⟨g, cap, rfl, ho, hb⟩

end Go.Proofs.YtomkhipdcjnkhaaGreat.Mk

/- WordSums: the sum of bytes, their sealing, and whether they are sealed are what the document says, whatever the bytes are. -/
namespace Go.Proofs.YtomkhipdcjnkhaaGreat.Mk
open Go.RowKit
set_option maxRecDepth 100000

theorem BI.none (w : World) (p : Option Addr) : BI w p 0 [] := ⟨rfl, by omega, fun i => by simp, fun h => by omega⟩

theorem same_at {P : Program} {f : FuncId} {args : Array Value} {w : World} {v : Value} {Q : Ending → World → Prop} (h : Calls P f args w fun e w' => e = .returned v ∧ w' = w) (hq : Q (.returned v) w) : Calls P f args w Q :=
  h.mono (by rintro e w' ⟨rfl, rfl⟩; exact hq)

theorem sum_zero (w : World) : Calls Tryz.prog 374 #[.slice none 0 0] w fun e w' => e = .returned (.int .i64 1) ∧ w' = w := sum_none none 0 w

end Go.Proofs.YtomkhipdcjnkhaaGreat.Mk

/- What a reader of word is in memory, and what its calls do. -/
namespace Go.Proofs.YtomkhipdcjnkhaaGreat.Mk
open Go.RowKit
set_option maxRecDepth 100000

theorem makes (fn : Fn) (first cap : Array Value) (w : World) : (Instr.makeFunc fn first cap).run Tryz.prog w = .ok (.func fn first cap) w := rfl

theorem assert_nil (w : World) : (Instr.typeAssert .nilIface 20 39 true).run Tryz.prog w = .ok (.tuple #[.int .i64 0, .bool false]) w := by kernel_rfl
theorem assert_errno (E : Int) (w : World) : (Instr.typeAssert (.iface 39 (.int .i64 E)) 20 39 true).run Tryz.prog w = .ok (.tuple #[.int .i64 E, .bool true]) w := by kernel_rfl

end Go.Proofs.YtomkhipdcjnkhaaGreat.Mk

/- What goes on inside a reader's calls: the next number, the next bytes, and giving up. -/
namespace Go.Proofs.YtomkhipdcjnkhaaGreat.Mk
open Go.RowKit
set_option maxRecDepth 100000

/-- Something is taken off: what is left is told by an address and a capacity. -/
def Cutoff (w w' : World) (rb n : Nat) (xs : List Int) (k : Nat) : Prop :=
  ∃ b o c, w' = w.setCell ⟨rb, 0, none⟩ (.slice (some ⟨b, o, none⟩) (n - k) c) ∧ n - k ≤ c ∧ BI w (some ⟨b, o, none⟩) (n - k) (xs.drop k)

theorem cutoff_mk {w : World} {rb b o n c k : Nat} {xs : List Int} (hb : BI w (some ⟨b, o, none⟩) n xs) (hnc : n ≤ c) (hk : k ≤ n) :
    Cutoff w (w.setCell ⟨rb, 0, none⟩ (.slice (if c = k then some ⟨b, o, none⟩ else some ⟨b, o + k, none⟩) (n - k) (c - k))) rb n xs k := by
  have hc := hb.cut k c hk hnc
  by_cases e : c = k
  · rw [if_pos e] at hc ⊢
    exact ⟨b, o, _, rfl, by omega, hc⟩
  · rw [if_neg e] at hc ⊢
    exact ⟨b, o + k, _, rfl, by omega, hc⟩

end Go.Proofs.YtomkhipdcjnkhaaGreat.Mk

/- A reader's three calls, whole: what they answer, and what the reader is behind them. -/
namespace Go.Proofs.YtomkhipdcjnkhaaGreat.Mk
open Go.RowKit
set_option maxRecDepth 100000

theorem bi_same {w w' : World} {p : Option Addr} {n : Nat} {xs : List Int} (h : BI w p n xs) (hs : ∀ b o, p = some ⟨b, o, none⟩ → 0 < n → w'.heap[b]? = w.heap[b]?) : BI w' p n xs := by
  refine ⟨h.len, h.big, h.byt, fun hn => ?_⟩
  obtain ⟨b, o, rfl, hc⟩ := h.cells hn
  refine ⟨b, o, rfl, fun i hi => ?_⟩
  rw [World.cell?_of_block (w := w) (a := ⟨b, o + i, none⟩) (hs b o rfl hn)]
  exact hc i hi

/-- A block without a byte in it is none of those that hold the bytes. -/
theorem bi_ne {w : World} {b o n : Nat} {xs : List Int} (h : BI w (some ⟨b, o, none⟩) n xs) (hn : 0 < n) {g : Nat} {cs : Array Value} {t : TypeId} {mk : Nat × Nat} (hg : w.heap[g]? = some (.cells cs t mk)) (hno : ∀ (x : Int) (j : Nat), cs[j]? ≠ some (Value.int .u8 x)) : b ≠ g := by
  obtain ⟨b', o', e, hc⟩ := h.cells hn
  cases e
  rintro rfl
  have := hc 0 hn
  rw [cell_of_row w b (o + 0) cs t mk hg] at this
  exact hno _ _ this

theorem bi_block {w : World} {b o n : Nat} {xs : List Int} (h : BI w (some ⟨b, o, none⟩) n xs) (hn : 0 < n) : b < w.heap.size := by
  obtain ⟨b', o', e, hc⟩ := h.cells hn
  cases e
  exact lt_of_cell (hc 0 hn)

theorem rd_no (v : Value) (E : Int) (m : Bool) (hv : ∀ x, v ≠ Value.int .u8 x) : ∀ (x : Int) (j : Nat), (#[v, .int .i64 E, .bool m] : Array Value)[j]? ≠ some (Value.int .u8 x) := by
  intro x j
  rcases j with _ | _ | _ | j
  · simp; exact hv x
  · simp
  · simp
  · simp

theorem one_no (v : Value) (hv : ∀ x, v ≠ Value.int .u8 x) : ∀ (x : Int) (j : Nat), (#[v] : Array Value)[j]? ≠ some (Value.int .u8 x) := by
  intro x j
  rcases j with _ | j
  · simp; exact hv x
  · simp

theorem at_old {w : World} {k : Nat} {o u : Obj} (h : w.heap[k]? = some u) : (w.alloc o).heap[k]? = some u := by
  rw [Below.heap_alloc _ _ _ (Array.getElem?_eq_some_iff.1 h).1]; exact h

theorem at_new {w : World} {k : Nat} {o : Obj} (h : k = w.heap.size) : (w.alloc o).heap[k]? = some o := by
  subst h; exact heap_alloc_new w o

theorem cell_one {w : World} {g : Nat} {v : Value} {t : TypeId} (h : w.heap[g]? = some (.cells #[v] t (0, 0))) : w.cell? ⟨g, 0, none⟩ = some v := by
  rw [cell_of_row w g 0 _ t _ h]; simp

theorem fz_one {w : World} {g : Nat} {v : Value} {t : TypeId} (h : w.heap[g]? = some (.cells #[v] t (0, 0))) : w.frozen? ⟨g, 0, none⟩ = false := frozen_of_row w g 0 _ t h

/-- Three new blocks, and a fourth: what each holds. -/
theorem three (w : World) (a b c d : Value) (ta tb tc td : TypeId) :
    (((((w.alloc (.cells #[a] ta)).alloc (.cells #[b] tb)).alloc (.cells #[c] tc)).alloc (.cells #[d] td)).heap[w.heap.size]? = some (.cells #[a] ta (0, 0))) ∧
    (((((w.alloc (.cells #[a] ta)).alloc (.cells #[b] tb)).alloc (.cells #[c] tc)).alloc (.cells #[d] td)).heap[w.heap.size + 1]? = some (.cells #[b] tb (0, 0))) ∧
    (((((w.alloc (.cells #[a] ta)).alloc (.cells #[b] tb)).alloc (.cells #[c] tc)).alloc (.cells #[d] td)).heap[w.heap.size + 1 + 1]? = some (.cells #[c] tc (0, 0))) ∧
    Below w.heap.size w ((((w.alloc (.cells #[a] ta)).alloc (.cells #[b] tb)).alloc (.cells #[c] tc)).alloc (.cells #[d] td)) ∧
    Below w.heap.size w (((w.alloc (.cells #[a] ta)).alloc (.cells #[b] tb)).alloc (.cells #[c] tc)) := by
  refine ⟨at_old (at_old (at_old (at_new rfl))), at_old (at_old (at_new (by simp))), at_old (at_new (by simp)), ?_, ?_⟩
  · exact ((((Below.refl _ _).alloc (Nat.le_refl _) _).alloc (by simp) _).alloc (by simp; omega) _).alloc (by simp; omega) _
  · exact (((Below.refl _ _).alloc (Nat.le_refl _) _).alloc (by simp) _).alloc (by simp; omega) _

end Go.Proofs.YtomkhipdcjnkhaaGreat.Mk

/- A reader's Text and Skip, whole, and a reader that does not begin. -/
namespace Go.Proofs.YtomkhipdcjnkhaaGreat.Mk
open Go.RowKit
set_option maxRecDepth 100000

theorem two (w : World) (a b d : Value) (ta tb td : TypeId) :
    ((((w.alloc (.cells #[a] ta)).alloc (.cells #[b] tb)).alloc (.cells #[d] td)).heap[w.heap.size]? = some (.cells #[a] ta (0, 0))) ∧
    ((((w.alloc (.cells #[a] ta)).alloc (.cells #[b] tb)).alloc (.cells #[d] td)).heap[w.heap.size + 1]? = some (.cells #[b] tb (0, 0))) ∧
    Below w.heap.size w (((w.alloc (.cells #[a] ta)).alloc (.cells #[b] tb)).alloc (.cells #[d] td)) ∧
    Below w.heap.size w ((w.alloc (.cells #[a] ta)).alloc (.cells #[b] tb)) := by
  refine ⟨at_old (at_old (at_new rfl)), at_old (at_new (by simp)), ?_, ?_⟩
  · exact (((Below.refl _ _).alloc (Nat.le_refl _) _).alloc (by simp) _).alloc (by simp; omega) _
  · exact ((Below.refl _ _).alloc (Nat.le_refl _) _).alloc (by simp) _

end Go.Proofs.YtomkhipdcjnkhaaGreat.Mk

/- WordNobody: a reader that no call made reads nothing, whatever number it is asked for. -/
namespace Go.Proofs.YtomkhipdcjnkhaaGreat.Mk
open Go.RowKit
set_option maxRecDepth 100000

theorem two_bytes (w : World) : BI (w.alloc (.cells #[.int .u8 1, .int .u8 2] 5)) (some ⟨w.heap.size, 0, none⟩) 2 [1, 2] := by
  refine ⟨rfl, by omega, fun i => ?_, fun _ => ⟨_, _, rfl, fun i hi => ?_⟩⟩
  · rcases i with _ | _ | i <;> simp
  · rcases (by omega : i = 0 ∨ i = 1) with rfl | rfl <;> simp

end Go.Proofs.YtomkhipdcjnkhaaGreat.Mk

/- A reader's Text and Skip that begin: what they answer, and what the reader is behind them. -/
namespace Go.Proofs.YtomkhipdcjnkhaaGreat.Mk
open Go.RowKit
set_option maxRecDepth 100000

namespace Num
def tE (n : Nat) (k : Int) : Int := if k < 0 then 1 else if (n : Int) < k then 10 else 0
end Num

end Go.Proofs.YtomkhipdcjnkhaaGreat.Mk
