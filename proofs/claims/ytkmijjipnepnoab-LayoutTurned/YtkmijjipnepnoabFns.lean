/- What word's and the document's Get, Put and Sum answer, each said once for all arguments. -/
import Derived.Test.YtkmijjipnepnoabBack
namespace Go.Proofs.Ytkmijjipnepnoab
open Go.RowKit

namespace Num
def gE (n : Nat) (at_ wd : Int) : Int := if wd < 1 ∨ 4 < wd ∨ at_ < 0 then 1 else if (n : Int) - wd < at_ then 10 else 0
def gN (n : Nat) (xs : List Int) (at_ wd : Int) : Int := if gE n at_ wd = 0 then numD xs at_.toNat wd.toNat else 0
def pE (n : Nat) (at_ wd v : Int) : Int := if wd < 1 ∨ 4 < wd ∨ at_ < 0 ∨ v < 0 ∨ (256 : Int) ^ wd.toNat ≤ v then 1 else if (n : Int) - wd < at_ then 10 else 0
def lo (xs : List Int) : Nat → Int
  | 0 => 1
  | k + 1 => (lo xs k + xs.getD k 0) % 65521
def hi (xs : List Int) : Nat → Int
  | 0 => 0
  | k + 1 => (hi xs k + lo xs (k + 1)) % 65521
def sum (xs : List Int) (n : Nat) : Int := hi xs n * 65536 + lo xs n

theorem lo_bd (xs : List Int) (k : Nat) : 0 ≤ lo xs k ∧ lo xs k < 65521 := by
  cases k with
  | zero => simp [lo]
  | succ k => simp only [lo]; omega
theorem hi_bd (xs : List Int) (k : Nat) : 0 ≤ hi xs k ∧ hi xs k < 65521 := by
  cases k with
  | zero => simp [hi]
  | succ k => simp only [hi]; omega
theorem sum_bd (xs : List Int) (n : Nat) : 0 ≤ sum xs n ∧ sum xs n < 4294967296 := by
  have h1 := lo_bd xs n
  have h2 := hi_bd xs n
  unfold sum
  omega
end Num

theorem get_any (p : Option Addr) (n c : Nat) (xs : List Int) (at_ wd : Int) (w : World) (h : BI w p n xs) :
    Calls Try.prog 69 #[.slice p n c, .int .i64 at_, .int .i64 wd] w fun e w' => e = .returned (.tuple #[.int .i64 (Num.gN n xs at_ wd), .int .i64 (Num.gE n at_ wd)]) ∧ w' = w := by
  by_cases h1 : wd < 1 ∨ 4 < wd ∨ at_ < 0
  · have e1 : Num.gE n at_ wd = 1 := by unfold Num.gE; rw [if_pos h1]
    have e2 : Num.gN n xs at_ wd = 0 := by unfold Num.gN; rw [e1]; rfl
    rw [e1, e2]
    exact get_arg p n c at_ wd w h1
  · by_cases h2 : (n : Int) - wd < at_
    · have e1 : Num.gE n at_ wd = 10 := by unfold Num.gE; rw [if_neg h1, if_pos h2]
      have e2 : Num.gN n xs at_ wd = 0 := by unfold Num.gN; rw [e1]; rfl
      rw [e1, e2]
      exact get_past p n c at_ wd w (by omega) (by omega) (by omega) h.big h2
    · have e1 : Num.gE n at_ wd = 0 := by unfold Num.gE; rw [if_neg h1, if_neg h2]
      have e2 : Num.gN n xs at_ wd = Num.numD xs at_.toNat wd.toNat := by unfold Num.gN; rw [e1]; rfl
      rw [e1, e2]
      obtain ⟨a, rfl⟩ := Int.eq_ofNat_of_zero_le (show 0 ≤ at_ by omega)
      obtain ⟨k, rfl⟩ := Int.eq_ofNat_of_zero_le (show 0 ≤ wd by omega)
      obtain ⟨b, o, rfl, hc⟩ := h.cells (by omega)
      exact get_ok b o n c xs a k w (by omega) (by omega) h.big (by omega) h.byt hc

theorem put_err (p : Option Addr) (n c : Nat) (at_ wd v : Int) (w : World) (hn : n ≤ 140737488355328) (h : Num.pE n at_ wd v ≠ 0) :
    Calls Try.prog 64 #[.slice p n c, .int .i64 at_, .int .i64 wd, .int .i64 v] w fun e w' => e = .returned (.tuple #[.slice none 0 0, .int .i64 (Num.pE n at_ wd v)]) ∧ w' = w := by
  by_cases h1 : wd < 1 ∨ 4 < wd ∨ at_ < 0 ∨ v < 0 ∨ (256 : Int) ^ wd.toNat ≤ v
  · have e1 : Num.pE n at_ wd v = 1 := by unfold Num.pE; rw [if_pos h1]
    rw [e1]
    exact put_arg p n c at_ wd v w hn h1
  · by_cases h2 : (n : Int) - wd < at_
    · have e1 : Num.pE n at_ wd v = 10 := by unfold Num.pE; rw [if_neg h1, if_pos h2]
      rw [e1]
      obtain ⟨k, rfl⟩ := Int.eq_ofNat_of_zero_le (show 0 ≤ wd by omega)
      rw [Int.toNat_natCast] at h1
      exact put_past p n c at_ v k w hn (by omega) (by omega) (by omega) (by omega) (by omega) h2
    · exact absurd (by unfold Num.pE; rw [if_neg h1, if_neg h2]) h

theorem rput_err (p : Option Addr) (n c : Nat) (at_ wd v : Int) (w : World) (hn : n ≤ 140737488355328) (h : Num.pE n at_ wd v ≠ 0) :
    Calls Try.prog 66 #[.slice p n c, .int .i64 at_, .int .i64 wd, .int .i64 v] w fun e w' => e = .returned (.tuple #[.slice none 0 0, .int .i64 (Num.pE n at_ wd v)]) ∧ w' = w := by
  by_cases h1 : wd < 1 ∨ 4 < wd ∨ at_ < 0 ∨ v < 0 ∨ (256 : Int) ^ wd.toNat ≤ v
  · have e1 : Num.pE n at_ wd v = 1 := by unfold Num.pE; rw [if_pos h1]
    rw [e1]
    exact rput_arg p n c at_ wd v w h1
  · by_cases h2 : (n : Int) - wd < at_
    · have e1 : Num.pE n at_ wd v = 10 := by unfold Num.pE; rw [if_neg h1, if_pos h2]
      rw [e1]
      obtain ⟨k, rfl⟩ := Int.eq_ofNat_of_zero_le (show 0 ≤ wd by omega)
      rw [Int.toNat_natCast] at h1
      exact rput_past p n c at_ v k w hn (by omega) (by omega) (by omega) (by omega) (by omega) h2
    · exact absurd (by unfold Num.pE; rw [if_neg h1, if_neg h2]) h

theorem pE_zero {n : Nat} {at_ wd v : Int} (h : Num.pE n at_ wd v = 0) : 1 ≤ wd ∧ wd ≤ 4 ∧ 0 ≤ at_ ∧ 0 ≤ v ∧ v < 256 ^ wd.toNat ∧ at_ + wd ≤ n := by
  unfold Num.pE at h
  split at h
  · omega
  · split at h <;> omega

theorem put_yes (p : Option Addr) (n c : Nat) (xs : List Int) (at_ wd v : Int) (w : World) (h : BI w p n xs) (h0 : Num.pE n at_ wd v = 0) :
    Calls Try.prog 64 #[.slice p n c, .int .i64 at_, .int .i64 wd, .int .i64 v] w fun e w' => ∃ g cap, e = .returned (.tuple #[.slice (some ⟨g, 0, none⟩) n cap, .int .i64 0]) ∧ Own w.heap.size w' g n cap (Num.putTo xs at_.toNat v wd.toNat) ∧ Below w.heap.size w w' := by
  obtain ⟨h1, h2, h3, h4, h5, h6⟩ := pE_zero h0
  clear h0
  obtain ⟨a, rfl⟩ := Int.eq_ofNat_of_zero_le h3
  obtain ⟨k, rfl⟩ := Int.eq_ofNat_of_zero_le (show 0 ≤ wd by omega)
  exact put_ok p n c xs a k v w h (by omega) (by omega) h4 h5 (by omega)

theorem rput_yes (p : Option Addr) (n c : Nat) (xs : List Int) (at_ wd v : Int) (w : World) (h : BI w p n xs) (h0 : Num.pE n at_ wd v = 0) :
    Calls Try.prog 66 #[.slice p n c, .int .i64 at_, .int .i64 wd, .int .i64 v] w fun e w' => ∃ g cap, e = .returned (.tuple #[.slice (some ⟨g, 0, none⟩) n cap, .int .i64 0]) ∧ Own w.heap.size w' g n cap (Num.putTo xs at_.toNat v wd.toNat) ∧ Below w.heap.size w w' := by
  obtain ⟨h1, h2, h3, h4, h5, h6⟩ := pE_zero h0
  clear h0
  obtain ⟨a, rfl⟩ := Int.eq_ofNat_of_zero_le h3
  obtain ⟨k, rfl⟩ := Int.eq_ofNat_of_zero_le (show 0 ≤ wd by omega)
  obtain ⟨b, o, rfl, _⟩ := h.cells (by omega)
  exact rput_ok _ n c xs a k v w h (by omega) (by omega) h4 h5 (by omega)

set_option maxHeartbeats 400000 in
theorem sum_none (p : Option Addr) (c : Nat) (w : World) :
    Calls Try.prog 65 #[.slice p 0 c] w fun e w' => e = .returned (.int .i64 1) ∧ w' = w := by
  go_enter Try.func65, Try.ntmps65
  go_wp2
  refine wp_loop_rounds 1 ?_
  rw [rounds_succ]
  go_wp2
  go_ret
  exact ⟨rfl, rfl⟩

set_option maxHeartbeats 400000 in
theorem rsum_none (p : Option Addr) (c : Nat) (w : World) :
    Calls Try.prog 67 #[.slice p 0 c] w fun e w' => e = .returned (.int .i64 1) ∧ w' = w := by
  go_enter Try.func67, Try.ntmps67
  go_wp2
  refine wp_loop_rounds 1 ?_
  rw [rounds_succ]
  go_wp2
  go_ret
  exact ⟨rfl, rfl⟩

set_option maxHeartbeats 400000 in
theorem sum_some (b o n c : Nat) (xs : List Int) (w : World) (hn : n ≤ 140737488355328) (hx : Num.Byt xs) (hc : ∀ i, i < n → w.cell? ⟨b, o + i, none⟩ = some (.int .u8 (xs.getD i 0))) :
    Calls Try.prog 65 #[.slice (some ⟨b, o, none⟩) n c] w fun e w' => e = .returned (.int .i64 (Num.sum xs n)) ∧ w' = w := by
  go_enter Try.func65, Try.ntmps65
  go_wp2
  go_loop [3, 4, 9] (fun l h i => ∃ j : Nat, j ≤ n ∧ i = .int .i64 j ∧ l = .int .i64 (Num.lo xs j) ∧ h = .int .i64 (Num.hi xs j)) (fun _ _ i => n - (intOf i).toNat)
  case atStart => exact ⟨0, Nat.zero_le _, rfl, rfl, rfl⟩
  case round =>
    obtain ⟨j, hj, rfl, rfl, rfl⟩ := hrel
    have hl := Num.lo_bd xs j
    have hh := Num.hi_bd xs j
    by_cases hlt : j < n
    · have hcj := hc j hlt
      have hxb := hx j
      clear hc
      have HL : Hid (Num.lo xs (j + 1) = (Num.lo xs j + xs.getD j 0) % 65521) := rfl
      have HH : Hid (Num.hi xs (j + 1) = (Num.hi xs j + (Num.lo xs j + xs.getD j 0) % 65521) % 65521) := rfl
      generalize Num.lo xs j = l at *
      generalize Num.hi xs j = h at *
      generalize xs.getD j 0 = x at *
      go_wp2
      go_round
      case rel => exact ⟨j + 1, by omega, by go_num, by rw [HL.out], by rw [HH.out]⟩
      case measure => simp [intOf]; omega
    · obtain rfl : j = n := by omega
      go_wp2
      go_ret
      exact ⟨rfl, rfl⟩

set_option maxHeartbeats 400000 in
theorem rsum_some (b o n c : Nat) (xs : List Int) (w : World) (hn : n ≤ 140737488355328) (hx : Num.Byt xs) (hc : ∀ i, i < n → w.cell? ⟨b, o + i, none⟩ = some (.int .u8 (xs.getD i 0))) :
    Calls Try.prog 67 #[.slice (some ⟨b, o, none⟩) n c] w fun e w' => e = .returned (.int .i64 (Num.sum xs n)) ∧ w' = w := by
  go_enter Try.func67, Try.ntmps67
  go_wp2
  go_loop [3, 4, 9] (fun l h i => ∃ j : Nat, j ≤ n ∧ i = .int .i64 j ∧ l = .int .i64 (Num.lo xs j) ∧ h = .int .i64 (Num.hi xs j)) (fun _ _ i => n - (intOf i).toNat)
  case atStart => exact ⟨0, Nat.zero_le _, rfl, rfl, rfl⟩
  case round =>
    obtain ⟨j, hj, rfl, rfl, rfl⟩ := hrel
    have hl := Num.lo_bd xs j
    have hh := Num.hi_bd xs j
    by_cases hlt : j < n
    · have hcj := hc j hlt
      have hxb := hx j
      clear hc
      have HL : Hid (Num.lo xs (j + 1) = (Num.lo xs j + xs.getD j 0) % 65521) := rfl
      have HH : Hid (Num.hi xs (j + 1) = (Num.hi xs j + (Num.lo xs j + xs.getD j 0) % 65521) % 65521) := rfl
      generalize Num.lo xs j = l at *
      generalize Num.hi xs j = h at *
      generalize xs.getD j 0 = x at *
      go_wp2
      go_round
      case rel => exact ⟨j + 1, by omega, by go_num, by rw [HL.out], by rw [HH.out]⟩
      case measure => simp [intOf]; omega
    · obtain rfl : j = n := by omega
      go_wp2
      go_ret
      exact ⟨rfl, rfl⟩

theorem sum_any (p : Option Addr) (n c : Nat) (xs : List Int) (w : World) (h : BI w p n xs) :
    Calls Try.prog 65 #[.slice p n c] w fun e w' => e = .returned (.int .i64 (Num.sum xs n)) ∧ w' = w := by
  rcases Nat.eq_zero_or_pos n with hn | hn
  · subst hn
    exact sum_none p c w
  · obtain ⟨b, o, rfl, hc⟩ := h.cells hn
    exact sum_some b o n c xs w h.big h.byt hc

theorem rsum_any (p : Option Addr) (n c : Nat) (xs : List Int) (w : World) (h : BI w p n xs) :
    Calls Try.prog 67 #[.slice p n c] w fun e w' => e = .returned (.int .i64 (Num.sum xs n)) ∧ w' = w := by
  rcases Nat.eq_zero_or_pos n with hn | hn
  · subst hn
    exact rsum_none p c w
  · obtain ⟨b, o, rfl, hc⟩ := h.cells hn
    exact rsum_some b o n c xs w h.big h.byt hc

theorem sum_take (xs : List Int) (m : Nat) : ∀ k, k ≤ m → Num.lo (xs.take m) k = Num.lo xs k ∧ Num.hi (xs.take m) k = Num.hi xs k := by
  intro k
  induction k with
  | zero => intro _; exact ⟨rfl, rfl⟩
  | succ k ih =>
    intro hk
    obtain ⟨i1, i2⟩ := ih (by omega)
    have e : Num.lo (xs.take m) (k + 1) = Num.lo xs (k + 1) := by
      show (Num.lo (xs.take m) k + (xs.take m).getD k 0) % 65521 = (Num.lo xs k + xs.getD k 0) % 65521
      rw [i1, getD_take xs m k (by omega)]
    refine ⟨e, ?_⟩
    show (Num.hi (xs.take m) k + Num.lo (xs.take m) (k + 1)) % 65521 = (Num.hi xs k + Num.lo xs (k + 1)) % 65521
    rw [i2, e]

theorem sum_cut (xs : List Int) (m : Nat) : Num.sum (xs.take m) m = Num.sum xs m := by
  obtain ⟨h1, h2⟩ := sum_take xs m m (Nat.le_refl _)
  unfold Num.sum
  rw [h1, h2]

/-- Seal: refused below four bytes. -/
theorem seal_past (p : Option Addr) (n c : Nat) (w : World) (hn : n < 4) :
    Calls Try.prog 43 #[.slice p n c] w fun e w' => e = .returned (.tuple #[.slice none 0 0, .int .i64 10]) ∧ w' = w := by
  go_enter Try.func43, Try.ntmps43
  go_wp2
  go_ret2
  exact ⟨rfl, rfl⟩

theorem rseal_past (p : Option Addr) (n c : Nat) (w : World) (hn : n < 4) :
    Calls Try.prog 46 #[.slice p n c] w fun e w' => e = .returned (.tuple #[.slice none 0 0, .int .i64 10]) ∧ w' = w := by
  go_enter Try.func46, Try.ntmps46
  go_wp2
  go_ret2
  exact ⟨rfl, rfl⟩

theorem sealed_past (p : Option Addr) (n c : Nat) (w : World) (hn : n < 4) :
    Calls Try.prog 48 #[.slice p n c] w fun e w' => e = .returned (.bool false) ∧ w' = w := by
  go_enter Try.func48, Try.ntmps48
  go_wp2
  go_ret
  exact ⟨rfl, rfl⟩

theorem pE_seal (n : Nat) (s : Int) (hn : 4 ≤ n) (h0 : 0 ≤ s) (h1 : s < 4294967296) : Num.pE n ((n : Int) - 4) 4 s = 0 := by
  unfold Num.pE
  rw [if_neg, if_neg (by omega)]
  have : (256 : Int) ^ (4 : Int).toNat = 4294967296 := by decide
  rw [this]
  omega

theorem gE_seal (n : Nat) (hn : 4 ≤ n) : Num.gE n ((n : Int) - 4) 4 = 0 := by
  unfold Num.gE
  rw [if_neg (by omega), if_neg (by omega)]

theorem gN_seal (n : Nat) (xs : List Int) (hn : 4 ≤ n) : Num.gN n xs ((n : Int) - 4) 4 = Num.numD xs (n - 4) 4 := by
  unfold Num.gN
  rw [gE_seal n hn, show ((n : Int) - 4).toNat = n - 4 from by omega]
  rfl

set_option maxHeartbeats 400000 in
theorem seal_ok (p : Option Addr) (n c : Nat) (xs : List Int) (w : World) (h : BI w p n xs) (hnc : n ≤ c) (hn : 4 ≤ n) :
    Calls Try.prog 43 #[.slice p n c] w fun e w' => ∃ g cap, e = .returned (.tuple #[.slice (some ⟨g, 0, none⟩) n cap, .int .i64 0]) ∧ Own w.heap.size w' g n cap (Num.putTo xs (n - 4) (Num.sum xs (n - 4)) 4) ∧ Below w.heap.size w w' := by
  have hbig := h.big
  have ht := h.take (n - 4) (by omega)
  have hs := Num.sum_bd xs (n - 4)
  have HS := sum_cut xs (n - 4)
  have HP : Hid (Num.pE n ((n : Int) - 4) 4 (Num.sum xs (n - 4)) = 0) := pE_seal n _ hn hs.1 hs.2
  have e1 : ((n : Int) - 4).toNat = n - 4 := by omega
  have hcon := put_yes p n c xs ((n : Int) - 4) 4 (Num.sum xs (n - 4)) w h HP.out
  rw [e1] at hcon
  have HC := (show Hid _ from hcon)
  have hsu := sum_any p (n - 4) c (xs.take (n - 4)) w ht
  rw [HS] at hsu
  have HU := (show Hid _ from hsu)
  clear hcon hsu e1 HS
  generalize Num.sum xs (n - 4) = S at *
  go_enter Try.func43, Try.ntmps43
  go_wp2_with (first | (go_at_call 65; refine Calls.mono HU.out ?_; rintro e w' ⟨rfl, hw⟩; have hw' := hw.symm; subst hw'; clear hw) | (go_at_call 64; refine Calls.mono HC.out ?_; rintro e w1 ⟨g, cap, rfl, ho, hb⟩))
  go_ret2
  exact ⟨g, cap, rfl, ho, hb⟩

set_option maxHeartbeats 400000 in
theorem rseal_ok (p : Option Addr) (n c : Nat) (xs : List Int) (w : World) (h : BI w p n xs) (hnc : n ≤ c) (hn : 4 ≤ n) :
    Calls Try.prog 46 #[.slice p n c] w fun e w' => ∃ g cap, e = .returned (.tuple #[.slice (some ⟨g, 0, none⟩) n cap, .int .i64 0]) ∧ Own w.heap.size w' g n cap (Num.putTo xs (n - 4) (Num.sum xs (n - 4)) 4) ∧ Below w.heap.size w w' := by
  have hbig := h.big
  have ht := h.take (n - 4) (by omega)
  have hs := Num.sum_bd xs (n - 4)
  have HS := sum_cut xs (n - 4)
  have HP : Hid (Num.pE n ((n : Int) - 4) 4 (Num.sum xs (n - 4)) = 0) := pE_seal n _ hn hs.1 hs.2
  have e1 : ((n : Int) - 4).toNat = n - 4 := by omega
  have hcon := rput_yes p n c xs ((n : Int) - 4) 4 (Num.sum xs (n - 4)) w h HP.out
  rw [e1] at hcon
  have HC := (show Hid _ from hcon)
  have hsu := rsum_any p (n - 4) c (xs.take (n - 4)) w ht
  rw [HS] at hsu
  have HU := (show Hid _ from hsu)
  clear hcon hsu e1 HS
  generalize Num.sum xs (n - 4) = S at *
  go_enter Try.func46, Try.ntmps46
  go_wp2_with (first | (go_at_call 67; refine Calls.mono HU.out ?_; rintro e w' ⟨rfl, hw⟩; have hw' := hw.symm; subst hw'; clear hw) | (go_at_call 66; refine Calls.mono HC.out ?_; rintro e w1 ⟨g, cap, rfl, ho, hb⟩))
  go_ret2
  exact ⟨g, cap, rfl, ho, hb⟩

set_option maxHeartbeats 400000 in
theorem sealed_ok (p : Option Addr) (n c : Nat) (xs : List Int) (w : World) (h : BI w p n xs) (hnc : n ≤ c) (hn : 4 ≤ n) :
    Calls Try.prog 48 #[.slice p n c] w fun e w' => e = .returned (.bool (Num.numD xs (n - 4) 4 == Num.sum xs (n - 4))) ∧ w' = w := by
  have hbig := h.big
  have ht := h.take (n - 4) (by omega)
  have hcon := get_any p n c xs ((n : Int) - 4) 4 w h
  rw [gN_seal n xs hn, gE_seal n hn] at hcon
  have HC := (show Hid _ from hcon)
  have hsu := sum_any p (n - 4) c (xs.take (n - 4)) w ht
  rw [sum_cut xs (n - 4)] at hsu
  have HU := (show Hid _ from hsu)
  clear hcon hsu
  generalize Num.sum xs (n - 4) = S at *
  generalize Num.numD xs (n - 4) 4 = N at *
  go_enter Try.func48, Try.ntmps48
  go_wp2_with (first | (go_at_call 65; refine Calls.mono HU.out ?_; rintro e w' ⟨rfl, hw⟩; have hw' := hw.symm; subst hw'; clear hw) | (go_at_call 69; refine Calls.mono HC.out ?_; rintro e w' ⟨rfl, hw⟩; have hw' := hw.symm; subst hw'; clear hw))
  go_ret
  exact ⟨rfl, rfl⟩

end Go.Proofs.Ytkmijjipnepnoab
