/- WordBack: a number that was put into bytes is read back as it was, and no other byte has turned, whatever the bytes, the place, the width and the number are. -/
import Derived.Test.YtnbknoibelajaaaMem
namespace Go.Proofs.Ytnbknoibelajaaa
open Go.RowKit

theorem BI.drawn {w : World} {p : Option Addr} {n : Nat} {xs : List Int} (h : BI w p n xs) (q : Nat) : BI (w.drewN q) p n xs := h.kept (below_drewN (Below.refl _ _) q)

theorem Own.room {B : Nat} {w : World} {g n cap : Nat} {xs : List Int} (h : Own B w g n cap xs) : n ≤ cap ∧ cap ≤ 9223372036854775807 := by
  rcases h.2 with ⟨h', _⟩ | ⟨g', cap', cur, h', _, _, h1, h2, _⟩
  · simp at h'
  · simp only [Value.slice.injEq, Option.some.injEq, Addr.mk.injEq, and_true, true_and] at h'
    obtain ⟨rfl, rfl⟩ := h'
    unfold maxLen at h2
    exact ⟨h1, h2⟩

theorem getD_take (xs : List Int) (m i : Nat) (h : i < m) : (xs.take m).getD i 0 = xs.getD i 0 := by
  simp [List.getD_eq_getElem?_getD, h]

theorem getD_drop' (xs : List Int) (m i : Nat) : (xs.drop m).getD i 0 = xs.getD (m + i) 0 := by
  simp [List.getD_eq_getElem?_getD, List.getElem?_drop]

theorem byt_take {xs : List Int} (h : Num.Byt xs) (m : Nat) : Num.Byt (xs.take m) := by
  intro i
  by_cases hi : i < m
  · rw [getD_take xs m i hi]; exact h i
  · rw [List.getD_eq_getElem?_getD, List.getElem?_eq_none (by simp; omega)]; simp

theorem byt_drop {xs : List Int} (h : Num.Byt xs) (m : Nat) : Num.Byt (xs.drop m) := by
  intro i
  rw [getD_drop']; exact h _

theorem BI.take {w : World} {p : Option Addr} {n : Nat} {xs : List Int} (h : BI w p n xs) (m : Nat) (hm : m ≤ n) : BI w p m (xs.take m) := by
  refine ⟨by rw [List.length_take, h.len]; omega, by have := h.big; omega, byt_take h.byt m, fun h0 => ?_⟩
  obtain ⟨b, o, rfl, hc⟩ := h.cells (by omega)
  exact ⟨b, o, rfl, fun i hi => by rw [getD_take xs m i hi]; exact hc i (by omega)⟩

theorem BI.drop {w : World} {b o : Nat} {n : Nat} {xs : List Int} (h : BI w (some ⟨b, o, none⟩) n xs) (m : Nat) (hm : m ≤ n) : BI w (some ⟨b, o + m, none⟩) (n - m) (xs.drop m) := by
  refine ⟨by rw [List.length_drop, h.len], by have := h.big; omega, byt_drop h.byt m, fun h0 => ?_⟩
  obtain ⟨b', o', e, hc⟩ := h.cells (by omega)
  cases e
  exact ⟨b, o + m, rfl, fun i hi => by rw [getD_drop', Nat.add_assoc]; exact hc _ (by omega)⟩

theorem BI.cut {w : World} {b o : Nat} {n : Nat} {xs : List Int} (h : BI w (some ⟨b, o, none⟩) n xs) (m c : Nat) (hm : m ≤ n) (hc : n ≤ c) : BI w (if c = m then some ⟨b, o, none⟩ else some ⟨b, o + m, none⟩) (n - m) (xs.drop m) := by
  have hd := h.drop m hm
  by_cases e : c = m
  · rw [if_pos e]
    exact ⟨hd.len, hd.big, hd.byt, fun h0 => by omega⟩
  · rw [if_neg e]; exact hd

theorem ext_getD {xs ys : List Int} (hl : xs.length = ys.length) (h : ∀ i, i < xs.length → xs.getD i 0 = ys.getD i 0) : xs = ys := by
  apply List.ext_getElem hl
  intro i h1 h2
  have := h i h1
  simpa [List.getD_eq_getElem?_getD, List.getElem?_eq_getElem h1, List.getElem?_eq_getElem h2] using this

theorem put_take (xs : List Int) (a k : Nat) (v : Int) : (Num.putTo xs a v k).take a = xs.take a := by
  apply ext_getD (by simp [Num.putTo_length])
  intro i hi
  have : i < a := by simp at hi; omega
  rw [getD_take _ _ _ this, getD_take _ _ _ this, Num.putTo_out _ _ _ _ _ (by omega)]

theorem put_drop (xs : List Int) (a k : Nat) (v : Int) : (Num.putTo xs a v k).drop (a + k) = xs.drop (a + k) := by
  apply ext_getD (by simp [Num.putTo_length])
  intro i hi
  rw [getD_drop', getD_drop', Num.putTo_out _ _ _ _ _ (by omega)]

theorem equal_same (p q : Option Addr) (n c m d : Nat) (xs : List Int) (w : World) (h : BI w p n xs) (k : BI w q m xs) :
    Calls Try.prog 14 #[.slice p n c, .slice q m d] w fun e w' => e = .returned (.bool true) ∧ w' = w :=
  (equal_any p q n c m d xs xs w h k).mono fun e w' ⟨he, hw⟩ => ⟨by rw [he]; simp, hw⟩

set_option maxHeartbeats 400000 in
theorem back_arg (p : Option Addr) (n c : Nat) (at_ wd v : Int) (w : World) (hn : n ≤ 140737488355328) (h : wd < 1 ∨ 4 < wd ∨ at_ < 0 ∨ v < 0 ∨ (256 : Int) ^ wd.toNat ≤ v) :
    Calls Try.prog 6 #[.slice p n c, .int .i64 at_, .int .i64 wd, .int .i64 v] w fun e w' => e = .returned (.bool true) ∧ Below w.heap.size w w' := by
  go_enter Try.func6, Try.ntmps6
  go_wp2_with (first | (go_at_call 12; refine (put_arg _ _ _ _ _ _ _ hn h).mono ?_; rintro e w' ⟨rfl, rfl⟩) | (go_at_call 13; refine (rput_arg _ _ _ _ _ _ _ h).mono ?_; rintro e w' ⟨rfl, rfl⟩))
  go_ret
  exact ⟨rfl, Below.refl _ _⟩

set_option maxHeartbeats 400000 in
theorem back_past (p : Option Addr) (n c : Nat) (at_ v : Int) (k : Nat) (w : World) (hn : n ≤ 140737488355328) (h1 : 1 ≤ k) (h2 : k ≤ 4) (h3 : 0 ≤ at_) (hv0 : 0 ≤ v) (hv1 : v < 256 ^ k) (h4 : (n : Int) - k < at_) :
    Calls Try.prog 6 #[.slice p n c, .int .i64 at_, .int .i64 k, .int .i64 v] w fun e w' => e = .returned (.bool true) ∧ Below w.heap.size w w' := by
  have HV : Hid (v < 256 ^ k) := hv1
  clear hv1
  go_enter Try.func6, Try.ntmps6
  go_wp2_with (first | (go_at_call 12; refine (put_past _ _ _ _ _ _ _ hn h1 h2 h3 hv0 HV.out h4).mono ?_; rintro e w' ⟨rfl, rfl⟩) | (go_at_call 13; refine (rput_past _ _ _ _ _ _ _ hn h1 h2 h3 hv0 HV.out h4).mono ?_; rintro e w' ⟨rfl, rfl⟩))
  go_ret
  exact ⟨rfl, Below.refl _ _⟩

set_option maxHeartbeats 800000 in
theorem back_ok (b o n c : Nat) (xs : List Int) (a k : Nat) (v : Int) (w : World) (h : BI w (some ⟨b, o, none⟩) n xs) (hnc : n ≤ c) (h1 : 1 ≤ k) (h2 : k ≤ 4) (hv0 : 0 ≤ v) (hv1 : v < 256 ^ k) (h4 : a + k ≤ n) :
    Calls Try.prog 6 #[.slice (some ⟨b, o, none⟩) n c, .int .i64 a, .int .i64 k, .int .i64 v] w fun e w' => e = .returned (.bool true) ∧ Below w.heap.size w w' := by
  have HV : Hid (v < 256 ^ k) := hv1
  clear hv1
  have hn := h.big
  go_enter Try.func6, Try.ntmps6
  go_wp2_with (first | (go_at_call 12; refine (put_ok _ _ _ _ _ _ _ _ h h1 h2 hv0 HV.out h4).mono ?_; rintro e w1 ⟨g, cap, rfl, ho1, hb1⟩) | (go_at_call 13; refine (rput_ok _ _ _ _ _ _ _ _ (h.kept hb1) h1 h2 hv0 HV.out h4).mono ?_; rintro e w2 ⟨g2, cap2, rfl, ho2, hb2⟩) | (go_at_call 10; refine (get_ok g 0 n cap (Num.putTo xs a v k) a k w2 h1 h2 hn h4 (Num.putTo_byt h.byt _ _ _) (fun i hi => by rw [Nat.zero_add]; exact (ho1.kept hb2).cell i hi)).mono ?_; rw [Num.num_put xs a v k (by rw [h.len]; exact h4) hv0 HV.out]; rintro e w3 ⟨rfl, hw3⟩; have hw3' := hw3.symm; subst hw3'; clear hw3))
  have hx1 := (ho1.kept hb2).bi hn (Num.putTo_byt h.byt a v k)
  have hx2 := (h.kept hb1).kept hb2
  have hnc1 : n ≤ cap := (ho1.room).1
  have hcm : cap ≤ 9223372036854775807 := (ho1.room).2
  have hA := hx1.take a (by omega)
  rw [put_take xs a k v] at hA
  have hB := hx2.take a (by omega)
  have hC := hx1.cut (a + k) cap h4 hnc1
  rw [put_drop xs a k v, Nat.zero_add] at hC
  have hD := hx2.cut (a + k) c h4 hnc
  have hbel : Below w.heap.size w w2 := hb1.trans (hb2.mono hb1.size)
  clear ho1 ho2 h hx1 hx2 hb1 hb2
  go_quiet (first | (go_at_call_of 14 a; exact Calls.quiet_of_same (equal_same _ _ _ _ _ _ _ _ (hA.drawn _) (hB.drawn _))) | (go_at_call 14; exact Calls.quiet_of_same (equal_same _ _ _ _ _ _ _ _ (hC.drawn _) (hD.drawn _))))
  go_wp2
  all_goals
    go_ret
    exact ⟨rfl, below_drewN hbel _⟩

theorem back_walk (p : Option Addr) (n c : Nat) (xs : List Int) (at_ wd v : Int) (w : World) (h : BI w p n xs) (hnc : n ≤ c) :
    Calls Try.prog 6 #[.slice p n c, .int .i64 at_, .int .i64 wd, .int .i64 v] w fun e w' => e = .returned (.bool true) ∧ Below w.heap.size w w' := by
  by_cases h1 : wd < 1 ∨ 4 < wd ∨ at_ < 0 ∨ v < 0 ∨ (256 : Int) ^ wd.toNat ≤ v
  · exact back_arg p n c at_ wd v w h.big h1
  · obtain ⟨k, rfl⟩ := Int.eq_ofNat_of_zero_le (show 0 ≤ wd by omega)
    rw [Int.toNat_natCast] at h1
    by_cases h4 : (n : Int) - k < at_
    · exact back_past p n c at_ v k w h.big (by omega) (by omega) (by omega) (by omega) (by omega) h4
    · obtain ⟨a, rfl⟩ := Int.eq_ofNat_of_zero_le (show 0 ≤ at_ by omega)
      obtain ⟨b, o, rfl, _⟩ := h.cells (by omega)
      exact back_ok b o n c xs a k v w h hnc (by omega) (by omega) (by omega) (by omega) (by omega)
end Go.Proofs.Ytnbknoibelajaaa
