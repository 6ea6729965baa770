/- The document's stretches: their lengths, and the longest one. -/
import Derived.Test.YtppipcjchlnolaaLongest
namespace Go.Proofs.Ytppipcjchlnolaa
open Go.RowKit
set_option linter.unusedVariables false

namespace Bit
theorem rr_on {xs : List Int} {i : Nat} (h : on xs i = true) : rr xs (i + 1) = (sts xs i, 0) := by
  simp only [rr, sts]
  rw [if_pos h]
theorem rr_off {xs : List Int} {i : Nat} (h : on xs i = false) : rr xs (i + 1) = ((rr xs i).1, (rr xs i).2 + 1) := by
  simp only [rr]
  rw [if_neg (by rw [h]; decide)]
theorem sts_on {xs : List Int} {i : Nat} (h : on xs i = true) : sts xs (i + 1) = sts xs i := by
  conv => lhs; unfold sts
  rw [rr_on h]
  rfl
theorem best_off {xs : List Int} {i : Nat} (h : on xs i = false) :
    best (sts xs (i + 1)) = if (best (sts xs i)).2 < ((rr xs i).2 : Int) + 1 then ((i : Int) - (((rr xs i).2 : Int) + 1) + 1, ((rr xs i).2 : Int) + 1) else best (sts xs i) := by
  have e1 : sts xs (i + 1) = (rr xs i).1 ++ [(((i + 1 : Nat) : Int) - (((rr xs i).2 + 1 : Nat) : Int), (((rr xs i).2 + 1 : Nat) : Int))] := by
    conv => lhs; unfold sts
    rw [rr_off h]
    simp
  rw [e1, best_snoc]
  unfold sts
  generalize (rr xs i).1 = out
  generalize (rr xs i).2 = k
  by_cases h0 : k = 0
  · subst h0
    simp only [if_true]
    by_cases hb : (best out).2 < 1
    · rw [if_pos (by simpa using hb), if_pos (by simpa using hb)]
      simp
    · rw [if_neg (by simpa using hb), if_neg (by simpa using hb)]
  · rw [if_neg h0, best_snoc]
    by_cases h1 : (best out).2 < (k : Int)
    · rw [if_pos h1]
      rw [if_pos (show (best out).2 < ((k + 1 : Nat) : Int) by omega), if_pos (show (k : Int) < (k : Int) + 1 by omega)]
      simp
      omega
    · rw [if_neg h1]
      by_cases h2 : (best out).2 < (k : Int) + 1
      · rw [if_pos (show (best out).2 < ((k + 1 : Nat) : Int) by omega), if_pos h2]
        simp
        omega
      · rw [if_neg (show ¬ (best out).2 < ((k + 1 : Nat) : Int) by omega), if_neg h2]
end Bit

set_option maxHeartbeats 1000000 in
theorem rlongest_ok (p : Option Addr) (n c : Nat) (xs : List Int) (m : Int) (w : World) (hb : BI w p n xs) :
    Calls Try.prog 20 #[.slice p n c, .int .i64 m] w fun e w' => e = .returned (.tuple #[.int .i64 (Bit.best (Bit.sts xs (Bit.cnt m))).1, .int .i64 (Bit.best (Bit.sts xs (Bit.cnt m))).2]) ∧ ∃ k, w' = w.drewN k := by
  have hm := Bit.cnt_le m
  have hc := first_ok m w
  generalize Bit.cnt m = M at *
  go_enter Try.func20, Try.ntmps20
  go_wp2_with (first | (go_at_call 29; refine same_at hc ?_))
  go_loopw [6, 7, 8, 12] (fun a b k i wr => ∃ j q : Nat, j ≤ M ∧ i = .int .i64 (j : Int) ∧ a = .int .i64 (Bit.best (Bit.sts xs j)).1 ∧ b = .int .i64 (Bit.best (Bit.sts xs j)).2 ∧ k = .int .i64 ((Bit.rr xs j).2 : Int) ∧ wr = w.drewN q) (fun _ _ _ i _ => M - (intOf i).toNat)
  case atStart => exact ⟨0, 0, by omega, rfl, rfl, rfl, rfl, rfl⟩
  case round =>
    obtain ⟨j, q, hj, rfl, rfl, rfl, rfl, rfl⟩ := hrel
    by_cases hlt : j < M
    · have hh := rhas_nat p n c xs j (w.drewN q) (hb.drewN q) (by omega)
      have hjI : (j : Int) < (M : Int) := by omega
      have hrl := Bit.rr_len xs j
      cases ho : Bit.on xs j
      · have HR := (show Hid _ from Bit.rr_off ho)
        have HB := (show Hid _ from Bit.best_off ho)
        rw [ho] at hh
        clear ho
        generalize hk : (Bit.rr xs j).2 = k at *
        generalize (Bit.rr xs j).1 = out at *
        generalize Bit.best (Bit.sts xs j) = B at *
        obtain ⟨B1, B2⟩ := B
        have HK := (show Hid _ from hk)
        have hkb : k ≤ j := by omega
        clear hk hrl
        by_cases hgt : B2 < (k : Int) + 1
        · rw [if_pos hgt] at HB
          go_wp2_with (first | (go_at_call 13; refine drew_at hh ?_; intro kk))
          go_roundw
          case rel => exact ⟨j + 1, q + kk, by omega, by go_num, by rw [HB.out], by rw [HB.out], by rw [HR.out]; go_num, by simp⟩
          case measure => simp [intOf]; omega
        · rw [if_neg hgt] at HB
          go_wp2_with (first | (go_at_call 13; refine drew_at hh ?_; intro kk))
          go_roundw
          case rel => exact ⟨j + 1, q + kk, by omega, by go_num, by rw [HB.out], by rw [HB.out], by rw [HR.out]; go_num, by simp⟩
          case measure => simp [intOf]; omega
      · have HR := (show Hid _ from Bit.rr_on ho)
        have HB := (show Hid _ from Bit.sts_on ho)
        rw [ho] at hh
        clear ho hrl
        go_wp2_with (first | (go_at_call 13; refine drew_at hh ?_; intro kk))
        go_roundw
        case rel => exact ⟨j + 1, q + kk, by omega, by go_num, by rw [HB.out], by rw [HB.out], by rw [HR.out]; rfl, by simp⟩
        case measure => simp [intOf]; omega
    · obtain rfl : j = M := by omega
      go_wp2
      go_ret2
      exact ⟨rfl, _, rfl⟩

set_option maxHeartbeats 1000000 in
theorem rruns_ok (p : Option Addr) (n c : Nat) (xs : List Int) (m : Int) (w : World) (hb : BI w p n xs) :
    Calls Try.prog 23 #[.slice p n c, .int .i64 m] w fun e w' => ∃ v, e = .returned v ∧ Nums w.heap.size w' v (Bit.lens (Bit.sts xs (Bit.cnt m))) ∧ Below w.heap.size w w' := by
  obtain ⟨i0, hi0, hz0, hz1, hz2⟩ := info_parts info3
  have hm := Bit.cnt_le m
  have hc := first_ok m w
  generalize Bit.cnt m = M at *
  go_enter Try.func23, Try.ntmps23
  go_wp2_with (first | (go_at_call 29; refine same_at hc ?_))
  go_loopw [5, 6, 10] (fun v k i wr => ∃ j : Nat, j ≤ M ∧ i = .int .i64 (j : Int) ∧ k = .int .i64 ((Bit.rr xs j).2 : Int) ∧ Nums w.heap.size wr v (Bit.lens (Bit.rr xs j).1) ∧ Below w.heap.size w wr) (fun _ _ i _ => M - (intOf i).toNat)
  case atStart => exact ⟨0, by omega, rfl, rfl, Nums.nil _ _, Below.refl _ _⟩
  case round =>
    obtain ⟨j, hj, rfl, rfl, hN, hbw⟩ := hrel
    have hrl := Bit.rr_len xs j
    have hll : (Bit.lens (Bit.rr xs j).1).length = (Bit.rr xs j).1.length := by simp [Bit.lens]
    have HSt : Hid (Bit.sts xs j = if (Bit.rr xs j).2 = 0 then (Bit.rr xs j).1 else (Bit.rr xs j).1 ++ [((j : Int) - (Bit.rr xs j).2, ((Bit.rr xs j).2 : Int))]) := rfl
    obtain ⟨pv, cv, rfl, _⟩ := hN.ii (by omega)
    by_cases hlt : j < M
    · have hh := rhas_nat p n c xs j wr (hb.kept hbw) (by omega)
      have hjI : (j : Int) < (M : Int) := by omega
      cases ho : Bit.on xs j
      · have HR := (show Hid _ from Bit.rr_off ho)
        rw [ho] at hh
        clear ho hll
        generalize (Bit.rr xs j).2 = k at *
        generalize (Bit.rr xs j).1 = out at *
        have hkb : k ≤ j := by omega
        go_wp2_with (first | (go_at_call 13; refine grew_at hh ?_; intro wa ha))
        go_roundw
        case rel => exact ⟨j + 1, by omega, by go_num, by rw [HR.out]; go_num, by rw [HR.out]; exact hN.kept ha, grew_trans hbw ha⟩
        case measure => simp [intOf]; omega
      · have HR := (show Hid _ from Bit.rr_on ho)
        rw [ho] at hh
        clear ho
        generalize (Bit.rr xs j).2 = k at *
        generalize (Bit.rr xs j).1 = out at *
        have hl2 : (Bit.lens out).length + 1 ≤ 65537 := by omega
        clear hll
        by_cases hk : k = 0
        · rw [if_pos hk] at HSt
          subst hk
          go_wp2_with (first | (go_at_call 13; refine grew_at hh ?_; intro wa ha))
          go_roundw
          case rel => exact ⟨j + 1, by omega, by go_num, by rw [HR.out]; rfl, by rw [HR.out, HSt.out]; exact hN.kept ha, grew_trans hbw ha⟩
          case measure => simp [intOf]; omega
        · rw [if_neg hk] at HSt
          have hkI : (0 : Int) < (k : Int) := by omega
          have hkd : decide (0 < k) = true := decide_eq_true (by omega)
          go_wp2_with (first | (go_at_call 13; refine grew_at hh ?_; intro wd hd; have hN2 := hN.kept hd; have hbw2 := grew_trans hbw hd) | (at_builtin; refine wpList_append_own _ rfl _ _ 37 rfl w.heap.size 3 i0 (.int .i64 0) 1 8 Try.underlying37 hi0 hz0 hz1 hz2 rfl (by decide) _ _ _ rfl (World.ownsRow.alloc hN2 _) ⟨wd.heap.size, 0, none⟩ 1 1 [.int .i64 (k : Int)] rfl rfl (cell_one_new _ _ _) (by simp [Value.oneCell']) (by unfold maxLen; omega) (by omega) (by have := hbw2.size; simp; omega) ?_; intro v' w1 hown hgrow _; have hown := Nums.snoc hown; obtain ⟨g', cap', rfl⟩ := Nums.succ hown))
          have hb3 := (hbw2.alloc (by have := hbw2.size; omega) _).grown hgrow (by have := hbw2.size; simp; omega) (by intro k hk; exact (World.ownsRow.lt hN2 k hk).1)
          go_roundw
          case rel => exact ⟨j + 1, by omega, by go_num, by rw [HR.out]; rfl, by rw [HR.out, HSt.out]; simpa [Bit.lens] using hown, hb3⟩
          case measure => simp [intOf]; omega
    · obtain rfl : j = M := by omega
      generalize (Bit.rr xs j).2 = k at *
      generalize (Bit.rr xs j).1 = out at *
      have hl2 : (Bit.lens out).length + 1 ≤ 65537 := by omega
      clear hll
      by_cases hk : k = 0
      · rw [if_pos hk] at HSt
        subst hk
        go_wp2
        go_ret
        exact ⟨_, rfl, by rw [HSt.out]; exact hN, hbw⟩
      · rw [if_neg hk] at HSt
        have hkI : (0 : Int) < (k : Int) := by omega
        have hsz := hbw.size
        go_wp2_with (first
          | (at_builtin; refine wpList_append_own _ rfl _ _ 37 rfl w.heap.size 3 i0 (.int .i64 0) 1 8 Try.underlying37 hi0 hz0 hz1 hz2 rfl (by decide) _ _ _ rfl (World.ownsRow.alloc hN _) ⟨wr.heap.size, 0, none⟩ 1 1 [.int .i64 (k : Int)] rfl rfl (cell_one_new _ _ _) (by simp [Value.oneCell']) (by unfold maxLen; omega) (by omega) (by simp; omega) ?_; intro v' w1 hown hgrow _; have hown := Nums.snoc hown; obtain ⟨g', cap', rfl⟩ := Nums.succ hown))
        have hb3 := (hbw.alloc (by omega) _).grown hgrow (by simp; omega) (by intro k hk; exact (World.ownsRow.lt hN k hk).1)
        go_ret
        exact ⟨_, rfl, by rw [HSt.out]; simpa [Bit.lens] using hown, hb3⟩
end Go.Proofs.Ytppipcjchlnolaa
