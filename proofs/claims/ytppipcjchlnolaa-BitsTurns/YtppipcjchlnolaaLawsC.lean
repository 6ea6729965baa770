/- BitsTurns: the statement's own call returns true. -/
import Derived.Test.YtppipcjchlnolaaLawsB
namespace Go.Proofs.Ytppipcjchlnolaa
open Go.RowKit
set_option linter.unusedVariables false

namespace Bit
theorem turn_all : ∀ x : Fin 256, ∀ k : Fin 8, ∀ b : Bool, decide (turn x.val (2 ^ k.val) b / 2 ^ k.val % 2 = 1) = b ∧ ∀ j : Fin 8, j ≠ k → decide (turn x.val (2 ^ k.val) b / 2 ^ j.val % 2 = 1) = decide ((x.val : Int) / 2 ^ j.val % 2 = 1) := by decide +kernel
theorem turn_at (x : Int) (h0 : 0 ≤ x) (h1 : x < 256) (i : Nat) (b : Bool) : decide (turn x (mk i) b / mk i % 2 = 1) = b ∧ ∀ j, ¬ j % 8 = i % 8 → decide (turn x (mk i) b / mk j % 2 = 1) = decide (x / mk j % 2 = 1) := by
  obtain ⟨n, rfl⟩ := Int.eq_ofNat_of_zero_le h0
  obtain ⟨k1, k2⟩ := turn_all ⟨n, by omega⟩ ⟨i % 8, Nat.mod_lt _ (by decide)⟩ b
  exact ⟨k1, fun j hj => k2 ⟨j % 8, Nat.mod_lt _ (by decide)⟩ (fun e => hj (by simpa using e))⟩
theorem put_on {xs : List Int} (hx : Num.Byt xs) {i : Nat} (h : i / 8 < xs.length) (b : Bool) : on (put xs i b) i = b := by
  unfold on put
  rw [Num.getD_set, if_pos ⟨rfl, h⟩]
  exact (turn_at _ (hx (i / 8)).1 (hx (i / 8)).2 i b).1
theorem put_other {xs : List Int} (hx : Num.Byt xs) {i j : Nat} (h : i / 8 < xs.length) (b : Bool) (hj : ¬ j = i) : on (put xs i b) j = on xs j := by
  unfold on put
  rw [Num.getD_set]
  by_cases e : j / 8 = i / 8
  · rw [if_pos ⟨e, h⟩, e]
    exact (turn_at _ (hx (i / 8)).1 (hx (i / 8)).2 i b).2 j (by omega)
  · rw [if_neg (fun k => e k.1)]
theorem apart_one {xs ys : List Int} {K : Nat} (h : ∀ j, ¬ j = K → on xs j = on ys j) (m : Nat) : (apart xs ys m).length ≤ if K < m then 1 else 0 := by
  induction m with
  | zero => simp [apart]
  | succ m ih =>
    simp only [apart]
    by_cases e : on xs m = on ys m
    · rw [if_pos e]
      split at ih
      · rw [if_pos (by omega)]; exact ih
      · split <;> omega
    · have hm : m = K := by
        by_cases h' : m = K
        · exact h'
        · exact absurd (h m h') e
      subst hm
      rw [if_neg e, List.length_append, if_pos (by omega)]
      rw [if_neg (by omega)] at ih
      simp
      exact List.eq_nil_of_length_eq_zero (by omega)
theorem apart_le {xs ys : List Int} {K : Nat} (h : ∀ j, ¬ j = K → on xs j = on ys j) (m : Nat) : (apart xs ys m).length ≤ 1 := by
  have := apart_one h m
  split at this <;> omega
end Bit

theorem wrap_u64_bd (k : Int) : 0 ≤ IntKind.u64.wrap k := by
  simp [IntKind.wrap, IntKind.bits, IntKind.signed]
  omega
theorem tmod_nat (k : Int) (n : Nat) (hn : 0 < n) (hn2 : n ≤ 65536) : ∃ i : Nat, i < n ∧ wrap64 ((IntKind.u64.wrap k).tmod (n : Int)) = (i : Int) := by
  have h0 := wrap_u64_bd k
  rw [Int.tmod_eq_emod_of_nonneg h0]
  generalize IntKind.u64.wrap k = u at *
  have h1 := Int.emod_lt_of_pos u (show (0 : Int) < n by omega)
  have h2 := Int.emod_nonneg u (show (n : Int) ≠ 0 by omega)
  refine ⟨(u % (n : Int)).toNat, ?_, ?_⟩
  · omega
  · unfold wrap64
    omega

theorem BI.take {w : World} {p : Option Addr} {n : Nat} {xs : List Int} (h : BI w p n xs) (m : Nat) (hm : m ≤ n) : BI w p m (xs.take m) := by
  have hl := h.len
  refine ⟨by rw [List.length_take]; omega, by have := h.big; omega, ?_, fun h0 => ?_⟩
  · intro i
    by_cases hi : i < m
    · have := h.byt i
      simpa [List.getD_eq_getElem?_getD, hi] using this
    · rw [List.getD_eq_getElem?_getD, List.getElem?_eq_none (by simp; omega)]; simp
  · obtain ⟨b, o, rfl, hc⟩ := h.cells (by omega)
    refine ⟨b, o, rfl, fun i hi => ?_⟩
    rw [hc i (by omega)]
    simp [List.getD_eq_getElem?_getD, hi]

set_option maxHeartbeats 1000000 in
theorem bitsTurns_none (p : Option Addr) (c : Nat) (xs : List Int) (i : Int) (on : Bool) (w : World) (hb : BI w p 0 xs) :
    Calls Try.prog 7 #[.slice p 0 c, .int .i64 i, .bool on] w fun e w' => e = .returned (.bool true) ∧ Below w.heap.size w w' := by
  have hx : xs = [] := List.eq_nil_of_length_eq_zero hb.len
  subst hx
  have h1 := count_ok p 0 c [] 8 w hb
  have e : Bit.count [] (Bit.cnt 8) = 0 := by decide
  rw [e] at h1
  go_enter Try.func7, Try.ntmps7
  go_wp2_with (first | (go_at_call 17; refine grew_at h1 ?_; intro wb hb'))
  go_ret
  exact ⟨rfl, hb'⟩

set_option maxHeartbeats 2000000 in
theorem bitsTurns_some (p : Option Addr) (n c : Nat) (xs : List Int) (i : Int) (on : Bool) (w : World) (hb : BI w p n xs) (hn : 0 < n) (hnc : n ≤ c) :
    Calls Try.prog 7 #[.slice p n c, .int .i64 i, .bool on] w fun e w' => e = .returned (.bool true) ∧ Below w.heap.size w w' := by
  have hbig := hb.big
  obtain ⟨b, o, rfl, _⟩ := hb.cells hn
  by_cases h2 : n ≤ 200
  · have hnI : (n : Int) ≤ 200 := by omega
    have hn0 : ((n : Int) == 0) = false := by rw [beq_eq_false_iff_ne]; omega
    have hy := hb
    obtain ⟨ys, hys⟩ : ∃ ys, xs = ys := ⟨_, rfl⟩
    rw [hys] at hy
    have hyl : ys.length = n := hy.len
    have hyy := hy.byt
    obtain ⟨K, hK, ex⟩ := tmod_nat i (8 * n) (by omega) (by omega)
    rw [show ((8 * n : Nat) : Int) = 8 * (n : Int) by omega] at ex
    have h1 := with_ok _ n c ys K on w hy (by omega) (by omega)
    have hon := Bit.put_on hyy (show K / 8 < ys.length by omega) on
    have hot := fun j (h : ¬ j = K) => Bit.put_other hyy (show K / 8 < ys.length by omega) on h
    have hap := fun m => Bit.apart_le hot m
    have hpb := Bit.put_byt hyy K on
    generalize Bit.put ys K on = Y at *
    have HON := (show Hid _ from hon)
    have HOT := (show Hid _ from hot)
    have HAP := (show Hid _ from hap)
    clear hon hot hap
    have hKI : (0 : Int) ≤ (K : Int) := by omega
    go_enter Try.func7, Try.ntmps7
    go_wp2_with (first
      | (go_at_call 10; refine Calls.mono h1 ?_; rintro e wa ⟨g, cg, rfl, ho, ha⟩; have hbY := ho.bi (by omega) hpb; have h2 := has_nat _ n cg Y K wa hbY (by omega); rw [HON.out] at h2)
      | (go_at_call 12; refine grew_at h2 ?_; intro wb hb'; have ha := grew_trans ha hb'; have hbY := hbY.kept hb'))
    go_loopw [55] (fun x wr => ∃ k : Nat, k ≤ 8 * n ∧ x = .int .i64 (k : Int) ∧ BI wr (some ⟨g, 0, none⟩) n Y ∧ Below w.heap.size w wr) (fun x _ => 8 * n - (intOf x).toNat)
    case atStart => exact ⟨0, by omega, rfl, hbY, ha⟩
    case round =>
      clear ho hbY ha
      obtain ⟨k, hk, rfl, hbY, ha⟩ := hrel
      by_cases hlt : k < 8 * n
      · have hkI : (k : Int) < (8 * (n : Int)) := by omega
        by_cases hkK : k = K
        · subst hkK
          go_wp2
          go_roundw
          case rel => exact ⟨k + 1, by omega, by go_num, hbY, ha⟩
          case measure => simp [intOf]; omega
        · have h3 := has_nat _ n cg Y k wr hbY (by omega)
          have h4 := fun w1 (h : Below w.heap.size w w1) => has_nat _ n c ys k w1 (hy.kept h) (by omega)
          rw [HOT.out k hkK] at h3
          generalize Bit.on ys k = B at *
          have hd : ((k : Int) != (K : Int)) = true := by rw [bne_iff_ne]; omega
          have hd2 : ¬ (k : Int) = (K : Int) := by omega
          go_wp2_with (first
            | (go_at_call_of 12 cg; refine grew_at h3 ?_; intro wb hb'; have ha := grew_trans ha hb'; have hbY := hbY.kept hb')
            | (go_at_call_of 12 c; refine grew_at (h4 wb ha) ?_; intro wx hb'; have ha := grew_trans ha hb'; have hbY := hbY.kept hb'))
          go_roundw
          case rel => exact ⟨k + 1, by omega, by go_num, hbY, ha⟩
          case measure => simp [intOf]; omega
      · obtain rfl : k = 8 * n := by omega
        have h5 := apart_ok _ _ n cg n c Y ys (8 * (n : Int)) wr hbY (hy.kept ha)
        have hl1 := HAP.out (Bit.cnt (8 * (n : Int)))
        generalize Bit.apart Y ys (Bit.cnt (8 * (n : Int))) = L at *
        have hl2 : (L.length : Int) ≤ 1 := by omega
        go_wp2_with (first
          | (go_at_call 24; refine Calls.mono h5 ?_; rintro e wz ⟨v, rfl, hN, hb'⟩; have ha := grew_trans ha hb'; obtain ⟨pv, cv, rfl, hI⟩ := hN.ii (by omega)))
        go_ret
        exact ⟨rfl, ha⟩
  · have hnI : ¬ (n : Int) ≤ 200 := by omega
    have hnJ : (200 : Int) < (n : Int) := by omega
    have hn0 : ((n : Int) == 0) = false := by rw [beq_eq_false_iff_ne]; omega
    have hy := hb.take 200 (by omega)
    generalize xs.take 200 = ys at *
    have hcI : (200 : Int) ≤ (c : Int) := by omega
    have hyl : ys.length = 200 := hy.len
    have hyy := hy.byt
    obtain ⟨K, hK, ex⟩ := tmod_nat i (8 * 200) (by omega) (by omega)
    rw [show ((8 * 200 : Nat) : Int) = 1600 by rfl] at ex
    have h1 := with_ok _ 200 c ys K on w hy (by omega) (by omega)
    have hon := Bit.put_on hyy (show K / 8 < ys.length by omega) on
    have hot := fun j (h : ¬ j = K) => Bit.put_other hyy (show K / 8 < ys.length by omega) on h
    have hap := fun m => Bit.apart_le hot m
    have hpb := Bit.put_byt hyy K on
    generalize Bit.put ys K on = Y at *
    have HON := (show Hid _ from hon)
    have HOT := (show Hid _ from hot)
    have HAP := (show Hid _ from hap)
    clear hon hot hap
    have hKI : (0 : Int) ≤ (K : Int) := by omega
    go_enter Try.func7, Try.ntmps7
    go_wp2_with (first
      | (go_at_call 10; refine Calls.mono h1 ?_; rintro e wa ⟨g, cg, rfl, ho, ha⟩; have hbY := ho.bi (by omega) hpb; have h2 := has_nat _ 200 cg Y K wa hbY (by omega); rw [HON.out] at h2)
      | (go_at_call 12; refine grew_at h2 ?_; intro wb hb'; have ha := grew_trans ha hb'; have hbY := hbY.kept hb'))
    go_loopw [55] (fun x wr => ∃ k : Nat, k ≤ 8 * 200 ∧ x = .int .i64 (k : Int) ∧ BI wr (some ⟨g, 0, none⟩) 200 Y ∧ Below w.heap.size w wr) (fun x _ => 8 * 200 - (intOf x).toNat)
    case atStart => exact ⟨0, by omega, rfl, hbY, ha⟩
    case round =>
      clear ho hbY ha
      obtain ⟨k, hk, rfl, hbY, ha⟩ := hrel
      by_cases hlt : k < 8 * 200
      · have hkI : (k : Int) < 1600 := by omega
        by_cases hkK : k = K
        · subst hkK
          go_wp2
          go_roundw
          case rel => exact ⟨k + 1, by omega, by go_num, hbY, ha⟩
          case measure => simp [intOf]; omega
        · have h3 := has_nat _ 200 cg Y k wr hbY (by omega)
          have h4 := fun w1 (h : Below w.heap.size w w1) => has_nat _ 200 c ys k w1 (hy.kept h) (by omega)
          rw [HOT.out k hkK] at h3
          generalize Bit.on ys k = B at *
          have hd : ((k : Int) != (K : Int)) = true := by rw [bne_iff_ne]; omega
          have hd2 : ¬ (k : Int) = (K : Int) := by omega
          go_wp2_with (first
            | (go_at_call_of 12 cg; refine grew_at h3 ?_; intro wb hb'; have ha := grew_trans ha hb'; have hbY := hbY.kept hb')
            | (go_at_call_of 12 c; refine grew_at (h4 wb ha) ?_; intro wx hb'; have ha := grew_trans ha hb'; have hbY := hbY.kept hb'))
          go_roundw
          case rel => exact ⟨k + 1, by omega, by go_num, hbY, ha⟩
          case measure => simp [intOf]; omega
      · obtain rfl : k = 8 * 200 := by omega
        have h5 := apart_ok _ _ 200 cg 200 c Y ys 1600 wr hbY (hy.kept ha)
        have hl1 := HAP.out (Bit.cnt 1600)
        generalize Bit.apart Y ys (Bit.cnt 1600) = L at *
        have hl2 : (L.length : Int) ≤ 1 := by omega
        go_wp2_with (first
          | (go_at_call 24; refine Calls.mono h5 ?_; rintro e wz ⟨v, rfl, hN, hb'⟩; have ha := grew_trans ha hb'; obtain ⟨pv, cv, rfl, hI⟩ := hN.ii (by omega)))
        go_ret
        exact ⟨rfl, ha⟩

theorem bitsTurns_walk (p : Option Addr) (n c : Nat) (xs : List Int) (i : Int) (on : Bool) (w : World) (hb : BI w p n xs) (hnc : n ≤ c) (hw : (Lit.int .i64 i).wf = true) :
    Calls Try.prog 7 #[.slice p n c, .int .i64 i, .bool on] w fun e w' => e = .returned (.bool true) ∧ Below w.heap.size w w' := by
  rcases Nat.eq_zero_or_pos n with h | h
  · subst h
    exact bitsTurns_none p c xs i on w hb
  · exact bitsTurns_some p n c xs i on w hb h hnc
end Go.Proofs.Ytppipcjchlnolaa
