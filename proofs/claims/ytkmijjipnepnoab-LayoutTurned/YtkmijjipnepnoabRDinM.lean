/- The document's inodes as bytes. -/
import Derived.Test.YtkmijjipnepnoabEDin
namespace Go.Proofs.Ytkmijjipnepnoab
open Go.RowKit
set_option linter.unusedVariables false

theorem address_ok (n : Int) (w : World) : Calls Try.prog 74 #[.int .i64 n] w fun e w' => e = .returned (.bool (decide (0 ≤ n ∧ n ≤ 2047))) ∧ w' = w := by
  go_enter Try.func74, Try.ntmps74
  go_wp2
  all_goals
    go_ret
    refine ⟨ret_bool ?_, rfl⟩
    rw [Bool.eq_iff_iff]
    simp
    omega

theorem din_five (w : World) (m l s a b c d i j : Int) : (w.alloc (dinO m l s a b c d i j)).cell? ⟨w.heap.size, 3, none⟩ = some (.int .i64 a) ∧ (w.alloc (dinO m l s a b c d i j)).cell? ⟨w.heap.size, 4, none⟩ = some (.int .i64 b) ∧ (w.alloc (dinO m l s a b c d i j)).cell? ⟨w.heap.size, 5, none⟩ = some (.int .i64 c) ∧ (w.alloc (dinO m l s a b c d i j)).cell? ⟨w.heap.size, 6, none⟩ = some (.int .i64 d) :=
  ⟨cell_row (heap_new w _) 3 _ rfl, cell_row (heap_new w _) 4 _ rfl, cell_row (heap_new w _) 5 _ rfl, cell_row (heap_new w _) 6 _ rfl⟩

theorem idx43 (a b c d : Int) (k : Nat) (hk : k < 4) (w : World) : (Instr.index 26 (.agg #[.int .i64 a, .int .i64 b, .int .i64 c, .int .i64 d]) (.int .i64 (k : Int))).run Try.prog w = .ok (.int .i64 ([a, b, c, d].getD k 0)) w := by
  rcases (by omega : k = 0 ∨ k = 1 ∨ k = 2 ∨ k = 3) with rfl | rfl | rfl | rfl <;> kernel_rfl
theorem four_at (a b c d : Int) (k : Nat) (hk : k < 4) : (#[.int .i64 a, .int .i64 b, .int .i64 c, .int .i64 d] : Array Value)[k]? = some (.int .i64 ([a, b, c, d].getD k 0)) := by
  rcases (by omega : k = 0 ∨ k = 1 ∨ k = 2 ∨ k = 3) with rfl | rfl | rfl | rfl <;> rfl

theorem ads_step {zs : List Int} {k : Nat} (hk : k < zs.length) (h : Ads (zs.take k)) (h1 : 0 ≤ zs.getD k 0 ∧ zs.getD k 0 ≤ 2047) : Ads (zs.take (k + 1)) := by
  intro y hy
  rw [List.take_add_one, List.getElem?_eq_getElem hk] at hy
  rcases List.mem_append.1 hy with h' | h'
  · exact h y h'
  · simp at h'
    subst h'
    simpa [List.getD_eq_getElem?_getD, List.getElem?_eq_getElem hk] using h1

theorem ads_two (i j : Int) : Ads [i, j] ↔ (0 ≤ i ∧ i ≤ 2047) ∧ (0 ≤ j ∧ j ≤ 2047) := by
  simp [Ads]

set_option maxRecDepth 10000 in
set_option maxHeartbeats 2000000 in
theorem rmay_used (m l s a b c d i j : Int) (hm : m = 1 ∨ m = 2) (hl : 0 ≤ l ∧ l ≤ 1000) (hs : 0 ≤ s ∧ s ≤ 532992) (w : World) : Calls Try.prog 53 #[dinV m l s a b c d i j] w fun e w' => e = .returned (.bool (decide (DMay m l s a b c d i j))) ∧ Below w.heap.size w w' := by
  have HB := grew_alloc w (dinO m l s a b c d i j)
  obtain ⟨c0, c1, c2, c7, c8⟩ := din_all w m l s a b c d i j
  have hm0 : ¬ m = 0 := by omega
  have hX : decide (DMay m l s a b c d i j) = decide (Ads [a, b, c, d] ∧ Ads [i, j] ∧ (m = 2 → s % 128 = 0)) := by
    apply decide_eq_decide.2
    unfold DMay UMay
    constructor
    · rintro (h | h | h)
      · omega
      · exact ⟨h.2.2.2.1, h.2.2.2.2, by omega⟩
      · exact ⟨h.2.1.2.2.1, h.2.1.2.2.2, fun _ => h.2.2⟩
    · rintro ⟨h1, h2, h3⟩
      rcases hm with rfl | rfl
      · exact .inr (.inl ⟨rfl, hl, hs, h1, h2⟩)
      · exact .inr (.inr ⟨rfl, ⟨hl, hs, h1, h2⟩, h3 rfl⟩)
  rw [hX]
  clear hX
  rcases hm with rfl | rfl
  · rw [show decide (Ads [a, b, c, d] ∧ Ads [i, j] ∧ ((1 : Int) = 2 → s % 128 = 0)) = decide (Ads [a, b, c, d] ∧ Ads [i, j]) from decide_eq_decide.2 (by simp)]
    go_enter Try.func53, Try.ntmps53
    go_wp2_with fail
    generalize w.alloc (dinO 1 l s a b c d i j) = w0 at *
    go_loopw [41] (fun x wr => ∃ k : Nat, k ≤ 4 ∧ x = .int .i64 (k : Int) ∧ Ads ([a, b, c, d].take k) ∧ wr = w0) (fun x _ => 4 - (intOf x).toNat)
    case atStart => exact ⟨0, by omega, rfl, by simp [Ads], rfl⟩
    case round =>
      obtain ⟨k, hk, rfl, hA, rfl⟩ := hrel
      by_cases hlt : k < 4
      · have hd := idx43 a b c d k hlt wr
        have hst := fun h1 => ads_step (zs := [a, b, c, d]) hlt hA h1
        have hno : ¬ (0 ≤ [a, b, c, d].getD k 0 ∧ [a, b, c, d].getD k 0 ≤ 2047) → ¬ Ads [a, b, c, d] := fun hh hh2 => hh (hh2 _ (by
          rcases (by omega : k = 0 ∨ k = 1 ∨ k = 2 ∨ k = 3) with rfl | rfl | rfl | rfl <;> simp))
        have HS := (show Hid _ from hst)
        have HN := (show Hid _ from hno)
        clear hst hno
        generalize [a, b, c, d].getD k 0 = z at *
        have hq := address_ok z wr
        have hkI : (k : Int) < 4 := by omega
        by_cases hz : 0 ≤ z ∧ z ≤ 2047
        · rw [decide_eq_true hz] at hq
          have hA2 := HS.out hz
          clear hz HS HN
          go_wp2_with (first | (go_at_call 74; refine same_at hq ?_))
          go_roundw
          case rel => exact ⟨k + 1, by omega, by go_num, hA2, by first | rfl | trivial⟩
          case measure => simp [intOf]; omega
        · rw [decide_eq_false hz] at hq
          have hno := HN.out hz
          clear hz HS HN
          go_wp2_with (first | (go_at_call 74; refine same_at hq ?_))
          go_ret
          rw [show decide (Ads [a, b, c, d] ∧ Ads [i, j]) = false from decide_eq_false (fun h => hno h.1)]
          exact ⟨rfl, HB⟩
      · have e : k = 4 := by omega
        subst e
        have hA4 : Ads [a, b, c, d] := hA
        have hpost : decide (Ads [a, b, c, d] ∧ Ads [i, j]) = decide (Ads [i, j]) := decide_eq_decide.2 ⟨fun h => h.2, fun h => ⟨hA4, h⟩⟩
        have HP := (show Hid _ from hpost)
        clear hpost hA
        go_wp2_with (first | (go_at_call 74; refine same_at (address_ok _ _) ?_))
        all_goals go_ret
        all_goals
          refine ⟨?_, HB⟩
          rw [HP.out]
          refine ret_bool ?_
          rw [Bool.eq_iff_iff]
          simp only [ads_two]
          simp [*]
          done
  · rw [show decide (Ads [a, b, c, d] ∧ Ads [i, j] ∧ ((2 : Int) = 2 → s % 128 = 0)) = decide (Ads [a, b, c, d] ∧ Ads [i, j] ∧ s % 128 = 0) from decide_eq_decide.2 (by simp)]
    go_enter Try.func53, Try.ntmps53
    go_wp2_with fail
    generalize w.alloc (dinO 2 l s a b c d i j) = w0 at *
    go_loopw [41] (fun x wr => ∃ k : Nat, k ≤ 4 ∧ x = .int .i64 (k : Int) ∧ Ads ([a, b, c, d].take k) ∧ wr = w0) (fun x _ => 4 - (intOf x).toNat)
    case atStart => exact ⟨0, by omega, rfl, by simp [Ads], rfl⟩
    case round =>
      obtain ⟨k, hk, rfl, hA, rfl⟩ := hrel
      by_cases hlt : k < 4
      · have hd := idx43 a b c d k hlt wr
        have hst := fun h1 => ads_step (zs := [a, b, c, d]) hlt hA h1
        have hno : ¬ (0 ≤ [a, b, c, d].getD k 0 ∧ [a, b, c, d].getD k 0 ≤ 2047) → ¬ Ads [a, b, c, d] := fun hh hh2 => hh (hh2 _ (by
          rcases (by omega : k = 0 ∨ k = 1 ∨ k = 2 ∨ k = 3) with rfl | rfl | rfl | rfl <;> simp))
        have HS := (show Hid _ from hst)
        have HN := (show Hid _ from hno)
        clear hst hno
        generalize [a, b, c, d].getD k 0 = z at *
        have hq := address_ok z wr
        have hkI : (k : Int) < 4 := by omega
        by_cases hz : 0 ≤ z ∧ z ≤ 2047
        · rw [decide_eq_true hz] at hq
          have hA2 := HS.out hz
          clear hz HS HN
          go_wp2_with (first | (go_at_call 74; refine same_at hq ?_))
          go_roundw
          case rel => exact ⟨k + 1, by omega, by go_num, hA2, by first | rfl | trivial⟩
          case measure => simp [intOf]; omega
        · rw [decide_eq_false hz] at hq
          have hno := HN.out hz
          clear hz HS HN
          go_wp2_with (first | (go_at_call 74; refine same_at hq ?_))
          go_ret
          rw [show decide (Ads [a, b, c, d] ∧ Ads [i, j] ∧ s % 128 = 0) = false from decide_eq_false (fun h => hno h.1)]
          exact ⟨rfl, HB⟩
      · have e : k = 4 := by omega
        subst e
        have hA4 : Ads [a, b, c, d] := hA
        have hpost : decide (Ads [a, b, c, d] ∧ Ads [i, j] ∧ s % 128 = 0) = decide (Ads [i, j] ∧ s % 128 = 0) := decide_eq_decide.2 ⟨fun h => h.2, fun h => ⟨hA4, h⟩⟩
        have HP := (show Hid _ from hpost)
        clear hpost hA
        go_wp2_with (first | (go_at_call 74; refine same_at (address_ok _ _) ?_))
        all_goals go_ret
        all_goals
          refine ⟨?_, HB⟩
          rw [HP.out]
          refine ret_bool ?_
          rw [Bool.eq_iff_iff]
          simp only [ads_two]
          simp [*]
          done

set_option maxRecDepth 10000 in
set_option maxHeartbeats 2000000 in
theorem rmayD_ok (m l s a b c d i j : Int) (w : World) : Calls Try.prog 53 #[dinV m l s a b c d i j] w fun e w' => e = .returned (.bool (decide (DMay m l s a b c d i j))) ∧ Below w.heap.size w w' := by
  by_cases hm : m = 1 ∨ m = 2
  · by_cases hl : 0 ≤ l ∧ l ≤ 1000
    · by_cases hs : 0 ≤ s ∧ s ≤ 532992
      · exact rmay_used m l s a b c d i j hm hl hs w
      · have HB := grew_alloc w (dinO m l s a b c d i j)
        obtain ⟨c0, c1, c2, c7, c8⟩ := din_all w m l s a b c d i j
        rw [decide_eq_false (by unfold DMay UMay; omega)]
        go_enter Try.func53, Try.ntmps53
        rcases hm with rfl | rfl
        all_goals
          go_wp2_with fail
        all_goals
          go_ret
          exact ⟨rfl, HB⟩
    · have HB := grew_alloc w (dinO m l s a b c d i j)
      obtain ⟨c0, c1, c2, c7, c8⟩ := din_all w m l s a b c d i j
      rw [decide_eq_false (by unfold DMay UMay; omega)]
      go_enter Try.func53, Try.ntmps53
      rcases hm with rfl | rfl
      all_goals
        go_wp2_with fail
      all_goals
        go_ret
        exact ⟨rfl, HB⟩
  · have HB := grew_alloc w (dinO m l s a b c d i j)
    obtain ⟨c0, c1, c2, c7, c8⟩ := din_all w m l s a b c d i j
    by_cases h0 : m = 0
    · subst h0
      rw [show decide (DMay 0 l s a b c d i j) = decide ((0 : Int) = 0 ∧ l = 0 ∧ s = 0 ∧ (a = 0 ∧ b = 0 ∧ c = 0 ∧ d = 0) ∧ i = 0 ∧ j = 0) from decide_eq_decide.2 (by unfold DMay; omega)]
      have hq := eq45 0 l s a b c d i j 0 0 0 0 0 0 0 0 0 (w.alloc (dinO 0 l s a b c d i j))
      go_enter Try.func53, Try.ntmps53
      go_wp2_with (first
        | (refine wpList_eql_wanted (by rfl) 28 (.tmp 8) (.tmp 9) rfl _ _ rfl rfl guard45 _ hq ?_))

      go_ret
      exact ⟨rfl, HB⟩
    · rw [decide_eq_false (by unfold DMay; omega)]
      have h1 : ¬ m = 1 := by omega
      have h2 : ¬ m = 2 := by omega
      go_enter Try.func53, Try.ntmps53
      go_wp2_with fail
      all_goals
        go_ret
        exact ⟨rfl, HB⟩
end Go.Proofs.Ytkmijjipnepnoab
