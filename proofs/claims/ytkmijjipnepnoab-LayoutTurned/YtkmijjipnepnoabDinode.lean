/- Inodes as bytes, by the program. -/
import Derived.Test.YtkmijjipnepnoabEqual
namespace Go.Proofs.Ytkmijjipnepnoab
open Go.RowKit
set_option linter.unusedVariables false

def Ads (zs : List Int) : Prop := ∀ z ∈ zs, 0 ≤ z ∧ z ≤ 2047
instance (zs : List Int) : Decidable (Ads zs) := by unfold Ads; infer_instance

set_option maxHeartbeats 400000 in
theorem areAd_ok (p : Option Addr) (n c : Nat) (zs : List Int) (w : World) (h : II w p n zs) : Calls Try.prog 84 #[.slice p n c] w fun e w' => e = .returned (.bool (decide (Ads zs))) ∧ w' = w := by
  have hbig := h.big
  have hlen := h.len
  go_enter Try.func84, Try.ntmps84
  go_wp2_with fail
  go_loopw [7] (fun i wr => ∃ j : Nat, j ≤ n ∧ i = .int .i64 (j : Int) ∧ Ads (zs.take j) ∧ wr = w) (fun i _ => n - (intOf i).toNat)
  case atStart => exact ⟨0, by omega, rfl, by simp [Ads], rfl⟩
  case round =>
    obtain ⟨j, hj, rfl, hA, rfl⟩ := hrel
    by_cases hlt : j < n
    · obtain ⟨b, o, rfl, hc⟩ := h.cells (by omega)
      have hcell := hc j hlt
      have hjI : (j : Int) < (n : Int) := by omega
      have hz : zs[j]? = some (zs.getD j 0) := by rw [List.getD_eq_getElem?_getD, List.getElem?_eq_getElem (by omega)]; rfl
      generalize zs.getD j 0 = z at *
      have HZ : Hid (zs[j]? = some z) := hz
      clear hz hc
      have hw := within_ok z 0 2047 wr
      by_cases hok : 0 ≤ z ∧ z ≤ 2047
      · rw [decide_eq_true hok] at hw
        have hA2 : Ads (zs.take (j + 1)) := by
          intro y hy
          rw [List.take_add_one, HZ.out] at hy
          rcases List.mem_append.1 hy with h' | h'
          · exact hA y h'
          · simp at h'
            subst h'
            exact hok
        clear hok
        go_wp2_with (first | (go_at_call 62; refine same_at hw ?_))
        go_roundw
        case rel =>
          exact ⟨j + 1, by omega, by go_num, hA2, by first | rfl | trivial⟩
        case measure => simp [intOf]; omega
      · rw [decide_eq_false hok] at hw
        have hno : ¬ Ads zs := fun k => hok (k z (List.mem_of_getElem? HZ.out))
        clear hok
        go_wp2_with (first | (go_at_call 62; refine same_at hw ?_))
        go_ret
        rw [decide_eq_false hno]
        exact ⟨rfl, rfl⟩
    · obtain rfl : j = n := by omega
      rw [List.take_of_length_le (by omega)] at hA
      go_wp2
      go_ret
      rw [decide_eq_true hA]
      exact ⟨rfl, rfl⟩

abbrev dinV (m l s a b c d i j : Int) : Value := .agg #[.int .i64 m, .int .i64 l, .int .i64 s, .int .i64 a, .int .i64 b, .int .i64 c, .int .i64 d, .int .i64 i, .int .i64 j]
abbrev dinO (m l s a b c d i j : Int) : Obj := .cells #[.int .i64 m, .int .i64 l, .int .i64 s, .int .i64 a, .int .i64 b, .int .i64 c, .int .i64 d, .int .i64 i, .int .i64 j] 28

/-- Four addresses that lie in an inode's block. -/
theorem din_ii {w : World} {x : Nat} {m l s a b c d i j : Int} (h : w.heap[x]? = some (dinO m l s a b c d i j)) : II w (some ⟨x, 3, none⟩) 4 [a, b, c, d] := by
  refine ⟨rfl, by decide, fun _ => ⟨x, 3, rfl, fun k hk => ?_⟩⟩
  rcases (by omega : k = 0 ∨ k = 1 ∨ k = 2 ∨ k = 3) with rfl | rfl | rfl | rfl <;> exact cell_row h _ _ rfl

/-- What files and directories have in common. -/
def UMay (l s a b c d i j : Int) : Prop := (0 ≤ l ∧ l ≤ 1000) ∧ (0 ≤ s ∧ s ≤ 532992) ∧ Ads [a, b, c, d] ∧ Ads [i, j]
instance (l s a b c d i j : Int) : Decidable (UMay l s a b c d i j) := by unfold UMay; infer_instance

theorem two_ii (w : World) (i j : Int) : II (w.alloc (.cells #[.int .i64 i, .int .i64 j] 3)) (some ⟨w.heap.size, 0, none⟩) 2 [i, j] := by
  refine ⟨rfl, by decide, fun _ => ⟨w.heap.size, 0, rfl, fun k hk => ?_⟩⟩
  rw [Nat.zero_add]
  rcases (by omega : k = 0 ∨ k = 1) with rfl | rfl
  · exact cell_row (heap_new w _) 0 _ rfl
  · exact cell_row (heap_new w _) 1 _ rfl

set_option maxHeartbeats 1000000 in
theorem usedMay_ok (m l s a b c d i j : Int) (w : World) : Calls Try.prog 73 #[dinV m l s a b c d i j] w fun e w' => e = .returned (.bool (decide (UMay l s a b c d i j))) ∧ Below w.heap.size w w' := by
  have HB := grew_alloc w (dinO m l s a b c d i j)
  have hx := heap_new w (dinO m l s a b c d i j)
  have q4 := areAd_ok _ 4 4 _ _ (din_ii hx)
  have hb2 := grew_alloc (w.alloc (dinO m l s a b c d i j)) (.cells #[.int .i64 i, .int .i64 j] 3)
  have q2 := areAd_ok _ 2 2 _ _ (two_ii (w.alloc (dinO m l s a b c d i j)) i j)
  rw [size_alloc] at q2
  by_cases h1 : 0 ≤ l ∧ l ≤ 1000
  · by_cases h2 : 0 ≤ s ∧ s ≤ 532992
    · by_cases h3 : Ads [a, b, c, d]
      · rw [decide_eq_true h3] at q4
        rw [show decide (UMay l s a b c d i j) = decide (Ads [i, j]) from decide_eq_decide.2 ⟨fun k => k.2.2.2, fun k => ⟨h1, h2, h3, k⟩⟩]
        clear h3
        go_enter Try.func73, Try.ntmps73
        go_wp2_with (first | (go_at_call 62; refine same_at (within_ok _ _ _ _) ?_))
        refine same_at q4 ?_
        go_wp2_with fail
        refine same_at q2 ?_
        go_wp2
        go_ret
        exact ⟨rfl, grew_trans HB hb2⟩
      · rw [decide_eq_false h3] at q4
        rw [show decide (UMay l s a b c d i j) = false from decide_eq_false (fun k => h3 k.2.2.1)]
        clear h3
        go_enter Try.func73, Try.ntmps73
        go_wp2_with (first | (go_at_call 62; refine same_at (within_ok _ _ _ _) ?_))
        refine same_at q4 ?_
        go_wp2
        go_ret
        exact ⟨rfl, HB⟩
    · rw [show decide (UMay l s a b c d i j) = false from decide_eq_false (fun k => h2 k.2.1)]
      go_enter Try.func73, Try.ntmps73
      go_wp2_with (first | (go_at_call 62; refine same_at (within_ok _ _ _ _) ?_))
      go_ret
      exact ⟨rfl, HB⟩
  · rw [show decide (UMay l s a b c d i j) = false from decide_eq_false (fun k => h1 k.1)]
    go_enter Try.func73, Try.ntmps73
    go_wp2_with (first | (go_at_call 62; refine same_at (within_ok _ _ _ _) ?_))
    go_ret
    exact ⟨rfl, HB⟩

set_option maxRecDepth 10000 in
set_option maxHeartbeats 1000000 in
theorem eq43 (a b c d e f g h : Int) (w : World) : (Op.equalIn 9999 26 (.agg #[.int .i64 a, .int .i64 b, .int .i64 c, .int .i64 d]) (.agg #[.int .i64 e, .int .i64 f, .int .i64 g, .int .i64 h])).run Try.prog w = .ok (a == e && b == f && c == g && d == h) w := by
  have u3 := Try.underlying3
  have a3 := Try.isAgg3
  have z3 := Try.sizeOf3
  rw [show (9999 : Nat) = 9998 + 1 from rfl, Op.equalIn]
  simp only [Sem.run_bind, run_underlying Try.underlying26, Result.andThen_ok]
  simp only [Std.Legacy.Range.forIn_eq_forIn_range', Std.Legacy.Range.size, Nat.sub_zero, Nat.add_sub_cancel, Nat.div_one, List.range'_succ, List.range'_zero, List.forIn_cons, List.forIn_nil]
  go_simp
  by_cases h1 : a = e <;> by_cases h2 : b = f <;> by_cases h3 : c = g <;> by_cases h4 : d = h <;> simp [h1, h2, h3, h4]

/-- Inodes compared. -/
theorem eq45 (m l s a b c d i j m' l' s' a' b' c' d' i' j' : Int) (w : World) : (Op.equalIn 10000 28 (.agg #[.int .i64 m, .int .i64 l, .int .i64 s, .int .i64 a, .int .i64 b, .int .i64 c, .int .i64 d, .int .i64 i, .int .i64 j]) (.agg #[.int .i64 m', .int .i64 l', .int .i64 s', .int .i64 a', .int .i64 b', .int .i64 c', .int .i64 d', .int .i64 i', .int .i64 j'])).run Try.prog w = .ok (decide (m = m' ∧ l = l' ∧ s = s' ∧ (a = a' ∧ b = b' ∧ c = c' ∧ d = d') ∧ i = i' ∧ j = j')) w := by
  have u3 := Try.underlying3
  have a3 := Try.isAgg3
  have z3 := Try.sizeOf3
  have q := eq43 a b c d a' b' c' d'
  have hS : Try.prog.underlying 28 = some (.struct (Try.prog.fieldsOf 28)) := by kernel_rfl
  have hp : Try.prog.stoodInHeld 28 = false := by kernel_rfl
  have hq : (a == a' && b == b' && c == c' && d == d') = decide (a = a' ∧ b = b' ∧ c = c' ∧ d = d') := by
    rw [Bool.eq_iff_iff]; simp; constructor
    · rintro ⟨⟨⟨h1, h2⟩, h3⟩, h4⟩; exact ⟨h1, h2, h3, h4⟩
    · rintro ⟨h1, h2, h3, h4⟩; exact ⟨⟨⟨h1, h2⟩, h3⟩, h4⟩
  rw [hq] at q
  clear hq
  rw [show (10000 : Nat) = 9999 + 1 from rfl, run_equalIn_agg w 9999 28 _ _ hS hp]
  simp only [Program.fieldsOf, Try.underlying28]
  by_cases hX : (a = a' ∧ b = b' ∧ c = c' ∧ d = d')
  · rw [decide_eq_true hX] at q
    rw [show decide (m = m' ∧ l = l' ∧ s = s' ∧ (a = a' ∧ b = b' ∧ c = c' ∧ d = d') ∧ i = i' ∧ j = j') = decide (m = m' ∧ l = l' ∧ s = s' ∧ i = i' ∧ j = j') from decide_eq_decide.2 ⟨fun k => ⟨k.1, k.2.1, k.2.2.1, k.2.2.2.2⟩, fun k => ⟨k.1, k.2.1, k.2.2.1, hX, k.2.2.2⟩⟩]
    clear hX
    go_simp
    by_cases h1 : m = m' <;> by_cases h2 : l = l' <;> by_cases h3 : s = s' <;> by_cases h4 : i = i' <;> by_cases h5 : j = j' <;> simp [h1, h2, h3, h4, h5]
  · rw [decide_eq_false hX] at q
    rw [show decide (m = m' ∧ l = l' ∧ s = s' ∧ (a = a' ∧ b = b' ∧ c = c' ∧ d = d') ∧ i = i' ∧ j = j') = false from decide_eq_false (fun k => hX k.2.2.2.1)]
    clear hX
    go_simp
theorem guard45 : Try.prog.eqGuardType Try.prog.depth 28 = false := by kernel_rfl

/-- Whether an inode may be. -/
def DMay (m l s a b c d i j : Int) : Prop := (m = 0 ∧ l = 0 ∧ s = 0 ∧ a = 0 ∧ b = 0 ∧ c = 0 ∧ d = 0 ∧ i = 0 ∧ j = 0) ∨ (m = 1 ∧ UMay l s a b c d i j) ∨ (m = 2 ∧ UMay l s a b c d i j ∧ s % 128 = 0)
instance (m l s a b c d i j : Int) : Decidable (DMay m l s a b c d i j) := by unfold DMay; infer_instance

theorem din_cells (w : World) (m l s a b c d i j : Int) : (w.alloc (dinO m l s a b c d i j)).cell? ⟨w.heap.size, 2, none⟩ = some (.int .i64 s) := cell_row (heap_new w _) 2 _ rfl

set_option maxRecDepth 10000 in
set_option maxHeartbeats 1000000 in
theorem dinodeMay_ok (m l s a b c d i j : Int) (w : World) : Calls Try.prog 51 #[dinV m l s a b c d i j] w fun e w' => e = .returned (.bool (decide (DMay m l s a b c d i j))) ∧ Below w.heap.size w w' := by
  have HB := grew_alloc w (dinO m l s a b c d i j)
  have c2 := din_cells w m l s a b c d i j
  have hu := fun w => usedMay_ok m l s a b c d i j w
  by_cases h0 : m = 0
  · subst h0
    rw [show decide (DMay 0 l s a b c d i j) = decide ((0 : Int) = 0 ∧ l = 0 ∧ s = 0 ∧ (a = 0 ∧ b = 0 ∧ c = 0 ∧ d = 0) ∧ i = 0 ∧ j = 0) from decide_eq_decide.2 (by unfold DMay; omega)]
    have hq := eq45 0 l s a b c d i j 0 0 0 0 0 0 0 0 0 (w.alloc (dinO 0 l s a b c d i j))
    go_enter Try.func51, Try.ntmps51
    go_wp2_with (refine wpList_eql_wanted (by rfl) 28 (.tmp 7) (.tmp 8) rfl _ _ rfl rfl guard45 _ hq ?_)
    go_ret
    exact ⟨rfl, HB⟩
  · by_cases h1 : m = 1
    · subst h1
      rw [show decide (DMay 1 l s a b c d i j) = decide (UMay l s a b c d i j) from decide_eq_decide.2 (by unfold DMay; constructor; rintro (h | h | h); omega; exact h.2; omega; exact fun h => .inr (.inl ⟨rfl, h⟩))]
      go_enter Try.func51, Try.ntmps51
      go_wp2_with (first | (go_at_call 73; refine grew_at (hu _) ?_; intro wn hbn; have HB := grew_trans HB hbn))
      go_ret
      exact ⟨rfl, HB⟩
    · by_cases h2 : m = 2
      · subst h2
        by_cases hU : UMay l s a b c d i j
        · rw [decide_eq_true hU] at hu
          have hs := hU.2.1
          rw [show decide (DMay 2 l s a b c d i j) = decide (s % 128 = 0) from decide_eq_decide.2 (by unfold DMay; constructor; rintro (h | h | h); omega; omega; exact h.2.2; exact fun h => .inr (.inr ⟨rfl, hU, h⟩))]
          clear hU
          go_enter Try.func51, Try.ntmps51
          go_wp2_with (first | (go_at_call 73; refine grew_at (hu _) ?_; intro wn hbn; have HB := grew_trans HB hbn; have c2 := cell_kept c2 hbn))
          go_ret
          refine ⟨?_, HB⟩
          rw [show decide (s % 128 = 0) = (s % 128 == 0) from rfl]
          rfl
        · rw [decide_eq_false hU] at hu
          rw [show decide (DMay 2 l s a b c d i j) = false from decide_eq_false (by unfold DMay; rintro (h | h | h); omega; omega; exact hU h.2.1)]
          clear hU
          go_enter Try.func51, Try.ntmps51
          go_wp2_with (first | (go_at_call 73; refine grew_at (hu _) ?_; intro wn hbn; have HB := grew_trans HB hbn; have c2 := cell_kept c2 hbn))
          go_ret
          exact ⟨rfl, HB⟩
      · rw [show decide (DMay m l s a b c d i j) = false from decide_eq_false (by unfold DMay; rintro (h | h | h) <;> omega)]
        go_enter Try.func51, Try.ntmps51
        go_wp2
        go_ret
        exact ⟨rfl, HB⟩
end Go.Proofs.Ytkmijjipnepnoab
