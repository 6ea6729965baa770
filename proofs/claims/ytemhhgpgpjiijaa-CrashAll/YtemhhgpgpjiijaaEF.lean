/- slices.Equal of two lists of numbers. -/
import Derived.Test.YtemhhgpgpjiijaaEE
import Derived.Test.YtemhhgpgpjiijaaSent
namespace Go.Proofs.Ytemhhgpgpjiijaa
open Go.RowKit Go.Maps
set_option linter.unusedVariables false

theorem getD_ext {xs ys : List Int} (hl : xs.length = ys.length) (h : ∀ i, i < xs.length → xs.getD i 0 = ys.getD i 0) : xs = ys := ext_getD hl h

set_option maxRecDepth 10000 in
set_option maxHeartbeats 1000000 in
theorem iequal_ok (p1 p2 : Option Addr) (n1 n2 c1 c2 : Nat) (xs ys : List Int) (w : World) (h1 : II w p1 n1 xs) (h2 : II w p2 n2 ys) :
    Calls Try.prog 17 #[.slice p1 n1 c1, .slice p2 n2 c2] w fun e w' => e = .returned (.bool (decide (xs = ys))) ∧ Below w.heap.size w w' := by
  have hl1 := h1.len
  have hl2 := h2.len
  have hg := h1.big
  by_cases hn : n1 = n2
  · subst hn
    go_enter Try.func17, Try.ntmps17
    go_wp2_with fail
    go_loopw [13] (fun i wr => ∃ j : Nat, j ≤ n1 ∧ i = .int .i64 (j : Int) ∧ Below w.heap.size w wr ∧ ∀ k, k < j → xs.getD k 0 = ys.getD k 0) (fun i _ => n1 - (intOf i).toNat)
    case atStart => exact ⟨0, by omega, rfl, Below.refl _ _, fun k hk => by omega⟩
    case round =>
      obtain ⟨j, hj, rfl, hb, hsame⟩ := hrel
      have HS := (show Hid _ from hsame)
      clear hsame
      by_cases hlt : j < n1
      · obtain ⟨b1, o1, rfl, hc1⟩ := (h1.kept hb).cells (by omega)
        obtain ⟨b2, o2, rfl, hc2⟩ := (h2.kept hb).cells (by omega)
        have e1 := hc1 j hlt
        have e2 := hc2 j hlt
        clear hc1 hc2
        obtain ⟨y1, hy1⟩ : ∃ y, xs.getD j 0 = y := ⟨_, rfl⟩
        obtain ⟨y2, hy2⟩ : ∃ y, ys.getD j 0 = y := ⟨_, rfl⟩
        rw [hy1] at e1
        rw [hy2] at e2
        have HY1 := (show Hid _ from hy1)
        have HY2 := (show Hid _ from hy2)
        clear hy1 hy2
        have hjI : (j : Int) < (n1 : Int) := by omega
        have hj0 : (0 : Int) ≤ (j : Int) := by omega
        by_cases hy : y1 = y2
        · subst hy
          go_wp2_with fail
          go_quiet (fail)
          go_wp2
          go_roundw
          case rel =>
            refine ⟨j + 1, by omega, by go_num, below_drewN hb _, fun k hk => ?_⟩
            by_cases e : k = j
            · rw [e, HY1.out, HY2.out]
            · exact HS.out k (by omega)
          case measure => simp [intOf]; omega
        · have hne : ¬ xs = ys := fun e => hy (by rw [← HY1.out, ← HY2.out, e])
          go_wp2_with fail
          go_quiet (fail)
          go_wp2
          go_ret
          exact ⟨ret_bool (decide_eq_false hne).symm, below_drewN hb _⟩
      · obtain rfl : j = n1 := by omega
        have heq : xs = ys := ext_getD (by omega) (fun i hi => HS.out i (by omega))
        go_wp2
        go_ret
        exact ⟨ret_bool (decide_eq_true heq).symm, hb⟩
  · have hne : ¬ xs = ys := fun e => hn (by rw [← hl1, ← hl2, e])
    have hnI : ¬ (n1 : Int) = (n2 : Int) := by omega
    go_enter Try.func17, Try.ntmps17
    go_wp2
    go_ret
    exact ⟨ret_bool (decide_eq_false hne).symm, Below.refl _ _⟩
end Go.Proofs.Ytemhhgpgpjiijaa
