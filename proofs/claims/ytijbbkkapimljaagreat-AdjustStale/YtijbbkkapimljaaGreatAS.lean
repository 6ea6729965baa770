/- Images compared. -/
import Derived.Test.YtijbbkkapimljaaGreatGI
namespace Go.Proofs.YtijbbkkapimljaaGreat
open Go.RowKit Go.Maps
set_option linter.unusedVariables false
set_option maxRecDepth 100000

theorem call32 (args : Array Value) (w : World) : (callFunc 32 args).run Tryz.prog w = .ok (.enter 32 args) w := by kernel_rfl

set_option maxHeartbeats 1000000 in
theorem equalFunc_ok (p1 p2 : Option Addr) (n1 c1 n2 c2 : Nat) (L1 L2 : List (List Int)) (w : World) (h1 : IB w p1 n1 L1) (h2 : IB w p2 n2 L2) :
    Calls Tryz.prog 31 #[.slice p1 n1 c1, .slice p2 n2 c2, .func (.func 32) #[] #[]] w fun e w' => e = .returned (.bool (L1 == L2)) ∧ w' = w := by
  have hl1 := h1.len
  have hl2 := h2.len
  have hg1 := h1.big
  by_cases hne : n1 = n2
  · subst hne
    go_enter Tryz.func31, Tryz.ntmps31
    go_wp2_with fail
    go_loopw [17] (fun i wr => wr = w ∧ ∃ j : Nat, j ≤ n1 ∧ i = .int .i64 (j : Int) ∧ ∀ k, k < j → L1[k]? = L2[k]?) (fun (i : Value) _ => n1 - (Go.RowKit.intOf i).toNat)
    case atStart => exact ⟨rfl, 0, by omega, rfl, by intro k hk; omega⟩
    case round =>
      obtain ⟨rfl, j, hj, rfl, heq⟩ := hrel
      by_cases hlt : j < n1
      · obtain ⟨b1, o1, rfl, hc1⟩ := h1.cells (by omega)
        obtain ⟨b2, o2, rfl, hc2⟩ := h2.cells (by omega)
        obtain ⟨x, hx⟩ : ∃ x, L1[j]? = some x := ⟨L1[j], List.getElem?_eq_getElem (by omega)⟩
        obtain ⟨y, hy⟩ : ∃ y, L2[j]? = some y := ⟨L2[j], List.getElem?_eq_getElem (by omega)⟩
        obtain ⟨q1, m1, d1, e1, hb1⟩ := hc1 j x hx
        obtain ⟨q2, m2, d2, e2, hb2⟩ := hc2 j y hy
        clear hc1 hc2
        go_wp2_with fail
        refine same_at (equal_any q1 q2 m1 d1 m2 d2 x y wr hb1 hb2) ?_
        cases hxy : (x == y) with
        | true =>
          have hxy' : x = y := by simpa using hxy
          go_wp2
          go_roundw
          case rel =>
            refine ⟨trivial, j + 1, by omega, by go_num, ?_⟩
            intro k hk
            by_cases e : k = j
            · subst e; rw [hx, hy, hxy']
            · exact heq k (by omega)
          case measure => simp [Go.RowKit.intOf]; omega
        | false =>
          have hxy' : ¬ x = y := by simpa using hxy
          go_wp2
          go_ret
          refine ⟨ret_bool ?_, rfl⟩
          symm
          rw [beq_eq_false_iff_ne]
          rintro rfl
          rw [hx] at hy
          cases hy
          exact hxy' rfl
      · obtain rfl : j = n1 := by omega
        go_wp2
        go_ret
        refine ⟨ret_bool ?_, rfl⟩
        symm
        rw [beq_iff_eq]
        apply List.ext_getElem?
        intro k
        by_cases hk : k < j
        · exact heq k hk
        · rw [List.getElem?_eq_none (by omega), List.getElem?_eq_none (by omega)]
  · have hne' : ¬ (n1 : Int) = (n2 : Int) := by omega
    go_enter Tryz.func31, Tryz.ntmps31
    go_wp2
    go_ret
    refine ⟨ret_bool ?_, rfl⟩
    symm
    rw [beq_eq_false_iff_ne]
    rintro rfl
    omega

set_option maxHeartbeats 400000 in
theorem sameImage_ok (p1 p2 : Option Addr) (n1 c1 n2 c2 : Nat) (L1 L2 : List (List Int)) (w : World) (h1 : IB w p1 n1 L1) (h2 : IB w p2 n2 L2) :
    Calls Tryz.prog 12 #[.slice p1 n1 c1, .slice p2 n2 c2] w fun e w' => e = .returned (.bool (L1 == L2)) ∧ w' = w := by
  go_enter Tryz.func12, Tryz.ntmps12
  go_wp2_with fail
  refine same_at (equalFunc_ok p1 p2 n1 c1 n2 c2 L1 L2 w h1 h2) ?_
  go_wp2
  go_ret
  exact ⟨rfl, rfl⟩
end Go.Proofs.YtijbbkkapimljaaGreat
