/- A new disk; images compared. -/
import Derived.Test.YtemhhgpgpjiijaaImage
namespace Go.Proofs.Ytemhhgpgpjiijaa
open Go.RowKit Go.Maps

set_option maxHeartbeats 400000 in
theorem new_ok (n : Nat) (h1 : 1 ≤ n) (h2 : n ≤ 2048) (w : World) : Calls Try.prog 40 #[.int .i64 (n : Int)] w fun e w' => ∃ a mb fb, e = .returned (.tuple #[.pointer (some ⟨a, 0, none⟩), .int .i64 0]) ∧ DI w.heap.size w' a mb fb (.slice none 0 0) ⟨n, fun _ => zer, [], 0, fun _ => 0⟩ ∧ Below w.heap.size w w' := by
  have hmm := @run_makeMap Try.prog
  have hi1 : (1 : Int) ≤ (n : Int) := by omega
  have hi2 : (n : Int) ≤ 2048 := by omega
  go_enter Try.func40, Try.ntmps40
  go_wp2
  go_ret2
  refine ⟨w.heap.size + 1 + 1, w.heap.size, w.heap.size + 1, rfl, ?_, ?_⟩
  · refine { row := at_new (by simp), secs := (secs_made w n).kept ?_, que := World.ownsRow_nil _ _ _ _, fls := ?_, lo := ⟨by omega, by omega, by omega⟩, ne := by omega, N1 := h1, N2 := h2, q64 := by simp, qok := by simp, lok := by simp }
    · rw [Below.heap_alloc _ _ _ (by simp; omega), Below.heap_alloc _ _ _ (by simp)]
    · have := fls_made (w.alloc (.map #[] 0)) n
      simp only [World.size_alloc] at this
      exact this.kept (Below.heap_alloc _ _ _ (by simp))
  · exact (((Below.refl _ _).alloc (Nat.le_refl _) _).alloc (by simp) _).alloc (by simp; omega) _

/-- The slice at p, of n slices of bytes, holds L. -/
structure IB (w : World) (p : Option Addr) (n : Nat) (L : List (List Int)) : Prop where
  len : L.length = n
  big : n ≤ 140737488355328
  cells : 0 < n → ∃ b o, p = some ⟨b, o, none⟩ ∧ ∀ i x, L[i]? = some x → ∃ q m c, w.cell? ⟨b, o + i, none⟩ = some (.slice q m c) ∧ BI w q m x

theorem call22 (args : Array Value) (w : World) : (callFunc 29 args).run Try.prog w = .ok (.enter 29 args) w := by kernel_rfl

set_option maxHeartbeats 1000000 in
theorem equalFunc_ok (p1 p2 : Option Addr) (n1 c1 n2 c2 : Nat) (L1 L2 : List (List Int)) (w : World) (h1 : IB w p1 n1 L1) (h2 : IB w p2 n2 L2) :
    Calls Try.prog 28 #[.slice p1 n1 c1, .slice p2 n2 c2, .func (.func 29) #[] #[]] w fun e w' => e = .returned (.bool (L1 == L2)) ∧ w' = w := by
  have hl1 := h1.len
  have hl2 := h2.len
  have hg1 := h1.big
  by_cases hne : n1 = n2
  · subst hne
    go_enter Try.func28, Try.ntmps28
    go_wp2_with fail
    go_loopw [17] (fun i wr => wr = w ∧ ∃ j : Nat, j ≤ n1 ∧ i = .int .i64 (j : Int) ∧ ∀ k, k < j → L1[k]? = L2[k]?) (fun i _ => n1 - (intOf i).toNat)
    case atStart => exact ⟨rfl, 0, by omega, rfl, by intro k hk; omega⟩
    case round =>
      obtain ⟨rfl, j, hj, rfl, heq⟩ := hrel
      by_cases hlt : j < n1
      · obtain ⟨b1, o1, rfl, hc1⟩ := h1.cells (by omega)
        obtain ⟨b2, o2, rfl, hc2⟩ := h2.cells (by omega)
        obtain ⟨x, hx⟩ : ∃ x, L1[j]? = some x := ⟨L1[j], List.getElem?_eq_getElem (by omega)⟩
        obtain ⟨y, hy⟩ : ∃ y, L2[j]? = some y := ⟨L2[j], List.getElem?_eq_getElem (by omega)⟩
        obtain ⟨q1, m1, d1, e1, hb1⟩ := hc1 j x hx
        obtain ⟨q2, m2, d2, e2, hb2⟩ := hc2 j y hy
        clear hc1 hc2
        go_wp2_with fail
        refine same_at (equal_any q1 q2 m1 d1 m2 d2 x y wr hb1 hb2) ?_
        cases hxy : (x == y) with
        | true =>
          have hxy' : x = y := by simpa using hxy
          go_wp2
          go_roundw
          case rel =>
            refine ⟨trivial, j + 1, by omega, by go_num, ?_⟩
            intro k hk
            by_cases e : k = j
            · subst e; rw [hx, hy, hxy']
            · exact heq k (by omega)
          case measure => simp [intOf]; omega
        | false =>
          have hxy' : ¬ x = y := by simpa using hxy
          go_wp2
          go_ret
          refine ⟨ret_bool ?_, rfl⟩
          symm
          rw [beq_eq_false_iff_ne]
          rintro rfl
          rw [hx] at hy
          cases hy
          exact hxy' rfl
      · obtain rfl : j = n1 := by omega
        go_wp2
        go_ret
        refine ⟨ret_bool ?_, rfl⟩
        symm
        rw [beq_iff_eq]
        apply List.ext_getElem?
        intro k
        by_cases hk : k < j
        · exact heq k hk
        · rw [List.getElem?_eq_none (by omega), List.getElem?_eq_none (by omega)]
  · have hne' : ¬ (n1 : Int) = (n2 : Int) := by omega
    go_enter Try.func28, Try.ntmps28
    go_wp2
    go_ret
    refine ⟨ret_bool ?_, rfl⟩
    symm
    rw [beq_eq_false_iff_ne]
    rintro rfl
    omega

set_option maxHeartbeats 400000 in
theorem sameImage_ok (p1 p2 : Option Addr) (n1 c1 n2 c2 : Nat) (L1 L2 : List (List Int)) (w : World) (h1 : IB w p1 n1 L1) (h2 : IB w p2 n2 L2) :
    Calls Try.prog 8 #[.slice p1 n1 c1, .slice p2 n2 c2] w fun e w' => e = .returned (.bool (L1 == L2)) ∧ w' = w := by
  go_enter Try.func8, Try.ntmps8
  go_wp2_with fail
  refine same_at (equalFunc_ok p1 p2 n1 c1 n2 c2 L1 L2 w h1 h2) ?_
  go_wp2
  go_ret
  exact ⟨rfl, rfl⟩

/-- The bytes of blocks 0 to n - 1. -/
def imgL (f : Nat → List Int) (n : Nat) : List (List Int) := (List.range n).map f

theorem Img.ib {B : Nat} {w : World} {g n : Nat} {gs : List Nat} {L : Nat → List Int} (h : Img B w g n gs L) (hn : n ≤ 2048) (hs : ∀ i, i < n → Num.Byt (L i)) : IB w (some ⟨g, 0, none⟩) n (imgL L n) := by
  refine ⟨by simp [imgL], by omega, fun _ => ⟨g, 0, rfl, fun i x hx => ?_⟩⟩
  have hi : i < n := by have := (List.getElem?_eq_some_iff.1 hx).1; simpa [imgL] using this
  have ex : x = L i := by simpa [imgL, hi] using hx.symm
  subst ex
  refine ⟨some ⟨gs.getD i 0, 0, none⟩, 128, 128, ?_, (h.el i hi).bi (by omega) (hs i hi)⟩
  have hl := h.len
  rw [Nat.zero_add, h.row.cellAt i (by omega), List.getElem?_map, List.getD_eq_getElem?_getD, List.getElem?_eq_getElem (by omega)]
  rfl
end Go.Proofs.Ytemhhgpgpjiijaa
