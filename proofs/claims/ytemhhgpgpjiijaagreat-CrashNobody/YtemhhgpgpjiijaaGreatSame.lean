/- A new disk; images compared. -/
import Derived.Test.YtemhhgpgpjiijaaGreatImage
namespace Go.Proofs.YtemhhgpgpjiijaaGreat
open Go.RowKit Go.Maps

set_option maxHeartbeats 400000 in
theorem new_ok (n : Nat) (h1 : 1 ≤ n) (h2 : n ≤ 2048) (w : World) : Calls Tryz.prog 9 #[.int .i64 (n : Int)] w fun e w' => ∃ a mb fb, e = .returned (.tuple #[.pointer (some ⟨a, 0, none⟩), .int .i64 0]) ∧ DI w.heap.size w' a mb fb (.slice none 0 0) ⟨n, fun _ => zer, [], 0, fun _ => 0⟩ ∧ Below w.heap.size w w' := by
  have hmm := @run_makeMap Tryz.prog
  have hi1 : (1 : Int) ≤ (n : Int) := by omega
  have hi2 : (n : Int) ≤ 2048 := by omega
  go_enter Tryz.func9, Tryz.ntmps9
  go_wp2
  go_ret2
  refine ⟨w.heap.size + 1 + 1, w.heap.size, w.heap.size + 1, rfl, ?_, ?_⟩
  · refine { row := at_new (by simp), secs := (secs_made w n).kept ?_, que := World.ownsRow_nil _ _ _ _, fls := ?_, lo := ⟨by omega, by omega, by omega⟩, ne := by omega, N1 := h1, N2 := h2, q64 := by simp, qok := by simp, lok := by simp }
    · rw [Below.heap_alloc _ _ _ (by simp; omega), Below.heap_alloc _ _ _ (by simp)]
    · have := fls_made (w.alloc (.map #[] 0)) n
      simp only [World.size_alloc] at this
      exact this.kept (Below.heap_alloc _ _ _ (by simp))
  · exact (((Below.refl _ _).alloc (Nat.le_refl _) _).alloc (by simp) _).alloc (by simp; omega) _

/-- The slice at p, of n slices of bytes, holds L. -/
structure IB (w : World) (p : Option Addr) (n : Nat) (L : List (List Int)) : Prop where
  len : L.length = n
  big : n ≤ 140737488355328
  cells : 0 < n → ∃ b o, p = some ⟨b, o, none⟩ ∧ ∀ i x, L[i]? = some x → ∃ q m c, w.cell? ⟨b, o + i, none⟩ = some (.slice q m c) ∧ BI w q m x

theorem call22 (args : Array Value) (w : World) : (callFunc 84 args).run Tryz.prog w = .ok (.enter 84 args) w := by kernel_rfl

/-- The bytes of blocks 0 to n - 1. -/
def imgL (f : Nat → List Int) (n : Nat) : List (List Int) := (List.range n).map f

theorem Img.ib {B : Nat} {w : World} {g n : Nat} {gs : List Nat} {L : Nat → List Int} (h : Img B w g n gs L) (hn : n ≤ 2048) (hs : ∀ i, i < n → Num.Byt (L i)) : IB w (some ⟨g, 0, none⟩) n (imgL L n) := by
  refine ⟨by simp [imgL], by omega, fun _ => ⟨g, 0, rfl, fun i x hx => ?_⟩⟩
  have hi : i < n := by have := (List.getElem?_eq_some_iff.1 hx).1; simpa [imgL] using this
  have ex : x = L i := by simpa [imgL, hi] using hx.symm
  subst ex
  refine ⟨some ⟨gs.getD i 0, 0, none⟩, 128, 128, ?_, (h.el i hi).bi (by omega) (hs i hi)⟩
  have hl := h.len
  rw [Nat.zero_add, h.row.cellAt i (by omega), List.getElem?_map, List.getD_eq_getElem?_getD, List.getElem?_eq_getElem (by omega)]
  rfl
end Go.Proofs.YtemhhgpgpjiijaaGreat
