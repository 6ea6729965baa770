/- dirs: Find, Free, With, Without. -/
import Derived.Test.YthfnldclpommlaaD6
namespace Go.Proofs.Ythfnldclpommlaa
open Go.RowKit
set_option linter.unusedVariables false

/-- A block's entries; none, if it may not be. -/
def El (n : Nat) (xs : List Int) : List En := if mayB n xs then ents xs 8 else []
theorem El_yes {n : Nat} {xs : List Int} (h : mayB n xs) : El n xs = dec8 n xs := by unfold El dec8; rw [if_pos h, if_pos h]
theorem El_no {n : Nat} {xs : List Int} (h : ¬ mayB n xs) : El n xs = [] := by unfold El; rw [if_neg h]

theorem page_box (w1 : World) (E : List En) (hl : E.length = 8) (hn : ∀ e ∈ E, e.n = 0 → e.s = ⟨#[]⟩) :
    Pge ((w1.alloc (.cells z16 37)).setRow w1.heap.size (flat2 E).toArray) w1.heap.size E ∧ Below w1.heap.size w1 ((w1.alloc (.cells z16 37)).setRow w1.heap.size (flat2 E).toArray) :=
  ⟨⟨setRow_heap _ _ _ _ _ _ (heap_new w1 _), hl, hn⟩, below_setRow (grew_alloc _ _) (Nat.le_refl _) _⟩

/-- What read gives, boxed. -/
structure Boxed (w1 : World) (E : List En) (W : World) : Prop where
  eq : (w1.alloc (.cells z16 37)).setRow w1.heap.size (flat2 E).toArray = W
  pg : Pge W w1.heap.size E
  bel : Below w1.heap.size w1 W
theorem boxed (w1 : World) (n : Nat) (xs : List Int) : ∃ W, Boxed w1 (dec8 n xs) W := by
  have h := page_box w1 (dec8 n xs) (dec8_len n xs) (dec8_non n xs)
  exact ⟨_, rfl, h.1, h.2⟩
theorem info53' (n : Nat) (xs : List Int) : (Try.prog.info? 37).map (·.size) = some (flat2 (dec8 n xs)).toArray.size := by rw [flat2_size _ (dec8_len n xs)]; exact info53
theorem size53' (n : Nat) (xs : List Int) : z16.size = (flat2 (dec8 n xs)).toArray.size := by rw [flat2_size _ (dec8_len n xs)]; rfl

theorem bi_nil (w : World) : BI w none 0 [] := ⟨rfl, by omega, (fun i => by simp), fun h => by omega⟩

end Go.Proofs.Ythfnldclpommlaa
