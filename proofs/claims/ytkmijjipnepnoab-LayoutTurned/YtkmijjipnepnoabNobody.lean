/- WordNobody: a reader that no call made reads nothing, whatever number it is asked for. -/
import Derived.Test.YtkmijjipnepnoabRead4
namespace Go.Proofs.Ytkmijjipnepnoab
open Go.RowKit

set_option maxHeartbeats 800000 in
theorem over_ok (w : World) (p : Option Addr) (n c : Nat) (xs : List Int) (h : BI w p n xs) :
    Calls Try.prog 70 #[.slice p n c] w fun e w' => ∃ rb, e = .returned (.pointer (some ⟨rb, 0, none⟩)) ∧ w.heap.size ≤ rb ∧ Rest w' rb n xs 0 ∧ Below w.heap.size w w' := by
  go_enter Try.func70, Try.ntmps70
  go_wp2_with fail
  refine (clone_ok p n c xs w h).mono ?_
  rintro e w1 ⟨g, cap, rfl, ho, hb⟩
  go_wp2
  go_ret
  refine ⟨w1.heap.size, rfl, hb.size, ⟨g, 0, cap, ?_, ho.room.1, ?_⟩, ?_⟩
  · exact heap_alloc_new w1 _
  · exact (ho.bi h.big h.byt).kept ((Below.refl _ _).alloc (Nat.le_refl _) _)
  · exact hb.alloc hb.size _

/-- The two readers that no call made. -/
def Pair (w wr : World) : Prop :=
  Rd wr w.heap.size (.slice none 0 0) 0 false ∧ wr.heap[w.heap.size + 1]? = some (.cells #[.pointer none, .pointer (some ⟨w.heap.size, 0, none⟩)] 81 (0, 0)) ∧ Below w.heap.size w wr

theorem Pair.later {w wr w' : World} (h : Pair w wr) (hb : Below wr.heap.size wr w') : Pair w w' := by
  refine ⟨rd_kept h.1 hb, ?_, h.2.2.trans (hb.mono h.2.2.size)⟩
  rw [hb.block _ (Array.getElem?_eq_some_iff.1 h.2.1).1]
  exact h.2.1

theorem pair_mk (w : World) : Pair w ((w.alloc (.cells #[.slice none 0 0, .int .i64 0, .bool false] 90)).alloc (.cells #[.pointer none, .pointer (some ⟨w.heap.size, 0, none⟩)] 81)) :=
  ⟨at_old (at_new rfl), at_new (by simp), ((Below.refl _ _).alloc (Nat.le_refl _) _).alloc (by simp) _⟩

theorem Pair.c0 {w wr : World} (h : Pair w wr) : wr.cell? ⟨w.heap.size + 1, 0, none⟩ = some (.pointer none) := by
  rw [cell_of_row wr _ 0 _ _ _ h.2.1]; rfl
theorem Pair.c1 {w wr : World} (h : Pair w wr) : wr.cell? ⟨w.heap.size + 1, 1, none⟩ = some (.pointer (some ⟨w.heap.size, 0, none⟩)) := by
  rw [cell_of_row wr _ 1 _ _ _ h.2.1]; rfl

theorem two_bytes (w : World) : BI (w.alloc (.cells #[.int .u8 1, .int .u8 2] 5)) (some ⟨w.heap.size, 0, none⟩) 2 [1, 2] := by
  refine ⟨rfl, by omega, fun i => ?_, fun _ => ⟨_, _, rfl, fun i hi => ?_⟩⟩
  · rcases i with _ | _ | i <;> simp
  · rcases (by omega : i = 0 ∨ i = 1) with rfl | rfl <;> simp

theorem take_two (w : World) (rb : Nat) (h : Rest w rb 2 [1, 2] 0) :
    Calls Try.prog 72 #[.pointer (some ⟨rb, 0, none⟩), .int .i64 2] w fun e w' => e = .returned (.int .i64 513) ∧ w.grownBy w' (some rb) ∧ Rest w' rb 0 [] 0 :=
  take_yes w rb 2 2 [1, 2] h (by omega) (by omega) (by omega)

end Go.Proofs.Ytkmijjipnepnoab
