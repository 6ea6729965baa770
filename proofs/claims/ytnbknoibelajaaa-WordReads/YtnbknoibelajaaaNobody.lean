/- WordNobody: a reader that no call made reads nothing, whatever number it is asked for. -/
import Derived.Test.YtnbknoibelajaaaRead4
namespace Go.Proofs.Ytnbknoibelajaaa
open Go.RowKit

set_option maxHeartbeats 800000 in
theorem over_ok (w : World) (p : Option Addr) (n c : Nat) (xs : List Int) (h : BI w p n xs) :
    Calls Try.prog 21 #[.slice p n c] w fun e w' => ∃ rb, e = .returned (.pointer (some ⟨rb, 0, none⟩)) ∧ w.heap.size ≤ rb ∧ Rest w' rb n xs 0 ∧ Below w.heap.size w w' := by
  go_enter Try.func21, Try.ntmps21
  go_wp2_with fail
  refine (clone_ok p n c xs w h).mono ?_
  rintro e w1 ⟨g, cap, rfl, ho, hb⟩
  go_wp2
  go_ret
  refine ⟨w1.heap.size, rfl, hb.size, ⟨g, 0, cap, ?_, ho.room.1, ?_⟩, ?_⟩
  · exact heap_alloc_new w1 _
  · exact (ho.bi h.big h.byt).kept ((Below.refl _ _).alloc (Nat.le_refl _) _)
  · exact hb.alloc hb.size _

/-- The two readers that no call made. -/
def Pair (w wr : World) : Prop :=
  Rd wr w.heap.size (.slice none 0 0) 0 false ∧ wr.heap[w.heap.size + 1]? = some (.cells #[.pointer none, .pointer (some ⟨w.heap.size, 0, none⟩)] 35 (0, 0)) ∧ Below w.heap.size w wr

theorem Pair.later {w wr w' : World} (h : Pair w wr) (hb : Below wr.heap.size wr w') : Pair w w' := by
  refine ⟨rd_kept h.1 hb, ?_, h.2.2.trans (hb.mono h.2.2.size)⟩
  rw [hb.block _ (Array.getElem?_eq_some_iff.1 h.2.1).1]
  exact h.2.1

theorem pair_mk (w : World) : Pair w ((w.alloc (.cells #[.slice none 0 0, .int .i64 0, .bool false] 51)).alloc (.cells #[.pointer none, .pointer (some ⟨w.heap.size, 0, none⟩)] 35)) :=
  ⟨at_old (at_new rfl), at_new (by simp), ((Below.refl _ _).alloc (Nat.le_refl _) _).alloc (by simp) _⟩

theorem Pair.c0 {w wr : World} (h : Pair w wr) : wr.cell? ⟨w.heap.size + 1, 0, none⟩ = some (.pointer none) := by
  rw [cell_of_row wr _ 0 _ _ _ h.2.1]; rfl
theorem Pair.c1 {w wr : World} (h : Pair w wr) : wr.cell? ⟨w.heap.size + 1, 1, none⟩ = some (.pointer (some ⟨w.heap.size, 0, none⟩)) := by
  rw [cell_of_row wr _ 1 _ _ _ h.2.1]; rfl

theorem two_bytes (w : World) : BI (w.alloc (.cells #[.int .u8 1, .int .u8 2] 5)) (some ⟨w.heap.size, 0, none⟩) 2 [1, 2] := by
  refine ⟨rfl, by omega, fun i => ?_, fun _ => ⟨_, _, rfl, fun i hi => ?_⟩⟩
  · rcases i with _ | _ | i <;> simp
  · rcases (by omega : i = 0 ∨ i = 1) with rfl | rfl <;> simp

theorem take_two (w : World) (rb : Nat) (h : Rest w rb 2 [1, 2] 0) :
    Calls Try.prog 22 #[.pointer (some ⟨rb, 0, none⟩), .int .i64 2] w fun e w' => e = .returned (.int .i64 513) ∧ w.grownBy w' (some rb) ∧ Rest w' rb 0 [] 0 :=
  take_yes w rb 2 2 [1, 2] h (by omega) (by omega) (by omega)

set_option maxHeartbeats 1600000 in
theorem nobody_walk (n : Int) (w : World) :
    Calls Try.prog 8 #[.int .i64 n] w fun e w' => e = .returned (.bool true) ∧ Below w.heap.size w w' := by
  have hmk := pair_mk w
  go_enter Try.func8, Try.ntmps8
  go_wp2_with fail
  go_loopw [10] (fun i wr => ∃ j : Nat, j ≤ 2 ∧ i = .int .i64 j ∧ Pair w wr) (fun i _ => 2 - (intOf i).toNat)
  case atStart => exact ⟨0, by omega, rfl, hmk⟩
  case round =>
    obtain ⟨j, hj, rfl, hp⟩ := hrel
    clear hmk
    rcases (by omega : j = 0 ∨ j = 1 ∨ j = 2) with rfl | rfl | rfl
    · have c0 := hp.c0
      go_wp2_with fail
      refine (skip_no wr none 2 n rfl (notyet_nil _)).mono ?_
      rintro e w1 ⟨rfl, hb1⟩
      go_wp2_with fail
      refine (take_no w1 none 2 n rfl (notyet_nil _)).mono ?_
      rintro e w2 ⟨rfl, hb2⟩
      go_wp2_with fail
      refine (text_no w2 none 2 n rfl (notyet_nil _)).mono ?_
      rintro e w3 ⟨rfl, hb3⟩
      go_wp2_with fail
      refine same_at (left_nil w3) ?_
      go_wp2_with fail
      refine same_at (err_nil w3) ?_
      have hp3 := ((hp.later hb1).later hb2).later hb3
      clear hp c0 hb1 hb2 hb3
      go_wp2
      go_roundw
      case rel => exact ⟨1, by omega, by go_num, hp3⟩
      case measure => simp [intOf]
    · have c1 := hp.c1
      go_wp2_with fail
      refine (skip_no wr _ 2 n rfl (notyet_plain _ _ _ _ hp.1)).mono ?_
      rintro e w1 ⟨rfl, hb1⟩
      have hp1 := hp.later hb1
      go_wp2_with fail
      refine (take_no w1 _ 2 n rfl (notyet_plain _ _ _ _ hp1.1)).mono ?_
      rintro e w2 ⟨rfl, hb2⟩
      have hp2 := hp1.later hb2
      go_wp2_with fail
      refine (text_no w2 _ 2 n rfl (notyet_plain _ _ _ _ hp2.1)).mono ?_
      rintro e w3 ⟨rfl, hb3⟩
      have hp3 := hp2.later hb3
      clear c1 hb1 hb2 hb3 hp hp1 hp2
      go_wp2_with fail
      refine same_at (left_some w3 _ _ _ _ _ _ hp3.1) ?_
      go_wp2_with fail
      refine same_at (err_plain w3 _ _ _ hp3.1) ?_
      go_wp2
      go_roundw
      case rel => exact ⟨2, by omega, by go_num, hp3⟩
      case measure => simp [intOf]
    · go_wp2_with fail
      have hbn := (Below.refl wr.heap.size wr).alloc (Nat.le_refl _) (.cells #[.int .u8 1, .int .u8 2] 5)
      refine (over_ok _ _ 2 2 _ (two_bytes wr)).mono ?_
      rintro e w1 ⟨rb, rfl, hge, hrest, hb1⟩
      go_wp2_with fail
      refine (take_two w1 rb hrest).mono ?_
      rintro e w2 ⟨rfl, hg2, hrest2⟩
      have hbel : Below w.heap.size w w2 := hp.2.2.trans ((hbn.mono hp.2.2.size).trans ((hb1.mono (Nat.le_trans hp.2.2.size hbn.size)).trans ⟨hg2.os, hg2.tape, hg2.output, hg2.size, fun k hk => hg2.block k (by have := hp.2.2.size; have := hbn.size; have := hb1.size; omega) (by have := hp.2.2.size; have := hbn.size; intro e; cases e; omega)⟩))
      obtain ⟨b, o, c, hr, _⟩ := hrest2
      go_wp2_with fail
      refine same_at (err_made w2 _ _ _ hr) ?_
      go_wp2
      go_ret
      exact ⟨rfl, hbel⟩
end Go.Proofs.Ytnbknoibelajaaa
