/- VolumeNobody: the statement's own call returns true. -/
import Derived.Test.YtinigfidofgaiaaGreatBegun
namespace Go.Proofs.YtinigfidofgaiaaGreat
open Go.RowKit Go.Maps
set_option linter.unusedVariables false

/-- Two pointers in a row: none, and one to a block whose cell o is z. -/
structure Two (w w' : World) (H o : Nat) (z : Value) : Prop where
  c0 : w'.cell? ⟨H + 1, 0, none⟩ = some (.pointer none)
  c1 : w'.cell? ⟨H + 1, 1, none⟩ = some (.pointer (some ⟨H, 0, none⟩))
  cz : w'.cell? ⟨H, o, none⟩ = some z
  b : Below w.heap.size w w'
  s : H + 1 < w'.heap.size
theorem Two.kept {w w' w'' : World} {H o : Nat} {z : Value} (h : Two w w' H o z) (hb : Below w'.heap.size w' w'') : Two w w'' H o z :=
  ⟨(hb.cell (p := ⟨H + 1, 0, none⟩) h.s).trans h.c0, (hb.cell (p := ⟨H + 1, 1, none⟩) h.s).trans h.c1, (hb.cell (p := ⟨H, o, none⟩) (by have := h.s; show H < _; omega)).trans h.cz, h.b.trans (hb.mono h.b.size), Nat.lt_of_lt_of_le h.s hb.size⟩

set_option maxRecDepth 100000 in
set_option maxHeartbeats 4000000 in
theorem volumeNobody_walk (b n : Int) (w : World) : Calls Tryz.prog 7 #[.int .i64 b, .int .i64 n] w fun e w' => e = .returned (.bool true) ∧ Below w.heap.size w w' := by
  have hbg := begun2_ok
  go_enter Tryz.func7, Tryz.ntmps7
  go_wp2_with fail
  go_loopw [24] (fun i wr => ∃ j : Nat, j ≤ 2 ∧ i = .int .i64 (j : Int) ∧ Two w wr w.heap.size 2 (.pointer none)) (fun i _ => 2 - (intOf i).toNat)
  case atStart =>
    refine ⟨0, by omega, rfl, ?_⟩
    have b0 : Below w.heap.size w (w.alloc (.cells #[.int .i32 0, .int .u32 0, .pointer none, .pointer none, .pointer none, .map none, .pointer none] 76)) := (Below.refl _ w).alloc (Nat.le_refl _) _
    have hrow := heap_alloc_new (w.alloc (.cells #[.int .i32 0, .int .u32 0, .pointer none, .pointer none, .pointer none, .map none, .pointer none] 76)) (.cells #[.pointer none, .pointer (some ⟨w.heap.size, 0, none⟩)] 24)
    rw [World.size_alloc] at hrow
    have hz := (Below.heap_alloc (w.alloc (.cells #[.int .i32 0, .int .u32 0, .pointer none, .pointer none, .pointer none, .map none, .pointer none] 76)) (.cells #[.pointer none, .pointer (some ⟨w.heap.size, 0, none⟩)] 24) w.heap.size (by simp)).trans (heap_alloc_new w _)
    exact ⟨cell_of_row _ _ 0 _ 24 _ hrow, cell_of_row _ _ 1 _ 24 _ hrow, cell_of_row _ _ 2 _ 76 _ hz, b0.alloc (by simp) _, by simp⟩
  case round =>
    obtain ⟨j, hj, rfl, hp⟩ := hrel
    by_cases hlt : j < 2
    · obtain ⟨v, hv, hcell⟩ : ∃ v, (∀ w', Two w w' w.heap.size 2 (.pointer none) → VVoid w' (.pointer v)) ∧ wr.cell? ⟨w.heap.size + 1, j, none⟩ = some (.pointer v) := by
        rcases (by omega : j = 0 ∨ j = 1) with rfl | rfl
        · exact ⟨none, fun _ _ => .inl rfl, hp.c0⟩
        · exact ⟨_, fun w' h => .inr ⟨_, rfl, h.cz⟩, hp.c1⟩
      have HD := (show Hid _ from hv)
      have hjI : (j : Int) < 2 := by omega
      have hj0 : (0 : Int) ≤ (j : Int) := by omega
      have hp1 : Two w (wr.alloc (.cells #[.int .u8 1] 5)) w.heap.size 2 (.pointer none) := hp.kept ((Below.refl _ _).alloc (Nat.le_refl _) _)
      have v1 := HD.out _ hp1
      have r1 := vread_void (HD.out wr hp) b
      have q1 := vchange_void v1 b (.slice (some ⟨wr.heap.size, 0, none⟩) 1 1)
      have q2 := vold_void v1 b
      have q3 := vundo_void v1 n
      have q4 := vwrite_void v1 b
      have q5 := vcomplete_void v1 n true
      have q6 := vsync_void v1
      have q7 := vfreeze_void v1 n
      have q8 := vthaw_void v1
      have q9 := visDone_void v1 n
      have q10 := vbroken_void v1
      have q11 := vkept_void v1
      have q12 := vlast_void v1
      have q13 := vblocks_void v1
      have q14 := vdirty_void v1
      have q15 := vpending_void v1 b
      have q16 := vready_void v1
      have q17 := vway_void v1
      clear hv v1
      go_wp2_with (first
        | (go_at_call 33; refine same_at r1 ?_)
        | (go_at_call 30; refine same_at q1 ?_)
        | (go_at_call 24; refine same_at q2 ?_)
        | (go_at_call 23; refine same_at q3 ?_)
        | (go_at_call 12; refine same_at q4 ?_)
        | (go_at_call 15; refine same_at q5 ?_)
        | (go_at_call 17; refine same_at q6 ?_)
        | (go_at_call 20; refine same_at q7 ?_)
        | (go_at_call 34; refine same_at q8 ?_)
        | (go_at_call 18; refine same_at q9 ?_)
        | (go_at_call 26; refine same_at q10 ?_)
        | (go_at_call 27; refine same_at q11 ?_)
        | (go_at_call 16; refine same_at q12 ?_)
        | (go_at_call 21; refine same_at q13 ?_)
        | (go_at_call 10; refine same_at q14 ?_)
        | (go_at_call 35; refine same_at q15 ?_)
        | (go_at_call 11; refine same_at q16 ?_)
        | (go_at_call 14; refine same_at q17 ?_))
      go_roundw
      case rel => exact ⟨j + 1, by omega, by go_num, hp1⟩
      case measure => simp [intOf]; omega
    · have hI2 : ¬ (j : Int) < 2 := by omega
      go_wp2_with fail
      have hT2 : Two w ((wr.alloc (.cells #[.int .i64 0, .map none, .slice none 0 0, .int .i64 0, .map none] 84)).alloc (.cells #[.pointer none, .pointer (some ⟨wr.heap.size, 0, none⟩)] 25)) wr.heap.size 0 (.int .i64 0) := by
        have b0 : Below wr.heap.size wr (wr.alloc (.cells #[.int .i64 0, .map none, .slice none 0 0, .int .i64 0, .map none] 84)) := (Below.refl _ wr).alloc (Nat.le_refl _) _
        have b1 := b0.alloc (show wr.heap.size ≤ _ by simp) (.cells #[.pointer none, .pointer (some ⟨wr.heap.size, 0, none⟩)] 25)
        have hrow := heap_alloc_new (wr.alloc (.cells #[.int .i64 0, .map none, .slice none 0 0, .int .i64 0, .map none] 84)) (.cells #[.pointer none, .pointer (some ⟨wr.heap.size, 0, none⟩)] 25)
        rw [World.size_alloc] at hrow
        have hz := (Below.heap_alloc (wr.alloc (.cells #[.int .i64 0, .map none, .slice none 0 0, .int .i64 0, .map none] 84)) (.cells #[.pointer none, .pointer (some ⟨wr.heap.size, 0, none⟩)] 25) wr.heap.size (by simp)).trans (heap_alloc_new wr _)
        exact ⟨cell_of_row _ _ 0 _ 25 _ hrow, cell_of_row _ _ 1 _ 25 _ hrow, cell_of_row _ _ 0 _ 84 _ hz, hp.b.trans (b1.mono hp.b.size), by simp⟩
      generalize wr.heap.size = H2 at *
      go_loopw [145] (fun i w2 => ∃ j : Nat, j ≤ 2 ∧ i = .int .i64 (j : Int) ∧ Two w w2 H2 0 (.int .i64 0)) (fun i _ => 2 - (intOf i).toNat)
      case atStart => exact ⟨0, by omega, rfl, hT2⟩
      case round =>
        clear hT2 hp
        obtain ⟨j, hj, rfl, hp2⟩ := hrel
        by_cases hlt : j < 2
        · obtain ⟨v, hv, hcell⟩ : ∃ v, Void wr v ∧ wr.cell? ⟨H2 + 1, j, none⟩ = some (.pointer v) := by
            rcases (by omega : j = 0 ∨ j = 1) with rfl | rfl
            · exact ⟨none, .inl rfl, hp2.c0⟩
            · exact ⟨_, .inr ⟨_, rfl, hp2.cz⟩, hp2.c1⟩
          have hq := vopen_void (.pointer v) 4 (blocks_void wr v hv)
          have hjI : (j : Int) < 2 := by omega
          have hj0 : (0 : Int) ≤ (j : Int) := by omega
          clear hv
          go_wp2_with (first | (go_at_call 29; refine same_at hq ?_))
          go_roundw
          case rel => exact ⟨j + 1, by omega, by go_num, hp2⟩
          case measure => simp [intOf]; omega
        · have hI3 : ¬ (j : Int) < 2 := by omega
          go_wp2_with (first
            | (go_at_call 8; refine Calls.mono (hbg wr) ?_; rintro e w9 ⟨v9, d9, rfl, hv9, hd9, hb9⟩; have hk9 := vblocks_ok hv9 hd9)
            | (go_at_call 21; refine same_at hk9 ?_))
          go_ret
          exact ⟨rfl, hp2.b.trans (hb9.mono hp2.b.size)⟩
end Go.Proofs.YtinigfidofgaiaaGreat
