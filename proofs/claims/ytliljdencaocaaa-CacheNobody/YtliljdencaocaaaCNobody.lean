/- CacheNobody: the statement's own call returns true. -/
import Derived.Test.YtliljdencaocaaaBoth
namespace Go.Proofs.Ytliljdencaocaaa
open Go.RowKit Go.Maps
set_option linter.unusedVariables false

/-- Two pointers in a row: none, and one to a block whose first cell is z. -/
structure Two (w w' : World) (H : Nat) (z : Value) : Prop where
  c0 : w'.cell? ⟨H + 1, 0, none⟩ = some (.pointer none)
  c1 : w'.cell? ⟨H + 1, 1, none⟩ = some (.pointer (some ⟨H, 0, none⟩))
  cz : w'.cell? ⟨H, 0, none⟩ = some z
  b : Below w.heap.size w w'
  s : H + 1 < w'.heap.size
theorem Two.kept {w w' w'' : World} {H : Nat} {z : Value} (h : Two w w' H z) (hb : Below w'.heap.size w' w'') : Two w w'' H z :=
  ⟨(hb.cell (p := ⟨H + 1, 0, none⟩) h.s).trans h.c0, (hb.cell (p := ⟨H + 1, 1, none⟩) h.s).trans h.c1, (hb.cell (p := ⟨H, 0, none⟩) (by have := h.s; show H < _; omega)).trans h.cz, h.b.trans (hb.mono h.b.size), Nat.lt_of_lt_of_le h.s hb.size⟩

set_option maxRecDepth 100000 in
set_option maxHeartbeats 2000000 in
theorem cacheNobody_walk (b : Int) (w : World) : Calls Try.prog 6 #[.int .i64 b] w fun e w' => e = .returned (.bool true) ∧ Below w.heap.size w w' := by
  obtain ⟨i0, hi, hz0, hz1, hz2⟩ := info_parts info5
  have hbo := fun w1 => both_ok 3 2 w1
  go_enter Try.func6, Try.ntmps6
  go_wp2_with fail
  go_loopw [22] (fun i wr => ∃ j : Nat, j ≤ 2 ∧ i = .int .i64 (j : Int) ∧ Two w wr w.heap.size (.pointer none)) (fun i _ => 2 - (intOf i).toNat)
  case atStart =>
    refine ⟨0, by omega, rfl, ?_⟩
    have b0 : Below w.heap.size w (w.alloc (.cells #[.pointer none, .int .i64 0, .map none, .int .i64 0, .int .i64 0] 56)) := (Below.refl _ w).alloc (Nat.le_refl _) _
    have hrow := World.alloc_heap_new (w.alloc (.cells #[.pointer none, .int .i64 0, .map none, .int .i64 0, .int .i64 0] 56)) (.cells #[.pointer none, .pointer (some ⟨w.heap.size, 0, none⟩)] 23)
    rw [World.size_alloc] at hrow
    have hz := (Below.heap_alloc (w.alloc (.cells #[.pointer none, .int .i64 0, .map none, .int .i64 0, .int .i64 0] 56)) (.cells #[.pointer none, .pointer (some ⟨w.heap.size, 0, none⟩)] 23) w.heap.size (by simp)).trans (World.alloc_heap_new w _)
    exact ⟨cell_of_row _ _ 0 _ 23 _ hrow, cell_of_row _ _ 1 _ 23 _ hrow, cell_of_row _ _ 0 _ 56 _ hz, b0.alloc (by simp) _, by simp⟩
  case round =>
    obtain ⟨j, hj, rfl, hp⟩ := hrel
    by_cases hlt : j < 2
    · obtain ⟨v, hv, hcell⟩ : ∃ v, (∀ w', Two w w' w.heap.size (.pointer none) → CVoid w' (.pointer v)) ∧ wr.cell? ⟨w.heap.size + 1, j, none⟩ = some (.pointer v) := by
        rcases (by omega : j = 0 ∨ j = 1) with rfl | rfl
        · exact ⟨none, fun _ _ => .inl rfl, hp.c0⟩
        · exact ⟨_, fun w' h => .inr ⟨_, rfl, h.cz⟩, hp.c1⟩
      have HD := (show Hid _ from hv)
      have hg := cget_void (HD.out wr hp) b
      have hh := chits_void (HD.out wr hp)
      have hjI : (j : Int) < 2 := by omega
      have hj0 : (0 : Int) ≤ (j : Int) := by omega
      obtain ⟨Z, hmk⟩ : ∃ Z, (Instr.makeSlice 29 (.int .i64 128) (.int .i64 128)).run Try.prog wr = .ok (.slice (some ⟨wr.heap.size, 0, none⟩) 128 128) (wr.alloc (.cells Z 5)) :=
        ⟨_, run_makeSlice (P := Try.prog) wr 29 5 i0 (.int .u8 0) Try.underlying29 hi hz0 .i64 .i64 128 128 (by omega) (by omega) (by rw [hz1]; decide) (by rw [hz2]; decide) (by omega)⟩
      have hp1 : Two w (wr.alloc (.cells Z 5)) w.heap.size (.pointer none) := hp.kept ((Below.refl _ _).alloc (Nat.le_refl _) _)
      have v1 := HD.out _ hp1
      have q1 := cput_void v1 b (.slice (some ⟨wr.heap.size, 0, none⟩) 128 128)
      have q2 := cdrop_void v1 b
      have q3 := cpin_void v1 b
      have q4 := cunpin_void v1 b
      have q5 := cheld_void v1
      clear hv v1
      go_wp2_with (first
        | (go_at_call 15; refine same_at hg ?_)
        | (go_at_call 13; refine same_at hh ?_)
        | (go_at_call 23; refine same_at q1 ?_)
        | (go_at_call 26; refine same_at q2 ?_)
        | (go_at_call 16; refine same_at q3 ?_)
        | (go_at_call 17; refine same_at q4 ?_)
        | (go_at_call 11; refine Calls.mono q5 ?_; rintro e w5 ⟨rfl, hb5⟩; have hp5 := hp1.kept hb5))
      go_roundw
      case rel => exact ⟨j + 1, by omega, by go_num, hp5⟩
      case measure => simp [intOf]; omega
    · have hI2 : ¬ (j : Int) < 2 := by omega
      go_wp2_with fail
      have hT2 : Two w ((wr.alloc (.cells #[.int .i64 0, .map none, .slice none 0 0, .int .i64 0, .map none] 61)).alloc (.cells #[.pointer none, .pointer (some ⟨wr.heap.size, 0, none⟩)] 25)) wr.heap.size (.int .i64 0) := by
        have b0 : Below wr.heap.size wr (wr.alloc (.cells #[.int .i64 0, .map none, .slice none 0 0, .int .i64 0, .map none] 61)) := (Below.refl _ wr).alloc (Nat.le_refl _) _
        have b1 := b0.alloc (show wr.heap.size ≤ _ by simp) (.cells #[.pointer none, .pointer (some ⟨wr.heap.size, 0, none⟩)] 25)
        have hrow := World.alloc_heap_new (wr.alloc (.cells #[.int .i64 0, .map none, .slice none 0 0, .int .i64 0, .map none] 61)) (.cells #[.pointer none, .pointer (some ⟨wr.heap.size, 0, none⟩)] 25)
        rw [World.size_alloc] at hrow
        have hz := (Below.heap_alloc (wr.alloc (.cells #[.int .i64 0, .map none, .slice none 0 0, .int .i64 0, .map none] 61)) (.cells #[.pointer none, .pointer (some ⟨wr.heap.size, 0, none⟩)] 25) wr.heap.size (by simp)).trans (World.alloc_heap_new wr _)
        exact ⟨cell_of_row _ _ 0 _ 25 _ hrow, cell_of_row _ _ 1 _ 25 _ hrow, cell_of_row _ _ 0 _ 61 _ hz, hp.b.trans (b1.mono hp.b.size), by simp⟩
      generalize wr.heap.size = H2 at *
      go_loopw [88] (fun i w2 => ∃ j : Nat, j ≤ 2 ∧ i = .int .i64 (j : Int) ∧ Two w w2 H2 (.int .i64 0)) (fun i _ => 2 - (intOf i).toNat)
      case atStart => exact ⟨0, by omega, rfl, hT2⟩
      case round =>
        clear hT2 hp
        obtain ⟨j, hj, rfl, hp2⟩ := hrel
        by_cases hlt : j < 2
        · obtain ⟨v, hv, hcell⟩ : ∃ v, Void wr v ∧ wr.cell? ⟨H2 + 1, j, none⟩ = some (.pointer v) := by
            rcases (by omega : j = 0 ∨ j = 1) with rfl | rfl
            · exact ⟨none, .inl rfl, hp2.c0⟩
            · exact ⟨_, .inr ⟨_, rfl, hp2.cz⟩, hp2.c1⟩
          have hq := cnew_void (.pointer v) 5 (blocks_void wr v hv)
          have hjI : (j : Int) < 2 := by omega
          have hj0 : (0 : Int) ≤ (j : Int) := by omega
          clear hv
          go_wp2_with (first | (go_at_call 27; refine same_at hq ?_))
          go_roundw
          case rel => exact ⟨j + 1, by omega, by go_num, hp2⟩
          case measure => simp [intOf]; omega
        · have hI3 : ¬ (j : Int) < 2 := by omega
          go_wp2_with (first | (go_at_call 8; refine Calls.mono (hbo wr) ?_; rintro e w9 ⟨K, a, x, _, _, _, hb9, h9⟩; have h9 := h9.resolve_left (fun hb => by have := hb.1; omega); obtain ⟨n, c, mc, y, dm, df, dq, bv, qv, fv, gB, gQ, _, _, _, rfl, _⟩ := h9))
          go_ret
          exact ⟨rfl, hp2.b.trans (hb9.mono hp2.b.size)⟩
end Go.Proofs.Ytliljdencaocaaa
