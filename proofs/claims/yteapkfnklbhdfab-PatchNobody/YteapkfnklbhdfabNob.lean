/- PatchNobody: the statement's own call returns true. -/
import Derived.Test.YteapkfnklbhdfabVoid
import Derived.Test.YteapkfnklbhdfabAdd
namespace Go.Proofs.Yteapkfnklbhdfab
open Go.RowKit Go.Maps
set_option linter.unusedVariables false

/-- Two pointers in a row: none, and one to a block whose second cell is no map. -/
structure Two (w w' : World) (H : Nat) : Prop where
  c0 : w'.cell? ⟨H + 1, 0, none⟩ = some (.pointer none)
  c1 : w'.cell? ⟨H + 1, 1, none⟩ = some (.pointer (some ⟨H, 0, none⟩))
  cz : w'.cell? ⟨H, 1, none⟩ = some (.map none)
  b : Below w.heap.size w w'
  s : H + 1 < w'.heap.size
theorem Two.kept {w w' w'' : World} {H : Nat} (h : Two w w' H) (hb : Below w'.heap.size w' w'') : Two w w'' H :=
  ⟨(hb.cell (p := ⟨H + 1, 0, none⟩) h.s).trans h.c0, (hb.cell (p := ⟨H + 1, 1, none⟩) h.s).trans h.c1, (hb.cell (p := ⟨H, 1, none⟩) (by have := h.s; show H < _; omega)).trans h.cz, h.b.trans (hb.mono h.b.size), Nat.lt_of_lt_of_le h.s hb.size⟩

set_option maxRecDepth 100000 in
set_option maxHeartbeats 2000000 in
theorem patchNobody_walk (k : Int) (w : World) : Calls Try.prog 3 #[.int .i64 k] w fun e w' => e = .returned (.bool true) ∧ Below w.heap.size w w' := by
  obtain ⟨i0, hi, hz0, hz1, hz2⟩ := info_parts info5
  have hmk : ∀ W : World, ∃ Z, (Instr.makeSlice 31 (.int .i64 128) (.int .i64 128)).run Try.prog W = .ok (.slice (some ⟨W.heap.size, 0, none⟩) 128 128) (W.alloc (.cells Z 5)) := fun W =>
    ⟨_, run_makeSlice (P := Try.prog) W 31 5 i0 (.int .u8 0) Try.underlying31 hi hz0 .i64 .i64 128 128 (by omega) (by omega) (by rw [hz1]; decide) (by rw [hz2]; decide) (by omega)⟩
  have HMK : Hid _ := hmk
  clear hmk
  go_enter Try.func3, Try.ntmps3
  go_wp2_with fail
  go_loopw [21] (fun i wr => ∃ j : Nat, j ≤ 2 ∧ i = .int .i64 (j : Int) ∧ Two w wr w.heap.size) (fun i _ => 2 - (intOf i).toNat)
  case atStart =>
    refine ⟨0, by omega, rfl, ?_⟩
    have b0 : Below w.heap.size w (w.alloc (.cells #[.int .i64 0, .map none, .map none] 26)) := (Below.refl _ w).alloc (Nat.le_refl _) _
    have hrow := World.alloc_heap_new (w.alloc (.cells #[.int .i64 0, .map none, .map none] 26)) (.cells #[.pointer none, .pointer (some ⟨w.heap.size, 0, none⟩)] 22)
    rw [World.size_alloc] at hrow
    have hz := (Below.heap_alloc (w.alloc (.cells #[.int .i64 0, .map none, .map none] 26)) (.cells #[.pointer none, .pointer (some ⟨w.heap.size, 0, none⟩)] 22) w.heap.size (by simp)).trans (World.alloc_heap_new w _)
    exact ⟨cell_of_row _ _ 0 _ 22 _ hrow, cell_of_row _ _ 1 _ 22 _ hrow, cell_of_row _ _ 1 _ 26 _ hz, b0.alloc (by simp) _, by simp⟩
  case round =>
    obtain ⟨j, hj, rfl, hp⟩ := hrel
    by_cases hlt : j < 2
    · obtain ⟨v, hv, hcell⟩ : ∃ v, (∀ w', Two w w' w.heap.size → PVoid w' v) ∧ wr.cell? ⟨w.heap.size + 1, j, none⟩ = some (.pointer v) := by
        rcases (by omega : j = 0 ∨ j = 1) with rfl | rfl
        · exact ⟨none, fun _ _ => .inl rfl, hp.c0⟩
        · exact ⟨_, fun w' h => .inr ⟨_, rfl, h.cz⟩, hp.c1⟩
      have HD : Hid _ := hv
      clear hv
      have hjI : (j : Int) < 2 := by omega
      have hj0 : (0 : Int) ≤ (j : Int) := by omega
      have hp1 : Two w (wr.alloc (.cells #[.int .u8 1] 5)) w.heap.size := hp.kept ((Below.refl _ _).alloc (Nat.le_refl _) _)
      have q1 := vadd (HD.out _ hp1) 0 0 (some ⟨wr.heap.size, 0, none⟩) none 1 1 0 0
      clear hp
      go_wp2_with fail
      refine same_at q1 ?_
      clear q1
      generalize wr.alloc (.cells #[.int .u8 1] 5) = wa at *
      obtain ⟨Z, hZ⟩ := HMK.out wa
      have hp2 : Two w (wa.alloc (.cells Z 5)) w.heap.size := hp1.kept ((Below.refl _ _).alloc (Nat.le_refl _) _)
      have q2 := vnow (HD.out _ hp2) 0 (some ⟨wa.heap.size, 0, none⟩) 128 128
      clear hp1 hcell
      go_wp2_with fail
      refine same_at q2 ?_
      clear q2 hZ
      generalize wa.alloc (.cells Z 5) = wb at *
      obtain ⟨Z2, hZ2⟩ := HMK.out wb
      have hp3 : Two w (wb.alloc (.cells Z2 5)) w.heap.size := hp2.kept ((Below.refl _ _).alloc (Nat.le_refl _) _)
      have q3 := vplan (HD.out _ hp3) 0 (some ⟨wb.heap.size, 0, none⟩) 128 128
      clear hp2
      go_wp2_with fail
      refine below_at q3 ?_
      intro wc hbc
      have hp4 := hp3.kept hbc
      clear q3 hZ2 hp3 hbc
      have q4 := vget (HD.out _ hp4) k
      go_wp2_with fail
      refine q4.mono ?_
      rintro _ wd ⟨⟨u, rfl, rfl⟩, hbd⟩
      have hp5 := hp4.kept hbd
      clear q4 hp4 hbd
      unfold zp
      have hp6 : Two w (wd.alloc (.cells #[.int .i64 0, .int .i64 0, .int .i64 0, .slice none 0 0, .slice none 0 0] 38)) w.heap.size := hp5.kept ((Below.refl _ _).alloc (Nat.le_refl _) _)
      clear hp5
      dsimp only
      go_wp2_with fail
      generalize wd.alloc (.cells #[.int .i64 0, .int .i64 0, .int .i64 0, .slice none 0 0, .slice none 0 0] 38) = we at *
      have V := HD.out _ hp6
      have q8 := vdone V none 0 0
      have q9 := vundo V 0
      have q10 := vof V k
      have q11 := vblocks V
      clear V
      refine same_at q8 ?_
      clear q8
      go_wp2_with fail
      refine same_at q9 ?_
      clear q9
      go_wp2_with fail
      refine same_at q10 ?_
      clear q10
      go_wp2_with fail
      refine same_at q11 ?_
      clear q11
      go_wp2_with fail
      have hp7 : Two w (we.alloc (.cells #[.int .i64 k] 3)) w.heap.size := hp6.kept ((Below.refl _ _).alloc (Nat.le_refl _) _)
      have q12 := vclosure (HD.out _ hp7) (some ⟨we.heap.size, 0, none⟩) 1 1
      refine below_at q12 ?_
      intro wf hbf
      have hp8 := hp7.kept hbf
      have V := HD.out _ hp8
      have q13 := visDone V k
      have q14 := vlast V
      clear q12 hbf hp7 hp6 V
      go_wp2_with fail
      refine same_at q13 ?_
      clear q13
      go_wp2_with fail
      refine same_at q14 ?_
      clear q14
      go_wp2_with fail
      go_roundw
      case rel => exact ⟨j + 1, by omega, by go_num, hp8⟩
      case measure => simp [intOf]; omega
    · have hI2 : ¬ (j : Int) < 2 := by omega
      have hb := hp.b
      have hnew := new_ok wr
      clear hp
      go_wp2_with fail
      refine hnew.mono ?_
      rintro _ w1 ⟨a, mp, mb, rfl, hPS, hb1⟩
      clear hnew
      obtain ⟨W2, hW2⟩ : ∃ W2, w1.alloc (.cells #[.int .u8 1] 5) = W2 := ⟨_, rfl⟩
      have hb2 : Below w1.heap.size w1 W2 := by rw [← hW2]; exact (Below.refl _ _).alloc (Nat.le_refl _) _
      have hBI : BI W2 (some ⟨w1.heap.size, 0, none⟩) 1 [1] := ⟨rfl, by omega, (fun i => by cases i with
        | zero => simp
        | succ i => simp), fun _ => ⟨w1.heap.size, 0, rfl, fun i hi => by
          obtain rfl : i = 0 := by omega
          rw [← hW2, cell_of_row _ _ 0 _ 5 _ (at_new rfl)]; rfl⟩⟩
      have hII : II W2 none 0 [] := ⟨rfl, by omega, (fun x hx => by cases hx), fun h => by omega⟩
      have hadd := sadd_ok (hPS.kept hb2) (by omega) 3 5 (by omega) (some ⟨w1.heap.size, 0, none⟩) 1 1 [1] hBI ⟨by omega, by omega, by omega, by omega⟩ none 0 0 [] hII rfl (by simp)
      dsimp only
      go_wp2_with fail
      refine hadd.mono ?_
      rintro _ w3 ⟨rfl, pn, K', f1, f2, f3, f4, f5, hPS3, hSt⟩
      have hbw : Below w.heap.size w w3 := (hb.trans ((hb1.trans (hb2.mono hb1.size)).mono hb.size)).trans (hSt.below (by have := hb.size; have := hb1.size; have := hb2.size; omega) (fun k hk => by
        have hbs := hPS.base.1
        have := hb.size
        rcases hk with rfl | rfl | rfl | ⟨b, v, hv, _⟩ | ⟨p, hp, _⟩
        · omega
        · omega
        · omega
        · cases hv
        · cases hp))
      clear hadd hPS hPS3 hSt f1 f2 f3 f4 f5
      dsimp only
      go_wp2_with fail
      go_ret
      exact ⟨rfl, hbw⟩
end Go.Proofs.Yteapkfnklbhdfab
