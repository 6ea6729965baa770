/- volume.Open: over no disk, and over a disk. -/
import Derived.Test.YtinigfidofgaiaaGreatDOf
import Derived.Test.YtinigfidofgaiaaGreatVVoid
namespace Go.Proofs.YtinigfidofgaiaaGreat
open Go.RowKit Go.Maps
set_option linter.unusedVariables false

section
variable {w : World}
set_option maxHeartbeats 400000 in
/-- A cache over no disk: New tells that there is none. -/
theorem cnew_void (d : Value) (bd : Int) (hd : Calls Tryz.prog 56 #[d] w fun e w' => e = .returned (.int .i64 0) ∧ w' = w) : Calls Tryz.prog 62 #[d, .int .i64 bd] w fun e w' => e = .returned (.tuple #[.pointer none, .int .i64 2]) ∧ w' = w := by
  go_enter Tryz.func62, Tryz.ntmps62
  go_wp2_with (first | (go_at_call 56; refine same_at hd ?_))
  go_ret2
  exact ⟨rfl, rfl⟩
set_option maxHeartbeats 400000 in
theorem vopen_void (d : Value) (bd : Int) (hd : Calls Tryz.prog 56 #[d] w fun e w' => e = .returned (.int .i64 0) ∧ w' = w) : Calls Tryz.prog 29 #[d, .int .i64 bd] w fun e w' => e = .returned (.tuple #[.pointer none, .int .i64 2]) ∧ w' = w := by
  have hc := cnew_void d bd hd
  go_enter Tryz.func29, Tryz.ntmps29
  go_wp2_with (first | (go_at_call 62; refine same_at hc ?_))
  go_ret2
  exact ⟨rfl, rfl⟩

/-- What a call that makes a cache, a set of patches leaves: a pointer, and memory that has grown. -/
theorem cnew64_ok {B d dm df : Nat} {dq : Value} {S : St} (h : DI B w d dm df dq S) : Calls Tryz.prog 62 #[.pointer (some ⟨d, 0, none⟩), .int .i64 64] w fun e w' => ∃ c, e = .returned (.tuple #[.pointer (some ⟨c, 0, none⟩), .int .i64 0]) ∧ Below w.heap.size w w' := by
  have hd := blocks_ok h
  have hN := h.N1
  have hN2 : ((S.N : Int) == 0) = false := by rw [beq_eq_false_iff_ne]; omega
  have hN3 : ¬ (S.N : Int) = 0 := by omega
  have hmm := @run_makeMap Tryz.prog
  go_enter Tryz.func62, Tryz.ntmps62
  go_wp2_with (first | (go_at_call 56; refine same_at hd ?_))
  go_ret2
  have hb0 : Below w.heap.size w (w.alloc (.map #[] 0)) := (Below.refl _ w).alloc (Nat.le_refl _) _
  have hb1 := hb0.alloc (show w.heap.size ≤ (w.alloc (.map #[] 0)).heap.size by simp) (.cells #[.pointer (some ⟨d, 0, none⟩), .int .i64 64, .map (some w.heap.size), .int .i64 0, .int .i64 0] 140)
  exact ⟨_, rfl, hb1⟩
set_option maxHeartbeats 400000 in
theorem pnew_ok (w : World) : Calls Tryz.prog 63 #[] w fun e w' => ∃ c, e = .returned (.pointer (some ⟨c, 0, none⟩)) ∧ Below w.heap.size w w' := by
  have hmm := @run_makeMap Tryz.prog
  go_enter Tryz.func63, Tryz.ntmps63
  go_wp2
  go_ret
  refine ⟨_, rfl, ?_⟩
  exact (((Below.refl _ w).alloc (Nat.le_refl _) _).alloc (by simp) _).alloc (by simp; omega) _
set_option maxHeartbeats 400000 in
theorem vopen_ok {B d dm df : Nat} {dq : Value} {S : St} (h : DI B w d dm df dq S) : Calls Tryz.prog 29 #[.pointer (some ⟨d, 0, none⟩), .int .i64 64] w fun e w' => ∃ v, e = .returned (.tuple #[.pointer (some ⟨v, 0, none⟩), .int .i64 0]) ∧ w'.cell? ⟨v, 2, none⟩ = some (.pointer (some ⟨d, 0, none⟩)) ∧ Below w.heap.size w w' := by
  have hc := cnew64_ok h
  have hmm := @run_makeMap Tryz.prog
  go_enter Tryz.func29, Tryz.ntmps29
  go_wp2_with (first | (go_at_call 62; refine Calls.mono hc ?_; rintro e w1 ⟨c, rfl, hb1⟩) | (go_at_call 63; refine Calls.mono (pnew_ok _) ?_; rintro e w2 ⟨p, rfl, hb2⟩))
  go_ret2
  have hb := hb1.trans (hb2.mono hb1.size)
  have hs := hb.size
  refine ⟨w2.heap.size + 1, rfl, ?_, ?_⟩
  · rw [cell_of_row _ _ 2 _ 76 _ (at_new (by simp))]; rfl
  · exact (hb.alloc hs _).alloc (by simp; omega) _
set_option maxHeartbeats 400000 in
theorem vmade_ok {v d : Nat} (hv : w.cell? ⟨v, 2, none⟩ = some (.pointer (some ⟨d, 0, none⟩))) : Calls Tryz.prog 38 #[.pointer (some ⟨v, 0, none⟩)] w fun e w' => e = .returned (.bool true) ∧ w' = w := by
  go_enter Tryz.func38, Tryz.ntmps38
  go_wp2
  go_ret
  exact ⟨rfl, rfl⟩
set_option maxHeartbeats 400000 in
theorem vblocks_ok {v d : Nat} {k : Int} (hv : w.cell? ⟨v, 2, none⟩ = some (.pointer (some ⟨d, 0, none⟩))) (hd : w.cell? ⟨d, 0, none⟩ = some (.int .i64 k)) : Calls Tryz.prog 21 #[.pointer (some ⟨v, 0, none⟩)] w fun e w' => e = .returned (.int .i64 k) ∧ w' = w := by
  have hm := vmade_ok hv
  have hb := blocks_some w d k hd
  go_enter Tryz.func21, Tryz.ntmps21
  go_wp2_with (first | (go_at_call 38; refine same_at hm ?_) | (go_at_call 56; refine same_at hb ?_))
  go_ret
  exact ⟨rfl, rfl⟩
end
end Go.Proofs.YtinigfidofgaiaaGreat
