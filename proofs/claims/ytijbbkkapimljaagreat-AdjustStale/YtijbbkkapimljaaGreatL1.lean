/- disk.Read of a block whose reads do not fail. -/
import Derived.Test.YtijbbkkapimljaaGreatF3
namespace Go.Proofs.YtijbbkkapimljaaGreat
open Go.RowKit Go.Maps
set_option maxRecDepth 100000
set_option linter.unusedVariables false

theorem zero3 (w : World) : (zeroValue 3).run Tryz.prog w = .ok (.int .i64 0) w := by kernel_rfl
theorem lit_wf {n : Int} (h : 0 ≤ n ∧ n ≤ 1000) : (Lit.int .i64 n).wf = true := by
  simp [Lit.wf, IntKind.min, IntKind.max, IntKind.signed, IntKind.bits]
  omega
theorem Fls.lookup {w : World} {mb N : Nat} {f : Nat → Int} (h : Fls w mb N f) (hN : N ≤ 2048) (b : Nat) (hb : b < N) :
    (Instr.lookup 120 (.map (some mb)) (.int .i64 (b : Int)) false).run Tryz.prog w = .ok (.int .i64 (f b)) w := by
  obtain ⟨D, ho, _, hat⟩ := h.ex
  obtain ⟨c, hr, hv, _⟩ := ho.lookup_int keyed3 Tryz.underlying120 Tryz.underlying3 (zero3 w) (key_of (b := b) (by omega))
  rw [hat b hb] at hv
  simp only [DataW.lit.injEq, Lit.int.injEq, true_and] at hv
  rw [hr, ← hv]
section
variable {B : Nat} {w : World} {a mb fb : Nat} {qv : Value} {S : St}
theorem has_true (h : DI B w a mb fb qv S) (b : Nat) (hb : b < S.N) : Calls Tryz.prog 272 #[.pointer (some ⟨a, 0, none⟩), .int .i64 (b : Int)] w fun e w' => e = .returned (.bool true) ∧ w' = w := by
  have := has_ok h (b : Int)
  have e : (decide ((0 : Int) ≤ (b : Int)) && decide ((b : Int) < (S.N : Int))) = true := by simp; omega
  rwa [e] at this
set_option maxHeartbeats 400000 in
theorem read_ok (h : DI B w a mb fb qv S) (b : Nat) (hb : b < S.N) (h0 : S.fl b = 0) : Calls Tryz.prog 219 #[.pointer (some ⟨a, 0, none⟩), .int .i64 (b : Int)] w fun e w' => ∃ g, e = .returned (.tuple #[.slice (some ⟨g, 0, none⟩) 128 128, .int .i64 0]) ∧ Own w.heap.size w' g 128 128 (S.f b) ∧ Below w.heap.size w w' := by
  have c := has_true h b hb
  have hc := h.c4
  have hl := h.fls.lookup h.N2 b hb
  rw [h0] at hl
  go_enter Tryz.func219, Tryz.ntmps219
  go_wp2_with fail
  refine same_at (made_ok h) ?_
  go_wp2_with fail
  refine same_at c ?_
  go_wp2_with fail
  refine (bytesOf_ok h b hb).mono ?_
  rintro e w1 ⟨g, rfl, ho, hb1⟩
  go_wp2
  go_ret2
  exact ⟨g, rfl, ho, hb1⟩
end
end Go.Proofs.YtijbbkkapimljaaGreat
