/- uppermost, as it is called. -/
import Derived.Test.YteapkfnklbhdfaaBack
import Derived.Test.YteapkfnklbhdfaaGet
namespace Go.Proofs.Yteapkfnklbhdfaa
open Go.RowKit Go.Maps
set_option linter.unusedVariables false

theorem zc106 : Try.zeroCells106 = covA cov0 := by kernel_rfl

set_option maxRecDepth 100000 in
set_option maxHeartbeats 4000000 in
theorem uppermost_ok {B : Nat} {w : World} {a mp mb last : Nat} {P : List Pv} {K : Int → Option Value} (h : PS B w a mp mb last P K) (p : Pv) (hp : p.off + p.bs.length ≤ 128) (hb : p.blk ≤ 9223372036854775807) :
    Calls Try.prog 73 #[.pointer (some ⟨a, 0, none⟩), p.v] w fun e w' => ∃ v, e = .returned v ∧ Nums w.heap.size w' v (uppL P p) ∧ Below w.heap.size w w' := by
  obtain ⟨A1, hA1⟩ : ∃ A1, w.alloc (.cells p.cells 44) = A1 := ⟨_, rfl⟩
  obtain ⟨A2, hA2⟩ : ∃ A2, A1.alloc (.cells #[.slice none 0 0] 30) = A2 := ⟨_, rfl⟩
  obtain ⟨A3, hA3⟩ : ∃ A3, A2.alloc (.cells Try.zeroCells106 106) = A3 := ⟨_, rfl⟩
  obtain ⟨A4, hA4⟩ : ∃ A4, A3.alloc (.cells #[.int .i64 (p.bs.length : Int)] 3) = A4 := ⟨_, rfl⟩
  have s1 : A1.heap.size = w.heap.size + 1 := by rw [← hA1]; simp
  have s2 : A2.heap.size = w.heap.size + 1 + 1 := by rw [← hA2]; simp [s1]
  have s3 : A3.heap.size = w.heap.size + 1 + 1 + 1 := by rw [← hA3]; simp [s2]
  have s4 : A4.heap.size = w.heap.size + 1 + 1 + 1 + 1 := by rw [← hA4]; simp [s3]
  have r1 : A1.heap[w.heap.size]? = some (.cells p.cells 44 (0, 0)) := by rw [← hA1]; exact at_new rfl
  have r2 : A2.heap[w.heap.size + 1]? = some (.cells #[.slice none 0 0] 30 (0, 0)) := by rw [← hA2]; exact at_new s1.symm
  have r3 : A3.heap[w.heap.size + 1 + 1]? = some (.cells (covA cov0) 106 (0, 0)) := by rw [← hA3, ← zc106]; exact at_new s2.symm
  have r4 : A4.heap[w.heap.size + 1 + 1 + 1]? = some (.cells #[.int .i64 (p.bs.length : Int)] 3 (0, 0)) := by rw [← hA4]; exact at_new s3.symm
  have r1' : A3.heap[w.heap.size]? = some (.cells p.cells 44 (0, 0)) := by rw [← hA3, ← hA2]; exact at_old (at_old r1)
  have b3 : Below w.heap.size w A3 := by rw [← hA3, ← hA2, ← hA1]; exact (((Below.refl _ w).alloc (Nat.le_refl _) _).alloc (by simp) _).alloc (by simp; omega) _
  have b4 : Below w.heap.size w A4 := by rw [← hA4]; exact b3.alloc (by rw [s3]; omega) _
  have h0 : trs cov0 = 0 := trs_rep 128
  have hU : UP w.heap.size w A4 p (w.heap.size + 1 + 1 + 1) w.heap.size (w.heap.size + 1 + 1) (w.heap.size + 1) (.slice none 0 0) cov0 (p.bs.length : Int) [] :=
    ⟨b4, Nat.le_refl _, oth_below b4, r4, by rw [← hA4]; exact at_old r1', by rw [← hA4]; exact at_old r3, by rw [← hA4, ← hA3]; exact at_old (at_old r2), List.length_replicate, by rw [h0]; simp, Nums.nil _ _, by omega⟩
  have hcall := callsIn_wide.1 (eachBack_in h hU hp (p.blk : Int) ⟨by omega, by omega⟩)
  have c3 : A3.cell? ⟨w.heap.size, 3, none⟩ = some (.slice p.bp p.bs.length p.bc) := (cells5 r1').2.2.2.1
  have c1 : A4.cell? ⟨w.heap.size, 1, none⟩ = some (.int .i64 (p.blk : Int)) := (cells5 hU.rp).2.1
  have hv : p.v = .agg p.cells := rfl
  have HL : Hid (uppL P p = uppF p (ofB P (p.blk : Int)).reverse (cov0, (p.bs.length : Int)) []) := rfl
  clear hU r1 r2 r3 r4 r1' b3 b4 h0 s4 h
  go_enter Try.func73, Try.ntmps73
  go_wp2_with (first | (go_at_call 86; refine hcall.mono ?_; rintro _ w5 ⟨rfl, iv', cov', bare', hU5⟩; have c5 : w5.cell? ⟨w.heap.size + 1, 0, none⟩ = some iv' := (by rw [cell_of_row _ _ 0 _ 30 _ hU5.ri]; rfl)))
  go_ret
  refine ⟨iv', rfl, ?_, hU5.bel⟩
  rw [HL.out]
  exact hU5.ids.base (by omega)
end Go.Proofs.Yteapkfnklbhdfaa
