/- adjust.Do of a request of another snapshot. -/
import Derived.Test.YtijbbkkapimljaaGreatAE
namespace Go.Proofs.YtijbbkkapimljaaGreat
open Go.RowKit Go.Maps Go.MuLone
set_option linter.unusedVariables false
set_option maxRecDepth 100000

theorem info25r : (Tryz.prog.info? 25).map (·.size) = some 4 := by kernel_rfl
abbrev rqV (a b c d : Int) : Value := .agg #[.int .i64 a, .int .i64 b, .int .i64 c, .int .i64 d]
abbrev rqO (a b c d : Int) : Obj := .cells #[.int .i64 a, .int .i64 b, .int .i64 c, .int .i64 d] 25

set_option maxHeartbeats 2000000 in
theorem do_stale {w : World} {v : Nat} {k G B I N a b c d gen : Int} (hv : VHas w v k) (hk : 0 < k) (hm : Mk.Gm.May G B I) (hN : G * B = N) (hlt : ¬ k < N) (hne : ¬ d = gen) :
    Calls Tryz.prog 5 #[.pointer (some ⟨v, 0, none⟩), Mk.geomV G B I, .slice none 0 0, rqV a b c d, .int .i64 gen] w fun e w' => e = .returned (.tuple #[.slice none 0 0, .int .i64 200]) ∧ Below w.heap.size w w' := by
  obtain ⟨W2, hW2⟩ : ∃ W2, (w.alloc (Mk.geomO G B I)).alloc (rqO a b c d) = W2 := ⟨_, rfl⟩
  have hb2 : Below w.heap.size w W2 := by rw [← hW2]; exact ((Below.refl _ w).alloc (Nat.le_refl _) _).alloc (by simp) _
  have hg : W2.heap[w.heap.size]? = some (Mk.geomO G B I) := by rw [← hW2]; exact (Below.heap_alloc _ _ _ (by simp)).trans (at_new rfl)
  have hq : W2.heap[w.heap.size + 1]? = some (rqO a b c d) := by rw [← hW2]; exact at_new (by simp)
  obtain ⟨W3, hW3⟩ : ∃ W3, W2.alloc (.cells (plA v G B I a b c d gen) 69) = W3 := ⟨_, rfl⟩
  have hb3 : Below w.heap.size w W3 := by rw [← hW3]; exact hb2.alloc hb2.size _
  have hp : W3.heap[W2.heap.size]? = some (.cells (plA v G B I a b c d gen) 69 (0, 0)) := by rw [← hW3]; exact at_new rfl
  have hh := hear_stale (pl_of hp) (hv.kept hb3) hk hm hN hlt hne
  have HB := (show Hid _ from hb3)
  clear hv hm hN hlt hb2 hb3 hp
  go_enter Tryz.func5, Tryz.ntmps5
  go_wp2_with (first
    | (refine wpList_load_row rfl 23 _ rfl w.heap.size rfl 23 _ (0, 0) _ hg Tryz.underlying23 rfl info23g ?_)
    | (refine wpList_load_row rfl 25 _ rfl (w.heap.size + 1) rfl 25 _ (0, 0) _ hq Tryz.underlying25 rfl info25r ?_)
    | (go_at_call 14; refine Calls.mono hh ?_; rintro e w4 ⟨rfl, hb4⟩))
  go_ret2
  exact ⟨rfl, grew_trans' HB.out hb4⟩
end Go.Proofs.YtijbbkkapimljaaGreat
