/- A new directory; a new tree. -/
import Derived.Test.YtfchclpglcogoaaT3
namespace Go.Proofs.Ytfchclpglcogoaa
open Go.RowKit Go.Maps
set_option linter.unusedVariables false
set_option maxRecDepth 100000

/-- A new directory's cells; its names stand in block m. -/
def dirC (m : Nat) : Array Value := #[.int .i64 2, .int .i64 0, .map (some m), .int .i64 0, .int .i64 0, .map none]

set_option maxHeartbeats 1000000 in
theorem newDir_ok (w : World) : Calls Try.prog 8 #[] w fun e w' => e = .returned (.pointer (some ⟨w.heap.size + 1, 0, none⟩)) ∧ w' = (w.alloc (.map #[] 0)).alloc (.cells (dirC w.heap.size) 58) := by
  have hmm := @run_makeMap Try.prog
  go_enter Try.func8, Try.ntmps8
  go_wp2_with fail
  go_ret
  exact ⟨by simp, rfl⟩

/-- A tree's cells. -/
def treeC (m : Nat) (last : Int) (fs : Array Value) : Array Value := #[.map (some m), .int .i64 last] ++ fs
def noF : Array Value := Array.replicate 16 (.int .i64 0)

/-- What New leaves: a tree with a root alone. -/
structure NewT (w w' : World) (a mb n nm : Nat) : Prop where
  row : w'.heap[a]? = some (.cells (treeC mb 1 noF) 44 (0, 0))
  nodes : Mf kI w' mb 1 (fput (fun _ => none) 1 (some (.pointer (some ⟨n, 0, none⟩))))
  root : w'.heap[n]? = some (.cells (dirC nm) 58 (0, 0))
  names : Mf kS w' nm 0 (fun _ => none)
  bel : Below w.heap.size w w'
  own : w.heap.size ≤ a ∧ w.heap.size ≤ mb ∧ w.heap.size ≤ n ∧ w.heap.size ≤ nm

theorem ptr_vR (b : Nat) : vR (.pointer (some ⟨b, 0, none⟩)) = some (.agg [.lit (.int .i64 b), .lit (.int .i64 (0 : Nat))], []) := rfl

set_option maxHeartbeats 1000000 in
theorem new_ok (w : World) : Calls Try.prog 4 #[] w fun e w' => ∃ a mb n nm, e = .returned (.pointer (some ⟨a, 0, none⟩)) ∧ NewT w w' a mb n nm := by
  have hmm := @run_makeMap Try.prog
  have hd := newDir_ok
  obtain ⟨W, hW⟩ : ∃ W, ((w.alloc (.map #[] 0)).alloc (.map #[] 0)).alloc (.cells (dirC (w.heap.size + 1)) 58) = W := ⟨_, rfl⟩
  have hM : Mf kI W w.heap.size 0 (fun _ => none) := by
    rw [← hW]; exact (mf_made kI w 0).kept ((at_old (at_old (at_new rfl))).trans (at_new (w := w) rfl).symm)
  have hN : Mf kS W (w.heap.size + 1) 0 (fun _ => none) := by
    have := mf_made kS (w.alloc (Obj.map #[] 0)) 0
    rw [World.size_alloc] at this
    rw [← hW]; exact this.kept ((at_old (at_new (by simp))).trans (at_new (w := w.alloc (Obj.map #[] 0)) (by simp)).symm)
  have hR : W.heap[w.heap.size + 1 + 1]? = some (.cells (dirC (w.heap.size + 1)) 58 (0, 0)) := by rw [← hW]; exact at_new (by simp)
  have hbW : Below w.heap.size w W := by rw [← hW]; exact (((Below.refl _ w).alloc (Nat.le_refl _) _).alloc (by simp) _).alloc (by simp; omega) _
  have hsW : W.heap.size = w.heap.size + 1 + 1 + 1 := by rw [← hW]; simp
  obtain ⟨W2, hr, hM2, hg⟩ := hM.put (by omega) (t := 41) (e := 39) Try.underlying41 1 (by unfold kI I64; simp) _ (ptr_vR (w.heap.size + 1 + 1))
  simp only [kI] at hr
  have hb2 : Below w.heap.size w W2 := hbW.trans ⟨hg.os, hg.tape, hg.output, hg.size, fun k hk => hg.block k (by omega) (by intro e; have := Option.some.inj e; omega)⟩
  have hs2 := hg.size
  have hN2 := hN.kept (hg.block (w.heap.size + 1) (by omega) (by intro e; have := Option.some.inj e; omega))
  have hR2 := (hg.block (w.heap.size + 1 + 1) (by omega) (by intro e; have := Option.some.inj e; omega)).trans hR
  have HH : Hid (Mf kI W2 w.heap.size 1 (fput (fun _ => none) 1 (some (.pointer (some ⟨w.heap.size + 1 + 1, 0, none⟩)))) ∧ Below w.heap.size w W2 ∧ Mf kS W2 (w.heap.size + 1) 0 (fun _ => none) ∧ W2.heap[w.heap.size + 1 + 1]? = some (.cells (dirC (w.heap.size + 1)) 58 (0, 0)) ∧ W.heap.size = w.heap.size + 1 + 1 + 1 ∧ W.heap.size ≤ W2.heap.size) := ⟨hM2, hb2, hN2, hR2, hsW, hs2⟩
  clear hM2 hb2 hN2 hR2 hN hR hg hbW hsW hs2
  clear hM
  go_enter Try.func4, Try.ntmps4
  go_wp2_with fail
  refine Calls.mono (hd _) ?_
  rintro e w1 ⟨rfl, hw1⟩
  dsimp only
  subst hw1
  simp only [World.size_alloc]
  rw [hW]
  clear hW hmm hd
  go_wp2_with fail
  go_ret
  obtain ⟨hM2, hb2, hN2, hR2, hsW, hs2⟩ := HH.out
  have hlt : ∀ k, k < W2.heap.size → ∀ o, (W2.alloc o).heap[k]? = W2.heap[k]? := fun k hk o => Below.heap_alloc _ _ _ hk
  refine ⟨W2.heap.size, w.heap.size, w.heap.size + 1 + 1, w.heap.size + 1, rfl, at_new rfl, hM2.kept (hlt _ (by omega) _), (hlt _ (by omega) _).trans hR2, hN2.kept (hlt _ (by omega) _), hb2.alloc hb2.size _, by omega, by omega, by omega, by omega⟩
end Go.Proofs.Ytfchclpglcogoaa
