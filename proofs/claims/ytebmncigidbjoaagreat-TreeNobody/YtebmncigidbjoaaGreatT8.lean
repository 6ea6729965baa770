/- TreeNobody: the statement's own call returns true. -/
import Derived.Test.YtebmncigidbjoaaGreatT7
namespace Go.Proofs.YtebmncigidbjoaaGreat
open Go.RowKit Go.Maps
set_option linter.unusedVariables false
set_option maxRecDepth 100000

set_option maxHeartbeats 1000000 in
theorem do_void7 {w : World} {v : Value} (c0 c1 c2 c3 c4 c5 c6 : Value) (h : ∀ w', Below w.heap.size w w' → TVoid w' v) : Calls Tryz.prog 11 #[v, .agg #[c0, c1, c2, c3, c4, c5, c6]] w fun e w' => e = .returned (.tuple #[.agg zA, .int .i64 2]) ∧ Below w.heap.size w w' := by
  obtain ⟨W, hW⟩ : ∃ W, (w.alloc (.cells #[c0, c1, c2, c3, c4, c5, c6] 29)).alloc (.cells #[.int .i64 0, .slice none 0 0, .slice none 0 0, .int .i64 0, .int .i64 0, .int .i64 0] 33) = W := ⟨_, rfl⟩
  have hb : Below w.heap.size w W := by rw [← hW]; exact ((Below.refl _ _).alloc (Nat.le_refl _) _).alloc (by simp) _
  have hrow : W.heap[w.heap.size + 1]? = some (.cells zA 33 (0, 0)) := by rw [← hW]; exact at_new (by simp)
  have hm := made_void (h W hb)
  clear h
  go_enter Tryz.func11, Tryz.ntmps11
  go_wp2_with fail
  refine same_at hm ?_
  dsimp only
  go_wp2_with (first | (refine wpList_store_row rfl 33 _ _ rfl (w.heap.size + 1) zA rfl rfl 33 _ hrow info33 rfl zA_one ?_))
  refine bodyPost_ret (v := .tuple #[.agg zA, .int .i64 2]) (results_cell_tmp_row (p := 4) (u := 5) (ty := 33) Tryz.results11 _ _ (w.heap.size + 1) 33 _ (0, 0) _ rfl (setRow_heap _ _ _ _ _ _ hrow) Tryz.underlying33 rfl info33) rfl ?_
  exact ⟨rfl, below_setRow hb _ (by omega) _⟩

theorem info29 : (Tryz.prog.info? 29).map (·.size) = some 7 := by kernel_rfl

/-- What stands while the two trees are asked: the call, two pointers in a row, and a tree that no call made. -/
structure TwoT (w w' : World) (cs : Array Value) : Prop where
  call : w'.heap[w.heap.size]? = some (.cells cs 29 (0, 0))
  c0 : w'.cell? ⟨w.heap.size + 1 + 1, 0, none⟩ = some (.pointer none)
  c1 : w'.cell? ⟨w.heap.size + 1 + 1, 1, none⟩ = some (.pointer (some ⟨w.heap.size + 1, 0, none⟩))
  cz : w'.cell? ⟨w.heap.size + 1, 0, none⟩ = some (.map none)
  b : Below w.heap.size w w'
  s : w.heap.size + 1 + 1 < w'.heap.size
theorem TwoT.kept {w w' w'' : World} {cs : Array Value} (h : TwoT w w' cs) (hb : Below w'.heap.size w' w'') : TwoT w w'' cs :=
  ⟨(hb.block _ (by have := h.s; omega)).trans h.call, (hb.cell (p := ⟨w.heap.size + 1 + 1, 0, none⟩) h.s).trans h.c0, (hb.cell (p := ⟨w.heap.size + 1 + 1, 1, none⟩) h.s).trans h.c1, (hb.cell (p := ⟨w.heap.size + 1, 0, none⟩) (Nat.lt_of_succ_lt h.s)).trans h.cz, h.b.trans (hb.mono h.b.size), Nat.lt_of_lt_of_le h.s hb.size⟩

def zT : Array Value := #[.map none, .int .i64 0, .int .i64 0, .int .i64 0, .int .i64 0, .int .i64 0, .int .i64 0, .int .i64 0, .int .i64 0, .int .i64 0, .int .i64 0, .int .i64 0, .int .i64 0, .int .i64 0, .int .i64 0, .int .i64 0, .int .i64 0, .int .i64 0]

set_option maxHeartbeats 4000000 in
theorem treeNobody_walk (c0 c1 c2 c3 c4 c5 c6 : Value) (w : World) : Calls Tryz.prog 7 #[.agg #[c0, c1, c2, c3, c4, c5, c6]] w fun e w' => e = .returned (.bool true) ∧ Below w.heap.size w w' := by
  go_enter Tryz.func7, Tryz.ntmps7
  go_wp2_with fail
  obtain ⟨WA, hWA⟩ : ∃ WA, (((w.alloc (Obj.cells #[c0, c1, c2, c3, c4, c5, c6] 29)).alloc (Obj.cells zT 54)).alloc (Obj.cells #[.pointer none, .pointer (some ⟨w.heap.size + 1, 0, none⟩)] 23)) = WA := ⟨_, rfl⟩
  have hT0 : TwoT w WA #[c0, c1, c2, c3, c4, c5, c6] := by
    have hr : WA.heap[w.heap.size + 1 + 1]? = some (.cells #[.pointer none, .pointer (some ⟨w.heap.size + 1, 0, none⟩)] 23 (0, 0)) := by rw [← hWA]; exact at_new (by simp)
    have hz : WA.heap[w.heap.size + 1]? = some (.cells zT 54 (0, 0)) := by rw [← hWA]; exact at_old (at_new (by simp))
    refine ⟨by rw [← hWA]; exact at_old (at_old (at_new rfl)), cell_of_row _ _ 0 _ 23 _ hr, cell_of_row _ _ 1 _ 23 _ hr, (cell_of_row _ _ 0 _ 54 _ hz).trans rfl, ?_, (Array.getElem?_eq_some_iff.1 hr).1⟩
    rw [← hWA]
    exact (((Below.refl _ w).alloc (Nat.le_refl _) _).alloc (by simp) _).alloc (by simp; omega) _
  simp only [zT] at hWA
  rw [hWA]
  clear hWA
  go_loopw [11] (fun i wr => ∃ j : Nat, j ≤ 2 ∧ i = .int .i64 (j : Int) ∧ TwoT w wr #[c0, c1, c2, c3, c4, c5, c6]) (fun i _ => 2 - (intOf i).toNat)
  case atStart => exact ⟨0, by omega, rfl, hT0⟩
  case round =>
    clear hT0
    obtain ⟨j, hj, rfl, hp⟩ := hrel
    by_cases hlt : j < 2
    · obtain ⟨v, hv, hcell⟩ : ∃ v, (∀ w', TwoT w w' #[c0, c1, c2, c3, c4, c5, c6] → TVoid w' (.pointer v)) ∧ wr.cell? ⟨w.heap.size + 1 + 1, j, none⟩ = some (.pointer v) := by
        rcases (by omega : j = 0 ∨ j = 1) with rfl | rfl
        · exact ⟨none, fun _ _ => .inl rfl, hp.c0⟩
        · exact ⟨_, fun w' h => .inr ⟨_, rfl, h.cz⟩, hp.c1⟩
      have HV := (show Hid _ from hv)
      clear hv
      have hjI : (j : Int) < 2 := by omega
      have hj0 : (0 : Int) ≤ (j : Int) := by omega
      have hcall := hp.call
      have hdo := do_void7 (w := wr) (v := .pointer v) c0 c1 c2 c3 c4 c5 c6 (fun w' hb => HV.out w' (hp.kept hb))
      go_wp2_with (first
        | (refine wpList_load_row rfl 29 _ rfl w.heap.size rfl 29 _ (0, 0) _ hcall Tryz.underlying29 rfl info29 ?_)
        | (go_at_call 11; refine Calls.mono hdo ?_; rintro e w1 ⟨rfl, hb1⟩; obtain ⟨W2, hW2⟩ : ∃ W2, w1.alloc (.cells #[.int .i64 0, .slice none 0 0, .slice none 0 0, .int .i64 0, .int .i64 0, .int .i64 0] 33) = W2 := ⟨_, rfl⟩; have hrow2 : W2.heap[w1.heap.size]? = some (.cells zA 33 (0, 0)) := (by rw [← hW2]; exact at_new rfl); have hb2 : Below wr.heap.size wr W2 := (by rw [← hW2]; exact hb1.alloc hb1.size _))
        | (refine wpList_store_row rfl 33 _ _ rfl w1.heap.size zA rfl rfl 33 _ hrow2 info33 rfl zA_one ?_; obtain ⟨W3, hW3⟩ : ∃ W3, W2.setRow w1.heap.size zA = W3 := ⟨_, rfl⟩; have hrow3 : W3.heap[w1.heap.size]? = some (.cells zA 33 (0, 0)) := (by rw [← hW3]; exact setRow_heap _ _ _ _ _ _ hrow2); have hb3 : Below wr.heap.size wr W3 := (by rw [← hW3]; exact below_setRow hb2 _ hb1.size _); have hk3 := hp.kept hb3; rw [hW3]; have e0 : W3.cell? ⟨w1.heap.size, 0, none⟩ = some (.int .i64 0) := cell_of_row _ _ 0 _ 33 _ hrow3; have e1 : W3.cell? ⟨w1.heap.size, 1, none⟩ = some (.slice none 0 0) := cell_of_row _ _ 1 _ 33 _ hrow3; have e2 : W3.cell? ⟨w1.heap.size, 2, none⟩ = some (.slice none 0 0) := cell_of_row _ _ 2 _ 33 _ hrow3; have e3 : W3.cell? ⟨w1.heap.size, 3, none⟩ = some (.int .i64 0) := cell_of_row _ _ 3 _ 33 _ hrow3; have e4 : W3.cell? ⟨w1.heap.size, 4, none⟩ = some (.int .i64 0) := cell_of_row _ _ 4 _ 33 _ hrow3; have e5 : W3.cell? ⟨w1.heap.size, 5, none⟩ = some (.int .i64 0) := cell_of_row _ _ 5 _ 33 _ hrow3)
        | (go_at_call 22; refine same_at (reopen_void (HV.out _ hk3)) ?_)
        | (go_at_call 13; refine Calls.mono (sameAnswer_zero W3 (bytesEqual_none _) (strsEqual_none _)) ?_; rintro e w5 ⟨rfl, hb5⟩; have hk5 := hk3.kept hb5)
        | (go_at_call 16; refine same_at (paths_void (HV.out _ hk5)) ?_)
        | (go_at_call 21; refine same_at (copy_void (HV.out _ hk5)) ?_)
        | (go_at_call 8; refine Calls.mono (new_ok w5) ?_; rintro e w6 ⟨na, nmb, nn, nnm, rfl, hN⟩; have hk6 := hk5.kept hN.bel))
      have hmk : w6.cell? ⟨na, 0, none⟩ = some (.map (some nmb)) := (cell_of_row _ _ 0 _ 54 _ hN.row).trans rfl
      refine same_at (same_void (HV.out _ hk6) (made_some na nmb hmk)) ?_
      dsimp only [Bool.not_true]
      go_wp2_with fail
      refine same_at (same_void (HV.out _ hk6) (made_void (.inl rfl))) ?_
      dsimp only [Bool.not_false]
      go_wp2_with fail
      go_roundw
      case rel => exact ⟨j + 1, by omega, by go_num, hk6⟩
      case measure => simp [intOf]; omega
    · have hI2 : ¬ (j : Int) < 2 := by omega
      have hpn := fun {w' a mb n nm} (h : NewT wr w' a mb n nm) => callsIn_wide.1 (paths_new keysC sortedC sortC h)
      go_wp2_with (first
        | (go_at_call 8; refine Calls.mono (new_ok wr) ?_; rintro e w6 ⟨na, nmb, nn, nnm, rfl, hN⟩)
        | (go_at_call 16; refine Calls.mono (hpn hN) ?_; rintro e w7 ⟨p, c, rfl, hb7⟩))
      go_ret
      exact ⟨rfl, hp.b.trans ((hN.bel.trans (hb7.mono hN.bel.size)).mono hp.b.size)⟩
end Go.Proofs.YtebmncigidbjoaaGreat
