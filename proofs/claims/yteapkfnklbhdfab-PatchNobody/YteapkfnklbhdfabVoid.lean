/- A set that no call made. -/
import Derived.Test.YteapkfnklbhdfabGet
namespace Go.Proofs.Yteapkfnklbhdfab
open Go.RowKit Go.Maps
set_option linter.unusedVariables false

/-- No set, or one that no call made. -/
def PVoid (w : World) (v : Option Addr) : Prop := v = none ∨ ∃ H, v = some ⟨H, 0, none⟩ ∧ w.cell? ⟨H, 1, none⟩ = some (.map none)
theorem PVoid.kept {w w' : World} {v : Option Addr} (h : PVoid w v) (hb : Below w.heap.size w w') : PVoid w' v := by
  rcases h with rfl | ⟨H, rfl, hc⟩
  · exact .inl rfl
  · exact .inr ⟨H, rfl, by rw [hb.cell (p := ⟨H, 1, none⟩) (lt_of_cell hc)]; exact hc⟩

theorem vmade {w : World} {v : Option Addr} (h : PVoid w v) : Calls Try.prog 16 #[.pointer v] w fun e w' => e = .returned (.bool false) ∧ w' = w := by
  have hq := fun w => mapNeqNil (P := Try.prog) Try.underlying23 none w
  rcases h with rfl | ⟨H, rfl, hc⟩
  · go_enter Try.func16, Try.ntmps16
    go_wp2
    go_ret
    exact ⟨rfl, rfl⟩
  · go_enter Try.func16, Try.ntmps16
    go_wp2
    go_ret
    exact ⟨rfl, rfl⟩
theorem vadd {w : World} {v : Option Addr} (h : PVoid w v) (b o : Int) (p q : Option Addr) (n c m d : Nat) : Calls Try.prog 4 #[.pointer v, .int .i64 b, .int .i64 o, .slice p n c, .slice q m d] w fun e w' => e = .returned (.tuple #[.int .i64 0, .int .i64 2]) ∧ w' = w := by
  have hm := vmade h
  clear h
  go_enter Try.func4, Try.ntmps4
  go_wp2_with fail
  refine same_at hm ?_
  go_wp2_with fail
  go_ret2
  exact ⟨rfl, rfl⟩
theorem vref {w : World} {v : Option Addr} (h : PVoid w v) (p : Option Addr) (n c : Nat) : Calls Try.prog 22 #[.pointer v, .slice p n c] w fun e w' => e = .returned (.int .i64 2) ∧ w' = w := by
  have hm := vmade h
  clear h
  go_enter Try.func22, Try.ntmps22
  go_wp2_with fail
  refine same_at hm ?_
  go_wp2_with fail
  go_ret
  exact ⟨rfl, rfl⟩
theorem vnow {w : World} {v : Option Addr} (h : PVoid w v) (b : Int) (p : Option Addr) (n c : Nat) : Calls Try.prog 5 #[.pointer v, .int .i64 b, .slice p n c] w fun e w' => e = .returned (.tuple #[.slice none 0 0, .int .i64 2]) ∧ w' = w := by
  have hm := vref h p n c
  clear h
  go_enter Try.func5, Try.ntmps5
  go_wp2_with fail
  refine same_at hm ?_
  go_wp2_with fail
  go_ret2
  exact ⟨rfl, rfl⟩
theorem vplan {w : World} {v : Option Addr} (h : PVoid w v) (b : Int) (p : Option Addr) (n c : Nat) : Calls Try.prog 6 #[.pointer v, .int .i64 b, .slice p n c] w fun e w' => e = .returned (.tuple #[.slice none 0 0, .slice none 0 0, .int .i64 2]) ∧ Below w.heap.size w w' := by
  have hb0 := (Below.refl w.heap.size w).alloc (Nat.le_refl _) (Obj.cells #[.pointer v] 22)
  have hm := vref (h.kept hb0) p n c
  clear h
  go_enter Try.func6, Try.ntmps6
  go_wp2_with fail
  refine same_at hm ?_
  go_wp2_with fail
  go_ret3
  exact ⟨rfl, hb0⟩
set_option maxHeartbeats 1000000 in
theorem vget {w : World} {v : Option Addr} (h : PVoid w v) (k : Int) : Calls Try.prog 7 #[.pointer v, .int .i64 k] w fun e w' => (∃ u, e = .returned (.tuple #[u, .int .i64 2]) ∧ u = zp) ∧ Below w.heap.size w w' := by
  obtain ⟨W, hW⟩ : ∃ W, w.alloc (.cells #[.int .i64 0, .int .i64 0, .int .i64 0, .slice none 0 0, .slice none 0 0] 38) = W := ⟨_, rfl⟩
  have hbW : Below w.heap.size w W := by rw [← hW]; exact (Below.refl _ w).alloc (Nat.le_refl _) _
  have hm := vmade (h.kept hbW)
  have hrow : W.heap[w.heap.size]? = some (.cells zc 38 (0, 0)) := by rw [← hW]; exact at_new rfl
  clear h
  go_enter Try.func7, Try.ntmps7
  go_wp2_with fail
  refine same_at hm ?_
  go_wp2_with (first | (refine wpList_store_row rfl 38 _ _ rfl w.heap.size zc rfl rfl 38 _ hrow info44 rfl zp_one ?_))
  refine bodyPost_ret (v := .tuple #[zp, .int .i64 2]) (results_cell_tmp_row (p := 4) (u := 5) (ty := 38) Try.results7 _ _ w.heap.size 38 _ (0, 0) _ rfl (setRow_heap _ _ _ _ _ _ hrow) Try.underlying38 rfl info44) rfl ?_
  exact ⟨⟨_, rfl, rfl⟩, below_setRow hbW _ (Nat.le_refl _) _⟩
theorem vdone {w : World} {v : Option Addr} (h : PVoid w v) (p : Option Addr) (n c : Nat) : Calls Try.prog 8 #[.pointer v, .slice p n c] w fun e w' => e = .returned (.int .i64 2) ∧ w' = w := by
  have hm := vmade h
  clear h
  go_enter Try.func8, Try.ntmps8
  go_wp2_with fail
  refine same_at hm ?_
  go_wp2_with fail
  go_ret
  exact ⟨rfl, rfl⟩
theorem vundo {w : World} {v : Option Addr} (h : PVoid w v) (k : Int) : Calls Try.prog 9 #[.pointer v, .int .i64 k] w fun e w' => e = .returned (.int .i64 2) ∧ w' = w := by
  have hm := vmade h
  clear h
  go_enter Try.func9, Try.ntmps9
  go_wp2_with fail
  refine same_at hm ?_
  go_wp2_with fail
  go_ret
  exact ⟨rfl, rfl⟩
theorem vof {w : World} {v : Option Addr} (h : PVoid w v) (k : Int) : Calls Try.prog 10 #[.pointer v, .int .i64 k] w fun e w' => e = .returned (.slice none 0 0) ∧ w' = w := by
  have hm := vmade h
  clear h
  go_enter Try.func10, Try.ntmps10
  go_wp2_with fail
  refine same_at hm ?_
  go_wp2_with fail
  go_ret
  exact ⟨rfl, rfl⟩
theorem vblocks {w : World} {v : Option Addr} (h : PVoid w v) : Calls Try.prog 11 #[.pointer v] w fun e w' => e = .returned (.slice none 0 0) ∧ w' = w := by
  have hm := vmade h
  clear h
  go_enter Try.func11, Try.ntmps11
  go_wp2_with fail
  refine same_at hm ?_
  go_wp2_with fail
  go_ret
  exact ⟨rfl, rfl⟩
theorem vclosure {w : World} {v : Option Addr} (h : PVoid w v) (p : Option Addr) (n c : Nat) : Calls Try.prog 12 #[.pointer v, .slice p n c] w fun e w' => e = .returned (.slice none 0 0) ∧ Below w.heap.size w w' := by
  have hb0 := (Below.refl w.heap.size w).alloc (Nat.le_refl _) (Obj.cells #[.pointer v] 22)
  have hm := vmade (h.kept hb0)
  clear h
  go_enter Try.func12, Try.ntmps12
  go_wp2_with fail
  refine same_at hm ?_
  go_wp2_with fail
  go_ret
  exact ⟨rfl, hb0⟩
theorem visDone {w : World} {v : Option Addr} (h : PVoid w v) (k : Int) : Calls Try.prog 13 #[.pointer v, .int .i64 k] w fun e w' => e = .returned (.bool false) ∧ w' = w := by
  have hm := vmade h
  clear h
  go_enter Try.func13, Try.ntmps13
  go_wp2_with fail
  refine same_at hm ?_
  go_wp2_with fail
  go_ret
  exact ⟨rfl, rfl⟩
theorem vlast {w : World} {v : Option Addr} (h : PVoid w v) : Calls Try.prog 14 #[.pointer v] w fun e w' => e = .returned (.int .i64 0) ∧ w' = w := by
  have hm := vmade h
  clear h
  go_enter Try.func14, Try.ntmps14
  go_wp2_with fail
  refine same_at hm ?_
  go_wp2_with fail
  go_ret
  exact ⟨rfl, rfl⟩
end Go.Proofs.Yteapkfnklbhdfab
