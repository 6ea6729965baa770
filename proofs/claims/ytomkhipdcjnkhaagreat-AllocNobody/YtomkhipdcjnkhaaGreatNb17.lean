/- A1 A2 A3 A4 -/
import Derived.Test.YtomkhipdcjnkhaaGreatNb16

/- alloc: of a volume that no call made each call tells that there is none. -/
namespace Go.Proofs.YtomkhipdcjnkhaaGreat
open Go.RowKit Go.Maps Go.MuLone
set_option linter.unusedVariables false
set_option maxRecDepth 100000

theorem results_tmp3 {fn : Func} {t u x : Tmp} (h : fn.results = #[.tmp t, .tmp u, .tmp x]) (tmps : Array Value) (P : Program) (w : World) :
    (results fn tmps).run P w = .ok (.tuple #[tmps.getD t undef, tmps.getD u undef, tmps.getD x undef]) w := by
  simp [results, h]
theorem VVoid.kept {w w' : World} {v : Value} (h : VVoid w v) (hb : Below w.heap.size w w') : VVoid w' v := by
  rcases h with rfl | ⟨z, rfl, hc⟩
  · exact .inl rfl
  · exact .inr ⟨z, rfl, (hb.cell (p := ⟨z, 2, none⟩) (lt_of_cell hc)).trans hc⟩

section
variable {w : World} {v : Value} {G B I : Int}
set_option maxHeartbeats 400000 in
theorem refusal_void (h : VVoid w v) : Calls Tryz.prog 69 #[v, Mk.geomV G B I] w fun e w' => e = .returned (.int .i64 2) ∧ Below w.heap.size w w' := by
  have hb1 : Below w.heap.size w (w.alloc (Mk.geomO G B I)) := Mk.grew_alloc _ _
  have hv := vblocks_void (h.kept hb1)
  go_enter Tryz.func69, Tryz.ntmps69
  go_wp2_with (first | (go_at_call 53; refine same_at hv ?_))
  go_ret
  exact ⟨rfl, hb1⟩
set_option maxHeartbeats 400000 in
theorem refusalNear_void (h : VVoid w v) (n : Int) : Calls Tryz.prog 58 #[v, Mk.geomV G B I, .int .i64 n] w fun e w' => e = .returned (.int .i64 2) ∧ Below w.heap.size w w' := by
  obtain ⟨W1, hW1⟩ : ∃ W1, w.alloc (Mk.geomO G B I) = W1 := ⟨_, rfl⟩
  have hb1 : Below w.heap.size w W1 := by rw [← hW1]; exact Mk.grew_alloc _ _
  have hg1 : W1.heap[w.heap.size]? = some (Mk.geomO G B I) := by rw [← hW1]; exact at_new rfl
  have hv := refusal_void (G := G) (B := B) (I := I) (h.kept hb1)
  go_enter Tryz.func58, Tryz.ntmps58
  go_wp2_with (first
    | (refine wpList_load_row rfl 34 (.tmp 4) rfl w.heap.size rfl 34 _ (0, 0) _ hg1 Tryz.underlying34 rfl Mk.info23 ?_))
  refine Mk.grew_at hv ?_
  intro w2 hb2
  have HB : Hid (Below w.heap.size w w2) := Mk.grew_trans hb1 hb2
  clear hv hg1 hb1 hb2
  dsimp only
  go_wp2_with fail
  go_ret
  exact ⟨rfl, HB.out⟩
set_option maxHeartbeats 400000 in
theorem refusalBlock_void (h : VVoid w v) (n : Int) : Calls Tryz.prog 65 #[v, Mk.geomV G B I, .int .i64 n] w fun e w' => e = .returned (.int .i64 2) ∧ Below w.heap.size w w' := by
  obtain ⟨W1, hW1⟩ : ∃ W1, w.alloc (Mk.geomO G B I) = W1 := ⟨_, rfl⟩
  have hb1 : Below w.heap.size w W1 := by rw [← hW1]; exact Mk.grew_alloc _ _
  have hg1 : W1.heap[w.heap.size]? = some (Mk.geomO G B I) := by rw [← hW1]; exact at_new rfl
  have hv := refusal_void (G := G) (B := B) (I := I) (h.kept hb1)
  go_enter Tryz.func65, Tryz.ntmps65
  go_wp2_with (first
    | (refine wpList_load_row rfl 34 (.tmp 4) rfl w.heap.size rfl 34 _ (0, 0) _ hg1 Tryz.underlying34 rfl Mk.info23 ?_))
  refine Mk.grew_at hv ?_
  intro w2 hb2
  have HB : Hid (Below w.heap.size w w2) := Mk.grew_trans hb1 hb2
  clear hv hg1 hb1 hb2
  dsimp only
  go_wp2_with fail
  go_ret
  exact ⟨rfl, HB.out⟩

set_option maxHeartbeats 400000 in
theorem refusalInode_void (h : VVoid w v) (n m : Int) : Calls Tryz.prog 67 #[v, Mk.geomV G B I, .int .i64 n, .int .i64 m] w fun e w' => e = .returned (.int .i64 2) ∧ Below w.heap.size w w' := by
  obtain ⟨W1, hW1⟩ : ∃ W1, w.alloc (Mk.geomO G B I) = W1 := ⟨_, rfl⟩
  have hb1 : Below w.heap.size w W1 := by rw [← hW1]; exact Mk.grew_alloc _ _
  have hg1 : W1.heap[w.heap.size]? = some (Mk.geomO G B I) := by rw [← hW1]; exact at_new rfl
  have hv := refusal_void (G := G) (B := B) (I := I) (h.kept hb1)
  go_enter Tryz.func67, Tryz.ntmps67
  go_wp2_with (first
    | (refine wpList_load_row rfl 34 (.tmp 5) rfl w.heap.size rfl 34 _ (0, 0) _ hg1 Tryz.underlying34 rfl Mk.info23 ?_))
  refine Mk.grew_at hv ?_
  intro w2 hb2
  have HB : Hid (Below w.heap.size w w2) := Mk.grew_trans hb1 hb2
  clear hv hg1 hb1 hb2
  dsimp only
  go_wp2_with fail
  go_ret
  exact ⟨rfl, HB.out⟩

set_option maxHeartbeats 400000 in
theorem block_void (h : VVoid w v) (n : Int) (s : Value) : Calls Tryz.prog 19 #[v, Mk.geomV G B I, .int .i64 n, s] w fun e w' => e = .returned (.tuple #[.int .i64 0, .int .i64 0, .int .i64 2]) ∧ Below w.heap.size w w' := by
  obtain ⟨W1, hW1⟩ : ∃ W1, w.alloc (Mk.geomO G B I) = W1 := ⟨_, rfl⟩
  have hb1 : Below w.heap.size w W1 := by rw [← hW1]; exact Mk.grew_alloc _ _
  have hg1 : W1.heap[w.heap.size]? = some (Mk.geomO G B I) := by rw [← hW1]; exact at_new rfl
  have hv := refusalNear_void (G := G) (B := B) (I := I) (h.kept hb1) n
  go_enter Tryz.func19, Tryz.ntmps19
  go_wp2_with (first
    | (refine wpList_load_row rfl 34 (.tmp 5) rfl w.heap.size rfl 34 _ (0, 0) _ hg1 Tryz.underlying34 rfl Mk.info23 ?_))
  refine Mk.grew_at hv ?_
  intro w2 hb2
  have HB : Hid (Below w.heap.size w w2) := Mk.grew_trans hb1 hb2
  clear hv hg1 hb1 hb2
  dsimp only
  go_wp2_with fail
  refine bodyPost_ret (results_tmp3 Tryz.results19 _ _ _) rfl ?_
  exact ⟨rfl, HB.out⟩

set_option maxHeartbeats 400000 in
theorem inode_void (h : VVoid w v) (n : Int) (b : Bool) : Calls Tryz.prog 20 #[v, Mk.geomV G B I, .int .i64 n, .bool b] w fun e w' => e = .returned (.tuple #[.int .i64 0, .int .i64 0, .int .i64 2]) ∧ Below w.heap.size w w' := by
  obtain ⟨W1, hW1⟩ : ∃ W1, w.alloc (Mk.geomO G B I) = W1 := ⟨_, rfl⟩
  have hb1 : Below w.heap.size w W1 := by rw [← hW1]; exact Mk.grew_alloc _ _
  have hg1 : W1.heap[w.heap.size]? = some (Mk.geomO G B I) := by rw [← hW1]; exact at_new rfl
  have hv := refusalNear_void (G := G) (B := B) (I := I) (h.kept hb1) n
  go_enter Tryz.func20, Tryz.ntmps20
  go_wp2_with (first
    | (refine wpList_load_row rfl 34 (.tmp 5) rfl w.heap.size rfl 34 _ (0, 0) _ hg1 Tryz.underlying34 rfl Mk.info23 ?_))
  refine Mk.grew_at hv ?_
  intro w2 hb2
  have HB : Hid (Below w.heap.size w w2) := Mk.grew_trans hb1 hb2
  clear hv hg1 hb1 hb2
  dsimp only
  go_wp2_with fail
  refine bodyPost_ret (results_tmp3 Tryz.results20 _ _ _) rfl ?_
  exact ⟨rfl, HB.out⟩

set_option maxHeartbeats 400000 in
theorem freeBlock_void (h : VVoid w v) (n : Int) (s : Value) : Calls Tryz.prog 21 #[v, Mk.geomV G B I, .int .i64 n, s] w fun e w' => e = .returned (.tuple #[.int .i64 0, .int .i64 2]) ∧ Below w.heap.size w w' := by
  obtain ⟨W1, hW1⟩ : ∃ W1, w.alloc (Mk.geomO G B I) = W1 := ⟨_, rfl⟩
  have hb1 : Below w.heap.size w W1 := by rw [← hW1]; exact Mk.grew_alloc _ _
  have hg1 : W1.heap[w.heap.size]? = some (Mk.geomO G B I) := by rw [← hW1]; exact at_new rfl
  have hv := refusalBlock_void (G := G) (B := B) (I := I) (h.kept hb1) n
  go_enter Tryz.func21, Tryz.ntmps21
  go_wp2_with (first
    | (refine wpList_load_row rfl 34 (.tmp 5) rfl w.heap.size rfl 34 _ (0, 0) _ hg1 Tryz.underlying34 rfl Mk.info23 ?_))
  refine Mk.grew_at hv ?_
  intro w2 hb2
  have HB : Hid (Below w.heap.size w w2) := Mk.grew_trans hb1 hb2
  clear hv hg1 hb1 hb2
  dsimp only
  go_wp2_with fail
  go_ret2
  exact ⟨rfl, HB.out⟩

set_option maxHeartbeats 400000 in
theorem freeInode_void (h : VVoid w v) (n : Int) (s : Value) : Calls Tryz.prog 22 #[v, Mk.geomV G B I, .int .i64 n, s] w fun e w' => e = .returned (.tuple #[.int .i64 0, .int .i64 2]) ∧ Below w.heap.size w w' := by
  obtain ⟨W1, hW1⟩ : ∃ W1, w.alloc (Mk.geomO G B I) = W1 := ⟨_, rfl⟩
  have hb1 : Below w.heap.size w W1 := by rw [← hW1]; exact Mk.grew_alloc _ _
  have hg1 : W1.heap[w.heap.size]? = some (Mk.geomO G B I) := by rw [← hW1]; exact at_new rfl
  have hv := refusalInode_void (G := G) (B := B) (I := I) (h.kept hb1) n 3
  go_enter Tryz.func22, Tryz.ntmps22
  go_wp2_with (first
    | (refine wpList_load_row rfl 34 (.tmp 5) rfl w.heap.size rfl 34 _ (0, 0) _ hg1 Tryz.underlying34 rfl Mk.info23 ?_))
  refine Mk.grew_at hv ?_
  intro w2 hb2
  have HB : Hid (Below w.heap.size w w2) := Mk.grew_trans hb1 hb2
  clear hv hg1 hb1 hb2
  dsimp only
  go_wp2_with fail
  go_ret2
  exact ⟨rfl, HB.out⟩

set_option maxHeartbeats 400000 in
theorem hasBlock_void (h : VVoid w v) (n : Int) : Calls Tryz.prog 23 #[v, Mk.geomV G B I, .int .i64 n] w fun e w' => e = .returned (.tuple #[.bool false, .int .i64 2]) ∧ Below w.heap.size w w' := by
  obtain ⟨W1, hW1⟩ : ∃ W1, w.alloc (Mk.geomO G B I) = W1 := ⟨_, rfl⟩
  have hb1 : Below w.heap.size w W1 := by rw [← hW1]; exact Mk.grew_alloc _ _
  have hg1 : W1.heap[w.heap.size]? = some (Mk.geomO G B I) := by rw [← hW1]; exact at_new rfl
  have hv := refusalBlock_void (G := G) (B := B) (I := I) (h.kept hb1) n
  go_enter Tryz.func23, Tryz.ntmps23
  go_wp2_with (first
    | (refine wpList_load_row rfl 34 (.tmp 4) rfl w.heap.size rfl 34 _ (0, 0) _ hg1 Tryz.underlying34 rfl Mk.info23 ?_))
  refine Mk.grew_at hv ?_
  intro w2 hb2
  have HB : Hid (Below w.heap.size w w2) := Mk.grew_trans hb1 hb2
  clear hv hg1 hb1 hb2
  dsimp only
  go_wp2_with fail
  go_ret2
  exact ⟨rfl, HB.out⟩

set_option maxHeartbeats 400000 in
theorem hasInode_void (h : VVoid w v) (n : Int) : Calls Tryz.prog 24 #[v, Mk.geomV G B I, .int .i64 n] w fun e w' => e = .returned (.tuple #[.bool false, .int .i64 2]) ∧ Below w.heap.size w w' := by
  obtain ⟨W1, hW1⟩ : ∃ W1, w.alloc (Mk.geomO G B I) = W1 := ⟨_, rfl⟩
  have hb1 : Below w.heap.size w W1 := by rw [← hW1]; exact Mk.grew_alloc _ _
  have hg1 : W1.heap[w.heap.size]? = some (Mk.geomO G B I) := by rw [← hW1]; exact at_new rfl
  have hv := refusalInode_void (G := G) (B := B) (I := I) (h.kept hb1) n 0
  go_enter Tryz.func24, Tryz.ntmps24
  go_wp2_with (first
    | (refine wpList_load_row rfl 34 (.tmp 4) rfl w.heap.size rfl 34 _ (0, 0) _ hg1 Tryz.underlying34 rfl Mk.info23 ?_))
  refine Mk.grew_at hv ?_
  intro w2 hb2
  have HB : Hid (Below w.heap.size w w2) := Mk.grew_trans hb1 hb2
  clear hv hg1 hb1 hb2
  dsimp only
  go_wp2_with fail
  go_ret2
  exact ⟨rfl, HB.out⟩

set_option maxHeartbeats 400000 in
theorem room_void (h : VVoid w v)  : Calls Tryz.prog 25 #[v, Mk.geomV G B I] w fun e w' => e = .returned (.tuple #[.int .i64 0, .int .i64 0, .int .i64 2]) ∧ Below w.heap.size w w' := by
  obtain ⟨W1, hW1⟩ : ∃ W1, w.alloc (Mk.geomO G B I) = W1 := ⟨_, rfl⟩
  have hb1 : Below w.heap.size w W1 := by rw [← hW1]; exact Mk.grew_alloc _ _
  have hg1 : W1.heap[w.heap.size]? = some (Mk.geomO G B I) := by rw [← hW1]; exact at_new rfl
  have hv := refusal_void (G := G) (B := B) (I := I) (h.kept hb1)
  go_enter Tryz.func25, Tryz.ntmps25
  go_wp2_with (first
    | (refine wpList_load_row rfl 34 (.tmp 3) rfl w.heap.size rfl 34 _ (0, 0) _ hg1 Tryz.underlying34 rfl Mk.info23 ?_))
  refine Mk.grew_at hv ?_
  intro w2 hb2
  have HB : Hid (Below w.heap.size w w2) := Mk.grew_trans hb1 hb2
  clear hv hg1 hb1 hb2
  dsimp only
  go_wp2_with fail
  refine bodyPost_ret (results_tmp3 Tryz.results25 _ _ _) rfl ?_
  exact ⟨rfl, HB.out⟩
end
end Go.Proofs.YtomkhipdcjnkhaaGreat

/- alloc.Header of a volume that no call made; alloc.Block of one that is too small. -/
namespace Go.Proofs.YtomkhipdcjnkhaaGreat
open Go.RowKit Go.Maps Go.MuLone
set_option linter.unusedVariables false
set_option maxRecDepth 100000

section
variable {w : World} {v : Value} {G B I : Int}
theorem zero70 (w : World) : (zeroValue 70).run Tryz.prog w = .ok (.agg (Mk.groupA 0 (Mk.zers 40))) w := by rw [Mk.zero38]; kernel_rfl
set_option maxHeartbeats 1000000 in
theorem header_void (h : VVoid w v) (n : Int) : Calls Tryz.prog 18 #[v, Mk.geomV G B I, .int .i64 n] w fun e w' => e = .returned (.tuple #[.agg (Mk.groupA 0 (Mk.zers 40)), .int .i64 2]) ∧ Below w.heap.size w w' := by
  obtain ⟨W1, hW1⟩ : ∃ W1, (w.alloc (Mk.geomO G B I)).alloc (Mk.groupO 0 (Mk.zers 40)) = W1 := ⟨_, rfl⟩
  have hb1 : Below w.heap.size w W1 := by rw [← hW1]; exact ((Below.refl _ w).alloc (Nat.le_refl _) _).alloc (by simp) _
  have hg1 : W1.heap[w.heap.size]? = some (Mk.geomO G B I) := by rw [← hW1]; exact at_old (at_new rfl)
  have hr1 : W1.heap[w.heap.size + 1]? = some (Mk.groupO 0 (Mk.zers 40)) := by rw [← hW1]; exact at_new (by simp)
  have hv := refusalNear_void (G := G) (B := B) (I := I) (h.kept hb1) n
  have z70 := zero70
  go_enter Tryz.func18, Tryz.ntmps18
  go_wp2_with (first
    | (refine wpList_load_row rfl 34 (.tmp 4) rfl w.heap.size rfl 34 _ (0, 0) _ hg1 Tryz.underlying34 rfl Mk.info23 ?_))
  refine Mk.grew_at hv ?_
  intro w2 hb2
  have hr2 := (hb2.block _ (Array.getElem?_eq_some_iff.1 hr1).1).trans hr1
  have HB : Hid (Below w.heap.size w w2) := Mk.grew_trans hb1 hb2
  clear hv hg1 hb1 hb2
  dsimp only
  go_wp2_with (first
    | (refine wpList_store_row rfl 70 (.tmp 6) _ rfl (w.heap.size + 1) (Mk.groupA 0 (Mk.zers 40)) rfl rfl 70 _ hr2 (Mk.info38 _ _ (Mk.zers_len _)) rfl (Mk.group_one _ _) ?_))
  refine bodyPost_ret (v := .tuple #[.agg (Mk.groupA 0 (Mk.zers 40)), .int .i64 2]) (Mk.results_cell_tmp_row (p := 6) (u := 7) (ty := 70) Tryz.results18 _ _ (w.heap.size + 1) 70 _ (0, 0) _ rfl (setRow_heap _ _ _ _ _ _ hr2) Tryz.underlying70 rfl (Mk.info38 _ _ (Mk.zers_len _))) rfl ?_
  exact ⟨rfl, belowRow HB.out (Nat.le_succ _) _⟩
end

/-- geom.Can and geom.Blocks of the greatest geometry. -/
theorem can_max (w : World) : Calls Tryz.prog 54 #[Mk.geomV 8 256 64] w fun e w' => e = .returned (.int .i64 0) ∧ Below w.heap.size w w' := Mk.can_ok 8 256 64 w
end Go.Proofs.YtomkhipdcjnkhaaGreat

/- What alloc, snap, inode ask of a volume first. -/
namespace Go.Proofs.YtomkhipdcjnkhaaGreat
open Go.RowKit Go.Maps Go.MuLone
set_option linter.unusedVariables false
set_option maxRecDepth 100000

/-- v is a volume over a disk of k blocks. -/
def VHas (w : World) (v : Nat) (k : Int) : Prop := ∃ d, w.cell? ⟨v, 2, none⟩ = some (.pointer (some ⟨d, 0, none⟩)) ∧ w.cell? ⟨d, 0, none⟩ = some (.int .i64 k)
theorem VHas.kept {w w' : World} {v : Nat} {k : Int} (h : VHas w v k) (hb : Below w.heap.size w w') : VHas w' v k := by
  obtain ⟨d, h1, h2⟩ := h
  exact ⟨d, (hb.cell (p := ⟨v, 2, none⟩) (lt_of_cell h1)).trans h1, (hb.cell (p := ⟨d, 0, none⟩) (lt_of_cell h2)).trans h2⟩
theorem VHas.blocks {w : World} {v : Nat} {k : Int} (h : VHas w v k) : Calls Tryz.prog 53 #[.pointer (some ⟨v, 0, none⟩)] w fun e w' => e = .returned (.int .i64 k) ∧ w' = w := by
  obtain ⟨d, h1, h2⟩ := h
  exact vblocks_ok h1 h2
/-- Three cells of a geometry in memory. -/
structure G3 (w : World) (b : Nat) (G B I : Int) : Prop where
  c0 : w.cell? ⟨b, 0, none⟩ = some (.int .i64 G)
  c1 : w.cell? ⟨b, 1, none⟩ = some (.int .i64 B)
  c2 : w.cell? ⟨b, 2, none⟩ = some (.int .i64 I)
theorem g3_of {w : World} {b : Nat} {G B I : Int} (h : w.heap[b]? = some (Mk.geomO G B I)) : G3 w b G B I := ⟨cell_of_row _ _ 0 _ _ _ h, cell_of_row _ _ 1 _ _ _ h, cell_of_row _ _ 2 _ _ _ h⟩
theorem G3.kept {w w' : World} {b : Nat} {G B I : Int} (h : G3 w b G B I) (hb : Below w.heap.size w w') : G3 w' b G B I :=
  ⟨(hb.cell (p := ⟨b, 0, none⟩) (lt_of_cell h.c0)).trans h.c0, (hb.cell (p := ⟨b, 1, none⟩) (lt_of_cell h.c1)).trans h.c1, (hb.cell (p := ⟨b, 2, none⟩) (lt_of_cell h.c2)).trans h.c2⟩

set_option maxHeartbeats 2000000 in
theorem refusal_small {w : World} {v : Nat} {k G B I N : Int} (h : VHas w v k) (hk : ¬ k = 0) (hm : Mk.Gm.May G B I) (hN : G * B = N) (hlt : k < N) : Calls Tryz.prog 69 #[.pointer (some ⟨v, 0, none⟩), Mk.geomV G B I] w fun e w' => e = .returned (.int .i64 170) ∧ Below w.heap.size w w' := by
  have hb1 : Below w.heap.size w (w.alloc (Mk.geomO G B I)) := Mk.grew_alloc _ _
  have hg1 : (w.alloc (Mk.geomO G B I)).heap[w.heap.size]? = some (Mk.geomO G B I) := at_new rfl
  obtain ⟨W1, hW1⟩ : ∃ W1, w.alloc (Mk.geomO G B I) = W1 := ⟨_, rfl⟩
  rw [hW1] at hb1 hg1
  have hv1 := h.kept hb1
  have c1 := hv1.blocks
  have hkb : (k == 0) = false := by rw [beq_eq_false_iff_ne]; exact hk
  have hd : Below W1.heap.size W1 W1.drew := (Below.refl _ _).drew
  have hv2 := hv1.kept hd
  have g2 := (g3_of hg1).kept hd
  have q0 := g2.c0
  have q1 := g2.c1
  have q2 := g2.c2
  have hca := Mk.can_ok G B I W1.drew
  rw [Mk.Gm.can, if_pos hm] at hca
  have HB : Hid (Below w.heap.size w W1.drew) := hb1.drew
  have HN : Hid (G * B = N) := hN
  have HM : Hid (Mk.Gm.May G B I) := hm
  clear hm hN hb1 hd
  go_enter Tryz.func69, Tryz.ntmps69
  go_wp2_with (first | (go_at_call 53; refine same_at c1 ?_))
  go_region_with (first
    | (go_at_call 54; refine Mk.grew_at hca ?_; intro w2 hb2; have hv3 := hv2.kept hb2; have g3 := g2.kept hb2; have q0' := g3.c0; have q1' := g3.c1; have q2' := g3.c2; have hb3 := Mk.blocks_ok G B I w2; rw [Mk.Gm.num, if_pos HM.out, HN.out] at hb3; have cb := hv3.blocks)
    | (go_at_call 53; first | refine same_at cb ?_ | refine same_at cb' ?_)
    | (go_at_call 49; refine Mk.grew_at hb3 ?_; intro w4 hb4; have cb' := (hv3.kept hb4).blocks))
  all_goals go_wp2_with fail
  all_goals go_ret
  all_goals exact ⟨rfl, Mk.grew_trans (Mk.grew_trans HB.out hb2) hb4⟩
set_option maxHeartbeats 2000000 in
theorem refusal_fit {w : World} {v : Nat} {k G B I N : Int} (h : VHas w v k) (hk : ¬ k = 0) (hm : Mk.Gm.May G B I) (hN : G * B = N) (hlt : ¬ k < N) : Calls Tryz.prog 69 #[.pointer (some ⟨v, 0, none⟩), Mk.geomV G B I] w fun e w' => e = .returned (.int .i64 0) ∧ Below w.heap.size w w' := by
  have hb1 : Below w.heap.size w (w.alloc (Mk.geomO G B I)) := Mk.grew_alloc _ _
  have hg1 : (w.alloc (Mk.geomO G B I)).heap[w.heap.size]? = some (Mk.geomO G B I) := at_new rfl
  obtain ⟨W1, hW1⟩ : ∃ W1, w.alloc (Mk.geomO G B I) = W1 := ⟨_, rfl⟩
  rw [hW1] at hb1 hg1
  have hv1 := h.kept hb1
  have c1 := hv1.blocks
  have hkb : (k == 0) = false := by rw [beq_eq_false_iff_ne]; exact hk
  have hd : Below W1.heap.size W1 W1.drew := (Below.refl _ _).drew
  have hv2 := hv1.kept hd
  have g2 := (g3_of hg1).kept hd
  have q0 := g2.c0
  have q1 := g2.c1
  have q2 := g2.c2
  have hca := Mk.can_ok G B I W1.drew
  rw [Mk.Gm.can, if_pos hm] at hca
  have HB : Hid (Below w.heap.size w W1.drew) := hb1.drew
  have HN : Hid (G * B = N) := hN
  have HM : Hid (Mk.Gm.May G B I) := hm
  clear hm hN hb1 hd
  go_enter Tryz.func69, Tryz.ntmps69
  go_wp2_with (first | (go_at_call 53; refine same_at c1 ?_))
  go_region_with (first
    | (go_at_call 54; refine Mk.grew_at hca ?_; intro w2 hb2; have hv3 := hv2.kept hb2; have g3 := g2.kept hb2; have q0' := g3.c0; have q1' := g3.c1; have q2' := g3.c2; have hb3 := Mk.blocks_ok G B I w2; rw [Mk.Gm.num, if_pos HM.out, HN.out] at hb3; have cb := hv3.blocks)
    | (go_at_call 53; first | refine same_at cb ?_ | refine same_at cb' ?_)
    | (go_at_call 49; refine Mk.grew_at hb3 ?_; intro w4 hb4; have cb' := (hv3.kept hb4).blocks))
  all_goals go_wp2_with fail
  all_goals go_ret
  all_goals exact ⟨rfl, Mk.grew_trans (Mk.grew_trans HB.out hb2) hb4⟩
end Go.Proofs.YtomkhipdcjnkhaaGreat

/- AllocNobody: the statement's own call returns true. -/
namespace Go.Proofs.YtomkhipdcjnkhaaGreat
open Go.RowKit Go.Maps Go.MuLone
set_option linter.unusedVariables false
set_option maxRecDepth 100000

/-- Two pointers in a row: none, and one to a block whose cell o is z. -/
structure Two (w w' : World) (H o : Nat) (z : Value) : Prop where
  c0 : w'.cell? ⟨H + 1, 0, none⟩ = some (.pointer none)
  c1 : w'.cell? ⟨H + 1, 1, none⟩ = some (.pointer (some ⟨H, 0, none⟩))
  cz : w'.cell? ⟨H, o, none⟩ = some z
  b : Below w.heap.size w w'
  s : H + 1 < w'.heap.size
theorem Two.kept {w w' w'' : World} {H o : Nat} {z : Value} (h : Two w w' H o z) (hb : Below w'.heap.size w' w'') : Two w w'' H o z :=
  ⟨(hb.cell (p := ⟨H + 1, 0, none⟩) h.s).trans h.c0, (hb.cell (p := ⟨H + 1, 1, none⟩) h.s).trans h.c1, (hb.cell (p := ⟨H, o, none⟩) (by have := h.s; show H < _; omega)).trans h.cz, h.b.trans (hb.mono h.b.size), Nat.lt_of_lt_of_le h.s hb.size⟩

/-- A volume that no call made as it is built. -/
abbrev vZ : Obj := .cells #[.int .i32 0, .int .u32 0, .pointer none, .pointer none, .pointer none, .map none, .pointer none] 55
theorem two_vol (w : World) {w0 : World} (hb : Below w0.heap.size w0 w) (t : TypeId) : Two w0 ((w.alloc vZ).alloc (.cells #[.pointer none, .pointer (some ⟨w.heap.size, 0, none⟩)] t)) w.heap.size 2 (.pointer none) := by
  have b0 : Below w.heap.size w (w.alloc vZ) := (Below.refl _ w).alloc (Nat.le_refl _) _
  have b1 := b0.alloc (show w.heap.size ≤ _ by simp) (.cells #[.pointer none, .pointer (some ⟨w.heap.size, 0, none⟩)] t)
  have hrow := heap_alloc_new (w.alloc vZ) (.cells #[.pointer none, .pointer (some ⟨w.heap.size, 0, none⟩)] t)
  rw [World.size_alloc] at hrow
  have hz := (Below.heap_alloc (w.alloc vZ) (.cells #[.pointer none, .pointer (some ⟨w.heap.size, 0, none⟩)] t) w.heap.size (by simp)).trans (heap_alloc_new w _)
  exact ⟨cell_of_row _ _ 0 _ t _ hrow, cell_of_row _ _ 1 _ t _ hrow, cell_of_row _ _ 2 _ 55 _ hz, hb.trans (b1.mono hb.size), by simp⟩

theorem Two.void {w w' : World} {H j : Nat} (h : Two w w' H 2 (.pointer none)) (hj : j < 2) : ∃ v, (∀ w', Two w w' H 2 (.pointer none) → VVoid w' (.pointer v)) ∧ w'.cell? ⟨H + 1, j, none⟩ = some (.pointer v) := by
  rcases (by omega : j = 0 ∨ j = 1) with rfl | rfl
  · exact ⟨none, fun _ _ => .inl rfl, h.c0⟩
  · exact ⟨_, fun w' h => .inr ⟨_, rfl, h.cz⟩, h.c1⟩

theorem kept_row {w w' : World} {b : Nat} {o : Obj} (h : w.heap[b]? = some o) (hb : Below w.heap.size w w') : w'.heap[b]? = some o := (hb.block b (Array.getElem?_eq_some_iff.1 h).1).trans h

set_option maxHeartbeats 1000000 in
theorem near_small {w : World} {v : Nat} {k : Int} (h : VHas w v k) (hk : ¬ k = 0) (hlt : k < 2048) : Calls Tryz.prog 58 #[.pointer (some ⟨v, 0, none⟩), Mk.geomV 8 256 64, .int .i64 0] w fun e w' => e = .returned (.int .i64 170) ∧ Below w.heap.size w w' := by
  obtain ⟨W1, hW1⟩ : ∃ W1, w.alloc (Mk.geomO 8 256 64) = W1 := ⟨_, rfl⟩
  have hb1 : Below w.heap.size w W1 := by rw [← hW1]; exact Mk.grew_alloc _ _
  have hg1 : W1.heap[w.heap.size]? = some (Mk.geomO 8 256 64) := by rw [← hW1]; exact at_new rfl
  have hv := refusal_small (G := 8) (B := 256) (I := 64) (N := 2048) (h.kept hb1) hk (by decide) (by decide) hlt
  clear hlt hk
  go_enter Tryz.func58, Tryz.ntmps58
  go_wp2_with (first
    | (refine wpList_load_row rfl 34 (.tmp 4) rfl w.heap.size rfl 34 _ (0, 0) _ hg1 Tryz.underlying34 rfl Mk.info23 ?_))
  refine Mk.grew_at hv ?_
  intro w2 hb2
  have HB : Hid (Below w.heap.size w w2) := Mk.grew_trans hb1 hb2
  clear hv hg1 hb1 hb2
  dsimp only
  go_wp2_with fail
  go_ret
  exact ⟨rfl, HB.out⟩
set_option maxHeartbeats 1000000 in
theorem block_small {w : World} {v : Nat} {k : Int} (h : VHas w v k) (hk : ¬ k = 0) (hlt : k < 2048) : Calls Tryz.prog 19 #[.pointer (some ⟨v, 0, none⟩), Mk.geomV 8 256 64, .int .i64 0, .slice none 0 0] w fun e w' => e = .returned (.tuple #[.int .i64 0, .int .i64 0, .int .i64 170]) ∧ Below w.heap.size w w' := by
  obtain ⟨W1, hW1⟩ : ∃ W1, w.alloc (Mk.geomO 8 256 64) = W1 := ⟨_, rfl⟩
  have hb1 : Below w.heap.size w W1 := by rw [← hW1]; exact Mk.grew_alloc _ _
  have hg1 : W1.heap[w.heap.size]? = some (Mk.geomO 8 256 64) := by rw [← hW1]; exact at_new rfl
  have hv := near_small (h.kept hb1) hk hlt
  clear hlt hk
  go_enter Tryz.func19, Tryz.ntmps19
  go_wp2_with (first
    | (refine wpList_load_row rfl 34 (.tmp 5) rfl w.heap.size rfl 34 _ (0, 0) _ hg1 Tryz.underlying34 rfl Mk.info23 ?_))
  refine Mk.grew_at hv ?_
  intro w2 hb2
  have HB : Hid (Below w.heap.size w w2) := Mk.grew_trans hb1 hb2
  clear hv hg1 hb1 hb2
  dsimp only
  go_wp2_with fail
  go_ret3
  exact ⟨rfl, HB.out⟩

theorem FV.has {w : World} {v d c s m mc p1 p2 : Nat} {x : Option Addr} (h : FV w v d c s m mc p1 p2 x) {B dm df : Nat} {dq : Value} {S : St} (hd : DI B w d dm df dq S) : VHas w v (S.N : Int) := ⟨d, h.row.made, hd.c0⟩

set_option maxHeartbeats 4000000 in
theorem allocNobody_walk (G B I n : Int) (w : World) : Calls Tryz.prog 4 #[Mk.geomV G B I, .int .i64 n] w fun e w' => e = .returned (.bool true) ∧ Below w.heap.size w w' := by
  obtain ⟨W1, hW1⟩ : ∃ W1, w.alloc (Mk.geomO G B I) = W1 := ⟨_, rfl⟩
  have hb1 : Below w.heap.size w W1 := by rw [← hW1]; exact Mk.grew_alloc _ _
  have hg1 : W1.heap[w.heap.size]? = some (Mk.geomO G B I) := by rw [← hW1]; exact at_new rfl
  have hs1 : W1.heap.size = w.heap.size + 1 := by rw [← hW1]; simp
  have z70 := zero70
  go_enter Tryz.func4, Tryz.ntmps4
  go_wp2_with fail
  have hT0 := two_vol W1 hb1 30
  have hG0 : ((W1.alloc vZ).alloc (.cells #[.pointer none, .pointer (some ⟨W1.heap.size, 0, none⟩)] 30)).heap[w.heap.size]? = some (Mk.geomO G B I) := at_old (at_old hg1)
  rw [hs1] at hT0 hG0
  clear hb1 hg1 hW1 hs1
  go_loopw [38] (fun i wr => ∃ j : Nat, j ≤ 2 ∧ i = .int .i64 (j : Int) ∧ Two w wr (w.heap.size + 1) 2 (.pointer none) ∧ wr.heap[w.heap.size]? = some (Mk.geomO G B I)) (fun i _ => 2 - (intOf i).toNat)
  case atStart => exact ⟨0, by omega, rfl, hT0, hG0⟩
  case round =>
    clear hT0 hG0
    obtain ⟨j, hj, rfl, hp, hg⟩ := hrel
    by_cases hlt : j < 2
    · obtain ⟨v, hv, hcell⟩ := hp.void hlt
      have HD := (show Hid _ from hv)
      have HT0 : Hid (Two w wr (w.heap.size + 1) 2 (.pointer none)) := hp
      have hjI : (j : Int) < 2 := by omega
      have hj0 : (0 : Int) ≤ (j : Int) := by omega
      clear hv hp
      go_wp2_with (first
        | (refine wpList_load_row rfl 34 (.tmp 2) rfl w.heap.size rfl 34 _ (0, 0) _ hg Tryz.underlying34 rfl Mk.info23 ?_))
      refine Mk.grew_at (header_void (G := G) (B := B) (I := I) (HD.out _ HT0.out) n) ?_
      intro u0 hb0
      obtain ⟨U0, hU0⟩ : ∃ U0, (u0.alloc (Mk.groupO 0 (Mk.zers 40))).setRow u0.heap.size (Mk.groupA 0 (Mk.zers 40)) = U0 := ⟨_, rfl⟩
      have hbU : Below wr.heap.size wr U0 := by rw [← hU0]; exact belowRow (hb0.alloc hb0.size _) hb0.size _
      have hgU := kept_row hg hbU
      have HTU : Hid (Two w U0 (w.heap.size + 1) 2 (.pointer none)) := HT0.out.kept hbU
      have HU : Hid ((u0.alloc (Mk.groupO 0 (Mk.zers 40))).setRow u0.heap.size (Mk.groupA 0 (Mk.zers 40)) = U0) := hU0
      clear hg hb0 hbU hU0 HT0
      dsimp only
      go_wp2_with (first
        | (refine wpList_store_row rfl 70 (.tmp 7) _ rfl u0.heap.size (Mk.groupA 0 (Mk.zers 40)) rfl rfl 70 _ (at_new rfl) (Mk.info38 _ _ (Mk.zers_len _)) rfl (Mk.group_one _ _) ?_; rw [HU.out])
        | (refine wpList_load_row rfl 34 (.tmp 2) rfl w.heap.size rfl 34 _ (0, 0) _ hgU Tryz.underlying34 rfl Mk.info23 ?_))
      refine Mk.grew_at (block_void (G := G) (B := B) (I := I) (HD.out _ HTU.out) n _) ?_
      intro u1 hb1
      have hg1 := kept_row hgU hb1
      have HT1 : Hid (Two w u1 (w.heap.size + 1) 2 (.pointer none)) := HTU.out.kept hb1
      clear hgU HTU hb1
      dsimp only
      go_wp2_with (first
        | (refine wpList_load_row rfl 34 (.tmp 2) rfl w.heap.size rfl 34 _ (0, 0) _ hg1 Tryz.underlying34 rfl Mk.info23 ?_))
      refine Mk.grew_at (inode_void (G := G) (B := B) (I := I) (HD.out _ HT1.out) n true) ?_
      intro u2 hb2
      have hg2 := kept_row hg1 hb2
      have HT2 : Hid (Two w u2 (w.heap.size + 1) 2 (.pointer none)) := HT1.out.kept hb2
      clear hg1 HT1 hb2
      dsimp only
      go_wp2_with (first
        | (refine wpList_load_row rfl 34 (.tmp 2) rfl w.heap.size rfl 34 _ (0, 0) _ hg2 Tryz.underlying34 rfl Mk.info23 ?_))
      refine Mk.grew_at (freeBlock_void (G := G) (B := B) (I := I) (HD.out _ HT2.out) n _) ?_
      intro u3 hb3
      have hg3 := kept_row hg2 hb3
      have HT3 : Hid (Two w u3 (w.heap.size + 1) 2 (.pointer none)) := HT2.out.kept hb3
      clear hg2 HT2 hb3
      dsimp only
      go_wp2_with (first
        | (refine wpList_load_row rfl 34 (.tmp 2) rfl w.heap.size rfl 34 _ (0, 0) _ hg3 Tryz.underlying34 rfl Mk.info23 ?_))
      refine Mk.grew_at (freeInode_void (G := G) (B := B) (I := I) (HD.out _ HT3.out) n _) ?_
      intro u4 hb4
      have hg4 := kept_row hg3 hb4
      have HT4 : Hid (Two w u4 (w.heap.size + 1) 2 (.pointer none)) := HT3.out.kept hb4
      clear hg3 HT3 hb4
      dsimp only
      go_wp2_with (first
        | (refine wpList_load_row rfl 34 (.tmp 2) rfl w.heap.size rfl 34 _ (0, 0) _ hg4 Tryz.underlying34 rfl Mk.info23 ?_))
      refine Mk.grew_at (hasBlock_void (G := G) (B := B) (I := I) (HD.out _ HT4.out) n) ?_
      intro u5 hb5
      have hg5 := kept_row hg4 hb5
      have HT5 : Hid (Two w u5 (w.heap.size + 1) 2 (.pointer none)) := HT4.out.kept hb5
      clear hg4 HT4 hb5
      dsimp only
      go_wp2_with (first
        | (refine wpList_load_row rfl 34 (.tmp 2) rfl w.heap.size rfl 34 _ (0, 0) _ hg5 Tryz.underlying34 rfl Mk.info23 ?_))
      refine Mk.grew_at (hasInode_void (G := G) (B := B) (I := I) (HD.out _ HT5.out) n) ?_
      intro u6 hb6
      have hg6 := kept_row hg5 hb6
      have HT6 : Hid (Two w u6 (w.heap.size + 1) 2 (.pointer none)) := HT5.out.kept hb6
      clear hg5 HT5 hb6
      dsimp only
      go_wp2_with (first
        | (refine wpList_load_row rfl 34 (.tmp 2) rfl w.heap.size rfl 34 _ (0, 0) _ hg6 Tryz.underlying34 rfl Mk.info23 ?_))
      refine Mk.grew_at (room_void (G := G) (B := B) (I := I) (HD.out _ HT6.out)) ?_
      intro u7 hb7
      have hg7 := kept_row hg6 hb7
      have HT7 : Hid (Two w u7 (w.heap.size + 1) 2 (.pointer none)) := HT6.out.kept hb7
      clear hg6 HT6 hb7
      dsimp only
      go_wp2_with fail
      obtain ⟨W8, hW8⟩ : ∃ W8, u7.alloc (.cells #[.int .i64 2, .int .i64 2, .int .i64 2, .int .i64 2, .int .i64 2, .int .i64 2, .int .i64 2, .int .i64 2] 39) = W8 := ⟨_, rfl⟩
      have hr8 : W8.heap[u7.heap.size]? = some (.cells #[.int .i64 2, .int .i64 2, .int .i64 2, .int .i64 2, .int .i64 2, .int .i64 2, .int .i64 2, .int .i64 2] 39 (0, 0)) := by rw [← hW8]; exact at_new rfl
      have hb8 : Below u7.heap.size u7 W8 := by rw [← hW8]; exact Mk.grew_alloc _ _
      have HT8 : Hid (Two w W8 (w.heap.size + 1) 2 (.pointer none) ∧ W8.heap[w.heap.size]? = some (Mk.geomO G B I)) := ⟨HT7.out.kept hb8, kept_row hg7 hb8⟩
      have hc8 : ∀ l : Nat, l < 8 → W8.cell? ⟨u7.heap.size, l, none⟩ = some (.int .i64 2) := fun l hl => by
        rw [cell_of_row _ _ l _ 39 _ hr8]
        rcases (by omega : l = 0 ∨ l = 1 ∨ l = 2 ∨ l = 3 ∨ l = 4 ∨ l = 5 ∨ l = 6 ∨ l = 7) with rfl | rfl | rfl | rfl | rfl | rfl | rfl | rfl <;> rfl
      rw [hW8]
      clear hr8 hb8 hg7 HT7 hW8
      go_loopw [110] (fun i w2 => ∃ l : Nat, l ≤ 8 ∧ i = .int .i64 (l : Int) ∧ w2 = W8) (fun i _ => 8 - (intOf i).toNat)
      case atStart => exact ⟨0, by omega, rfl, rfl⟩
      case round =>
        obtain ⟨l, hl, rfl, rfl⟩ := hrel
        by_cases hll : l < 8
        · have hlI : (l : Int) < 8 := by omega
          have hl0 : (0 : Int) ≤ (l : Int) := by omega
          have hcl := hc8 l hll
          clear hc8
          go_wp2_with fail
          go_roundw
          case rel => exact ⟨l + 1, by omega, by go_num, by first | rfl | trivial⟩
          case measure => simp [intOf]; omega
        · have hlI : ¬ (l : Int) < 8 := by omega
          go_wp2_with fail
          go_roundw
          case rel => exact ⟨j + 1, by omega, by go_num, HT8.out.1, HT8.out.2⟩
          case measure => simp [intOf]; omega
    · have hI2 : ¬ (j : Int) < 2 := by omega
      go_wp2_with fail
      refine Calls.mono (fresh1_ok wr) ?_
      rintro e w5 ⟨p, d, v, xd, y, c, s, m, mc, p1, p2, dm, df, B', rfl, hpr, hF, hLo, hBB, hD, hb5⟩
      obtain ⟨W6, hW6⟩ : ∃ W6, (w5.alloc (Mk.geomO 0 0 0)).setRow w5.heap.size #[.int .i64 1, .int .i64 8, .int .i64 4] = W6 := ⟨_, rfl⟩
      have hb6 : Below w5.heap.size w5 W6 := by rw [← hW6]; exact belowRow (Mk.grew_alloc _ _) (Nat.le_refl _) _
      have hv6 := (hF.has hD).kept hb6
      have hp6 := kept_row hpr hb6
      have c1 : W6.cell? ⟨p, 1, none⟩ = some (.pointer (some ⟨v, 0, none⟩)) := cell_of_row _ _ 1 _ 65 _ hp6
      have hbl := block_small hv6 (by decide) (by decide)
      have HB : Hid (Below w.heap.size w W6) := hp.b.trans ((hb5.trans (hb6.mono hb5.size)).mono hp.b.size)
      have H6 : Hid ((w5.alloc (Mk.geomO 0 0 0)).setRow w5.heap.size #[.int .i64 1, .int .i64 8, .int .i64 4] = W6) := hW6
      clear hLo hW6 hb6 hv6 hp6 hpr hF hD hBB hb5 hp hg
      dsimp only
      go_wp2_with (first
        | (refine wpList_store_row rfl 34 (.tmp 29) _ rfl w5.heap.size #[.int .i64 1, .int .i64 8, .int .i64 4] rfl rfl 34 _ (at_new rfl) Mk.info23 rfl geom_one ?_; rw [H6.out]))
      refine Mk.grew_at hbl ?_
      intro w7 hb7
      clear hbl c1
      dsimp only
      go_wp2_with fail
      go_ret
      exact ⟨rfl, Mk.grew_trans HB.out hb7⟩
end Go.Proofs.YtomkhipdcjnkhaaGreat
