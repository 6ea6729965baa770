/- N1 N2 N3 -/
import Derived.Test.YtomkhipdcjnkhaaGreatNb17
import Derived.Test.YtomkhipdcjnkhaaGreatNb09

/- inode and names: of a volume that no call made each call tells that there is none. -/
namespace Go.Proofs.YtomkhipdcjnkhaaGreat
open Go.RowKit Go.Maps Go.MuLone
set_option linter.unusedVariables false
set_option maxRecDepth 100000

abbrev dnZ : Array Value := #[.int .i64 0, .int .i64 0, .int .i64 0, .int .i64 0, .int .i64 0, .int .i64 0, .int .i64 0, .int .i64 0, .int .i64 0]
theorem dnZ_one : dnZ.all (·.oneCell') = true := by simp [dnZ, Value.oneCell']
abbrev spZ : Array Value := #[.int .i64 0, .int .i64 0, .int .i64 0]
theorem spZ_one : spZ.all (·.oneCell') = true := by simp [spZ, Value.oneCell']
theorem info168 : (Tryz.prog.info? 168).map (·.size) = some 3 := by kernel_rfl

section
variable {w : World} {v : Value} {G B I : Int}
set_option maxHeartbeats 400000 in
theorem irefusal_void (h : VVoid w v) : Calls Tryz.prog 246 #[v, Mk.geomV G B I] w fun e w' => e = .returned (.int .i64 2) ∧ Below w.heap.size w w' := by
  have hb1 : Below w.heap.size w (w.alloc (Mk.geomO G B I)) := Mk.grew_alloc _ _
  have hv := vblocks_void (h.kept hb1)
  go_enter Tryz.func246, Tryz.ntmps246
  go_wp2_with (first | (go_at_call 53; refine same_at hv ?_))
  go_ret
  exact ⟨rfl, hb1⟩
set_option maxHeartbeats 400000 in
theorem irefusalInode_void (h : VVoid w v) (n m : Int) : Calls Tryz.prog 244 #[v, Mk.geomV G B I, .int .i64 n, .int .i64 m] w fun e w' => e = .returned (.int .i64 2) ∧ Below w.heap.size w w' := by
  obtain ⟨W1, hW1⟩ : ∃ W1, w.alloc (Mk.geomO G B I) = W1 := ⟨_, rfl⟩
  have hb1 : Below w.heap.size w W1 := by rw [← hW1]; exact Mk.grew_alloc _ _
  have hg1 : W1.heap[w.heap.size]? = some (Mk.geomO G B I) := by rw [← hW1]; exact at_new rfl
  have hv := irefusal_void (G := G) (B := B) (I := I) (h.kept hb1)
  go_enter Tryz.func244, Tryz.ntmps244
  go_wp2_with (first
    | (refine wpList_load_row rfl 34 (.tmp 5) rfl w.heap.size rfl 34 _ (0, 0) _ hg1 Tryz.underlying34 rfl Mk.info23 ?_))
  refine Mk.grew_at hv ?_
  intro w2 hb2
  have HB : Hid (Below w.heap.size w w2) := Mk.grew_trans hb1 hb2
  clear hv hg1 hb1 hb2
  dsimp only
  go_wp2_with fail
  go_ret
  exact ⟨rfl, HB.out⟩
set_option maxHeartbeats 1000000 in
theorem iget_void (h : VVoid w v) (n : Int) : Calls Tryz.prog 139 #[v, Mk.geomV G B I, .int .i64 n] w fun e w' => e = .returned (.tuple #[.agg dnZ, .int .i64 2]) ∧ Below w.heap.size w w' := by
  obtain ⟨W1, hW1⟩ : ∃ W1, (w.alloc (Mk.geomO G B I)).alloc (.cells dnZ 146) = W1 := ⟨_, rfl⟩
  have hb1 : Below w.heap.size w W1 := by rw [← hW1]; exact ((Below.refl _ w).alloc (Nat.le_refl _) _).alloc (by simp) _
  have hg1 : W1.heap[w.heap.size]? = some (Mk.geomO G B I) := by rw [← hW1]; exact at_old (at_new rfl)
  have hr1 : W1.heap[w.heap.size + 1]? = some (.cells dnZ 146 (0, 0)) := by rw [← hW1]; exact at_new (by simp)
  have hv := irefusalInode_void (G := G) (B := B) (I := I) (h.kept hb1) n 0
  go_enter Tryz.func139, Tryz.ntmps139
  go_wp2_with (first
    | (refine wpList_load_row rfl 34 (.tmp 4) rfl w.heap.size rfl 34 _ (0, 0) _ hg1 Tryz.underlying34 rfl Mk.info23 ?_))
  refine Mk.grew_at hv ?_
  intro w2 hb2
  have hr2 := kept_row hr1 hb2
  have HB : Hid (Below w.heap.size w w2) := Mk.grew_trans hb1 hb2
  clear hv hg1 hb1 hb2 hr1
  dsimp only
  go_wp2_with (first
    | (refine wpList_store_row rfl 146 (.tmp 6) _ rfl (w.heap.size + 1) dnZ rfl rfl 146 _ hr2 Mk.info45 rfl dnZ_one ?_))
  refine bodyPost_ret (v := .tuple #[.agg dnZ, .int .i64 2]) (Mk.results_cell_tmp_row (p := 6) (u := 7) (ty := 146) Tryz.results139 _ _ (w.heap.size + 1) 146 _ (0, 0) _ rfl (setRow_heap _ _ _ _ 146 _ hr2) Tryz.underlying146 rfl Mk.info45) rfl ?_
  exact ⟨rfl, belowRow HB.out (Nat.le_succ _) _⟩
set_option maxHeartbeats 1000000 in
theorem ispan_void (h : VVoid w v) : Calls Tryz.prog 149 #[v, Mk.geomV G B I, .agg dnZ] w fun e w' => e = .returned (.tuple #[.slice none 0 0, .int .i64 2]) ∧ Below w.heap.size w w' := by
  obtain ⟨W1, hW1⟩ : ∃ W1, (w.alloc (Mk.geomO G B I)).alloc (.cells dnZ 146) = W1 := ⟨_, rfl⟩
  have hb1 : Below w.heap.size w W1 := by rw [← hW1]; exact ((Below.refl _ w).alloc (Nat.le_refl _) _).alloc (by simp) _
  have hg1 : W1.heap[w.heap.size]? = some (Mk.geomO G B I) := by rw [← hW1]; exact at_old (at_new rfl)
  have hv := irefusal_void (G := G) (B := B) (I := I) (h.kept hb1)
  go_enter Tryz.func149, Tryz.ntmps149
  go_wp2_with (first
    | (refine wpList_load_row rfl 34 (.tmp 4) rfl w.heap.size rfl 34 _ (0, 0) _ hg1 Tryz.underlying34 rfl Mk.info23 ?_))
  refine Mk.grew_at hv ?_
  intro w2 hb2
  have HB : Hid (Below w.heap.size w w2) := Mk.grew_trans hb1 hb2
  clear hv hg1 hb1 hb2
  dsimp only
  go_wp2_with fail
  go_ret2
  exact ⟨rfl, HB.out⟩
set_option maxHeartbeats 400000 in
theorem nrefusal_void (h : VVoid w v)  : Calls Tryz.prog 84 #[v, Mk.geomV G B I] w fun e w' => e = .returned (.int .i64 2) ∧ Below w.heap.size w w' := by
  obtain ⟨W1, hW1⟩ : ∃ W1, w.alloc (Mk.geomO G B I) = W1 := ⟨_, rfl⟩
  have hb1 : Below w.heap.size w W1 := by rw [← hW1]; exact Mk.grew_alloc _ _
  have hg1 : W1.heap[w.heap.size]? = some (Mk.geomO G B I) := by rw [← hW1]; exact at_new rfl
  have hv := ispan_void (G := G) (B := B) (I := I) (h.kept hb1)
  go_enter Tryz.func84, Tryz.ntmps84
  go_wp2_with (first
    | (refine wpList_load_row rfl 34 (.tmp 3) rfl w.heap.size rfl 34 _ (0, 0) _ hg1 Tryz.underlying34 rfl Mk.info23 ?_))
  refine Mk.grew_at hv ?_
  intro w2 hb2
  have HB : Hid (Below w.heap.size w w2) := Mk.grew_trans hb1 hb2
  clear hv hg1 hb1 hb2
  dsimp only
  go_wp2_with fail
  go_ret
  exact ⟨rfl, HB.out⟩
set_option maxHeartbeats 1000000 in
theorem nopen_void (h : VVoid w v) (n : Int) : Calls Tryz.prog 87 #[v, Mk.geomV G B I, .int .i64 n] w fun e w' => e = .returned (.tuple #[.pointer none, .int .i64 2]) ∧ Below w.heap.size w w' := by
  obtain ⟨W1, hW1⟩ : ∃ W1, w.alloc (Mk.geomO G B I) = W1 := ⟨_, rfl⟩
  have hb1 : Below w.heap.size w W1 := by rw [← hW1]; exact Mk.grew_alloc _ _
  have hg1 : W1.heap[w.heap.size]? = some (Mk.geomO G B I) := by rw [← hW1]; exact at_new rfl
  have hv := iget_void (G := G) (B := B) (I := I) (h.kept hb1) n
  go_enter Tryz.func87, Tryz.ntmps87
  go_wp2_with (first
    | (refine wpList_load_row rfl 34 (.tmp 4) rfl w.heap.size rfl 34 _ (0, 0) _ hg1 Tryz.underlying34 rfl Mk.info23 ?_))
  refine Mk.grew_at hv ?_
  intro w2 hb2
  have HB : Hid (Below w.heap.size w ((w2.alloc (.cells dnZ 146)).setRow w2.heap.size dnZ)) := by
    have hb := Mk.grew_trans hb1 hb2
    exact belowRow (hb.alloc hb.size _) hb.size _
  clear hv hg1 hb1 hb2
  dsimp only
  go_wp2_with (first
    | (refine wpList_store_row rfl 146 (.tmp 8) _ rfl w2.heap.size dnZ rfl rfl 146 _ (at_new rfl) Mk.info45 rfl dnZ_one ?_))
  go_ret2
  exact ⟨rfl, HB.out⟩
set_option maxHeartbeats 1000000 in
theorem nseek_void (h : VVoid w v) (n : Int) (s : Value) : Calls Tryz.prog 86 #[v, Mk.geomV G B I, .int .i64 n, s] w fun e w' => e = .returned (.tuple #[.pointer none, .agg spZ, .int .i64 2]) ∧ Below w.heap.size w w' := by
  obtain ⟨W1, hW1⟩ : ∃ W1, (w.alloc (Mk.geomO G B I)).alloc (.cells spZ 168) = W1 := ⟨_, rfl⟩
  have hb1 : Below w.heap.size w W1 := by rw [← hW1]; exact ((Below.refl _ w).alloc (Nat.le_refl _) _).alloc (by simp) _
  have hg1 : W1.heap[w.heap.size]? = some (Mk.geomO G B I) := by rw [← hW1]; exact at_old (at_new rfl)
  have hr1 : W1.heap[w.heap.size + 1]? = some (.cells spZ 168 (0, 0)) := by rw [← hW1]; exact at_new (by simp)
  have hv := nopen_void (G := G) (B := B) (I := I) (h.kept hb1) n
  go_enter Tryz.func86, Tryz.ntmps86
  go_wp2_with (first
    | (refine wpList_load_row rfl 34 (.tmp 5) rfl w.heap.size rfl 34 _ (0, 0) _ hg1 Tryz.underlying34 rfl Mk.info23 ?_))
  refine Mk.grew_at hv ?_
  intro w2 hb2
  have hr2 := kept_row hr1 hb2
  have HB : Hid (Below w.heap.size w w2) := Mk.grew_trans hb1 hb2
  clear hv hg1 hb1 hb2 hr1
  dsimp only
  go_wp2_with (first
    | (refine wpList_store_row rfl 168 (.tmp 9) _ rfl (w.heap.size + 1) spZ rfl rfl 168 _ hr2 info168 rfl spZ_one ?_))
  refine bodyPost_ret (v := .tuple #[.pointer none, .agg spZ, .int .i64 2]) (results_tct (a := 8) (p := 9) (u := 10) (ty := 168) Tryz.results86 _ _ (w.heap.size + 1) 168 _ (0, 0) _ rfl (setRow_heap _ _ _ _ 168 _ hr2) Tryz.underlying168 rfl info168) rfl ?_
  exact ⟨rfl, belowRow HB.out (Nat.le_succ _) _⟩
set_option maxHeartbeats 400000 in
theorem nwalk_void (h : VVoid w v) (p : Value) : Calls Tryz.prog 29 #[v, Mk.geomV G B I, p] w fun e w' => e = .returned (.tuple #[.int .i64 0, .int .i64 2]) ∧ Below w.heap.size w w' := by
  obtain ⟨W1, hW1⟩ : ∃ W1, w.alloc (Mk.geomO G B I) = W1 := ⟨_, rfl⟩
  have hb1 : Below w.heap.size w W1 := by rw [← hW1]; exact Mk.grew_alloc _ _
  have hg1 : W1.heap[w.heap.size]? = some (Mk.geomO G B I) := by rw [← hW1]; exact at_new rfl
  have hv := nrefusal_void (G := G) (B := B) (I := I) (h.kept hb1)
  go_enter Tryz.func29, Tryz.ntmps29
  go_wp2_with (first
    | (refine wpList_load_row rfl 34 (.tmp 4) rfl w.heap.size rfl 34 _ (0, 0) _ hg1 Tryz.underlying34 rfl Mk.info23 ?_))
  refine Mk.grew_at hv ?_
  intro w2 hb2
  have HB : Hid (Below w.heap.size w w2) := Mk.grew_trans hb1 hb2
  clear hv hg1 hb1 hb2
  dsimp only
  go_wp2_with fail
  go_ret2
  exact ⟨rfl, HB.out⟩
set_option maxHeartbeats 1000000 in
theorem nlookup_void (h : VVoid w v) (n : Int) (s : Value) : Calls Tryz.prog 30 #[v, Mk.geomV G B I, .int .i64 n, s] w fun e w' => e = .returned (.tuple #[.int .i64 0, .int .i64 2]) ∧ Below w.heap.size w w' := by
  obtain ⟨W1, hW1⟩ : ∃ W1, w.alloc (Mk.geomO G B I) = W1 := ⟨_, rfl⟩
  have hb1 : Below w.heap.size w W1 := by rw [← hW1]; exact Mk.grew_alloc _ _
  have hg1 : W1.heap[w.heap.size]? = some (Mk.geomO G B I) := by rw [← hW1]; exact at_new rfl
  have hv := nseek_void (G := G) (B := B) (I := I) (h.kept hb1) n s
  go_enter Tryz.func30, Tryz.ntmps30
  go_wp2_with (first
    | (refine wpList_load_row rfl 34 (.tmp 5) rfl w.heap.size rfl 34 _ (0, 0) _ hg1 Tryz.underlying34 rfl Mk.info23 ?_))
  refine Mk.grew_at hv ?_
  intro w2 hb2
  obtain ⟨W3, hW3⟩ : ∃ W3, (w2.alloc (.cells spZ 168)).setRow w2.heap.size spZ = W3 := ⟨_, rfl⟩
  have hr3 : W3.heap[w2.heap.size]? = some (.cells spZ 168 (0, 0)) := by rw [← hW3]; exact setRow_heap _ _ _ _ 168 _ (at_new rfl)
  have c2 : W3.cell? ⟨w2.heap.size, 2, none⟩ = some (.int .i64 0) := cell_of_row _ _ 2 _ 168 _ hr3
  have HB : Hid (Below w.heap.size w W3) := by
    have hb := Mk.grew_trans hb1 hb2
    show Below _ _ _
    rw [← hW3]
    exact belowRow (hb.alloc hb.size _) hb.size _
  have H3 : Hid ((w2.alloc (.cells spZ 168)).setRow w2.heap.size spZ = W3) := hW3
  clear hv hg1 hb1 hb2 hW3 hr3
  dsimp only
  go_wp2_with (first
    | (refine wpList_store_row rfl 168 (.tmp 11) _ rfl w2.heap.size spZ rfl rfl 168 _ (at_new rfl) info168 rfl spZ_one ?_; rw [H3.out]))
  go_ret2
  exact ⟨rfl, HB.out⟩
set_option maxHeartbeats 1000000 in
theorem nremove_void (h : VVoid w v) (n : Int) (s q : Value) : Calls Tryz.prog 32 #[v, Mk.geomV G B I, .int .i64 n, s, q] w fun e w' => e = .returned (.tuple #[.int .i64 0, .int .i64 2]) ∧ Below w.heap.size w w' := by
  obtain ⟨W1, hW1⟩ : ∃ W1, w.alloc (Mk.geomO G B I) = W1 := ⟨_, rfl⟩
  have hb1 : Below w.heap.size w W1 := by rw [← hW1]; exact Mk.grew_alloc _ _
  have hg1 : W1.heap[w.heap.size]? = some (Mk.geomO G B I) := by rw [← hW1]; exact at_new rfl
  have hv := nseek_void (G := G) (B := B) (I := I) (h.kept hb1) n s
  go_enter Tryz.func32, Tryz.ntmps32
  go_wp2_with (first
    | (refine wpList_load_row rfl 34 (.tmp 6) rfl w.heap.size rfl 34 _ (0, 0) _ hg1 Tryz.underlying34 rfl Mk.info23 ?_))
  refine Mk.grew_at hv ?_
  intro w2 hb2
  obtain ⟨W3, hW3⟩ : ∃ W3, (w2.alloc (.cells spZ 168)).setRow w2.heap.size spZ = W3 := ⟨_, rfl⟩
  have hr3 : W3.heap[w2.heap.size]? = some (.cells spZ 168 (0, 0)) := by rw [← hW3]; exact setRow_heap _ _ _ _ 168 _ (at_new rfl)
  have c2 : W3.cell? ⟨w2.heap.size, 2, none⟩ = some (.int .i64 0) := cell_of_row _ _ 2 _ 168 _ hr3
  have HB : Hid (Below w.heap.size w W3) := by
    have hb := Mk.grew_trans hb1 hb2
    show Below _ _ _
    rw [← hW3]
    exact belowRow (hb.alloc hb.size _) hb.size _
  have H3 : Hid ((w2.alloc (.cells spZ 168)).setRow w2.heap.size spZ = W3) := hW3
  clear hv hg1 hb1 hb2 hW3 hr3
  dsimp only
  go_wp2_with (first
    | (refine wpList_store_row rfl 168 (.tmp 13) _ rfl w2.heap.size spZ rfl rfl 168 _ (at_new rfl) info168 rfl spZ_one ?_; rw [H3.out]))
  go_ret2
  exact ⟨rfl, HB.out⟩
set_option maxHeartbeats 1000000 in
theorem nset_void (h : VVoid w v) (n k : Int) (s q : Value) : Calls Tryz.prog 33 #[v, Mk.geomV G B I, .int .i64 n, s, .int .i64 k, q] w fun e w' => e = .returned (.tuple #[.int .i64 0, .int .i64 2]) ∧ Below w.heap.size w w' := by
  obtain ⟨W1, hW1⟩ : ∃ W1, w.alloc (Mk.geomO G B I) = W1 := ⟨_, rfl⟩
  have hb1 : Below w.heap.size w W1 := by rw [← hW1]; exact Mk.grew_alloc _ _
  have hg1 : W1.heap[w.heap.size]? = some (Mk.geomO G B I) := by rw [← hW1]; exact at_new rfl
  have hv := nseek_void (G := G) (B := B) (I := I) (h.kept hb1) n s
  go_enter Tryz.func33, Tryz.ntmps33
  go_wp2_with (first
    | (refine wpList_load_row rfl 34 (.tmp 7) rfl w.heap.size rfl 34 _ (0, 0) _ hg1 Tryz.underlying34 rfl Mk.info23 ?_))
  refine Mk.grew_at hv ?_
  intro w2 hb2
  obtain ⟨W3, hW3⟩ : ∃ W3, (w2.alloc (.cells spZ 168)).setRow w2.heap.size spZ = W3 := ⟨_, rfl⟩
  have hr3 : W3.heap[w2.heap.size]? = some (.cells spZ 168 (0, 0)) := by rw [← hW3]; exact setRow_heap _ _ _ _ 168 _ (at_new rfl)
  have c2 : W3.cell? ⟨w2.heap.size, 2, none⟩ = some (.int .i64 0) := cell_of_row _ _ 2 _ 168 _ hr3
  have HB : Hid (Below w.heap.size w W3) := by
    have hb := Mk.grew_trans hb1 hb2
    show Below _ _ _
    rw [← hW3]
    exact belowRow (hb.alloc hb.size _) hb.size _
  have H3 : Hid ((w2.alloc (.cells spZ 168)).setRow w2.heap.size spZ = W3) := hW3
  clear hv hg1 hb1 hb2 hW3 hr3
  dsimp only
  go_wp2_with (first
    | (refine wpList_store_row rfl 168 (.tmp 15) _ rfl w2.heap.size spZ rfl rfl 168 _ (at_new rfl) info168 rfl spZ_one ?_; rw [H3.out]))
  go_ret2
  exact ⟨rfl, HB.out⟩
set_option maxHeartbeats 400000 in
theorem nlist_void (h : VVoid w v) (n : Int) : Calls Tryz.prog 34 #[v, Mk.geomV G B I, .int .i64 n] w fun e w' => e = .returned (.tuple #[.slice none 0 0, .int .i64 2]) ∧ Below w.heap.size w w' := by
  obtain ⟨W1, hW1⟩ : ∃ W1, w.alloc (Mk.geomO G B I) = W1 := ⟨_, rfl⟩
  have hb1 : Below w.heap.size w W1 := by rw [← hW1]; exact Mk.grew_alloc _ _
  have hg1 : W1.heap[w.heap.size]? = some (Mk.geomO G B I) := by rw [← hW1]; exact at_new rfl
  have hv := nopen_void (G := G) (B := B) (I := I) (h.kept hb1) n
  go_enter Tryz.func34, Tryz.ntmps34
  go_wp2_with (first
    | (refine wpList_load_row rfl 34 (.tmp 4) rfl w.heap.size rfl 34 _ (0, 0) _ hg1 Tryz.underlying34 rfl Mk.info23 ?_))
  refine Mk.grew_at hv ?_
  intro w2 hb2
  have HB : Hid (Below w.heap.size w w2) := Mk.grew_trans hb1 hb2
  clear hv hg1 hb1 hb2
  dsimp only
  go_wp2_with fail
  go_ret2
  exact ⟨rfl, HB.out⟩
set_option maxHeartbeats 400000 in
theorem nempty_void (h : VVoid w v) (n : Int) : Calls Tryz.prog 35 #[v, Mk.geomV G B I, .int .i64 n] w fun e w' => e = .returned (.tuple #[.bool false, .int .i64 2]) ∧ Below w.heap.size w w' := by
  obtain ⟨W1, hW1⟩ : ∃ W1, w.alloc (Mk.geomO G B I) = W1 := ⟨_, rfl⟩
  have hb1 : Below w.heap.size w W1 := by rw [← hW1]; exact Mk.grew_alloc _ _
  have hg1 : W1.heap[w.heap.size]? = some (Mk.geomO G B I) := by rw [← hW1]; exact at_new rfl
  have hv := nopen_void (G := G) (B := B) (I := I) (h.kept hb1) n
  go_enter Tryz.func35, Tryz.ntmps35
  go_wp2_with (first
    | (refine wpList_load_row rfl 34 (.tmp 4) rfl w.heap.size rfl 34 _ (0, 0) _ hg1 Tryz.underlying34 rfl Mk.info23 ?_))
  refine Mk.grew_at hv ?_
  intro w2 hb2
  have HB : Hid (Below w.heap.size w w2) := Mk.grew_trans hb1 hb2
  clear hv hg1 hb1 hb2
  dsimp only
  go_wp2_with fail
  go_ret2
  exact ⟨rfl, HB.out⟩
set_option maxHeartbeats 400000 in
theorem nbelow_void (h : VVoid w v) (n k : Int) : Calls Tryz.prog 36 #[v, Mk.geomV G B I, .int .i64 n, .int .i64 k] w fun e w' => e = .returned (.tuple #[.bool false, .int .i64 2]) ∧ Below w.heap.size w w' := by
  obtain ⟨W1, hW1⟩ : ∃ W1, w.alloc (Mk.geomO G B I) = W1 := ⟨_, rfl⟩
  have hb1 : Below w.heap.size w W1 := by rw [← hW1]; exact Mk.grew_alloc _ _
  have hg1 : W1.heap[w.heap.size]? = some (Mk.geomO G B I) := by rw [← hW1]; exact at_new rfl
  have hv := nopen_void (G := G) (B := B) (I := I) (h.kept hb1) n
  go_enter Tryz.func36, Tryz.ntmps36
  go_wp2_with (first
    | (refine wpList_load_row rfl 34 (.tmp 5) rfl w.heap.size rfl 34 _ (0, 0) _ hg1 Tryz.underlying34 rfl Mk.info23 ?_))
  refine Mk.grew_at hv ?_
  intro w2 hb2
  have HB : Hid (Below w.heap.size w w2) := Mk.grew_trans hb1 hb2
  clear hv hg1 hb1 hb2
  dsimp only
  go_wp2_with fail
  go_ret2
  exact ⟨rfl, HB.out⟩
set_option maxHeartbeats 1000000 in
theorem nadd_void (h : VVoid w v) (n k : Int) (x : ByteArray) (q : Value) : Calls Tryz.prog 31 #[v, Mk.geomV G B I, .int .i64 n, .agg #[.int .i64 k, .string x], q] w fun e w' => e = .returned (.tuple #[.int .i64 0, .int .i64 2]) ∧ Below w.heap.size w w' := by
  obtain ⟨W1, hW1⟩ : ∃ W1, (w.alloc (Mk.geomO G B I)).alloc (.cells #[.int .i64 k, .string x] 93) = W1 := ⟨_, rfl⟩
  have hb1 : Below w.heap.size w W1 := by rw [← hW1]; exact ((Below.refl _ w).alloc (Nat.le_refl _) _).alloc (by simp) _
  have hg1 : W1.heap[w.heap.size]? = some (Mk.geomO G B I) := by rw [← hW1]; exact at_old (at_new rfl)
  have hv := nopen_void (G := G) (B := B) (I := I) (h.kept hb1) n
  go_enter Tryz.func31, Tryz.ntmps31
  go_wp2_with (first
    | (refine wpList_load_row rfl 34 (.tmp 6) rfl w.heap.size rfl 34 _ (0, 0) _ hg1 Tryz.underlying34 rfl Mk.info23 ?_))
  refine Mk.grew_at hv ?_
  intro w2 hb2
  have HB : Hid (Below w.heap.size w w2) := Mk.grew_trans hb1 hb2
  clear hv hg1 hb1 hb2
  dsimp only
  go_wp2_with fail
  go_ret2
  exact ⟨rfl, HB.out⟩
end
end Go.Proofs.YtomkhipdcjnkhaaGreat

/- inode.Span of an inode without blocks; names.Walk of the root: of a new volume. -/
namespace Go.Proofs.YtomkhipdcjnkhaaGreat
open Go.RowKit Go.Maps Go.MuLone
set_option linter.unusedVariables false
set_option maxRecDepth 100000

set_option maxHeartbeats 2000000 in
theorem irefusal_fit {w : World} {v : Nat} {k G B I N : Int} (h : VHas w v k) (hk : ¬ k = 0) (hm : Mk.Gm.May G B I) (hN : G * B = N) (hlt : ¬ k < N) : Calls Tryz.prog 246 #[.pointer (some ⟨v, 0, none⟩), Mk.geomV G B I] w fun e w' => e = .returned (.int .i64 0) ∧ Below w.heap.size w w' := by
  have hb1 : Below w.heap.size w (w.alloc (Mk.geomO G B I)) := Mk.grew_alloc _ _
  have hg1 : (w.alloc (Mk.geomO G B I)).heap[w.heap.size]? = some (Mk.geomO G B I) := at_new rfl
  obtain ⟨W1, hW1⟩ : ∃ W1, w.alloc (Mk.geomO G B I) = W1 := ⟨_, rfl⟩
  rw [hW1] at hb1 hg1
  have hv1 := h.kept hb1
  have c1 := hv1.blocks
  have hkb : (k == 0) = false := by rw [beq_eq_false_iff_ne]; exact hk
  have hd : Below W1.heap.size W1 W1.drew := (Below.refl _ _).drew
  have hv2 := hv1.kept hd
  have g2 := (g3_of hg1).kept hd
  have q0 := g2.c0
  have q1 := g2.c1
  have q2 := g2.c2
  have hca := Mk.can_ok G B I W1.drew
  rw [Mk.Gm.can, if_pos hm] at hca
  have HB : Hid (Below w.heap.size w W1.drew) := hb1.drew
  have HN : Hid (G * B = N) := hN
  have HM : Hid (Mk.Gm.May G B I) := hm
  clear hm hN hb1 hd
  go_enter Tryz.func246, Tryz.ntmps246
  go_wp2_with (first | (go_at_call 53; refine same_at c1 ?_))
  go_region_with (first
    | (go_at_call 54; refine Mk.grew_at hca ?_; intro w2 hb2; have hv3 := hv2.kept hb2; have g3 := g2.kept hb2; have q0' := g3.c0; have q1' := g3.c1; have q2' := g3.c2; have hb3 := Mk.blocks_ok G B I w2; rw [Mk.Gm.num, if_pos HM.out, HN.out] at hb3; have cb := hv3.blocks)
    | (go_at_call 53; first | refine same_at cb ?_ | refine same_at cb' ?_)
    | (go_at_call 49; refine Mk.grew_at hb3 ?_; intro w4 hb4; have cb' := (hv3.kept hb4).blocks))
  all_goals go_wp2_with fail
  all_goals go_ret
  all_goals exact ⟨rfl, Mk.grew_trans (Mk.grew_trans HB.out hb2) hb4⟩

set_option maxHeartbeats 400000 in
theorem reach_zero (v : Value) (n : Int) (w : World) : Calls Tryz.prog 258 #[v, .int .i64 0, .int .i64 n] w fun e w' => e = .returned (.tuple #[.slice none 0 0, .int .i64 0]) ∧ w' = w := by
  go_enter Tryz.func258, Tryz.ntmps258
  go_wp2
  go_ret2
  exact ⟨rfl, rfl⟩

/-- Three rows of noughts. -/
def SpI (w : World) (A : Nat) : Prop := ∀ j, j < 3 → ∃ g o n c, w.cell? ⟨A, j, none⟩ = some (.slice (some ⟨g, o, none⟩) n c) ∧ n ≤ 4 ∧ ∀ i, i < n → w.cell? ⟨g, o + i, none⟩ = some (.int .i64 0)
theorem spi_mk {w : World} {b a1 a2 A : Nat} (hb : w.heap[b]? = some (.cells dnZ 146 (0, 0))) (h1 : w.heap[a1]? = some (.cells #[.int .i64 0] 3 (0, 0))) (h2 : w.heap[a2]? = some (.cells #[.int .i64 0] 3 (0, 0)))
    (hA : w.heap[A]? = some (.cells #[.slice (some ⟨b, 3, none⟩) 4 4, .slice (some ⟨a1, 0, none⟩) 1 1, .slice (some ⟨a2, 0, none⟩) 1 1] 84 (0, 0))) : SpI w A := by
  intro j hj
  rcases (by omega : j = 0 ∨ j = 1 ∨ j = 2) with rfl | rfl | rfl
  · refine ⟨b, 3, 4, 4, cell_of_row _ _ 0 _ 84 _ hA, by omega, fun i hi => ?_⟩
    rw [cell_of_row _ _ (3 + i) _ 146 _ hb]
    rcases (by omega : i = 0 ∨ i = 1 ∨ i = 2 ∨ i = 3) with rfl | rfl | rfl | rfl <;> rfl
  · refine ⟨a1, 0, 1, 1, cell_of_row _ _ 1 _ 84 _ hA, by omega, fun i hi => ?_⟩
    obtain rfl : i = 0 := by omega
    exact cell_of_row _ _ 0 _ 3 _ h1
  · refine ⟨a2, 0, 1, 1, cell_of_row _ _ 2 _ 84 _ hA, by omega, fun i hi => ?_⟩
    obtain rfl : i = 0 := by omega
    exact cell_of_row _ _ 0 _ 3 _ h2

set_option maxHeartbeats 4000000 in
theorem ispan_ok {w : World} {v : Nat} (h : VHas w v 8) : Calls Tryz.prog 149 #[.pointer (some ⟨v, 0, none⟩), Mk.geomV 1 8 4, .agg dnZ] w fun e w' => e = .returned (.tuple #[.slice none 0 0, .int .i64 0]) ∧ Below w.heap.size w w' := by
  obtain ⟨W1, hW1⟩ : ∃ W1, (w.alloc (Mk.geomO 1 8 4)).alloc (.cells dnZ 146) = W1 := ⟨_, rfl⟩
  have hb1 : Below w.heap.size w W1 := by rw [← hW1]; exact ((Below.refl _ w).alloc (Nat.le_refl _) _).alloc (by simp) _
  have hg1 : W1.heap[w.heap.size]? = some (Mk.geomO 1 8 4) := by rw [← hW1]; exact at_old (at_new rfl)
  have hr1 : W1.heap[w.heap.size + 1]? = some (.cells dnZ 146 (0, 0)) := by rw [← hW1]; exact at_new (by simp)
  have hv := irefusal_fit (G := 1) (B := 8) (I := 4) (N := 8) (h.kept hb1) (by decide) (by decide) (by decide) (by decide)
  go_enter Tryz.func149, Tryz.ntmps149
  go_wp2_with (first
    | (refine wpList_load_row rfl 34 (.tmp 4) rfl w.heap.size rfl 34 _ (0, 0) _ hg1 Tryz.underlying34 rfl Mk.info23 ?_))
  refine Mk.grew_at hv ?_
  intro w2 hb2
  have hr2 := kept_row hr1 hb2
  have HB : Hid (Below w.heap.size w w2) := Mk.grew_trans hb1 hb2
  have q7 : w2.drew.cell? ⟨w.heap.size + 1, 7, none⟩ = some (.int .i64 0) := cell_of_row _ _ 7 _ 146 _ hr2
  have q8 : w2.drew.cell? ⟨w.heap.size + 1, 8, none⟩ = some (.int .i64 0) := cell_of_row _ _ 8 _ 146 _ hr2
  have q7' : w2.cell? ⟨w.heap.size + 1, 7, none⟩ = some (.int .i64 0) := cell_of_row _ _ 7 _ 146 _ hr2
  have q8' : w2.cell? ⟨w.heap.size + 1, 8, none⟩ = some (.int .i64 0) := cell_of_row _ _ 8 _ 146 _ hr2
  have hrA : (w2.alloc (.cells #[.int .i64 0] 3)).heap[w.heap.size + 1]? = some (.cells dnZ 146 (0, 0)) := at_old hr2
  have qa7 : (w2.alloc (.cells #[.int .i64 0] 3)).drew.cell? ⟨w.heap.size + 1, 7, none⟩ = some (.int .i64 0) := cell_of_row (w2.alloc (.cells #[.int .i64 0] 3)) _ 7 _ 146 _ hrA
  have qa8 : (w2.alloc (.cells #[.int .i64 0] 3)).drew.cell? ⟨w.heap.size + 1, 8, none⟩ = some (.int .i64 0) := cell_of_row (w2.alloc (.cells #[.int .i64 0] 3)) _ 8 _ 146 _ hrA
  have qa7' : (w2.alloc (.cells #[.int .i64 0] 3)).cell? ⟨w.heap.size + 1, 7, none⟩ = some (.int .i64 0) := cell_of_row _ _ 7 _ 146 _ hrA
  have qa8' : (w2.alloc (.cells #[.int .i64 0] 3)).cell? ⟨w.heap.size + 1, 8, none⟩ = some (.int .i64 0) := cell_of_row _ _ 8 _ 146 _ hrA
  have HR : Hid (w2.heap[w.heap.size + 1]? = some (.cells dnZ 146 (0, 0))) := hr2
  clear hv hg1 hb1 hb2 hr1 hr2 hrA h
  dsimp only
  go_upto_region 5 with fail
  go_cut [30, 31, 32] (fun v30 v31 v32 wx => ∃ A, v30 = .slice (some ⟨A, 0, none⟩) 3 3 ∧ v31 = .int .i64 3 ∧ v32 = .int .i64 0 ∧ SpI wx A ∧ Below w.heap.size w wx)
  case first =>
    go_region
    all_goals go_wp2_with fail
    all_goals go_meet
    all_goals (
      have hB := (((HB.out.alloc HB.out.size (.cells #[.int .i64 0] 3)).alloc (by simp; have := HB.out.size; omega) (.cells #[.int .i64 0] 3)))
      first
        | exact ⟨w2.heap.size + 1 + 1, rfl, rfl, rfl, spi_mk (a1 := w2.heap.size) (a2 := w2.heap.size + 1) (at_old (at_old (at_old HR.out))) (at_old (at_old (at_new rfl))) (at_old (at_new (by simp))) (at_new (by simp)), (hB.alloc hB.size _).drew⟩
        | exact ⟨w2.heap.size + 1 + 1, rfl, rfl, rfl, spi_mk (a1 := w2.heap.size + 1) (a2 := w2.heap.size) (at_old (at_old (at_old HR.out))) (at_old (at_new (by simp))) (at_old (at_old (at_new rfl))) (at_new (by simp)), (hB.alloc hB.size _).drew⟩)
  case rest =>
    obtain ⟨A, rfl, rfl, rfl, hSp, hBx⟩ := hcut
    rename World => wx
    have HX : Hid (Below w.heap.size w wx) := hBx
    have HS : Hid (SpI wx A) := hSp
    clear hSp hBx q7 q8 q7' q8' qa7 qa8 qa7' qa8' HR HB hW1
    go_wp2_with fail
    go_loopw [9, 32] (fun bv iv wr => ∃ j : Nat, j ≤ 3 ∧ iv = .int .i64 (j : Int) ∧ bv = .slice none 0 0 ∧ wr = wx) (fun _ iv _ => 3 - (intOf iv).toNat)
    case atStart => exact ⟨0, by omega, rfl, rfl, rfl⟩
    case round =>
      obtain ⟨j, hj, rfl, rfl, rfl⟩ := hrel
      by_cases hlt : j < 3
      · obtain ⟨g, o, n, c, hc, hn, hz⟩ := HS.out j hlt
        have hjI : (j : Int) < 3 := by omega
        have hj0 : (0 : Int) ≤ (j : Int) := by omega
        have HZ : Hid (∀ i, i < n → wr.cell? ⟨g, o + i, none⟩ = some (.int .i64 0)) := hz
        clear hz
        go_wp2_with fail
        go_loopw [9, 39] (fun bv iv w3 => ∃ i : Nat, i ≤ n ∧ iv = .int .i64 (i : Int) ∧ bv = .slice none 0 0 ∧ w3 = wr) (fun _ iv _ => n - (intOf iv).toNat)
        case atStart => exact ⟨0, by omega, rfl, rfl, rfl⟩
        case round =>
          obtain ⟨i, hi, rfl, rfl, rfl⟩ := hrel
          by_cases hlt2 : i < n
          · have hiI : (i : Int) < (n : Int) := by omega
            have hi0 : (0 : Int) ≤ (i : Int) := by omega
            have hc2 := HZ.out i hlt2
            have hrz := reach_zero (.pointer (some ⟨v, 0, none⟩)) (j : Int)
            go_wp2_with (first | (go_at_call 258; refine same_at (hrz _) ?_))
            exact ⟨⟨i + 1, by omega, by go_num, rfl, trivial⟩, by simp [intOf]; omega⟩
          · have hiI : ¬ (i : Int) < (n : Int) := by omega
            go_wp2_with fail
            exact ⟨⟨j + 1, by omega, by go_num, rfl, trivial⟩, by simp [intOf]; omega⟩
      · have hjI : ¬ (j : Int) < 3 := by omega
        go_wp2_with fail
        go_ret2
        exact ⟨rfl, HX.out⟩
end Go.Proofs.YtomkhipdcjnkhaaGreat

/- names.Walk of the root of a new volume. -/
namespace Go.Proofs.YtomkhipdcjnkhaaGreat
open Go.RowKit Go.Maps Go.MuLone
set_option linter.unusedVariables false
set_option maxRecDepth 100000

set_option maxHeartbeats 1000000 in
theorem nrefusal_ok {w : World} {v : Nat} (h : VHas w v 8) : Calls Tryz.prog 84 #[.pointer (some ⟨v, 0, none⟩), Mk.geomV 1 8 4] w fun e w' => e = .returned (.int .i64 0) ∧ Below w.heap.size w w' := by
  obtain ⟨W1, hW1⟩ : ∃ W1, w.alloc (Mk.geomO 1 8 4) = W1 := ⟨_, rfl⟩
  have hb1 : Below w.heap.size w W1 := by rw [← hW1]; exact Mk.grew_alloc _ _
  have hg1 : W1.heap[w.heap.size]? = some (Mk.geomO 1 8 4) := by rw [← hW1]; exact at_new rfl
  have hv := ispan_ok (h.kept hb1)
  go_enter Tryz.func84, Tryz.ntmps84
  go_wp2_with (first
    | (refine wpList_load_row rfl 34 (.tmp 3) rfl w.heap.size rfl 34 _ (0, 0) _ hg1 Tryz.underlying34 rfl Mk.info23 ?_))
  refine Mk.grew_at hv ?_
  intro w2 hb2
  have HB : Hid (Below w.heap.size w w2) := Mk.grew_trans hb1 hb2
  clear hv hg1 hb1 hb2
  dsimp only
  go_wp2_with fail
  go_ret
  exact ⟨rfl, HB.out⟩
set_option maxHeartbeats 1000000 in
theorem hasPrefix_root (w : World) : Calls Tryz.prog 350 #[.string ⟨#[47]⟩, .string ⟨#[47]⟩] w fun e w' => e = .returned (.bool true) ∧ Below w.heap.size w w' := by
  have hx : ((ByteArray.mk #[47]).extract 0 1).toList = [47] := by decide +kernel
  go_enter Tryz.func350, Tryz.ntmps350
  go_wp2_with fail
  go_ret
  exact ⟨by first | rfl | (rw [hx]; rfl) | simp [hx], Below.refl _ _⟩
set_option maxHeartbeats 1000000 in
theorem cutl_root (w : World) : Calls Tryz.prog 267 #[.string ⟨#[47]⟩, .string ⟨#[47]⟩] w fun e w' => e = .returned (.tuple #[.string ⟨#[]⟩, .bool true]) ∧ Below w.heap.size w w' := by
  go_enter Tryz.func267, Tryz.ntmps267
  go_wp2_with (first | (go_at_call 350; refine Mk.grew_at (hasPrefix_root w) ?_; intro w2 hb2))
  go_ret2
  exact ⟨rfl, hb2⟩
set_option maxHeartbeats 1000000 in
theorem cut_root (w : World) : Calls Tryz.prog 156 #[.string ⟨#[47]⟩, .string ⟨#[47]⟩] w fun e w' => e = .returned (.tuple #[.string ⟨#[]⟩, .bool true]) ∧ Below w.heap.size w w' := by
  go_enter Tryz.func156, Tryz.ntmps156
  go_wp2_with (first | (go_at_call 267; refine Mk.grew_at (cutl_root w) ?_; intro w2 hb2))
  go_ret2
  exact ⟨rfl, hb2⟩
set_option maxHeartbeats 1000000 in
theorem split_root (w : World) : Calls Tryz.prog 85 #[.string ⟨#[47]⟩] w fun e w' => e = .returned (.tuple #[.slice none 0 0, .int .i64 0]) ∧ Below w.heap.size w w' := by
  go_enter Tryz.func85, Tryz.ntmps85
  go_wp2_with (first | (go_at_call 156; refine Mk.grew_at (cut_root w) ?_; intro w2 hb2))
  go_ret2
  exact ⟨rfl, hb2⟩
set_option maxHeartbeats 1000000 in
theorem nwalk_root {w : World} {v : Nat} (h : VHas w v 8) : Calls Tryz.prog 29 #[.pointer (some ⟨v, 0, none⟩), Mk.geomV 1 8 4, .string ⟨#[47]⟩] w fun e w' => e = .returned (.tuple #[.int .i64 2, .int .i64 0]) ∧ Below w.heap.size w w' := by
  obtain ⟨W1, hW1⟩ : ∃ W1, w.alloc (Mk.geomO 1 8 4) = W1 := ⟨_, rfl⟩
  have hb1 : Below w.heap.size w W1 := by rw [← hW1]; exact Mk.grew_alloc _ _
  have hg1 : W1.heap[w.heap.size]? = some (Mk.geomO 1 8 4) := by rw [← hW1]; exact at_new rfl
  have hv := nrefusal_ok (h.kept hb1)
  go_enter Tryz.func29, Tryz.ntmps29
  go_wp2_with (first
    | (refine wpList_load_row rfl 34 (.tmp 4) rfl w.heap.size rfl 34 _ (0, 0) _ hg1 Tryz.underlying34 rfl Mk.info23 ?_))
  refine Mk.grew_at hv ?_
  intro w2 hb2
  have HB : Hid (Below w.heap.size w w2) := Mk.grew_trans hb1 hb2
  clear hv hg1 hb1 hb2 h
  dsimp only
  go_wp2_with fail
  refine Mk.grew_at (split_root w2) ?_
  intro w3 hb3
  dsimp only
  go_wp2_with fail
  go_loopw [11, 30] (fun tv iv wr => tv = .int .i64 2 ∧ iv = .int .i64 0 ∧ wr = w3) (fun _ iv _ => 0)
  case atStart => exact ⟨rfl, rfl, rfl⟩
  case round =>
    obtain ⟨rfl, rfl, rfl⟩ := hrel
    go_wp2_with fail
    go_ret2
    exact ⟨rfl, Mk.grew_trans HB.out hb3⟩
end Go.Proofs.YtomkhipdcjnkhaaGreat
