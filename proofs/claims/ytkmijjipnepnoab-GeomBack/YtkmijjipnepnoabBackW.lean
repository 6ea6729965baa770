/- GeomBack: what the group and the bit of an inode, or of a block, tell leads back to it. -/
import Derived.Test.YtkmijjipnepnoabCanW
namespace Go.Proofs.Ytkmijjipnepnoab
open Go.RowKit

theorem num_pos_fn {G B I : Int} (h : Gm.May G B I) : (∀ w, Calls Try.prog 18 #[geomV G B I] w fun e w' => e = .returned (.int .i64 (G * B)) ∧ Below w.heap.size w w') ∧ (∀ w, Calls Try.prog 20 #[geomV G B I] w fun e w' => e = .returned (.int .i64 (G * I)) ∧ Below w.heap.size w w') := by
  have h1 := fun w => blocks_ok G B I w
  have h2 := fun w => inodes_ok G B I w
  rw [Gm.num_pos h] at h1 h2
  exact ⟨h1, h2⟩
theorem num_neg_fn {G B I : Int} (h : ¬ Gm.May G B I) : (∀ w, Calls Try.prog 18 #[geomV G B I] w fun e w' => e = .returned (.int .i64 0) ∧ Below w.heap.size w w') ∧ (∀ w, Calls Try.prog 20 #[geomV G B I] w fun e w' => e = .returned (.int .i64 0) ∧ Below w.heap.size w w') ∧ (∀ w, Calls Try.prog 22 #[geomV G B I] w fun e w' => e = .returned (.int .i64 0) ∧ Below w.heap.size w w') := by
  have h1 := fun w => blocks_ok G B I w
  have h2 := fun w => inodes_ok G B I w
  have h3 := fun w => room_ok G B I w
  rw [Gm.num_neg h] at h1 h2 h3
  exact ⟨h1, h2, h3⟩

theorem geomBack_not (G B I n b : Int) (w : World) (h : ¬ Gm.May G B I) : Calls Try.prog 8 #[geomV G B I, .int .i64 n, .int .i64 b] w fun e w' => e = .returned (.bool true) ∧ Below w.heap.size w w' := by
  have HB : Below w.heap.size w (w.alloc (geomO G B I)) := (Below.refl _ _).alloc (Nat.le_refl _) _
  obtain ⟨c0, c1, c2⟩ := box_cells w G B I
  obtain ⟨k1, k2, k3⟩ := num_neg_fn h
  go_enter Try.func8, Try.ntmps8
  go_wp2_with (first | (go_at_call 16; refine grew_at (can_not h _) ?_; intro wn hbn; have HB := grew_trans HB hbn; have c0 := cell_kept c0 hbn; have c1 := cell_kept c1 hbn; have c2 := cell_kept c2 hbn))
  have HB := HB.drew; have c0 := drew_cell c0; have c1 := drew_cell c1; have c2 := drew_cell c2
  go_region_held3 (fun w' => w'.cell? ⟨w.heap.size, 0, none⟩ = some (.int .i64 G) ∧ w'.cell? ⟨w.heap.size, 1, none⟩ = some (.int .i64 B) ∧ w'.cell? ⟨w.heap.size, 2, none⟩ = some (.int .i64 I)) (first | exact ⟨c0, c1, c2⟩ | assumption) (first | (go_at_call 18; refine grew_at (k1 _) ?_; intro wn hbn; have HB := grew_trans HB hbn; have c0 := cell_kept c0 hbn; have c1 := cell_kept c1 hbn; have c2 := cell_kept c2 hbn) | (go_at_call 20; refine grew_at (k2 _) ?_; intro wn hbn; have HB := grew_trans HB hbn; have c0 := cell_kept c0 hbn; have c1 := cell_kept c1 hbn; have c2 := cell_kept c2 hbn) | (go_at_call 22; refine grew_at (k3 _) ?_; intro wn hbn; have HB := grew_trans HB hbn; have c0 := cell_kept c0 hbn; have c1 := cell_kept c1 hbn; have c2 := cell_kept c2 hbn))
  go_wp2
  go_ret
  exact ⟨rfl, HB⟩

theorem turned (m n : Int) (h1 : 1 ≤ m) (h2 : m ≤ 2048) : ∃ x, IntKind.i64.wrap ((IntKind.u64.wrap n).tmod m) = x ∧ wrap64 ((IntKind.u64.wrap n).tmod m) = x ∧ 0 ≤ x ∧ x < m := by
  have h0 : 0 ≤ IntKind.u64.wrap n := by rw [IntKind.wrap_u64]; omega
  rw [Int.tmod_eq_emod_of_nonneg h0]
  have h3 : 0 ≤ IntKind.u64.wrap n % m := Int.emod_nonneg _ (by omega)
  have h4 : IntKind.u64.wrap n % m < m := Int.emod_lt_of_pos _ (by omega)
  generalize IntKind.u64.wrap n % m = r at h3 h4
  refine ⟨r, ?_, ?_, h3, h4⟩
  · rw [IntKind.wrap_i64]; omega
  · unfold wrap64; omega

set_option maxHeartbeats 1000000 in
theorem geomBack_may (G B I n b : Int) (w : World) (h : Gm.May G B I) : Calls Try.prog 8 #[geomV G B I, .int .i64 n, .int .i64 b] w fun e w' => e = .returned (.bool true) ∧ Below w.heap.size w w' := by
  have HB : Below w.heap.size w (w.alloc (geomO G B I)) := (Below.refl _ _).alloc (Nat.le_refl _) _
  obtain ⟨c0, c1, c2⟩ := box_cells w G B I
  obtain ⟨k1, k2⟩ := num_pos_fn h
  obtain ⟨hG, hB, hI, h4, h3⟩ := h.all
  have hp1 : 1 ≤ G * B ∧ G * B ≤ 2048 := by
    have := mul_le' (a := G) (b := B) (m := 8) (n := 256) (by omega) (by omega) (by omega) (by omega)
    have : 1 * 1 ≤ G * B := Int.mul_le_mul (by omega) (by omega) (by omega) (by omega)
    omega
  have hp2 : 1 ≤ G * I ∧ G * I ≤ 512 := by
    have := mul_le' (a := G) (b := I) (m := 8) (n := 64) (by omega) (by omega) (by omega) (by omega)
    have : 1 * 1 ≤ G * I := Int.mul_le_mul (by omega) (by omega) (by omega) (by omega)
    omega
  have hn1 : G * B ≠ 0 := by omega
  have hn2 : G * I ≠ 0 := by omega
  have hw1 : IntKind.u64.wrap (G * B) = G * B := by rw [IntKind.wrap_u64]; omega
  have hw2 : IntKind.u64.wrap (G * I) = G * I := by rw [IntKind.wrap_u64]; omega
  obtain ⟨x, hx1, hx2, hx3, hx4⟩ := turned (G * I) n hp2.1 (by omega)
  obtain ⟨y, hy1, hy2, hy3, hy4⟩ := turned (G * B) b hp1.1 (by omega)
  have ox : Gm.Of G B I I x := ⟨h, hx3, hx4⟩
  have oy : Gm.Of G B I B y := ⟨h, hy3, hy4⟩
  have bx := ox.bd (by omega) (by omega)
  have bm := oy.bd (by omega) (by omega)
  have iy : Gm.In G B I (y / B) := ⟨h, bm.1, bm.2.1⟩
  have bi := iy.bd
  have hX := Int.ediv_mul_add_emod x I
  have hY := Int.ediv_mul_add_emod y B
  have cO := fun w => owner_in ox w
  have cG := fun w => group_in oy w
  have cD := fun w => data_in iy w
  have cI := fun w => isData_in oy w
  generalize x / I = xq at *
  generalize x % I = xr at *
  generalize y / B = yq at *
  generalize y % B = yr at *
  have hY2 : (yq + 1) * B = yq * B + B := by rw [Int.add_mul, Int.one_mul]
  have hI2 : decide (2 + I / 4 ≤ yr) = decide (yq * B + (2 + I / 4) ≤ y) := by
    apply decide_eq_decide.2; omega
  rw [hI2] at cI
  clear ox oy iy hI2
  go_enter Try.func8, Try.ntmps8
  go_wp2_with (first | (go_at_call 16; refine grew_at (can_may h _) ?_; intro wn hbn; have HB := grew_trans HB hbn; have c0 := cell_kept c0 hbn; have c1 := cell_kept c1 hbn; have c2 := cell_kept c2 hbn) | (go_at_call 18; refine grew_at (k1 _) ?_; intro wn hbn; have HB := grew_trans HB hbn; have c0 := cell_kept c0 hbn; have c1 := cell_kept c1 hbn; have c2 := cell_kept c2 hbn) | (go_at_call 20; refine grew_at (k2 _) ?_; intro wn hbn; have HB := grew_trans HB hbn; have c0 := cell_kept c0 hbn; have c1 := cell_kept c1 hbn; have c2 := cell_kept c2 hbn))
  have HB := HB.drew; have c0 := drew_cell c0; have c1 := drew_cell c1; have c2 := drew_cell c2
  go_region_held3 (fun w' => w'.cell? ⟨w.heap.size, 0, none⟩ = some (.int .i64 G) ∧ w'.cell? ⟨w.heap.size, 1, none⟩ = some (.int .i64 B) ∧ w'.cell? ⟨w.heap.size, 2, none⟩ = some (.int .i64 I)) (first | exact ⟨c0, c1, c2⟩ | assumption) (first | (go_at_call 18; refine grew_at (k1 _) ?_; intro wn hbn; have HB := grew_trans HB hbn; have c0 := cell_kept c0 hbn; have c1 := cell_kept c1 hbn; have c2 := cell_kept c2 hbn) | (go_at_call 20; refine grew_at (k2 _) ?_; intro wn hbn; have HB := grew_trans HB hbn; have c0 := cell_kept c0 hbn; have c1 := cell_kept c1 hbn; have c2 := cell_kept c2 hbn))
  go_wp2_with (first | (go_at_call 32; refine grew_at (cO _) ?_; intro wn hbn; have HB := grew_trans HB hbn; have c0 := cell_kept c0 hbn; have c1 := cell_kept c1 hbn; have c2 := cell_kept c2 hbn) | (go_at_call 34; refine grew_at (cG _) ?_; intro wn hbn; have HB := grew_trans HB hbn; have c0 := cell_kept c0 hbn; have c1 := cell_kept c1 hbn; have c2 := cell_kept c2 hbn) | (go_at_call 28; refine grew_at (cD _) ?_; intro wn hbn; have HB := grew_trans HB hbn; have c0 := cell_kept c0 hbn; have c1 := cell_kept c1 hbn; have c2 := cell_kept c2 hbn) | (go_at_call 36; refine grew_at (cI _) ?_; intro wn hbn; have HB := grew_trans HB hbn; have c0 := cell_kept c0 hbn; have c1 := cell_kept c1 hbn; have c2 := cell_kept c2 hbn))
  go_ret
  refine ⟨?_, HB⟩
  have e : (yq * B + (2 + I / 4) + (B - (2 + I / 4)) == yq * B + B) = true := by rw [beq_iff_eq]; omega
  show Ending.returned (.bool (yq * B + (2 + I / 4) + (B - (2 + I / 4)) == yq * B + B)) = _
  rw [e]

theorem geomBack_walk (G B I n b : Int) (w : World) : Calls Try.prog 8 #[geomV G B I, .int .i64 n, .int .i64 b] w fun e w' => e = .returned (.bool true) ∧ Below w.heap.size w w' := by
  by_cases h : Gm.May G B I
  · exact geomBack_may G B I n b w h
  · exact geomBack_not G B I n b w h

end Go.Proofs.Ytkmijjipnepnoab
