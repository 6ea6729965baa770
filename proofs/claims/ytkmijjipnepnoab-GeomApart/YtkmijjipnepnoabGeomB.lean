/- Where groups, inodes and blocks lie, by geom and by the document. -/
import Derived.Test.YtkmijjipnepnoabGeom
namespace Go.Proofs.Ytkmijjipnepnoab
open Go.RowKit

def Gm.In (G B I n : Int) : Prop := Gm.May G B I ∧ 0 ≤ n ∧ n < G
instance (G B I n : Int) : Decidable (Gm.In G B I n) := by unfold Gm.In; infer_instance
theorem Gm.In.bd {G B I n : Int} (h : Gm.In G B I n) : 0 ≤ n * B ∧ n * B ≤ 1792 := by
  have := h.1.all
  have h2 := h.2
  have := mul_le' (a := n) (b := B) (m := 7) (n := 256) (by omega) (by omega) (by omega) (by omega)
  omega

theorem super_in {G B I n : Int} (h : Gm.In G B I n) (w : World) : Calls Try.prog 24 #[geomV G B I, .int .i64 n] w fun e w' => e = .returned (.tuple #[.int .i64 (n * B), .bool true]) ∧ Below w.heap.size w w' := by
  have HB : Below w.heap.size w (w.alloc (geomO G B I)) := (Below.refl _ _).alloc (Nat.le_refl _) _
  obtain ⟨c0, c1, c2⟩ := box_cells w G B I
  have hp := h.bd
  obtain ⟨h, hn0, hn1⟩ := h
  go_enter Try.func24, Try.ntmps24
  go_wp2_with (first | (go_at_call 16; refine grew_at (can_may h _) ?_; intro wn hbn; have HB := grew_trans HB hbn; have c0 := cell_kept c0 hbn; have c1 := cell_kept c1 hbn; have c2 := cell_kept c2 hbn))
  go_ret2
  exact ⟨rfl, HB⟩
theorem super_out {G B I n : Int} (hn : ¬ Gm.In G B I n) (w : World) : Calls Try.prog 24 #[geomV G B I, .int .i64 n] w fun e w' => e = .returned (.tuple #[.int .i64 0, .bool false]) ∧ Below w.heap.size w w' := by
  have HB : Below w.heap.size w (w.alloc (geomO G B I)) := (Below.refl _ _).alloc (Nat.le_refl _) _
  obtain ⟨c0, c1, c2⟩ := box_cells w G B I
  by_cases h : Gm.May G B I
  · have hn' : n < 0 ∨ G ≤ n := by unfold Gm.In at hn; by_cases h1 : n < 0 <;> by_cases h2 : G ≤ n <;> first | omega | exact absurd ⟨h, by omega, by omega⟩ hn
    go_enter Try.func24, Try.ntmps24
    go_wp2_with (first | (go_at_call 16; refine grew_at (can_may h _) ?_; intro wn hbn; have HB := grew_trans HB hbn; have c0 := cell_kept c0 hbn; have c1 := cell_kept c1 hbn; have c2 := cell_kept c2 hbn))
    all_goals first | omega | skip
    all_goals
      go_ret2
      exact ⟨rfl, HB⟩
  · go_enter Try.func24, Try.ntmps24
    go_wp2_with (first | (go_at_call 16; refine grew_at (can_not h _) ?_; intro wn hbn; have HB := grew_trans HB hbn))
    go_ret2
    exact ⟨rfl, HB⟩

theorem rsuper_in {G B I n : Int} (h : Gm.In G B I n) (w : World) : Calls Try.prog 25 #[geomV G B I, .int .i64 n] w fun e w' => e = .returned (.tuple #[.int .i64 (n * B), .bool true]) ∧ Below w.heap.size w w' := by
  have HB : Below w.heap.size w (w.alloc (geomO G B I)) := (Below.refl _ _).alloc (Nat.le_refl _) _
  obtain ⟨c0, c1, c2⟩ := box_cells w G B I
  have hp := h.bd
  obtain ⟨h, hn0, hn1⟩ := h
  go_enter Try.func25, Try.ntmps25
  go_wp2_with (first | (go_at_call 17; refine grew_at (rcan_may h _) ?_; intro wn hbn; have HB := grew_trans HB hbn; have c0 := cell_kept c0 hbn; have c1 := cell_kept c1 hbn; have c2 := cell_kept c2 hbn))
  go_ret2
  exact ⟨rfl, HB⟩
theorem rsuper_out {G B I n : Int} (hn : ¬ Gm.In G B I n) (w : World) : Calls Try.prog 25 #[geomV G B I, .int .i64 n] w fun e w' => e = .returned (.tuple #[.int .i64 0, .bool false]) ∧ Below w.heap.size w w' := by
  have HB : Below w.heap.size w (w.alloc (geomO G B I)) := (Below.refl _ _).alloc (Nat.le_refl _) _
  obtain ⟨c0, c1, c2⟩ := box_cells w G B I
  by_cases h : Gm.May G B I
  · have hn' : n < 0 ∨ G ≤ n := by unfold Gm.In at hn; by_cases h1 : n < 0 <;> by_cases h2 : G ≤ n <;> first | omega | exact absurd ⟨h, by omega, by omega⟩ hn
    go_enter Try.func25, Try.ntmps25
    go_wp2_with (first | (go_at_call 17; refine grew_at (rcan_may h _) ?_; intro wn hbn; have HB := grew_trans HB hbn; have c0 := cell_kept c0 hbn; have c1 := cell_kept c1 hbn; have c2 := cell_kept c2 hbn))
    all_goals first | omega | skip
    all_goals
      go_ret2
      exact ⟨rfl, HB⟩
  · go_enter Try.func25, Try.ntmps25
    go_wp2_with (first | (go_at_call 17; refine grew_at (rcan_not h _) ?_; intro wn hbn; have HB := grew_trans HB hbn))
    go_ret2
    exact ⟨rfl, HB⟩

theorem header_in {G B I n : Int} (h : Gm.In G B I n) (w : World) : Calls Try.prog 26 #[geomV G B I, .int .i64 n] w fun e w' => e = .returned (.tuple #[.int .i64 (n * B + 1), .bool true]) ∧ Below w.heap.size w w' := by
  have HB : Below w.heap.size w (w.alloc (geomO G B I)) := (Below.refl _ _).alloc (Nat.le_refl _) _
  obtain ⟨c0, c1, c2⟩ := box_cells w G B I
  have hp := h.bd
  go_enter Try.func26, Try.ntmps26
  go_wp2_with (first | (go_at_call 24; refine grew_at (super_in h _) ?_; intro wn hbn; have HB := grew_trans HB hbn; have c0 := cell_kept c0 hbn; have c1 := cell_kept c1 hbn; have c2 := cell_kept c2 hbn))
  go_ret2
  exact ⟨rfl, HB⟩
theorem header_out {G B I n : Int} (h : ¬ Gm.In G B I n) (w : World) : Calls Try.prog 26 #[geomV G B I, .int .i64 n] w fun e w' => e = .returned (.tuple #[.int .i64 0, .bool false]) ∧ Below w.heap.size w w' := by
  have HB : Below w.heap.size w (w.alloc (geomO G B I)) := (Below.refl _ _).alloc (Nat.le_refl _) _
  obtain ⟨c0, c1, c2⟩ := box_cells w G B I
  go_enter Try.func26, Try.ntmps26
  go_wp2_with (first | (go_at_call 24; refine grew_at (super_out h _) ?_; intro wn hbn; have HB := grew_trans HB hbn; have c0 := cell_kept c0 hbn; have c1 := cell_kept c1 hbn; have c2 := cell_kept c2 hbn))
  go_ret2
  exact ⟨rfl, HB⟩

theorem rheader_in {G B I n : Int} (h : Gm.In G B I n) (w : World) : Calls Try.prog 27 #[geomV G B I, .int .i64 n] w fun e w' => e = .returned (.tuple #[.int .i64 (n * B + 1), .bool true]) ∧ Below w.heap.size w w' := by
  have HB : Below w.heap.size w (w.alloc (geomO G B I)) := (Below.refl _ _).alloc (Nat.le_refl _) _
  obtain ⟨c0, c1, c2⟩ := box_cells w G B I
  have hp := h.bd
  go_enter Try.func27, Try.ntmps27
  go_wp2_with (first | (go_at_call 25; refine grew_at (rsuper_in h _) ?_; intro wn hbn; have HB := grew_trans HB hbn; have c0 := cell_kept c0 hbn; have c1 := cell_kept c1 hbn; have c2 := cell_kept c2 hbn))
  go_ret2
  exact ⟨rfl, HB⟩
theorem rheader_out {G B I n : Int} (h : ¬ Gm.In G B I n) (w : World) : Calls Try.prog 27 #[geomV G B I, .int .i64 n] w fun e w' => e = .returned (.tuple #[.int .i64 0, .bool false]) ∧ Below w.heap.size w w' := by
  have HB : Below w.heap.size w (w.alloc (geomO G B I)) := (Below.refl _ _).alloc (Nat.le_refl _) _
  obtain ⟨c0, c1, c2⟩ := box_cells w G B I
  go_enter Try.func27, Try.ntmps27
  go_wp2_with (first | (go_at_call 25; refine grew_at (rsuper_out h _) ?_; intro wn hbn; have HB := grew_trans HB hbn; have c0 := cell_kept c0 hbn; have c1 := cell_kept c1 hbn; have c2 := cell_kept c2 hbn))
  go_ret2
  exact ⟨rfl, HB⟩

theorem dataPlace_may {G B I : Int} (h : Gm.May G B I) (w : World) : Calls Try.prog 59 #[geomV G B I] w fun e w' => e = .returned (.int .i64 (2 + I / 4)) ∧ Below w.heap.size w w' :=
  (dataPlace_any G B I w).mono (by rintro e w' ⟨⟨v, rfl, hv⟩, hb⟩; exact ⟨by rw [hv (by have := h.all; omega)], hb⟩)
theorem dataBlocks_may {G B I : Int} (h : Gm.May G B I) (w : World) : Calls Try.prog 57 #[geomV G B I] w fun e w' => e = .returned (.int .i64 (B - (2 + I / 4))) ∧ Below w.heap.size w w' :=
  (dataBlocks_any G B I w).mono (by rintro e w' ⟨⟨v, rfl, hv⟩, hb⟩; exact ⟨by rw [hv (by have := h.all; omega)], hb⟩)

theorem data_in {G B I n : Int} (h : Gm.In G B I n) (w : World) : Calls Try.prog 28 #[geomV G B I, .int .i64 n] w fun e w' => e = .returned (.tuple #[.int .i64 (n * B + (2 + I / 4)), .int .i64 (B - (2 + I / 4)), .bool true]) ∧ Below w.heap.size w w' := by
  have HB : Below w.heap.size w (w.alloc (geomO G B I)) := (Below.refl _ _).alloc (Nat.le_refl _) _
  obtain ⟨c0, c1, c2⟩ := box_cells w G B I
  have hp := h.bd
  have hm := h.1.all
  go_enter Try.func28, Try.ntmps28
  go_wp2_with (first | (go_at_call 24; refine grew_at (super_in h _) ?_; intro wn hbn; have HB := grew_trans HB hbn; have c0 := cell_kept c0 hbn; have c1 := cell_kept c1 hbn; have c2 := cell_kept c2 hbn))
  have HB := HB.drew
  go_region_held3 (fun w' => w'.cell? ⟨w.heap.size, 0, none⟩ = some (.int .i64 G) ∧ w'.cell? ⟨w.heap.size, 1, none⟩ = some (.int .i64 B) ∧ w'.cell? ⟨w.heap.size, 2, none⟩ = some (.int .i64 I)) (first | exact ⟨c0, c1, c2⟩ | exact cc | exact cc')
    (first
      | (go_at_call 59; refine grew_at (dataPlace_may h.1 _) ?_; intro w1 hb1; have cc := Box.kept (w := wn.drew) ⟨c0, c1, c2⟩ hb1)
      | (go_at_call 57; refine grew_at (dataBlocks_may h.1 _) ?_; intro w2 hb2; have HB := grew_trans (grew_trans HB hb1) hb2; have cc' := Box.kept cc hb2))
  go_wp2
  go_ret3
  refine ⟨?_, HB⟩
  have e2 : IntKind.i64.wrap (n * B + (2 + I / 4)) = n * B + (2 + I / 4) := by rw [IntKind.wrap_i64]; omega
  show Ending.returned (.tuple #[.int .i64 (IntKind.i64.wrap (n * B + (2 + I / 4))), .int .i64 (B - (2 + I / 4)), .bool true]) = _
  rw [e2]
theorem data_out {G B I n : Int} (h : ¬ Gm.In G B I n) (w : World) : Calls Try.prog 28 #[geomV G B I, .int .i64 n] w fun e w' => e = .returned (.tuple #[.int .i64 0, .int .i64 0, .bool false]) ∧ Below w.heap.size w w' := by
  have HB : Below w.heap.size w (w.alloc (geomO G B I)) := (Below.refl _ _).alloc (Nat.le_refl _) _
  obtain ⟨c0, c1, c2⟩ := box_cells w G B I
  go_enter Try.func28, Try.ntmps28
  go_wp2_with (first | (go_at_call 24; refine grew_at (super_out h _) ?_; intro wn hbn; have HB := grew_trans HB hbn; have c0 := cell_kept c0 hbn; have c1 := cell_kept c1 hbn; have c2 := cell_kept c2 hbn))
  go_ret3
  exact ⟨rfl, HB⟩
theorem rdata_in {G B I n : Int} (h : Gm.In G B I n) (w : World) : Calls Try.prog 29 #[geomV G B I, .int .i64 n] w fun e w' => e = .returned (.tuple #[.int .i64 (n * B + (2 + I / 4)), .int .i64 (B - (2 + I / 4)), .bool true]) ∧ Below w.heap.size w w' := by
  have HB : Below w.heap.size w (w.alloc (geomO G B I)) := (Below.refl _ _).alloc (Nat.le_refl _) _
  obtain ⟨c0, c1, c2⟩ := box_cells w G B I
  have hp := h.bd
  have hm := h.1.all
  rw [show B - (2 + I / 4) = B - 2 - I / 4 by omega, show n * B + (2 + I / 4) = n * B + 2 + I / 4 by omega]
  go_enter Try.func29, Try.ntmps29
  go_wp2_with (first | (go_at_call 25; refine grew_at (rsuper_in h _) ?_; intro wn hbn; have HB := grew_trans HB hbn; have c0 := cell_kept c0 hbn; have c1 := cell_kept c1 hbn; have c2 := cell_kept c2 hbn))
  go_quiet (fail)
  go_wp2
  go_ret3
  exact ⟨rfl, below_drewN HB _⟩
theorem rdata_out {G B I n : Int} (h : ¬ Gm.In G B I n) (w : World) : Calls Try.prog 29 #[geomV G B I, .int .i64 n] w fun e w' => e = .returned (.tuple #[.int .i64 0, .int .i64 0, .bool false]) ∧ Below w.heap.size w w' := by
  have HB : Below w.heap.size w (w.alloc (geomO G B I)) := (Below.refl _ _).alloc (Nat.le_refl _) _
  obtain ⟨c0, c1, c2⟩ := box_cells w G B I
  go_enter Try.func29, Try.ntmps29
  go_wp2_with (first | (go_at_call 25; refine grew_at (rsuper_out h _) ?_; intro wn hbn; have HB := grew_trans HB hbn; have c0 := cell_kept c0 hbn; have c1 := cell_kept c1 hbn; have c2 := cell_kept c2 hbn))
  go_ret3
  exact ⟨rfl, HB⟩

theorem tdiv_wrap {n k : Int} (h0 : 0 ≤ n) (h1 : n < 2048) (hk : 1 ≤ k) : wrap64 (n.tdiv k) = n / k := by
  rw [Int.tdiv_eq_ediv_of_nonneg h0]
  have h2 := Int.ediv_nonneg h0 (show 0 ≤ k by omega)
  have h3 := Int.ediv_le_self (b := k) (a := n) h0
  unfold wrap64
  omega
theorem split_in {n a k : Int} (h0 : 0 ≤ n) (h1 : n < a) (hk : 1 ≤ k) (hn : n < 2048) (w : World) : Calls Try.prog 60 #[.int .i64 n, .int .i64 a, .int .i64 k] w fun e w' => e = .returned (.tuple #[.int .i64 (n / k), .int .i64 (n % k), .bool true]) ∧ Below w.heap.size w w' := by
  have hk0 : k ≠ 0 := by omega
  go_enter Try.func60, Try.ntmps60
  go_wp2_with fail
  go_quiet (fail)
  go_wp2
  go_ret3
  refine ⟨?_, below_drewN (Below.refl _ _) _⟩
  rw [← tdiv_wrap h0 hn hk]; rfl
theorem split_out {n a k : Int} (h : n < 0 ∨ a ≤ n) (w : World) : Calls Try.prog 60 #[.int .i64 n, .int .i64 a, .int .i64 k] w fun e w' => e = .returned (.tuple #[.int .i64 0, .int .i64 0, .bool false]) ∧ Below w.heap.size w w' := by
  by_cases h1 : n < 0
  · go_enter Try.func60, Try.ntmps60
    go_wp2_with fail
    go_ret3
    exact ⟨rfl, Below.refl _ _⟩
  · have h2 : a ≤ n := by omega
    go_enter Try.func60, Try.ntmps60
    go_wp2_with fail
    go_ret3
    exact ⟨rfl, Below.refl _ _⟩

def Gm.Of (G B I k n : Int) : Prop := Gm.May G B I ∧ 0 ≤ n ∧ n < G * k
instance (G B I k n : Int) : Decidable (Gm.Of G B I k n) := by unfold Gm.Of; infer_instance
theorem Gm.Of.bd {G B I k n : Int} (h : Gm.Of G B I k n) (hk : 1 ≤ k) (hk2 : k ≤ 256) : 0 ≤ n / k ∧ n / k < G ∧ 0 ≤ n % k ∧ n % k < k ∧ 0 ≤ n ∧ n < 2048 := by
  obtain ⟨hm, h0, h1⟩ := h
  have := hm.all
  have hp := mul_le' (a := G) (b := k) (m := 8) (n := 256) (by omega) (by omega) (by omega) hk2
  exact ⟨Int.ediv_nonneg h0 (by omega), Int.ediv_lt_of_lt_mul (by omega) h1, Int.emod_nonneg _ (by omega), Int.emod_lt_of_pos _ (by omega), h0, by omega⟩
theorem Gm.num_out {G B I k n : Int} (h : ¬ Gm.Of G B I k n) : n < 0 ∨ Gm.num G B I k ≤ n := by
  by_cases hm : Gm.May G B I
  · rw [Gm.num_pos hm]
    by_cases h1 : n < 0
    · exact .inl h1
    · right
      by_cases h2 : G * k ≤ n
      · exact h2
      · exact absurd ⟨hm, by omega, by omega⟩ h
  · rw [Gm.num_neg hm]; omega

theorem owner_in {G B I n : Int} (h : Gm.Of G B I I n) (w : World) : Calls Try.prog 32 #[geomV G B I, .int .i64 n] w fun e w' => e = .returned (.tuple #[.int .i64 (n / I), .int .i64 (n % I), .bool true]) ∧ Below w.heap.size w w' := by
  have HB : Below w.heap.size w (w.alloc (geomO G B I)) := (Below.refl _ _).alloc (Nat.le_refl _) _
  obtain ⟨c0, c1, c2⟩ := box_cells w G B I
  have hm := h.1.all
  go_enter Try.func32, Try.ntmps32
  go_wp2_with fail
  generalize w.alloc (geomO G B I) = w0 at *
  have HB := HB.drew
  go_region_held3 (fun w' => w'.cell? ⟨w.heap.size, 0, none⟩ = some (.int .i64 G) ∧ w'.cell? ⟨w.heap.size, 1, none⟩ = some (.int .i64 B) ∧ w'.cell? ⟨w.heap.size, 2, none⟩ = some (.int .i64 I)) (first | exact ⟨c0, c1, c2⟩ | exact cc | exact cc')
    (first
      | (go_at_call 20; refine grew_at (inodes_ok _ _ _ _) ?_; intro w1 hb1; have cc := Box.kept (w := w0.drew) ⟨c0, c1, c2⟩ hb1)
      | (go_at_call 60; refine grew_at (split_in h.2.1 (by rw [Gm.num_pos h.1]; exact h.2.2) (by omega) (h.bd (by omega) (by omega)).2.2.2.2.2 _) ?_; intro w2 hb2; have HB := grew_trans (grew_trans HB hb1) hb2; have cc' := Box.kept cc hb2))
  go_wp2
  go_ret3
  exact ⟨rfl, HB⟩
theorem owner_out {G B I n : Int} (h : ¬ Gm.Of G B I I n) (w : World) : Calls Try.prog 32 #[geomV G B I, .int .i64 n] w fun e w' => e = .returned (.tuple #[.int .i64 0, .int .i64 0, .bool false]) ∧ Below w.heap.size w w' := by
  have HB : Below w.heap.size w (w.alloc (geomO G B I)) := (Below.refl _ _).alloc (Nat.le_refl _) _
  obtain ⟨c0, c1, c2⟩ := box_cells w G B I
  go_enter Try.func32, Try.ntmps32
  go_wp2_with fail
  generalize w.alloc (geomO G B I) = w0 at *
  have HB := HB.drew
  go_region_held3 (fun w' => w'.cell? ⟨w.heap.size, 0, none⟩ = some (.int .i64 G) ∧ w'.cell? ⟨w.heap.size, 1, none⟩ = some (.int .i64 B) ∧ w'.cell? ⟨w.heap.size, 2, none⟩ = some (.int .i64 I)) (first | exact ⟨c0, c1, c2⟩ | exact cc | exact cc')
    (first
      | (go_at_call 20; refine grew_at (inodes_ok _ _ _ _) ?_; intro w1 hb1; have cc := Box.kept (w := w0.drew) ⟨c0, c1, c2⟩ hb1)
      | (go_at_call 60; refine grew_at (split_out (Gm.num_out h) _) ?_; intro w2 hb2; have HB := grew_trans (grew_trans HB hb1) hb2; have cc' := Box.kept cc hb2))
  go_wp2
  go_ret3
  exact ⟨rfl, HB⟩

theorem group_in {G B I n : Int} (h : Gm.Of G B I B n) (w : World) : Calls Try.prog 34 #[geomV G B I, .int .i64 n] w fun e w' => e = .returned (.tuple #[.int .i64 (n / B), .int .i64 (n % B), .bool true]) ∧ Below w.heap.size w w' := by
  have HB : Below w.heap.size w (w.alloc (geomO G B I)) := (Below.refl _ _).alloc (Nat.le_refl _) _
  obtain ⟨c0, c1, c2⟩ := box_cells w G B I
  have hm := h.1.all
  go_enter Try.func34, Try.ntmps34
  go_wp2_with fail
  generalize w.alloc (geomO G B I) = w0 at *
  have HB := HB.drew
  go_region_held3 (fun w' => w'.cell? ⟨w.heap.size, 0, none⟩ = some (.int .i64 G) ∧ w'.cell? ⟨w.heap.size, 1, none⟩ = some (.int .i64 B) ∧ w'.cell? ⟨w.heap.size, 2, none⟩ = some (.int .i64 I)) (first | exact ⟨c0, c1, c2⟩ | exact cc | exact cc')
    (first
      | (go_at_call 18; refine grew_at (blocks_ok _ _ _ _) ?_; intro w1 hb1; have cc := Box.kept (w := w0.drew) ⟨c0, c1, c2⟩ hb1)
      | (go_at_call 60; refine grew_at (split_in h.2.1 (by rw [Gm.num_pos h.1]; exact h.2.2) (by omega) (h.bd (by omega) (by omega)).2.2.2.2.2 _) ?_; intro w2 hb2; have HB := grew_trans (grew_trans HB hb1) hb2; have cc' := Box.kept cc hb2))
  go_wp2
  go_ret3
  exact ⟨rfl, HB⟩
theorem group_out {G B I n : Int} (h : ¬ Gm.Of G B I B n) (w : World) : Calls Try.prog 34 #[geomV G B I, .int .i64 n] w fun e w' => e = .returned (.tuple #[.int .i64 0, .int .i64 0, .bool false]) ∧ Below w.heap.size w w' := by
  have HB : Below w.heap.size w (w.alloc (geomO G B I)) := (Below.refl _ _).alloc (Nat.le_refl _) _
  obtain ⟨c0, c1, c2⟩ := box_cells w G B I
  go_enter Try.func34, Try.ntmps34
  go_wp2_with fail
  generalize w.alloc (geomO G B I) = w0 at *
  have HB := HB.drew
  go_region_held3 (fun w' => w'.cell? ⟨w.heap.size, 0, none⟩ = some (.int .i64 G) ∧ w'.cell? ⟨w.heap.size, 1, none⟩ = some (.int .i64 B) ∧ w'.cell? ⟨w.heap.size, 2, none⟩ = some (.int .i64 I)) (first | exact ⟨c0, c1, c2⟩ | exact cc | exact cc')
    (first
      | (go_at_call 18; refine grew_at (blocks_ok _ _ _ _) ?_; intro w1 hb1; have cc := Box.kept (w := w0.drew) ⟨c0, c1, c2⟩ hb1)
      | (go_at_call 60; refine grew_at (split_out (Gm.num_out h) _) ?_; intro w2 hb2; have HB := grew_trans (grew_trans HB hb1) hb2; have cc' := Box.kept cc hb2))
  go_wp2
  go_ret3
  exact ⟨rfl, HB⟩

theorem rowner_in {G B I n : Int} (h : Gm.Of G B I I n) (w : World) : Calls Try.prog 33 #[geomV G B I, .int .i64 n] w fun e w' => e = .returned (.tuple #[.int .i64 (n / I), .int .i64 (n % I), .bool true]) ∧ Below w.heap.size w w' := by
  have HB : Below w.heap.size w (w.alloc (geomO G B I)) := (Below.refl _ _).alloc (Nat.le_refl _) _
  obtain ⟨c0, c1, c2⟩ := box_cells w G B I
  have hm := h.1.all
  have h0 := h.2.1
  have h1 : n < Gm.num G B I I := by rw [Gm.num_pos h.1]; exact h.2.2
  have hk0 : I ≠ 0 := by omega
  go_enter Try.func33, Try.ntmps33
  go_wp2_with (first | (go_at_call 21; refine grew_at (rinodes_ok _ _ _ _) ?_; intro wn hbn; have HB := grew_trans HB hbn; have c0 := cell_kept c0 hbn; have c1 := cell_kept c1 hbn; have c2 := cell_kept c2 hbn))
  go_quiet (fail)
  go_wp2
  go_ret3
  refine ⟨?_, below_drewN HB _⟩
  rw [← tdiv_wrap h0 (h.bd (by omega) (by omega)).2.2.2.2.2 (by omega)]; rfl
theorem rowner_out {G B I n : Int} (h : ¬ Gm.Of G B I I n) (w : World) : Calls Try.prog 33 #[geomV G B I, .int .i64 n] w fun e w' => e = .returned (.tuple #[.int .i64 0, .int .i64 0, .bool false]) ∧ Below w.heap.size w w' := by
  have HB : Below w.heap.size w (w.alloc (geomO G B I)) := (Below.refl _ _).alloc (Nat.le_refl _) _
  obtain ⟨c0, c1, c2⟩ := box_cells w G B I
  have h := Gm.num_out h
  by_cases h1 : n < 0
  · go_enter Try.func33, Try.ntmps33
    go_wp2_with fail
    go_ret3
    exact ⟨rfl, HB⟩
  · have h2 : Gm.num G B I I ≤ n := by omega
    go_enter Try.func33, Try.ntmps33
    go_wp2_with (first | (go_at_call 21; refine grew_at (rinodes_ok _ _ _ _) ?_; intro wn hbn; have HB := grew_trans HB hbn; have c0 := cell_kept c0 hbn; have c1 := cell_kept c1 hbn; have c2 := cell_kept c2 hbn))
    go_ret3
    exact ⟨rfl, HB⟩

theorem rgroup_in {G B I n : Int} (h : Gm.Of G B I B n) (w : World) : Calls Try.prog 35 #[geomV G B I, .int .i64 n] w fun e w' => e = .returned (.tuple #[.int .i64 (n / B), .int .i64 (n % B), .bool true]) ∧ Below w.heap.size w w' := by
  have HB : Below w.heap.size w (w.alloc (geomO G B I)) := (Below.refl _ _).alloc (Nat.le_refl _) _
  obtain ⟨c0, c1, c2⟩ := box_cells w G B I
  have hm := h.1.all
  have h0 := h.2.1
  have h1 : n < Gm.num G B I B := by rw [Gm.num_pos h.1]; exact h.2.2
  have hk0 : B ≠ 0 := by omega
  go_enter Try.func35, Try.ntmps35
  go_wp2_with (first | (go_at_call 19; refine grew_at (rblocks_ok _ _ _ _) ?_; intro wn hbn; have HB := grew_trans HB hbn; have c0 := cell_kept c0 hbn; have c1 := cell_kept c1 hbn; have c2 := cell_kept c2 hbn))
  go_quiet (fail)
  go_wp2
  go_ret3
  refine ⟨?_, below_drewN HB _⟩
  rw [← tdiv_wrap h0 (h.bd (by omega) (by omega)).2.2.2.2.2 (by omega)]; rfl
theorem rgroup_out {G B I n : Int} (h : ¬ Gm.Of G B I B n) (w : World) : Calls Try.prog 35 #[geomV G B I, .int .i64 n] w fun e w' => e = .returned (.tuple #[.int .i64 0, .int .i64 0, .bool false]) ∧ Below w.heap.size w w' := by
  have HB : Below w.heap.size w (w.alloc (geomO G B I)) := (Below.refl _ _).alloc (Nat.le_refl _) _
  obtain ⟨c0, c1, c2⟩ := box_cells w G B I
  have h := Gm.num_out h
  by_cases h1 : n < 0
  · go_enter Try.func35, Try.ntmps35
    go_wp2_with fail
    go_ret3
    exact ⟨rfl, HB⟩
  · have h2 : Gm.num G B I B ≤ n := by omega
    go_enter Try.func35, Try.ntmps35
    go_wp2_with (first | (go_at_call 19; refine grew_at (rblocks_ok _ _ _ _) ?_; intro wn hbn; have HB := grew_trans HB hbn; have c0 := cell_kept c0 hbn; have c1 := cell_kept c1 hbn; have c2 := cell_kept c2 hbn))
    go_ret3
    exact ⟨rfl, HB⟩

end Go.Proofs.Ytkmijjipnepnoab
