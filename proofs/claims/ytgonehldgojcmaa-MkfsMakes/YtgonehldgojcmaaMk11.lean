/- GeomB GeomC M1 M2 -/
import Derived.Test.YtgonehldgojcmaaMk04
import Derived.Test.YtgonehldgojcmaaMk10
import Derived.Laws.CopyRow
import Derived.Deep.DeepCutAuto
import Derived.Deep.CutBlock
import Derived.Laws.ResultCell

/- Where groups, inodes and blocks lie, by geom and by the document. -/
namespace Go.Proofs.Ytgonehldgojcmaa
open Go.RowKit

def Gm.In (G B I n : Int) : Prop := Gm.May G B I ∧ 0 ≤ n ∧ n < G
instance (G B I n : Int) : Decidable (Gm.In G B I n) := by unfold Gm.In; infer_instance
theorem Gm.In.bd {G B I n : Int} (h : Gm.In G B I n) : 0 ≤ n * B ∧ n * B ≤ 1792 := by
  have := h.1.all
  have h2 := h.2
  have := mul_le' (a := n) (b := B) (m := 7) (n := 256) (by omega) (by omega) (by omega) (by omega)
  omega

theorem super_in {G B I n : Int} (h : Gm.In G B I n) (w : World) : Calls Try.prog 21 #[geomV G B I, .int .i64 n] w fun e w' => e = .returned (.tuple #[.int .i64 (n * B), .bool true]) ∧ Below w.heap.size w w' := by
  have HB : Below w.heap.size w (w.alloc (geomO G B I)) := (Below.refl _ _).alloc (Nat.le_refl _) _
  obtain ⟨c0, c1, c2⟩ := box_cells w G B I
  have hp := h.bd
  obtain ⟨h, hn0, hn1⟩ := h
  go_enter Try.func21, Try.ntmps21
  go_wp2_with (first | (go_at_call 7; refine grew_at (can_may h _) ?_; intro wn hbn; have HB := grew_trans HB hbn; have c0 := cell_kept c0 hbn; have c1 := cell_kept c1 hbn; have c2 := cell_kept c2 hbn))
  go_ret2
  exact ⟨rfl, HB⟩
theorem super_out {G B I n : Int} (hn : ¬ Gm.In G B I n) (w : World) : Calls Try.prog 21 #[geomV G B I, .int .i64 n] w fun e w' => e = .returned (.tuple #[.int .i64 0, .bool false]) ∧ Below w.heap.size w w' := by
  have HB : Below w.heap.size w (w.alloc (geomO G B I)) := (Below.refl _ _).alloc (Nat.le_refl _) _
  obtain ⟨c0, c1, c2⟩ := box_cells w G B I
  by_cases h : Gm.May G B I
  · have hn' : n < 0 ∨ G ≤ n := by unfold Gm.In at hn; by_cases h1 : n < 0 <;> by_cases h2 : G ≤ n <;> first | omega | exact absurd ⟨h, by omega, by omega⟩ hn
    go_enter Try.func21, Try.ntmps21
    go_wp2_with (first | (go_at_call 7; refine grew_at (can_may h _) ?_; intro wn hbn; have HB := grew_trans HB hbn; have c0 := cell_kept c0 hbn; have c1 := cell_kept c1 hbn; have c2 := cell_kept c2 hbn))
    all_goals first | omega | skip
    all_goals
      go_ret2
      exact ⟨rfl, HB⟩
  · go_enter Try.func21, Try.ntmps21
    go_wp2_with (first | (go_at_call 7; refine grew_at (can_not h _) ?_; intro wn hbn; have HB := grew_trans HB hbn))
    go_ret2
    exact ⟨rfl, HB⟩

theorem header_in {G B I n : Int} (h : Gm.In G B I n) (w : World) : Calls Try.prog 22 #[geomV G B I, .int .i64 n] w fun e w' => e = .returned (.tuple #[.int .i64 (n * B + 1), .bool true]) ∧ Below w.heap.size w w' := by
  have HB : Below w.heap.size w (w.alloc (geomO G B I)) := (Below.refl _ _).alloc (Nat.le_refl _) _
  obtain ⟨c0, c1, c2⟩ := box_cells w G B I
  have hp := h.bd
  go_enter Try.func22, Try.ntmps22
  go_wp2_with (first | (go_at_call 21; refine grew_at (super_in h _) ?_; intro wn hbn; have HB := grew_trans HB hbn; have c0 := cell_kept c0 hbn; have c1 := cell_kept c1 hbn; have c2 := cell_kept c2 hbn))
  go_ret2
  exact ⟨rfl, HB⟩
theorem header_out {G B I n : Int} (h : ¬ Gm.In G B I n) (w : World) : Calls Try.prog 22 #[geomV G B I, .int .i64 n] w fun e w' => e = .returned (.tuple #[.int .i64 0, .bool false]) ∧ Below w.heap.size w w' := by
  have HB : Below w.heap.size w (w.alloc (geomO G B I)) := (Below.refl _ _).alloc (Nat.le_refl _) _
  obtain ⟨c0, c1, c2⟩ := box_cells w G B I
  go_enter Try.func22, Try.ntmps22
  go_wp2_with (first | (go_at_call 21; refine grew_at (super_out h _) ?_; intro wn hbn; have HB := grew_trans HB hbn; have c0 := cell_kept c0 hbn; have c1 := cell_kept c1 hbn; have c2 := cell_kept c2 hbn))
  go_ret2
  exact ⟨rfl, HB⟩

theorem dataPlace_may {G B I : Int} (h : Gm.May G B I) (w : World) : Calls Try.prog 38 #[geomV G B I] w fun e w' => e = .returned (.int .i64 (2 + I / 4)) ∧ Below w.heap.size w w' :=
  (dataPlace_any G B I w).mono (by rintro e w' ⟨⟨v, rfl, hv⟩, hb⟩; exact ⟨by rw [hv (by have := h.all; omega)], hb⟩)
theorem dataBlocks_may {G B I : Int} (h : Gm.May G B I) (w : World) : Calls Try.prog 19 #[geomV G B I] w fun e w' => e = .returned (.int .i64 (B - (2 + I / 4))) ∧ Below w.heap.size w w' :=
  (dataBlocks_any G B I w).mono (by rintro e w' ⟨⟨v, rfl, hv⟩, hb⟩; exact ⟨by rw [hv (by have := h.all; omega)], hb⟩)

theorem data_in {G B I n : Int} (h : Gm.In G B I n) (w : World) : Calls Try.prog 26 #[geomV G B I, .int .i64 n] w fun e w' => e = .returned (.tuple #[.int .i64 (n * B + (2 + I / 4)), .int .i64 (B - (2 + I / 4)), .bool true]) ∧ Below w.heap.size w w' := by
  have HB : Below w.heap.size w (w.alloc (geomO G B I)) := (Below.refl _ _).alloc (Nat.le_refl _) _
  obtain ⟨c0, c1, c2⟩ := box_cells w G B I
  have hp := h.bd
  have hm := h.1.all
  go_enter Try.func26, Try.ntmps26
  go_wp2_with (first | (go_at_call 21; refine grew_at (super_in h _) ?_; intro wn hbn; have HB := grew_trans HB hbn; have c0 := cell_kept c0 hbn; have c1 := cell_kept c1 hbn; have c2 := cell_kept c2 hbn))
  have HB := HB.drew
  go_region_held3 (fun w' => w'.cell? ⟨w.heap.size, 0, none⟩ = some (.int .i64 G) ∧ w'.cell? ⟨w.heap.size, 1, none⟩ = some (.int .i64 B) ∧ w'.cell? ⟨w.heap.size, 2, none⟩ = some (.int .i64 I)) (first | exact ⟨c0, c1, c2⟩ | exact cc | exact cc')
    (first
      | (go_at_call 38; refine grew_at (dataPlace_may h.1 _) ?_; intro w1 hb1; have cc := Box.kept (w := wn.drew) ⟨c0, c1, c2⟩ hb1)
      | (go_at_call 19; refine grew_at (dataBlocks_may h.1 _) ?_; intro w2 hb2; have HB := grew_trans (grew_trans HB hb1) hb2; have cc' := Box.kept cc hb2))
  go_wp2
  go_ret3
  refine ⟨?_, HB⟩
  have e2 : IntKind.i64.wrap (n * B + (2 + I / 4)) = n * B + (2 + I / 4) := by rw [IntKind.wrap_i64]; omega
  show Ending.returned (.tuple #[.int .i64 (IntKind.i64.wrap (n * B + (2 + I / 4))), .int .i64 (B - (2 + I / 4)), .bool true]) = _
  rw [e2]
theorem data_out {G B I n : Int} (h : ¬ Gm.In G B I n) (w : World) : Calls Try.prog 26 #[geomV G B I, .int .i64 n] w fun e w' => e = .returned (.tuple #[.int .i64 0, .int .i64 0, .bool false]) ∧ Below w.heap.size w w' := by
  have HB : Below w.heap.size w (w.alloc (geomO G B I)) := (Below.refl _ _).alloc (Nat.le_refl _) _
  obtain ⟨c0, c1, c2⟩ := box_cells w G B I
  go_enter Try.func26, Try.ntmps26
  go_wp2_with (first | (go_at_call 21; refine grew_at (super_out h _) ?_; intro wn hbn; have HB := grew_trans HB hbn; have c0 := cell_kept c0 hbn; have c1 := cell_kept c1 hbn; have c2 := cell_kept c2 hbn))
  go_ret3
  exact ⟨rfl, HB⟩
theorem tdiv_wrap {n k : Int} (h0 : 0 ≤ n) (h1 : n < 2048) (hk : 1 ≤ k) : wrap64 (n.tdiv k) = n / k := by
  rw [Int.tdiv_eq_ediv_of_nonneg h0]
  have h2 := Int.ediv_nonneg h0 (show 0 ≤ k by omega)
  have h3 := Int.ediv_le_self (b := k) (a := n) h0
  unfold wrap64
  omega
theorem split_in {n a k : Int} (h0 : 0 ≤ n) (h1 : n < a) (hk : 1 ≤ k) (hn : n < 2048) (w : World) : Calls Try.prog 64 #[.int .i64 n, .int .i64 a, .int .i64 k] w fun e w' => e = .returned (.tuple #[.int .i64 (n / k), .int .i64 (n % k), .bool true]) ∧ Below w.heap.size w w' := by
  have hk0 : k ≠ 0 := by omega
  go_enter Try.func64, Try.ntmps64
  go_wp2_with fail
  go_quiet (fail)
  go_wp2
  go_ret3
  refine ⟨?_, below_drewN (Below.refl _ _) _⟩
  rw [← tdiv_wrap h0 hn hk]; rfl
theorem split_out {n a k : Int} (h : n < 0 ∨ a ≤ n) (w : World) : Calls Try.prog 64 #[.int .i64 n, .int .i64 a, .int .i64 k] w fun e w' => e = .returned (.tuple #[.int .i64 0, .int .i64 0, .bool false]) ∧ Below w.heap.size w w' := by
  by_cases h1 : n < 0
  · go_enter Try.func64, Try.ntmps64
    go_wp2_with fail
    go_ret3
    exact ⟨rfl, Below.refl _ _⟩
  · have h2 : a ≤ n := by omega
    go_enter Try.func64, Try.ntmps64
    go_wp2_with fail
    go_ret3
    exact ⟨rfl, Below.refl _ _⟩

def Gm.Of (G B I k n : Int) : Prop := Gm.May G B I ∧ 0 ≤ n ∧ n < G * k
instance (G B I k n : Int) : Decidable (Gm.Of G B I k n) := by unfold Gm.Of; infer_instance
theorem Gm.Of.bd {G B I k n : Int} (h : Gm.Of G B I k n) (hk : 1 ≤ k) (hk2 : k ≤ 256) : 0 ≤ n / k ∧ n / k < G ∧ 0 ≤ n % k ∧ n % k < k ∧ 0 ≤ n ∧ n < 2048 := by
  obtain ⟨hm, h0, h1⟩ := h
  have := hm.all
  have hp := mul_le' (a := G) (b := k) (m := 8) (n := 256) (by omega) (by omega) (by omega) hk2
  exact ⟨Int.ediv_nonneg h0 (by omega), Int.ediv_lt_of_lt_mul (by omega) h1, Int.emod_nonneg _ (by omega), Int.emod_lt_of_pos _ (by omega), h0, by omega⟩
theorem Gm.num_out {G B I k n : Int} (h : ¬ Gm.Of G B I k n) : n < 0 ∨ Gm.num G B I k ≤ n := by
  by_cases hm : Gm.May G B I
  · rw [Gm.num_pos hm]
    by_cases h1 : n < 0
    · exact .inl h1
    · right
      by_cases h2 : G * k ≤ n
      · exact h2
      · exact absurd ⟨hm, by omega, by omega⟩ h
  · rw [Gm.num_neg hm]; omega

theorem owner_in {G B I n : Int} (h : Gm.Of G B I I n) (w : World) : Calls Try.prog 53 #[geomV G B I, .int .i64 n] w fun e w' => e = .returned (.tuple #[.int .i64 (n / I), .int .i64 (n % I), .bool true]) ∧ Below w.heap.size w w' := by
  have HB : Below w.heap.size w (w.alloc (geomO G B I)) := (Below.refl _ _).alloc (Nat.le_refl _) _
  obtain ⟨c0, c1, c2⟩ := box_cells w G B I
  have hm := h.1.all
  go_enter Try.func53, Try.ntmps53
  go_wp2_with fail
  generalize w.alloc (geomO G B I) = w0 at *
  have HB := HB.drew
  go_region_held3 (fun w' => w'.cell? ⟨w.heap.size, 0, none⟩ = some (.int .i64 G) ∧ w'.cell? ⟨w.heap.size, 1, none⟩ = some (.int .i64 B) ∧ w'.cell? ⟨w.heap.size, 2, none⟩ = some (.int .i64 I)) (first | exact ⟨c0, c1, c2⟩ | exact cc | exact cc')
    (first
      | (go_at_call 70; refine grew_at (inodes_ok _ _ _ _) ?_; intro w1 hb1; have cc := Box.kept (w := w0.drew) ⟨c0, c1, c2⟩ hb1)
      | (go_at_call 64; refine grew_at (split_in h.2.1 (by rw [Gm.num_pos h.1]; exact h.2.2) (by omega) (h.bd (by omega) (by omega)).2.2.2.2.2 _) ?_; intro w2 hb2; have HB := grew_trans (grew_trans HB hb1) hb2; have cc' := Box.kept cc hb2))
  go_wp2
  go_ret3
  exact ⟨rfl, HB⟩
theorem owner_out {G B I n : Int} (h : ¬ Gm.Of G B I I n) (w : World) : Calls Try.prog 53 #[geomV G B I, .int .i64 n] w fun e w' => e = .returned (.tuple #[.int .i64 0, .int .i64 0, .bool false]) ∧ Below w.heap.size w w' := by
  have HB : Below w.heap.size w (w.alloc (geomO G B I)) := (Below.refl _ _).alloc (Nat.le_refl _) _
  obtain ⟨c0, c1, c2⟩ := box_cells w G B I
  go_enter Try.func53, Try.ntmps53
  go_wp2_with fail
  generalize w.alloc (geomO G B I) = w0 at *
  have HB := HB.drew
  go_region_held3 (fun w' => w'.cell? ⟨w.heap.size, 0, none⟩ = some (.int .i64 G) ∧ w'.cell? ⟨w.heap.size, 1, none⟩ = some (.int .i64 B) ∧ w'.cell? ⟨w.heap.size, 2, none⟩ = some (.int .i64 I)) (first | exact ⟨c0, c1, c2⟩ | exact cc | exact cc')
    (first
      | (go_at_call 70; refine grew_at (inodes_ok _ _ _ _) ?_; intro w1 hb1; have cc := Box.kept (w := w0.drew) ⟨c0, c1, c2⟩ hb1)
      | (go_at_call 64; refine grew_at (split_out (Gm.num_out h) _) ?_; intro w2 hb2; have HB := grew_trans (grew_trans HB hb1) hb2; have cc' := Box.kept cc hb2))
  go_wp2
  go_ret3
  exact ⟨rfl, HB⟩

theorem group_in {G B I n : Int} (h : Gm.Of G B I B n) (w : World) : Calls Try.prog 47 #[geomV G B I, .int .i64 n] w fun e w' => e = .returned (.tuple #[.int .i64 (n / B), .int .i64 (n % B), .bool true]) ∧ Below w.heap.size w w' := by
  have HB : Below w.heap.size w (w.alloc (geomO G B I)) := (Below.refl _ _).alloc (Nat.le_refl _) _
  obtain ⟨c0, c1, c2⟩ := box_cells w G B I
  have hm := h.1.all
  go_enter Try.func47, Try.ntmps47
  go_wp2_with fail
  generalize w.alloc (geomO G B I) = w0 at *
  have HB := HB.drew
  go_region_held3 (fun w' => w'.cell? ⟨w.heap.size, 0, none⟩ = some (.int .i64 G) ∧ w'.cell? ⟨w.heap.size, 1, none⟩ = some (.int .i64 B) ∧ w'.cell? ⟨w.heap.size, 2, none⟩ = some (.int .i64 I)) (first | exact ⟨c0, c1, c2⟩ | exact cc | exact cc')
    (first
      | (go_at_call 9; refine grew_at (blocks_ok _ _ _ _) ?_; intro w1 hb1; have cc := Box.kept (w := w0.drew) ⟨c0, c1, c2⟩ hb1)
      | (go_at_call 64; refine grew_at (split_in h.2.1 (by rw [Gm.num_pos h.1]; exact h.2.2) (by omega) (h.bd (by omega) (by omega)).2.2.2.2.2 _) ?_; intro w2 hb2; have HB := grew_trans (grew_trans HB hb1) hb2; have cc' := Box.kept cc hb2))
  go_wp2
  go_ret3
  exact ⟨rfl, HB⟩
theorem group_out {G B I n : Int} (h : ¬ Gm.Of G B I B n) (w : World) : Calls Try.prog 47 #[geomV G B I, .int .i64 n] w fun e w' => e = .returned (.tuple #[.int .i64 0, .int .i64 0, .bool false]) ∧ Below w.heap.size w w' := by
  have HB : Below w.heap.size w (w.alloc (geomO G B I)) := (Below.refl _ _).alloc (Nat.le_refl _) _
  obtain ⟨c0, c1, c2⟩ := box_cells w G B I
  go_enter Try.func47, Try.ntmps47
  go_wp2_with fail
  generalize w.alloc (geomO G B I) = w0 at *
  have HB := HB.drew
  go_region_held3 (fun w' => w'.cell? ⟨w.heap.size, 0, none⟩ = some (.int .i64 G) ∧ w'.cell? ⟨w.heap.size, 1, none⟩ = some (.int .i64 B) ∧ w'.cell? ⟨w.heap.size, 2, none⟩ = some (.int .i64 I)) (first | exact ⟨c0, c1, c2⟩ | exact cc | exact cc')
    (first
      | (go_at_call 9; refine grew_at (blocks_ok _ _ _ _) ?_; intro w1 hb1; have cc := Box.kept (w := w0.drew) ⟨c0, c1, c2⟩ hb1)
      | (go_at_call 64; refine grew_at (split_out (Gm.num_out h) _) ?_; intro w2 hb2; have HB := grew_trans (grew_trans HB hb1) hb2; have cc' := Box.kept cc hb2))
  go_wp2
  go_ret3
  exact ⟨rfl, HB⟩

end Go.Proofs.Ytgonehldgojcmaa

/- Where an inode lies, and which blocks are of data, by geom and by the document. -/
namespace Go.Proofs.Ytgonehldgojcmaa
open Go.RowKit

theorem Gm.Of.at {G B I n : Int} (h : Gm.Of G B I I n) : 0 ≤ n / I * B ∧ n / I * B ≤ 1792 ∧ 0 ≤ n / I ∧ n / I < G ∧ 0 ≤ n % I ∧ n % I < I := by
  have hm := h.1.all
  have hb := h.bd (by omega) (by omega)
  have := mul_le' (a := n / I) (b := B) (m := 7) (n := 256) (by omega) (by omega) (by omega) (by omega)
  omega

theorem inode_in {G B I n : Int} (h : Gm.Of G B I I n) (w : World) : Calls Try.prog 29 #[geomV G B I, .int .i64 n] w fun e w' => e = .returned (.tuple #[.int .i64 (n / I * B + 2 + n % I / 4), .int .i64 (n % I % 4 * 32), .bool true]) ∧ Below w.heap.size w w' := by
  have HB : Below w.heap.size w (w.alloc (geomO G B I)) := (Below.refl _ _).alloc (Nat.le_refl _) _
  obtain ⟨c0, c1, c2⟩ := box_cells w G B I
  have hm := h.1.all
  have hb := h.at
  generalize hq : n / I = q at *
  generalize hr : n % I = r at *
  have ho := fun w => owner_in h w
  rw [hq, hr] at ho
  clear hq hr
  go_enter Try.func29, Try.ntmps29
  go_wp2_with (first | (go_at_call 53; refine grew_at (ho _) ?_; intro wn hbn; have HB := grew_trans HB hbn; have c0 := cell_kept c0 hbn; have c1 := cell_kept c1 hbn; have c2 := cell_kept c2 hbn))
  go_ret3
  exact ⟨rfl, HB⟩
theorem inode_out {G B I n : Int} (h : ¬ Gm.Of G B I I n) (w : World) : Calls Try.prog 29 #[geomV G B I, .int .i64 n] w fun e w' => e = .returned (.tuple #[.int .i64 0, .int .i64 0, .bool false]) ∧ Below w.heap.size w w' := by
  have HB : Below w.heap.size w (w.alloc (geomO G B I)) := (Below.refl _ _).alloc (Nat.le_refl _) _
  obtain ⟨c0, c1, c2⟩ := box_cells w G B I
  go_enter Try.func29, Try.ntmps29
  go_wp2_with (first | (go_at_call 53; refine grew_at (owner_out h _) ?_; intro wn hbn; have HB := grew_trans HB hbn; have c0 := cell_kept c0 hbn; have c1 := cell_kept c1 hbn; have c2 := cell_kept c2 hbn))
  go_ret3
  exact ⟨rfl, HB⟩

end Go.Proofs.Ytgonehldgojcmaa

/- mkfs: the first bits of a row set, in a header that is being made. -/
namespace Go.Proofs.Ytgonehldgojcmaa
open Go.RowKit
set_option linter.unusedVariables false
set_option maxRecDepth 100000

/-- Only blocks of X have turned. -/
structure Fr (X : Nat → Prop) (w w' : World) : Prop where
  os : w'.os = w.os
  tape : w'.tape = w.tape
  output : w'.output = w.output
  size : w.heap.size ≤ w'.heap.size
  block : ∀ k, k < w.heap.size → ¬ X k → w'.heap[k]? = w.heap[k]?
theorem Fr.refl (X : Nat → Prop) (w : World) : Fr X w w := ⟨rfl, rfl, rfl, Nat.le_refl _, fun _ _ _ => rfl⟩
theorem Fr.trans {X : Nat → Prop} {a b c : World} (h : Fr X a b) (k : Fr X b c) : Fr X a c := ⟨k.os.trans h.os, k.tape.trans h.tape, k.output.trans h.output, Nat.le_trans h.size k.size, fun i hi hn => (k.block i (Nat.lt_of_lt_of_le hi h.size) hn).trans (h.block i hi hn)⟩
theorem Fr.below {X : Nat → Prop} {a b : World} (h : Below a.heap.size a b) : Fr X a b := ⟨h.os, h.tape, h.output, h.size, fun i hi _ => h.block i hi⟩
theorem Fr.bel {X : Nat → Prop} {B : Nat} {w a b : World} (hw : Below B w a) (h : Fr X a b) (hB : B ≤ a.heap.size) (hX : ∀ k, X k → B ≤ k) : Below B w b :=
  hw.trans ⟨h.os, h.tape, h.output, h.size, fun k hk => h.block k (by omega) (fun e => by have := hX k e; omega)⟩
theorem Fr.setRow (w : World) (g : Nat) (cs : Array Value) : Fr (fun k => k = g) w (w.setRow g cs) := ⟨rfl, rfl, rfl, by simp, fun k _ hk => setRow_other _ _ _ _ hk⟩

/-- The first bits of a row set. -/
def fb (xs : List Int) : Nat → List Int
  | 0 => xs
  | j + 1 => Bit.put (fb xs j) j true
theorem fb_len (xs : List Int) : ∀ n, (fb xs n).length = xs.length
  | 0 => rfl
  | j + 1 => by rw [fb, Bit.put_len, fb_len xs j]
theorem fb_byt {xs : List Int} (h : Num.Byt xs) : ∀ n, Num.Byt (fb xs n)
  | 0 => h
  | j + 1 => Bit.put_byt (fb_byt h j) _ _

/-- A row of bytes within a block. -/
def mid (pre post : List Value) (xs : List Int) : Array Value := (pre ++ xs.map (Value.int .u8) ++ post).toArray
theorem mid_bi {w : World} {g : Nat} {pre post : List Value} {xs : List Int} {t : TypeId} (h : w.heap[g]? = some (.cells (mid pre post xs) t (0, 0))) (hx : Num.Byt xs) (hl : xs.length ≤ 140737488355328) : BI w (some ⟨g, pre.length, none⟩) xs.length xs := by
  refine ⟨rfl, hl, hx, fun _ => ⟨g, pre.length, rfl, fun i hi => ?_⟩⟩
  refine cell_row h _ _ ?_
  unfold mid
  rw [List.getElem?_toArray, List.append_assoc, List.getElem?_append_right (by omega), List.getElem?_append_left (by simp; omega), List.getElem?_map]
  rw [show pre.length + i - pre.length = i by omega, List.getElem?_eq_getElem hi, List.getD_eq_getElem?_getD, List.getElem?_eq_getElem hi]
  rfl
theorem mid_turn (pre post : List Value) (xs ys : List Int) (h : ys.length = xs.length) : ((mid pre post xs).toList.take pre.length ++ ys.map (Value.int .u8) ++ (mid pre post xs).toList.drop (pre.length + (ys.map (Value.int .u8)).length)).toArray = mid pre post ys := by
  unfold mid
  rw [List.toList_toArray, List.length_map, List.append_assoc pre, List.take_left', List.drop_append]
  · have h1 : (pre.drop (pre.length + ys.length)) = [] := List.drop_of_length_le (by omega)
    rw [h1, List.nil_append, show pre.length + ys.length - pre.length = ys.length by omega, List.drop_append, List.drop_of_length_le (by simp; omega)]
    simp [h]
  · rfl
theorem mid_copy {w : World} {g : Nat} {pre post : List Value} {xs ys : List Int} {t : TypeId} (h : w.heap[g]? = some (.cells (mid pre post xs) t (0, 0))) {a : Addr} {c1 c2 m : Nat} (hb : BI w (some a) m ys) (hm : m = xs.length) (ty : TypeId) :
    (Builtin.copy_ #[36, 36] ty #[.slice (some ⟨g, pre.length, none⟩) m c1, .slice (some a) m c2]).run Try.prog w = .ok (.int .i64 (m : Int)) (w.setRow g (mid pre post ys)) := by
  have hl := hb.len
  have := run_copy_row (P := Try.prog) w 36 36 ty 5 g pre.length m c1 a m c2 (mid pre post xs) t (ys.map (Value.int .u8)) Try.underlying36 size5 h (by rw [List.length_map, hl]; exact (Nat.min_self m).symm) hb.src' (by rw [List.length_map, hl]; simp [mid]; omega) (one_cells _)
  rw [this, mid_turn pre post xs ys (by omega)]
  simp [goInt, hl]

set_option maxHeartbeats 1000000 in
theorem setFirst_ok (w : World) (g : Nat) (pre post : List Value) (xs : List Int) (t : TypeId) (h : w.heap[g]? = some (.cells (mid pre post xs) t (0, 0))) (hx : Num.Byt xs) (n m o c : Nat) (ho : o = pre.length) (hm : m = xs.length) (hn : n ≤ 8 * m) (hl : m ≤ 1000) :
    Calls Try.prog 48 #[.slice (some ⟨g, o, none⟩) m c, .int .i64 (n : Int)] w fun e w' => e = .returned (.tuple #[]) ∧ w'.heap[g]? = some (.cells (mid pre post (fb xs n)) t (0, 0)) ∧ Fr (fun k => k = g) w w' := by
  subst ho
  go_enter Try.func48, Try.ntmps48
  go_wp2_with fail
  go_loopw [8] (fun iv wr => ∃ j : Nat, j ≤ n ∧ iv = .int .i64 (j : Int) ∧ wr.heap[g]? = some (.cells (mid pre post (fb xs j)) t (0, 0)) ∧ Fr (fun k => k = g) w wr) (fun iv _ => n - (intOf iv).toNat)
  case atStart => exact ⟨0, by omega, rfl, h, Fr.refl _ _⟩
  case round =>
    obtain ⟨j, hj, rfl, hr, hF⟩ := hrel
    by_cases hlt : j < n
    · have hjI : (j : Int) < (n : Int) := by omega
      have hfl := fb_len xs j
      have hB := mid_bi hr (fb_byt hx j) (by omega)
      rw [hfl, ← hm] at hB
      have hw := with_ok (some ⟨g, pre.length, none⟩) m c (fb xs j) j true wr hB (by omega) (by omega)
      have HH : Hid (wr.heap[g]? = some (.cells (mid pre post (fb xs j)) t (0, 0)) ∧ Fr (fun k => k = g) w wr) := ⟨hr, hF⟩
      have HL : Hid (m = xs.length) := hm
      clear hfl hB hr hF hm h
      go_wp2_with fail
      refine Calls.mono hw ?_
      rintro e w1 ⟨g1, cap, rfl, hO, hb1⟩
      have hr1 := (hb1.block g (Array.getElem?_eq_some_iff.1 HH.out.1).1).trans HH.out.1
      have hcd := mid_copy (c1 := c) (c2 := cap) hr1 (hO.bi (by omega) (Bit.put_byt (fb_byt hx j) _ _)) (by rw [fb_len]; exact HL.out)
      obtain ⟨W2, hW2⟩ : ∃ W2, w1.setRow g (mid pre post (Bit.put (fb xs j) j true)) = W2 := ⟨_, rfl⟩
      have H2 : Hid (W2.heap[g]? = some (.cells (mid pre post (fb xs (j + 1))) t (0, 0)) ∧ Fr (fun k => k = g) w W2) := by
        refine ⟨?_, ?_⟩
        · rw [← hW2]; exact setRow_heap _ _ _ _ t _ hr1
        · rw [← hW2]; exact (HH.out.2.trans (Fr.below hb1)).trans (Fr.setRow _ _ _)
      rw [hW2] at hcd
      clear hw hO hb1 hr1 hW2
      dsimp only
      go_wp2_with fail
      go_roundw
      case rel => exact ⟨j + 1, by omega, by go_num, H2.out.1, H2.out.2⟩
      case measure => simp [intOf]; omega
    · obtain rfl : j = n := by omega
      have hjI : ¬ (j : Int) < (j : Int) := by omega
      go_wp2_with fail
      go_end0
      exact ⟨rfl, hr, hF⟩
end Go.Proofs.Ytgonehldgojcmaa

/- mkfs: a new header. -/
namespace Go.Proofs.Ytgonehldgojcmaa
open Go.RowKit
set_option linter.unusedVariables false
set_option maxRecDepth 100000

/-- Which inodes, which blocks of a new group are allocated. -/
def hdI (n : Nat) : List Int := if n = 0 then fb (zers 8) 3 else zers 8
def hdB (i n : Nat) : List Int := fb (zers 32) (2 + i / 4 + if n = 0 then 1 else 0)
def hdY (i n : Nat) : List Int := hdI n ++ hdB i n
theorem hdI_len (n : Nat) : (hdI n).length = 8 := by unfold hdI; split <;> simp [fb_len, zers]
theorem hdB_len (i n : Nat) : (hdB i n).length = 32 := by unfold hdB; simp [fb_len, zers]
theorem hdY_len (i n : Nat) : (hdY i n).length = 40 := by unfold hdY; simp [hdI_len, hdB_len]
theorem hdI_byt (n : Nat) : Num.Byt (hdI n) := by unfold hdI; split <;> first | exact fb_byt (zers_byt 8) 3 | exact zers_byt 8
theorem hdB_byt (i n : Nat) : Num.Byt (hdB i n) := fb_byt (zers_byt 32) _
theorem hdY_byt (i n : Nat) : Num.Byt (hdY i n) := byt_append (hdI_byt n) (hdB_byt i n)
theorem group_midI (N : Int) (xs ys : List Int) : groupA N (xs ++ ys) = mid [.int .i64 N] (ys.map (Value.int .u8)) xs := by unfold groupA mid; simp
theorem group_midB (N : Int) (xs ys : List Int) : groupA N (xs ++ ys) = mid (.int .i64 N :: xs.map (Value.int .u8)) [] ys := by unfold groupA mid; simp
theorem info23 : (Try.prog.info? 23).map (·.size) = some 3 := by kernel_rfl
theorem zers_cut : zers 40 = zers 8 ++ zers 32 := by decide
theorem of_data {g b i n : Nat} (h : Gm.In (g : Int) (b : Int) (i : Int) (n : Int)) : Gm.Of (g : Int) (b : Int) (i : Int) (b : Int) ((n : Int) * (b : Int) + (2 + (i : Int) / 4)) ∧ ((n : Int) * (b : Int) + (2 + (i : Int) / 4)) / (b : Int) = (n : Int) ∧ ((n : Int) * (b : Int) + (2 + (i : Int) / 4)) % (b : Int) = ((2 + i / 4 : Nat) : Int) := by
  have hm := h.1.all
  have h2 := h.2
  have hk : (2 + (i : Int) / 4) < (b : Int) := by omega
  have hk0 : 0 ≤ (2 + (i : Int) / 4) := by omega
  have hb : (b : Int) ≠ 0 := by omega
  refine ⟨?_, ?_, ?_⟩
  · refine ⟨h.1, ?_, ?_⟩
    · have : 0 ≤ (n : Int) * (b : Int) := by exact_mod_cast Nat.zero_le _
      omega
    · have h3 : (n : Int) + 1 ≤ (g : Int) := by omega
      have h4 : ((n : Int) + 1) * (b : Int) ≤ (g : Int) * (b : Int) := Int.mul_le_mul_of_nonneg_right h3 (by omega)
      rw [Int.add_mul] at h4
      omega
  · rw [Int.add_comm, Int.add_mul_ediv_right _ _ hb, Int.ediv_eq_zero_of_lt hk0 hk]
    omega
  · rw [Int.add_comm, Int.add_mul_emod_self_right, Int.emod_eq_of_lt hk0 hk]
    omega

set_option maxHeartbeats 4000000 in
theorem newHeader_ok (g b i n : Nat) (h : Gm.In (g : Int) (b : Int) (i : Int) (n : Int)) (w : World) :
    Calls Try.prog 25 #[geomV g b i, .int .i64 (n : Int)] w fun e w' => e = .returned (groupV (n : Int) (hdY i n)) ∧ Below w.heap.size w w' := by
  obtain ⟨hof, hq, hr⟩ := of_data h
  have hm := h.1.all
  obtain ⟨W1, hW1⟩ : ∃ W1, (w.alloc (geomO g b i)).alloc (.cells (groupA 0 (zers 40)) 59) = W1 := ⟨_, rfl⟩
  have hb1 : Below w.heap.size w W1 := by rw [← hW1]; exact ((Below.refl _ _).alloc (Nat.le_refl _) _).alloc (by simp) _
  have hs1 : W1.heap.size = w.heap.size + 2 := by rw [← hW1]; simp
  have hgm1 : W1.heap[w.heap.size]? = some (geomO g b i) := by rw [← hW1]; exact at_old (at_new rfl)
  have hrs1 : W1.heap[w.heap.size + 1]? = some (.cells (groupA 0 (zers 40)) 59 (0, 0)) := by rw [← hW1]; exact at_new (by simp)
  rw [zero38] at hW1
  go_enter Try.func25, Try.ntmps25
  obtain ⟨W2, hW2⟩ : ∃ W2, (W1.alloc (.cells (groupA 0 (zers 40)) 59)).setRow W1.heap.size (groupA (n : Int) (zers 40)) = W2 := ⟨_, rfl⟩
  have hb2 : Below W1.heap.size W1 W2 := by rw [← hW2]; exact below_setRow (grew_alloc W1 _) (Nat.le_refl _) _
  have hh2 : W2.heap[W1.heap.size]? = some (.cells (groupA (n : Int) (zers 40)) 59 (0, 0)) := by rw [← hW2]; exact setRow_heap _ _ _ _ 59 _ (at_new rfl)
  have hgm2 := (hb2.block _ (Array.getElem?_eq_some_iff.1 hgm1).1).trans hgm1
  have hrs2 := (hb2.block _ (Array.getElem?_eq_some_iff.1 hrs1).1).trans hrs1
  have hB2 := grew_trans hb1 hb2
  rw [zero38] at hW2
  have hi59 := info38 (n : Int) (zers 40) (zers_len 40)
  have hone := group_one (n : Int) (zers 40)
  have hda := data_in h W2
  have HS : Hid (W1.heap.size = w.heap.size + 2) := hs1
  clear hgm1 hrs1 hs1
  go_wp2_with (first
    | (refine wpList_store_row rfl 59 (.tmp 5) _ rfl W1.heap.size (groupA (n : Int) (zers 40)) rfl rfl 59 _ (at_new rfl) hi59 rfl hone ?_; rw [hW2])
    | (refine wpList_load_row rfl 23 (.tmp 2) rfl w.heap.size rfl 23 _ (0, 0) _ hgm2 Try.underlying23 rfl info23 ?_))
  refine grew_at hda ?_
  intro w3 hb3
  have hh3 := (hb3.block _ (Array.getElem?_eq_some_iff.1 hh2).1).trans hh2
  have hgm3 := (hb3.block _ (Array.getElem?_eq_some_iff.1 hgm2).1).trans hgm2
  have hrs3 := (hb3.block _ (Array.getElem?_eq_some_iff.1 hrs2).1).trans hrs2
  have hB3 := grew_trans hB2 hb3
  have hgr := group_in hof w3
  rw [hq, hr] at hgr
  clear hda hh2 hgm2 hrs2 hB2 hb2 hb3 hb1
  dsimp only
  go_wp2_with (first
    | (refine wpList_load_row rfl 23 (.tmp 2) rfl w.heap.size rfl 23 _ (0, 0) _ hgm3 Try.underlying23 rfl info23 ?_))
  refine grew_at hgr ?_
  intro w4 hb4
  have hh4 := (hb4.block _ (Array.getElem?_eq_some_iff.1 hh3).1).trans hh3
  have hrs4 := (hb4.block _ (Array.getElem?_eq_some_iff.1 hrs3).1).trans hrs3
  have hB4 := grew_trans hB3 hb4
  clear hgr hh3 hgm3 hrs3 hB3 hb4
  dsimp only
  rw [zers_cut, group_midI] at hh4
  go_upto_if 29 with fail
  go_cut [10] (fun v wx => v = .int .i64 ((2 + i / 4 + (if n = 0 then 1 else 0) : Nat) : Int) ∧ wx.heap[W1.heap.size]? = some (.cells (groupA (n : Int) (hdI n ++ zers 32)) 59 (0, 0)) ∧ Fr (fun k => k = W1.heap.size) w4 wx)
  case first =>
    by_cases hn0 : n = 0
    · have hn2 : ((n : Int) == 0) = true := by simp [hn0]
      have HN : Hid (n = 0) := hn0
      have hif : (if n = 0 then 1 else 0) = 1 := if_pos hn0
      clear hn0
      have hsf := setFirst_ok w4 W1.heap.size [.int .i64 (n : Int)] ((zers 32).map (Value.int .u8)) (zers 8) 59 hh4 (zers_byt 8) 3 8 1 8 rfl (zers_len 8).symm (by omega) (by omega)
      have hw5 : IntKind.i64.wrap (((2 + i / 4 : Nat) : Int) + 1) = ((2 + i / 4 + 1 : Nat) : Int) := by rw [IntWalk.i64_in _ (by omega)]; omega
      have hw6 : ((2 + i / 4 : Nat) : Int) + 1 = ((2 + i / 4 + 1 : Nat) : Int) := by omega
      go_wp2_with fail
      refine Calls.mono hsf ?_
      rintro e w5 ⟨rfl, hh5, hF5⟩
      clear hsf
      dsimp only
      go_wp2_with fail
      go_meet
      refine ⟨by rw [hif]; congr 1, ?_, hF5⟩
      rw [group_midI]
      unfold hdI
      rw [if_pos HN.out]
      exact hh5
    · have hn1 : ¬ (n : Int) = 0 := by omega
      have hn2 : ((n : Int) == 0) = false := by simp [hn0]
      go_wp2_with fail
      go_meet
      refine ⟨by simp [hn0], ?_, Fr.refl _ _⟩
      rw [group_midI]
      unfold hdI
      rw [if_neg hn0]
      exact hh4
  case rest =>
  obtain ⟨rfl, hh5, hF5⟩ := hcut
  rename World => w5
  have hrs5 := (hF5.block _ (Array.getElem?_eq_some_iff.1 hrs4).1 (fun e => by have := HS.out; omega)).trans hrs4
  have hsz4 := hB4.size
  have hl4 : W1.heap.size < w4.heap.size := (Array.getElem?_eq_some_iff.1 hh4).1
  have hB5 : Below w.heap.size w w5 := hF5.bel hB4 hB4.size (fun k e => by have := HS.out; omega)
  rw [group_midB] at hh5
  have hsf := setFirst_ok w5 W1.heap.size _ [] (zers 32) 59 hh5 (zers_byt 32) (2 + i / 4 + (if n = 0 then 1 else 0)) 32 9 32 (by simp [hdI_len]) (zers_len 32).symm (by split <;> omega) (by omega)
  clear hh4 hrs4 hB4 hsz4 hl4
  obtain ⟨m, hm0⟩ : ∃ m : Nat, m = 2 + i / 4 + (if n = 0 then 1 else 0) := ⟨_, rfl⟩
  rw [← hm0] at hsf
  rw [← hm0]
  have HM : Hid (m = 2 + i / 4 + (if n = 0 then 1 else 0)) := hm0
  clear hm0
  go_wp2_with fail
  refine Calls.mono hsf ?_
  rintro e w6 ⟨rfl, hh6, hF6⟩
  have hrs6 := (hF6.block _ (Array.getElem?_eq_some_iff.1 hrs5).1 (fun e => by have := HS.out; omega)).trans hrs5
  have hB6 : Below w.heap.size w w6 := hF6.bel hB5 hB5.size (fun k e => by have := HS.out; omega)
  rw [HM.out, ← group_midB] at hh6
  have hyy : hdI n ++ fb (zers 32) (2 + i / 4 + (if n = 0 then 1 else 0)) = hdY i n := rfl
  rw [hyy] at hh6
  have hiY := info38 (n : Int) (hdY i n) (hdY_len i n)
  have hoY := group_one (n : Int) (hdY i n)
  have hol : (groupA 0 (zers 40)).size = (groupA (n : Int) (hdY i n)).size := by simp [groupA, hdY_len, zers_len]
  clear hsf hrs5 hB5 hh5 hF5 hF6 hyy
  dsimp only
  go_wp2_with (first
    | (refine wpList_load_row rfl 59 (.tmp 5) rfl W1.heap.size rfl 59 _ (0, 0) _ hh6 Try.underlying59 rfl hiY ?_)
    | (refine wpList_store_row rfl 59 (.tmp 4) _ rfl (w.heap.size + 1) (groupA (n : Int) (hdY i n)) rfl rfl 59 _ hrs6 hiY hol hoY ?_))
  refine bodyPost_ret (v := .agg (groupA (n : Int) (hdY i n))) (results_cell_row (p := 4) (ty := 59) Try.results25 _ _ (w.heap.size + 1) 59 _ (0, 0) _ rfl (setRow_heap _ _ _ _ _ _ hrs6) Try.underlying59 rfl hiY) rfl ?_
  exact ⟨rfl, below_setRow hB6 (by omega) _⟩
end Go.Proofs.Ytgonehldgojcmaa
