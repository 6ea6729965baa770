/- Where an inode lies, and which blocks are of data, by geom and by the document. -/
import Derived.Test.YtkmijjipnepnoabGeomB
namespace Go.Proofs.Ytkmijjipnepnoab
open Go.RowKit

theorem Gm.Of.at {G B I n : Int} (h : Gm.Of G B I I n) : 0 ≤ n / I * B ∧ n / I * B ≤ 1792 ∧ 0 ≤ n / I ∧ n / I < G ∧ 0 ≤ n % I ∧ n % I < I := by
  have hm := h.1.all
  have hb := h.bd (by omega) (by omega)
  have := mul_le' (a := n / I) (b := B) (m := 7) (n := 256) (by omega) (by omega) (by omega) (by omega)
  omega

theorem inode_in {G B I n : Int} (h : Gm.Of G B I I n) (w : World) : Calls Try.prog 30 #[geomV G B I, .int .i64 n] w fun e w' => e = .returned (.tuple #[.int .i64 (n / I * B + 2 + n % I / 4), .int .i64 (n % I % 4 * 32), .bool true]) ∧ Below w.heap.size w w' := by
  have HB : Below w.heap.size w (w.alloc (geomO G B I)) := (Below.refl _ _).alloc (Nat.le_refl _) _
  obtain ⟨c0, c1, c2⟩ := box_cells w G B I
  have hm := h.1.all
  have hb := h.at
  generalize hq : n / I = q at *
  generalize hr : n % I = r at *
  have ho := fun w => owner_in h w
  rw [hq, hr] at ho
  clear hq hr
  go_enter Try.func30, Try.ntmps30
  go_wp2_with (first | (go_at_call 32; refine grew_at (ho _) ?_; intro wn hbn; have HB := grew_trans HB hbn; have c0 := cell_kept c0 hbn; have c1 := cell_kept c1 hbn; have c2 := cell_kept c2 hbn))
  go_ret3
  exact ⟨rfl, HB⟩
theorem inode_out {G B I n : Int} (h : ¬ Gm.Of G B I I n) (w : World) : Calls Try.prog 30 #[geomV G B I, .int .i64 n] w fun e w' => e = .returned (.tuple #[.int .i64 0, .int .i64 0, .bool false]) ∧ Below w.heap.size w w' := by
  have HB : Below w.heap.size w (w.alloc (geomO G B I)) := (Below.refl _ _).alloc (Nat.le_refl _) _
  obtain ⟨c0, c1, c2⟩ := box_cells w G B I
  go_enter Try.func30, Try.ntmps30
  go_wp2_with (first | (go_at_call 32; refine grew_at (owner_out h _) ?_; intro wn hbn; have HB := grew_trans HB hbn; have c0 := cell_kept c0 hbn; have c1 := cell_kept c1 hbn; have c2 := cell_kept c2 hbn))
  go_ret3
  exact ⟨rfl, HB⟩

theorem rinode_in {G B I n : Int} (h : Gm.Of G B I I n) (w : World) : Calls Try.prog 31 #[geomV G B I, .int .i64 n] w fun e w' => e = .returned (.tuple #[.int .i64 (n / I * B + 2 + n % I / 4), .int .i64 (32 * (n % I % 4)), .bool true]) ∧ Below w.heap.size w w' := by
  have HB : Below w.heap.size w (w.alloc (geomO G B I)) := (Below.refl _ _).alloc (Nat.le_refl _) _
  obtain ⟨c0, c1, c2⟩ := box_cells w G B I
  have hm := h.1.all
  have hb := h.at
  generalize hq : n / I = q at *
  generalize hr : n % I = r at *
  have ho := fun w => rowner_in h w
  rw [hq, hr] at ho
  clear hq hr
  go_enter Try.func31, Try.ntmps31
  go_wp2_with (first | (go_at_call 33; refine grew_at (ho _) ?_; intro wn hbn; have HB := grew_trans HB hbn; have c0 := cell_kept c0 hbn; have c1 := cell_kept c1 hbn; have c2 := cell_kept c2 hbn))
  go_ret3
  exact ⟨rfl, HB⟩
theorem rinode_out {G B I n : Int} (h : ¬ Gm.Of G B I I n) (w : World) : Calls Try.prog 31 #[geomV G B I, .int .i64 n] w fun e w' => e = .returned (.tuple #[.int .i64 0, .int .i64 0, .bool false]) ∧ Below w.heap.size w w' := by
  have HB : Below w.heap.size w (w.alloc (geomO G B I)) := (Below.refl _ _).alloc (Nat.le_refl _) _
  obtain ⟨c0, c1, c2⟩ := box_cells w G B I
  go_enter Try.func31, Try.ntmps31
  go_wp2_with (first | (go_at_call 33; refine grew_at (rowner_out h _) ?_; intro wn hbn; have HB := grew_trans HB hbn; have c0 := cell_kept c0 hbn; have c1 := cell_kept c1 hbn; have c2 := cell_kept c2 hbn))
  go_ret3
  exact ⟨rfl, HB⟩

theorem isData_in {G B I n : Int} (h : Gm.Of G B I B n) (w : World) : Calls Try.prog 36 #[geomV G B I, .int .i64 n] w fun e w' => e = .returned (.bool (decide (2 + I / 4 ≤ n % B))) ∧ Below w.heap.size w w' := by
  have HB : Below w.heap.size w (w.alloc (geomO G B I)) := (Below.refl _ _).alloc (Nat.le_refl _) _
  obtain ⟨c0, c1, c2⟩ := box_cells w G B I
  have hm := h.1.all
  have hb := h.bd (by omega) (by omega)
  generalize hq : n / B = q at *
  generalize hr : n % B = r at *
  have ho := fun w => group_in h w
  rw [hq, hr] at ho
  clear hq hr
  go_enter Try.func36, Try.ntmps36
  go_wp2_with (first | (go_at_call 34; refine grew_at (ho _) ?_; intro wn hbn; have HB := grew_trans HB hbn; have c0 := cell_kept c0 hbn; have c1 := cell_kept c1 hbn; have c2 := cell_kept c2 hbn) | (go_at_call 59; refine grew_at (dataPlace_may h.1 _) ?_; intro wn hbn; have HB := grew_trans HB hbn; have c0 := cell_kept c0 hbn; have c1 := cell_kept c1 hbn; have c2 := cell_kept c2 hbn))
  go_ret
  exact ⟨rfl, HB⟩
theorem isData_out {G B I n : Int} (h : ¬ Gm.Of G B I B n) (w : World) : Calls Try.prog 36 #[geomV G B I, .int .i64 n] w fun e w' => e = .returned (.bool false) ∧ Below w.heap.size w w' := by
  have HB : Below w.heap.size w (w.alloc (geomO G B I)) := (Below.refl _ _).alloc (Nat.le_refl _) _
  obtain ⟨c0, c1, c2⟩ := box_cells w G B I
  go_enter Try.func36, Try.ntmps36
  go_wp2_with (first | (go_at_call 34; refine grew_at (group_out h _) ?_; intro wn hbn; have HB := grew_trans HB hbn; have c0 := cell_kept c0 hbn; have c1 := cell_kept c1 hbn; have c2 := cell_kept c2 hbn))
  go_ret
  exact ⟨rfl, HB⟩

theorem risData_in {G B I n : Int} (h : Gm.Of G B I B n) (w : World) : Calls Try.prog 37 #[geomV G B I, .int .i64 n] w fun e w' => e = .returned (.bool (decide (2 + I / 4 ≤ n % B))) ∧ Below w.heap.size w w' := by
  have HB : Below w.heap.size w (w.alloc (geomO G B I)) := (Below.refl _ _).alloc (Nat.le_refl _) _
  obtain ⟨c0, c1, c2⟩ := box_cells w G B I
  have hm := h.1.all
  have hb := h.bd (by omega) (by omega)
  generalize hq : n / B = q at *
  generalize hr : n % B = r at *
  have ho := fun w => rgroup_in h w
  rw [hq, hr] at ho
  clear hq hr
  go_enter Try.func37, Try.ntmps37
  go_wp2_with (first | (go_at_call 35; refine grew_at (ho _) ?_; intro wn hbn; have HB := grew_trans HB hbn; have c0 := cell_kept c0 hbn; have c1 := cell_kept c1 hbn; have c2 := cell_kept c2 hbn) | (go_at_call 59; refine grew_at (dataPlace_may h.1 _) ?_; intro wn hbn; have HB := grew_trans HB hbn; have c0 := cell_kept c0 hbn; have c1 := cell_kept c1 hbn; have c2 := cell_kept c2 hbn))
  go_ret
  exact ⟨rfl, HB⟩
theorem risData_out {G B I n : Int} (h : ¬ Gm.Of G B I B n) (w : World) : Calls Try.prog 37 #[geomV G B I, .int .i64 n] w fun e w' => e = .returned (.bool false) ∧ Below w.heap.size w w' := by
  have HB : Below w.heap.size w (w.alloc (geomO G B I)) := (Below.refl _ _).alloc (Nat.le_refl _) _
  obtain ⟨c0, c1, c2⟩ := box_cells w G B I
  go_enter Try.func37, Try.ntmps37
  go_wp2_with (first | (go_at_call 35; refine grew_at (rgroup_out h _) ?_; intro wn hbn; have HB := grew_trans HB hbn; have c0 := cell_kept c0 hbn; have c1 := cell_kept c1 hbn; have c2 := cell_kept c2 hbn))
  go_ret
  exact ⟨rfl, HB⟩

end Go.Proofs.Ytkmijjipnepnoab
