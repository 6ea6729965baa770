/- KGeom KGeomB KGeomC KM1 KM2 KM3 -/
import Derived.Test.YtomkhipdcjnkhaaGreatFb03
import Derived.WalkKit
import Derived.WalkSpells
import Derived.WalkLawsBesides
import Derived.BigQuiet
import Derived.Deep.QuietTactic
import Derived.Deep.RegionHeld3
import Derived.Test.YtomkhipdcjnkhaaGreatFb13
import Derived.Laws.CopyRow
import Derived.Deep.DeepCutAuto
import Derived.Deep.CutBlock
import Derived.Laws.ResultCell

/- What the calls of geom and of the document answer about geometries: each said once for all arguments. -/
namespace Go.Proofs.YtomkhipdcjnkhaaGreat.Mk
open Go.RowKit
set_option maxRecDepth 100000

namespace Gm
def can (G B I : Int) : Int := if May G B I then 0 else 170
end Gm

theorem gwithin_ok (n l h : Int) (w : World) : Calls Tryz.prog 113 #[.int .i64 n, .int .i64 l, .int .i64 h] w fun e w' => e = .returned (.bool (decide (l ≤ n ∧ n ≤ h))) ∧ w' = w := by
  go_enter Tryz.func113, Tryz.ntmps113
  go_wp2
  all_goals
    go_ret
    exact ⟨by simp [*]; try omega, rfl⟩

theorem box_at {w w1 : World} {o : Obj} (hb : Below (w.alloc o).heap.size (w.alloc o) w1) : w1.heap[w.heap.size]? = some o := by
  rw [hb.block _ (by rw [size_alloc]; omega), heap_new]
theorem box_below {w w1 : World} {o : Obj} (hb : Below (w.alloc o).heap.size (w.alloc o) w1) : Below w.heap.size w w1 :=
  ((Below.refl _ _).alloc (Nat.le_refl _) _).trans (hb.mono (by rw [size_alloc]; omega))

/-- Block b holds a geometry. -/
def Box (w : World) (b : Nat) (G B I : Int) : Prop := w.cell? ⟨b, 0, none⟩ = some (.int .i64 G) ∧ w.cell? ⟨b, 1, none⟩ = some (.int .i64 B) ∧ w.cell? ⟨b, 2, none⟩ = some (.int .i64 I)
theorem box_ok {w w1 : World} {G B I : Int} (hb : Below (w.alloc (geomO G B I)).heap.size (w.alloc (geomO G B I)) w1) : Box w1 w.heap.size G B I := by
  have := box_at hb
  refine ⟨?_, ?_, ?_⟩ <;> simp [World.cell?, this]
theorem Box.kept {w w1 : World} {b : Nat} {G B I : Int} (h : Box w b G B I) (hb : Below w.heap.size w w1) : Box w1 b G B I := by
  have hlt := lt_of_cell h.1
  refine ⟨?_, ?_, ?_⟩
  · rw [hb.cell (p := ⟨b, 0, none⟩) hlt]; exact h.1
  · rw [hb.cell (p := ⟨b, 1, none⟩) hlt]; exact h.2.1
  · rw [hb.cell (p := ⟨b, 2, none⟩) hlt]; exact h.2.2

theorem dataPlace_any (G B I : Int) (w : World) : Calls Tryz.prog 205 #[geomV G B I] w fun e w' => (∃ v, e = .returned (.int .i64 v) ∧ (4 ≤ I ∧ I ≤ 64 → v = 2 + I / 4)) ∧ Below w.heap.size w w' := by
  go_enter Tryz.func205, Tryz.ntmps205
  go_wp2
  go_ret
  refine ⟨⟨_, rfl, fun h => ?_⟩, (Below.refl _ _).alloc (Nat.le_refl _) _⟩
  have h1 := h.1
  have h2 := h.2
  unfold wrap64
  rw [Int.tdiv_eq_ediv_of_nonneg (by omega)]
  omega
theorem dataBlocks_any (G B I : Int) (w : World) : Calls Tryz.prog 114 #[geomV G B I] w fun e w' => (∃ v, e = .returned (.int .i64 v) ∧ (4 ≤ I ∧ I ≤ 64 ∧ 8 ≤ B ∧ B ≤ 256 → v = B - (2 + I / 4))) ∧ Below w.heap.size w w' := by
  go_enter Tryz.func114, Tryz.ntmps114
  go_wp2_with fail
  have hB := box_ok (Below.refl _ (w.alloc (geomO G B I)))
  have hbe := box_below (Below.refl _ (w.alloc (geomO G B I)))
  have hsz := size_alloc w (geomO G B I)
  generalize w.alloc (geomO G B I) = w0 at *
  obtain ⟨c0, c1, c2⟩ := hB
  go_region_held3 (fun w' => w'.cell? ⟨w.heap.size, 0, none⟩ = some (.int .i64 G) ∧ w'.cell? ⟨w.heap.size, 1, none⟩ = some (.int .i64 B) ∧ w'.cell? ⟨w.heap.size, 2, none⟩ = some (.int .i64 I)) (first | exact ⟨c0, c1, c2⟩ | exact cc) ((go_at_call 205; refine (dataPlace_any _ _ _ _).mono ?_; rintro e w1 ⟨⟨v, rfl, hv⟩, hb1⟩; have cc := Box.kept (w := w0.drew) ⟨c0, c1, c2⟩ hb1))
  go_wp2
  go_ret
  refine ⟨⟨_, rfl, fun h => ?_⟩, hbe.drew.trans (hb1.mono (by show w.heap.size ≤ w0.heap.size; omega))⟩
  rw [hv ⟨h.1, h.2.1⟩, IntKind.wrap_i64]
  omega

theorem Gm.can_pos {G B I : Int} (h : Gm.May G B I) : Gm.can G B I = 0 := if_pos h
theorem Gm.can_neg {G B I : Int} (h : ¬ Gm.May G B I) : Gm.can G B I = 170 := if_neg h
theorem can_ok (G B I : Int) (w : World) : Calls Tryz.prog 54 #[geomV G B I] w fun e w' => e = .returned (.int .i64 (Gm.can G B I)) ∧ Below w.heap.size w w' := by
  have HB : Below w.heap.size w (w.alloc (geomO G B I)) := (Below.refl _ _).alloc (Nat.le_refl _) _
  have HS := size_alloc w (geomO G B I)
  go_enter Tryz.func54, Tryz.ntmps54
  go_wp2_with (first | (go_at_call 113; refine same_at (gwithin_ok _ _ _ _) ?_) | (go_at_call 114; refine (dataBlocks_any _ _ _ _).mono ?_; rintro e w1 ⟨⟨v, rfl, hv⟩, hb1⟩))
  all_goals
    go_ret
    refine ⟨?_, by first | exact HB | exact HB.trans (hb1.mono HB.size)⟩
    try simp only [Bool.not_eq_true', decide_eq_false_iff_not, Bool.not_eq_false', decide_eq_true_eq] at *
    first
      | (rw [Gm.can_pos (by unfold Gm.May; omega)]; rfl)
      | (rw [Gm.can_neg (by unfold Gm.May; omega)]; rfl)

theorem rcan_ok (G B I : Int) (w : World) : Calls Tryz.prog 115 #[geomV G B I] w fun e w' => e = .returned (.int .i64 (Gm.can G B I)) ∧ Below w.heap.size w w' := by
  have HB : Below w.heap.size w (w.alloc (geomO G B I)) := (Below.refl _ _).alloc (Nat.le_refl _) _
  go_enter Tryz.func115, Tryz.ntmps115
  go_wp2
  all_goals
    go_ret
    refine ⟨?_, HB⟩
    first
      | (rw [Gm.can_pos (by unfold Gm.May; omega)]; rfl)
      | (rw [Gm.can_neg (by unfold Gm.May; omega)]; rfl)

/-- What a geometry that may be keeps to. -/
theorem Gm.May.all {G B I : Int} (h : Gm.May G B I) : (1 ≤ G ∧ G ≤ 8) ∧ (8 ≤ B ∧ B ≤ 256) ∧ (4 ≤ I ∧ I ≤ 64) ∧ I % 4 = 0 ∧ 3 + I / 4 ≤ B := by
  unfold Gm.May at h; omega
theorem mul_le' {a b m n : Int} (h0 : 0 ≤ a) (h1 : a ≤ m) (h2 : 0 ≤ b) (h3 : b ≤ n) : 0 ≤ a * b ∧ a * b ≤ m * n :=
  ⟨Int.mul_nonneg h0 h2, Int.mul_le_mul h1 h3 h2 (by omega)⟩
theorem can_may {G B I : Int} (h : Gm.May G B I) (w : World) : Calls Tryz.prog 54 #[geomV G B I] w fun e w' => e = .returned (.int .i64 0) ∧ Below w.heap.size w w' := by
  have := can_ok G B I w
  rwa [Gm.can, if_pos h] at this
theorem can_not {G B I : Int} (h : ¬ Gm.May G B I) (w : World) : Calls Tryz.prog 54 #[geomV G B I] w fun e w' => e = .returned (.int .i64 170) ∧ Below w.heap.size w w' := by
  have := can_ok G B I w
  rwa [Gm.can, if_neg h] at this
theorem rcan_may {G B I : Int} (h : Gm.May G B I) (w : World) : Calls Tryz.prog 115 #[geomV G B I] w fun e w' => e = .returned (.int .i64 0) ∧ Below w.heap.size w w' := by
  have := rcan_ok G B I w
  rwa [Gm.can, if_pos h] at this
theorem rcan_not {G B I : Int} (h : ¬ Gm.May G B I) (w : World) : Calls Tryz.prog 115 #[geomV G B I] w fun e w' => e = .returned (.int .i64 170) ∧ Below w.heap.size w w' := by
  have := rcan_ok G B I w
  rwa [Gm.can, if_neg h] at this
def Gm.num (G B I each : Int) : Int := if Gm.May G B I then G * each else 0
theorem Gm.num_pos {G B I : Int} (h : Gm.May G B I) (k : Int) : Gm.num G B I k = G * k := if_pos h
theorem Gm.num_neg {G B I : Int} (h : ¬ Gm.May G B I) (k : Int) : Gm.num G B I k = 0 := if_neg h
theorem box_cells (w : World) (G B I : Int) : (w.alloc (geomO G B I)).cell? ⟨w.heap.size, 0, none⟩ = some (.int .i64 G) ∧ (w.alloc (geomO G B I)).cell? ⟨w.heap.size, 1, none⟩ = some (.int .i64 B) ∧ (w.alloc (geomO G B I)).cell? ⟨w.heap.size, 2, none⟩ = some (.int .i64 I) :=
  box_ok (Below.refl _ (w.alloc (geomO G B I)))

theorem inAll_ok (G B I k : Int) (w : World) (hk : Gm.May G B I → 0 ≤ k ∧ k ≤ 256) : Calls Tryz.prog 107 #[geomV G B I, .int .i64 k] w fun e w' => e = .returned (.int .i64 (Gm.num G B I k)) ∧ Below w.heap.size w w' := by
  have HB : Below w.heap.size w (w.alloc (geomO G B I)) := (Below.refl _ _).alloc (Nat.le_refl _) _
  obtain ⟨c0, c1, c2⟩ := box_cells w G B I
  by_cases h : Gm.May G B I
  · rw [Gm.num_pos h]
    obtain ⟨hG, hB, hI, h4, h3⟩ := h.all
    have hp := mul_le' (a := G) (b := k) (m := 8) (n := 256) (by omega) (by omega) (hk h).1 (hk h).2
    go_enter Tryz.func107, Tryz.ntmps107
    go_wp2_with (first | (go_at_call 54; refine grew_at (can_may h _) ?_; intro wn hbn; have HB := grew_trans HB hbn; have c0 := cell_kept c0 hbn))
    go_ret
    exact ⟨rfl, HB⟩
  · rw [Gm.num_neg h]
    go_enter Tryz.func107, Tryz.ntmps107
    go_wp2_with (first | (go_at_call 54; refine grew_at (can_not h _) ?_; intro wn hbn; have HB := grew_trans HB hbn))
    go_ret
    exact ⟨rfl, HB⟩

theorem blocks_ok (G B I : Int) (w : World) : Calls Tryz.prog 49 #[geomV G B I] w fun e w' => e = .returned (.int .i64 (Gm.num G B I B)) ∧ Below w.heap.size w w' := by
  have HB : Below w.heap.size w (w.alloc (geomO G B I)) := (Below.refl _ _).alloc (Nat.le_refl _) _
  go_enter Tryz.func49, Tryz.ntmps49
  go_wp2_with (first | (go_at_call 107; refine grew_at (inAll_ok _ _ _ _ _ (fun h => by have := h.all; omega)) ?_; intro wn hbn; have HB := grew_trans HB hbn))
  go_ret
  exact ⟨rfl, HB⟩

theorem inodes_ok (G B I : Int) (w : World) : Calls Tryz.prog 100 #[geomV G B I] w fun e w' => e = .returned (.int .i64 (Gm.num G B I I)) ∧ Below w.heap.size w w' := by
  have HB : Below w.heap.size w (w.alloc (geomO G B I)) := (Below.refl _ _).alloc (Nat.le_refl _) _
  go_enter Tryz.func100, Tryz.ntmps100
  go_wp2_with (first | (go_at_call 107; refine grew_at (inAll_ok _ _ _ _ _ (fun h => by have := h.all; omega)) ?_; intro wn hbn; have HB := grew_trans HB hbn))
  go_ret
  exact ⟨rfl, HB⟩

end Go.Proofs.YtomkhipdcjnkhaaGreat.Mk

/- Where groups, inodes and blocks lie, by geom and by the document. -/
namespace Go.Proofs.YtomkhipdcjnkhaaGreat.Mk
open Go.RowKit
set_option maxRecDepth 100000

def Gm.In (G B I n : Int) : Prop := Gm.May G B I ∧ 0 ≤ n ∧ n < G
instance (G B I n : Int) : Decidable (Gm.In G B I n) := by unfold Gm.In; infer_instance
theorem Gm.In.bd {G B I n : Int} (h : Gm.In G B I n) : 0 ≤ n * B ∧ n * B ≤ 1792 := by
  have := h.1.all
  have h2 := h.2
  have := mul_le' (a := n) (b := B) (m := 7) (n := 256) (by omega) (by omega) (by omega) (by omega)
  omega

theorem super_in {G B I n : Int} (h : Gm.In G B I n) (w : World) : Calls Tryz.prog 124 #[geomV G B I, .int .i64 n] w fun e w' => e = .returned (.tuple #[.int .i64 (n * B), .bool true]) ∧ Below w.heap.size w w' := by
  have HB : Below w.heap.size w (w.alloc (geomO G B I)) := (Below.refl _ _).alloc (Nat.le_refl _) _
  obtain ⟨c0, c1, c2⟩ := box_cells w G B I
  have hp := h.bd
  obtain ⟨h, hn0, hn1⟩ := h
  go_enter Tryz.func124, Tryz.ntmps124
  go_wp2_with (first | (go_at_call 54; refine grew_at (can_may h _) ?_; intro wn hbn; have HB := grew_trans HB hbn; have c0 := cell_kept c0 hbn; have c1 := cell_kept c1 hbn; have c2 := cell_kept c2 hbn))
  go_ret2
  exact ⟨rfl, HB⟩
theorem super_out {G B I n : Int} (hn : ¬ Gm.In G B I n) (w : World) : Calls Tryz.prog 124 #[geomV G B I, .int .i64 n] w fun e w' => e = .returned (.tuple #[.int .i64 0, .bool false]) ∧ Below w.heap.size w w' := by
  have HB : Below w.heap.size w (w.alloc (geomO G B I)) := (Below.refl _ _).alloc (Nat.le_refl _) _
  obtain ⟨c0, c1, c2⟩ := box_cells w G B I
  by_cases h : Gm.May G B I
  · have hn' : n < 0 ∨ G ≤ n := by unfold Gm.In at hn; by_cases h1 : n < 0 <;> by_cases h2 : G ≤ n <;> first | omega | exact absurd ⟨h, by omega, by omega⟩ hn
    go_enter Tryz.func124, Tryz.ntmps124
    go_wp2_with (first | (go_at_call 54; refine grew_at (can_may h _) ?_; intro wn hbn; have HB := grew_trans HB hbn; have c0 := cell_kept c0 hbn; have c1 := cell_kept c1 hbn; have c2 := cell_kept c2 hbn))
    all_goals first | omega | skip
    all_goals
      go_ret2
      exact ⟨rfl, HB⟩
  · go_enter Tryz.func124, Tryz.ntmps124
    go_wp2_with (first | (go_at_call 54; refine grew_at (can_not h _) ?_; intro wn hbn; have HB := grew_trans HB hbn))
    go_ret2
    exact ⟨rfl, HB⟩

theorem header_in {G B I n : Int} (h : Gm.In G B I n) (w : World) : Calls Tryz.prog 59 #[geomV G B I, .int .i64 n] w fun e w' => e = .returned (.tuple #[.int .i64 (n * B + 1), .bool true]) ∧ Below w.heap.size w w' := by
  have HB : Below w.heap.size w (w.alloc (geomO G B I)) := (Below.refl _ _).alloc (Nat.le_refl _) _
  obtain ⟨c0, c1, c2⟩ := box_cells w G B I
  have hp := h.bd
  go_enter Tryz.func59, Tryz.ntmps59
  go_wp2_with (first | (go_at_call 124; refine grew_at (super_in h _) ?_; intro wn hbn; have HB := grew_trans HB hbn; have c0 := cell_kept c0 hbn; have c1 := cell_kept c1 hbn; have c2 := cell_kept c2 hbn))
  go_ret2
  exact ⟨rfl, HB⟩
theorem header_out {G B I n : Int} (h : ¬ Gm.In G B I n) (w : World) : Calls Tryz.prog 59 #[geomV G B I, .int .i64 n] w fun e w' => e = .returned (.tuple #[.int .i64 0, .bool false]) ∧ Below w.heap.size w w' := by
  have HB : Below w.heap.size w (w.alloc (geomO G B I)) := (Below.refl _ _).alloc (Nat.le_refl _) _
  obtain ⟨c0, c1, c2⟩ := box_cells w G B I
  go_enter Tryz.func59, Tryz.ntmps59
  go_wp2_with (first | (go_at_call 124; refine grew_at (super_out h _) ?_; intro wn hbn; have HB := grew_trans HB hbn; have c0 := cell_kept c0 hbn; have c1 := cell_kept c1 hbn; have c2 := cell_kept c2 hbn))
  go_ret2
  exact ⟨rfl, HB⟩

theorem dataPlace_may {G B I : Int} (h : Gm.May G B I) (w : World) : Calls Tryz.prog 205 #[geomV G B I] w fun e w' => e = .returned (.int .i64 (2 + I / 4)) ∧ Below w.heap.size w w' :=
  (dataPlace_any G B I w).mono (by rintro e w' ⟨⟨v, rfl, hv⟩, hb⟩; exact ⟨by rw [hv (by have := h.all; omega)], hb⟩)
theorem dataBlocks_may {G B I : Int} (h : Gm.May G B I) (w : World) : Calls Tryz.prog 114 #[geomV G B I] w fun e w' => e = .returned (.int .i64 (B - (2 + I / 4))) ∧ Below w.heap.size w w' :=
  (dataBlocks_any G B I w).mono (by rintro e w' ⟨⟨v, rfl, hv⟩, hb⟩; exact ⟨by rw [hv (by have := h.all; omega)], hb⟩)

theorem data_in {G B I n : Int} (h : Gm.In G B I n) (w : World) : Calls Tryz.prog 242 #[geomV G B I, .int .i64 n] w fun e w' => e = .returned (.tuple #[.int .i64 (n * B + (2 + I / 4)), .int .i64 (B - (2 + I / 4)), .bool true]) ∧ Below w.heap.size w w' := by
  have HB : Below w.heap.size w (w.alloc (geomO G B I)) := (Below.refl _ _).alloc (Nat.le_refl _) _
  obtain ⟨c0, c1, c2⟩ := box_cells w G B I
  have hp := h.bd
  have hm := h.1.all
  go_enter Tryz.func242, Tryz.ntmps242
  go_wp2_with (first | (go_at_call 124; refine grew_at (super_in h _) ?_; intro wn hbn; have HB := grew_trans HB hbn; have c0 := cell_kept c0 hbn; have c1 := cell_kept c1 hbn; have c2 := cell_kept c2 hbn))
  have HB := HB.drew
  go_region_held3 (fun w' => w'.cell? ⟨w.heap.size, 0, none⟩ = some (.int .i64 G) ∧ w'.cell? ⟨w.heap.size, 1, none⟩ = some (.int .i64 B) ∧ w'.cell? ⟨w.heap.size, 2, none⟩ = some (.int .i64 I)) (first | exact ⟨c0, c1, c2⟩ | exact cc | exact cc')
    (first
      | (go_at_call 205; refine grew_at (dataPlace_may h.1 _) ?_; intro w1 hb1; have cc := Box.kept (w := wn.drew) ⟨c0, c1, c2⟩ hb1)
      | (go_at_call 114; refine grew_at (dataBlocks_may h.1 _) ?_; intro w2 hb2; have HB := grew_trans (grew_trans HB hb1) hb2; have cc' := Box.kept cc hb2))
  go_wp2
  go_ret3
  refine ⟨?_, HB⟩
  have e2 : IntKind.i64.wrap (n * B + (2 + I / 4)) = n * B + (2 + I / 4) := by rw [IntKind.wrap_i64]; omega
  show Ending.returned (.tuple #[.int .i64 (IntKind.i64.wrap (n * B + (2 + I / 4))), .int .i64 (B - (2 + I / 4)), .bool true]) = _
  rw [e2]
theorem data_out {G B I n : Int} (h : ¬ Gm.In G B I n) (w : World) : Calls Tryz.prog 242 #[geomV G B I, .int .i64 n] w fun e w' => e = .returned (.tuple #[.int .i64 0, .int .i64 0, .bool false]) ∧ Below w.heap.size w w' := by
  have HB : Below w.heap.size w (w.alloc (geomO G B I)) := (Below.refl _ _).alloc (Nat.le_refl _) _
  obtain ⟨c0, c1, c2⟩ := box_cells w G B I
  go_enter Tryz.func242, Tryz.ntmps242
  go_wp2_with (first | (go_at_call 124; refine grew_at (super_out h _) ?_; intro wn hbn; have HB := grew_trans HB hbn; have c0 := cell_kept c0 hbn; have c1 := cell_kept c1 hbn; have c2 := cell_kept c2 hbn))
  go_ret3
  exact ⟨rfl, HB⟩
theorem tdiv_wrap {n k : Int} (h0 : 0 ≤ n) (h1 : n < 2048) (hk : 1 ≤ k) : wrap64 (n.tdiv k) = n / k := by
  rw [Int.tdiv_eq_ediv_of_nonneg h0]
  have h2 := Int.ediv_nonneg h0 (show 0 ≤ k by omega)
  have h3 := Int.ediv_le_self (b := k) (a := n) h0
  unfold wrap64
  omega
theorem split_in {n a k : Int} (h0 : 0 ≤ n) (h1 : n < a) (hk : 1 ≤ k) (hn : n < 2048) (w : World) : Calls Tryz.prog 327 #[.int .i64 n, .int .i64 a, .int .i64 k] w fun e w' => e = .returned (.tuple #[.int .i64 (n / k), .int .i64 (n % k), .bool true]) ∧ Below w.heap.size w w' := by
  have hk0 : k ≠ 0 := by omega
  go_enter Tryz.func327, Tryz.ntmps327
  go_wp2_with fail
  go_quiet (fail)
  go_wp2
  go_ret3
  refine ⟨?_, below_drewN (Below.refl _ _) _⟩
  rw [← tdiv_wrap h0 hn hk]; rfl
theorem split_out {n a k : Int} (h : n < 0 ∨ a ≤ n) (w : World) : Calls Tryz.prog 327 #[.int .i64 n, .int .i64 a, .int .i64 k] w fun e w' => e = .returned (.tuple #[.int .i64 0, .int .i64 0, .bool false]) ∧ Below w.heap.size w w' := by
  by_cases h1 : n < 0
  · go_enter Tryz.func327, Tryz.ntmps327
    go_wp2_with fail
    go_ret3
    exact ⟨rfl, Below.refl _ _⟩
  · have h2 : a ≤ n := by omega
    go_enter Tryz.func327, Tryz.ntmps327
    go_wp2_with fail
    go_ret3
    exact ⟨rfl, Below.refl _ _⟩

def Gm.Of (G B I k n : Int) : Prop := Gm.May G B I ∧ 0 ≤ n ∧ n < G * k
instance (G B I k n : Int) : Decidable (Gm.Of G B I k n) := by unfold Gm.Of; infer_instance
theorem Gm.Of.bd {G B I k n : Int} (h : Gm.Of G B I k n) (hk : 1 ≤ k) (hk2 : k ≤ 256) : 0 ≤ n / k ∧ n / k < G ∧ 0 ≤ n % k ∧ n % k < k ∧ 0 ≤ n ∧ n < 2048 := by
  obtain ⟨hm, h0, h1⟩ := h
  have := hm.all
  have hp := mul_le' (a := G) (b := k) (m := 8) (n := 256) (by omega) (by omega) (by omega) hk2
  exact ⟨Int.ediv_nonneg h0 (by omega), Int.ediv_lt_of_lt_mul (by omega) h1, Int.emod_nonneg _ (by omega), Int.emod_lt_of_pos _ (by omega), h0, by omega⟩
theorem Gm.num_out {G B I k n : Int} (h : ¬ Gm.Of G B I k n) : n < 0 ∨ Gm.num G B I k ≤ n := by
  by_cases hm : Gm.May G B I
  · rw [Gm.num_pos hm]
    by_cases h1 : n < 0
    · exact .inl h1
    · right
      by_cases h2 : G * k ≤ n
      · exact h2
      · exact absurd ⟨hm, by omega, by omega⟩ h
  · rw [Gm.num_neg hm]; omega

theorem owner_in {G B I n : Int} (h : Gm.Of G B I I n) (w : World) : Calls Tryz.prog 239 #[geomV G B I, .int .i64 n] w fun e w' => e = .returned (.tuple #[.int .i64 (n / I), .int .i64 (n % I), .bool true]) ∧ Below w.heap.size w w' := by
  have HB : Below w.heap.size w (w.alloc (geomO G B I)) := (Below.refl _ _).alloc (Nat.le_refl _) _
  obtain ⟨c0, c1, c2⟩ := box_cells w G B I
  have hm := h.1.all
  go_enter Tryz.func239, Tryz.ntmps239
  go_wp2_with fail
  generalize w.alloc (geomO G B I) = w0 at *
  have HB := HB.drew
  go_region_held3 (fun w' => w'.cell? ⟨w.heap.size, 0, none⟩ = some (.int .i64 G) ∧ w'.cell? ⟨w.heap.size, 1, none⟩ = some (.int .i64 B) ∧ w'.cell? ⟨w.heap.size, 2, none⟩ = some (.int .i64 I)) (first | exact ⟨c0, c1, c2⟩ | exact cc | exact cc')
    (first
      | (go_at_call 100; refine grew_at (inodes_ok _ _ _ _) ?_; intro w1 hb1; have cc := Box.kept (w := w0.drew) ⟨c0, c1, c2⟩ hb1)
      | (go_at_call 327; refine grew_at (split_in h.2.1 (by rw [Gm.num_pos h.1]; exact h.2.2) (by omega) (h.bd (by omega) (by omega)).2.2.2.2.2 _) ?_; intro w2 hb2; have HB := grew_trans (grew_trans HB hb1) hb2; have cc' := Box.kept cc hb2))
  go_wp2
  go_ret3
  exact ⟨rfl, HB⟩
theorem owner_out {G B I n : Int} (h : ¬ Gm.Of G B I I n) (w : World) : Calls Tryz.prog 239 #[geomV G B I, .int .i64 n] w fun e w' => e = .returned (.tuple #[.int .i64 0, .int .i64 0, .bool false]) ∧ Below w.heap.size w w' := by
  have HB : Below w.heap.size w (w.alloc (geomO G B I)) := (Below.refl _ _).alloc (Nat.le_refl _) _
  obtain ⟨c0, c1, c2⟩ := box_cells w G B I
  go_enter Tryz.func239, Tryz.ntmps239
  go_wp2_with fail
  generalize w.alloc (geomO G B I) = w0 at *
  have HB := HB.drew
  go_region_held3 (fun w' => w'.cell? ⟨w.heap.size, 0, none⟩ = some (.int .i64 G) ∧ w'.cell? ⟨w.heap.size, 1, none⟩ = some (.int .i64 B) ∧ w'.cell? ⟨w.heap.size, 2, none⟩ = some (.int .i64 I)) (first | exact ⟨c0, c1, c2⟩ | exact cc | exact cc')
    (first
      | (go_at_call 100; refine grew_at (inodes_ok _ _ _ _) ?_; intro w1 hb1; have cc := Box.kept (w := w0.drew) ⟨c0, c1, c2⟩ hb1)
      | (go_at_call 327; refine grew_at (split_out (Gm.num_out h) _) ?_; intro w2 hb2; have HB := grew_trans (grew_trans HB hb1) hb2; have cc' := Box.kept cc hb2))
  go_wp2
  go_ret3
  exact ⟨rfl, HB⟩

theorem group_in {G B I n : Int} (h : Gm.Of G B I B n) (w : World) : Calls Tryz.prog 238 #[geomV G B I, .int .i64 n] w fun e w' => e = .returned (.tuple #[.int .i64 (n / B), .int .i64 (n % B), .bool true]) ∧ Below w.heap.size w w' := by
  have HB : Below w.heap.size w (w.alloc (geomO G B I)) := (Below.refl _ _).alloc (Nat.le_refl _) _
  obtain ⟨c0, c1, c2⟩ := box_cells w G B I
  have hm := h.1.all
  go_enter Tryz.func238, Tryz.ntmps238
  go_wp2_with fail
  generalize w.alloc (geomO G B I) = w0 at *
  have HB := HB.drew
  go_region_held3 (fun w' => w'.cell? ⟨w.heap.size, 0, none⟩ = some (.int .i64 G) ∧ w'.cell? ⟨w.heap.size, 1, none⟩ = some (.int .i64 B) ∧ w'.cell? ⟨w.heap.size, 2, none⟩ = some (.int .i64 I)) (first | exact ⟨c0, c1, c2⟩ | exact cc | exact cc')
    (first
      | (go_at_call 49; refine grew_at (blocks_ok _ _ _ _) ?_; intro w1 hb1; have cc := Box.kept (w := w0.drew) ⟨c0, c1, c2⟩ hb1)
      | (go_at_call 327; refine grew_at (split_in h.2.1 (by rw [Gm.num_pos h.1]; exact h.2.2) (by omega) (h.bd (by omega) (by omega)).2.2.2.2.2 _) ?_; intro w2 hb2; have HB := grew_trans (grew_trans HB hb1) hb2; have cc' := Box.kept cc hb2))
  go_wp2
  go_ret3
  exact ⟨rfl, HB⟩
theorem group_out {G B I n : Int} (h : ¬ Gm.Of G B I B n) (w : World) : Calls Tryz.prog 238 #[geomV G B I, .int .i64 n] w fun e w' => e = .returned (.tuple #[.int .i64 0, .int .i64 0, .bool false]) ∧ Below w.heap.size w w' := by
  have HB : Below w.heap.size w (w.alloc (geomO G B I)) := (Below.refl _ _).alloc (Nat.le_refl _) _
  obtain ⟨c0, c1, c2⟩ := box_cells w G B I
  go_enter Tryz.func238, Tryz.ntmps238
  go_wp2_with fail
  generalize w.alloc (geomO G B I) = w0 at *
  have HB := HB.drew
  go_region_held3 (fun w' => w'.cell? ⟨w.heap.size, 0, none⟩ = some (.int .i64 G) ∧ w'.cell? ⟨w.heap.size, 1, none⟩ = some (.int .i64 B) ∧ w'.cell? ⟨w.heap.size, 2, none⟩ = some (.int .i64 I)) (first | exact ⟨c0, c1, c2⟩ | exact cc | exact cc')
    (first
      | (go_at_call 49; refine grew_at (blocks_ok _ _ _ _) ?_; intro w1 hb1; have cc := Box.kept (w := w0.drew) ⟨c0, c1, c2⟩ hb1)
      | (go_at_call 327; refine grew_at (split_out (Gm.num_out h) _) ?_; intro w2 hb2; have HB := grew_trans (grew_trans HB hb1) hb2; have cc' := Box.kept cc hb2))
  go_wp2
  go_ret3
  exact ⟨rfl, HB⟩

end Go.Proofs.YtomkhipdcjnkhaaGreat.Mk

/- Where an inode lies, and which blocks are of data, by geom and by the document. -/
namespace Go.Proofs.YtomkhipdcjnkhaaGreat.Mk
open Go.RowKit
set_option maxRecDepth 100000

theorem Gm.Of.at {G B I n : Int} (h : Gm.Of G B I I n) : 0 ≤ n / I * B ∧ n / I * B ≤ 1792 ∧ 0 ≤ n / I ∧ n / I < G ∧ 0 ≤ n % I ∧ n % I < I := by
  have hm := h.1.all
  have hb := h.bd (by omega) (by omega)
  have := mul_le' (a := n / I) (b := B) (m := 7) (n := 256) (by omega) (by omega) (by omega) (by omega)
  omega

theorem inode_in {G B I n : Int} (h : Gm.Of G B I I n) (w : World) : Calls Tryz.prog 169 #[geomV G B I, .int .i64 n] w fun e w' => e = .returned (.tuple #[.int .i64 (n / I * B + 2 + n % I / 4), .int .i64 (n % I % 4 * 32), .bool true]) ∧ Below w.heap.size w w' := by
  have HB : Below w.heap.size w (w.alloc (geomO G B I)) := (Below.refl _ _).alloc (Nat.le_refl _) _
  obtain ⟨c0, c1, c2⟩ := box_cells w G B I
  have hm := h.1.all
  have hb := h.at
  generalize hq : n / I = q at *
  generalize hr : n % I = r at *
  have ho := fun w => owner_in h w
  rw [hq, hr] at ho
  clear hq hr
  go_enter Tryz.func169, Tryz.ntmps169
  go_wp2_with (first | (go_at_call 239; refine grew_at (ho _) ?_; intro wn hbn; have HB := grew_trans HB hbn; have c0 := cell_kept c0 hbn; have c1 := cell_kept c1 hbn; have c2 := cell_kept c2 hbn))
  go_ret3
  exact ⟨rfl, HB⟩
theorem inode_out {G B I n : Int} (h : ¬ Gm.Of G B I I n) (w : World) : Calls Tryz.prog 169 #[geomV G B I, .int .i64 n] w fun e w' => e = .returned (.tuple #[.int .i64 0, .int .i64 0, .bool false]) ∧ Below w.heap.size w w' := by
  have HB : Below w.heap.size w (w.alloc (geomO G B I)) := (Below.refl _ _).alloc (Nat.le_refl _) _
  obtain ⟨c0, c1, c2⟩ := box_cells w G B I
  go_enter Tryz.func169, Tryz.ntmps169
  go_wp2_with (first | (go_at_call 239; refine grew_at (owner_out h _) ?_; intro wn hbn; have HB := grew_trans HB hbn; have c0 := cell_kept c0 hbn; have c1 := cell_kept c1 hbn; have c2 := cell_kept c2 hbn))
  go_ret3
  exact ⟨rfl, HB⟩

end Go.Proofs.YtomkhipdcjnkhaaGreat.Mk

/- mkfs: the first bits of a row set, in a header that is being made. -/
namespace Go.Proofs.YtomkhipdcjnkhaaGreat.Mk
open Go.RowKit
set_option maxRecDepth 100000
set_option linter.unusedVariables false
set_option maxRecDepth 100000

/-- Only blocks of X have turned. -/
structure Fr (X : Nat → Prop) (w w' : World) : Prop where
  os : w'.os = w.os
  tape : w'.tape = w.tape
  output : w'.output = w.output
  size : w.heap.size ≤ w'.heap.size
  block : ∀ k, k < w.heap.size → ¬ X k → w'.heap[k]? = w.heap[k]?
theorem Fr.refl (X : Nat → Prop) (w : World) : Fr X w w := ⟨rfl, rfl, rfl, Nat.le_refl _, fun _ _ _ => rfl⟩
theorem Fr.trans {X : Nat → Prop} {a b c : World} (h : Fr X a b) (k : Fr X b c) : Fr X a c := ⟨k.os.trans h.os, k.tape.trans h.tape, k.output.trans h.output, Nat.le_trans h.size k.size, fun i hi hn => (k.block i (Nat.lt_of_lt_of_le hi h.size) hn).trans (h.block i hi hn)⟩
theorem Fr.below {X : Nat → Prop} {a b : World} (h : Below a.heap.size a b) : Fr X a b := ⟨h.os, h.tape, h.output, h.size, fun i hi _ => h.block i hi⟩
theorem Fr.bel {X : Nat → Prop} {B : Nat} {w a b : World} (hw : Below B w a) (h : Fr X a b) (hB : B ≤ a.heap.size) (hX : ∀ k, X k → B ≤ k) : Below B w b :=
  hw.trans ⟨h.os, h.tape, h.output, h.size, fun k hk => h.block k (by omega) (fun e => by have := hX k e; omega)⟩
theorem Fr.setRow (w : World) (g : Nat) (cs : Array Value) : Fr (fun k => k = g) w (w.setRow g cs) := ⟨rfl, rfl, rfl, by simp, fun k _ hk => setRow_other _ _ _ _ hk⟩

/-- The first bits of a row set. -/
def fb (xs : List Int) : Nat → List Int
  | 0 => xs
  | j + 1 => Bit.put (fb xs j) j true
theorem fb_len (xs : List Int) : ∀ n, (fb xs n).length = xs.length
  | 0 => rfl
  | j + 1 => by rw [fb, Bit.put_len, fb_len xs j]
theorem fb_byt {xs : List Int} (h : Num.Byt xs) : ∀ n, Num.Byt (fb xs n)
  | 0 => h
  | j + 1 => Bit.put_byt (fb_byt h j) _ _

/-- A row of bytes within a block. -/
def mid (pre post : List Value) (xs : List Int) : Array Value := (pre ++ xs.map (Value.int .u8) ++ post).toArray
theorem mid_bi {w : World} {g : Nat} {pre post : List Value} {xs : List Int} {t : TypeId} (h : w.heap[g]? = some (.cells (mid pre post xs) t (0, 0))) (hx : Num.Byt xs) (hl : xs.length ≤ 140737488355328) : BI w (some ⟨g, pre.length, none⟩) xs.length xs := by
  refine ⟨rfl, hl, hx, fun _ => ⟨g, pre.length, rfl, fun i hi => ?_⟩⟩
  refine cell_row h _ _ ?_
  unfold mid
  rw [List.getElem?_toArray, List.append_assoc, List.getElem?_append_right (by omega), List.getElem?_append_left (by simp; omega), List.getElem?_map]
  rw [show pre.length + i - pre.length = i by omega, List.getElem?_eq_getElem hi, List.getD_eq_getElem?_getD, List.getElem?_eq_getElem hi]
  rfl
theorem mid_turn (pre post : List Value) (xs ys : List Int) (h : ys.length = xs.length) : ((mid pre post xs).toList.take pre.length ++ ys.map (Value.int .u8) ++ (mid pre post xs).toList.drop (pre.length + (ys.map (Value.int .u8)).length)).toArray = mid pre post ys := by
  unfold mid
  rw [List.toList_toArray, List.length_map, List.append_assoc pre, List.take_left', List.drop_append]
  · have h1 : (pre.drop (pre.length + ys.length)) = [] := List.drop_of_length_le (by omega)
    rw [h1, List.nil_append, show pre.length + ys.length - pre.length = ys.length by omega, List.drop_append, List.drop_of_length_le (by simp; omega)]
    simp [h]
  · rfl
theorem mid_copy {w : World} {g : Nat} {pre post : List Value} {xs ys : List Int} {t : TypeId} (h : w.heap[g]? = some (.cells (mid pre post xs) t (0, 0))) {a : Addr} {c1 c2 m : Nat} (hb : BI w (some a) m ys) (hm : m = xs.length) (ty : TypeId) :
    (Builtin.copy_ #[38, 38] ty #[.slice (some ⟨g, pre.length, none⟩) m c1, .slice (some a) m c2]).run Tryz.prog w = .ok (.int .i64 (m : Int)) (w.setRow g (mid pre post ys)) := by
  have hl := hb.len
  have := run_copy_row (P := Tryz.prog) w 38 38 ty 5 g pre.length m c1 a m c2 (mid pre post xs) t (ys.map (Value.int .u8)) Tryz.underlying38 size5 h (by rw [List.length_map, hl]; exact (Nat.min_self m).symm) hb.src' (by rw [List.length_map, hl]; simp [mid]; omega) (one_cells _)
  rw [this, mid_turn pre post xs ys (by omega)]
  simp [goInt, hl]

end Go.Proofs.YtomkhipdcjnkhaaGreat.Mk

/- mkfs: a new header. -/
namespace Go.Proofs.YtomkhipdcjnkhaaGreat.Mk
open Go.RowKit
set_option maxRecDepth 100000
set_option linter.unusedVariables false
set_option maxRecDepth 100000

/-- Which inodes, which blocks of a new group are allocated. -/
def hdI (n : Nat) : List Int := if n = 0 then fb (zers 8) 3 else zers 8
def hdB (i n : Nat) : List Int := fb (zers 32) (2 + i / 4 + if n = 0 then 1 else 0)
def hdY (i n : Nat) : List Int := hdI n ++ hdB i n
theorem hdI_len (n : Nat) : (hdI n).length = 8 := by unfold hdI; split <;> simp [fb_len, zers]
theorem hdB_len (i n : Nat) : (hdB i n).length = 32 := by unfold hdB; simp [fb_len, zers]
theorem hdY_len (i n : Nat) : (hdY i n).length = 40 := by unfold hdY; simp [hdI_len, hdB_len]
theorem hdI_byt (n : Nat) : Num.Byt (hdI n) := by unfold hdI; split <;> first | exact fb_byt (zers_byt 8) 3 | exact zers_byt 8
theorem hdB_byt (i n : Nat) : Num.Byt (hdB i n) := fb_byt (zers_byt 32) _
theorem hdY_byt (i n : Nat) : Num.Byt (hdY i n) := byt_append (hdI_byt n) (hdB_byt i n)
theorem group_midI (N : Int) (xs ys : List Int) : groupA N (xs ++ ys) = mid [.int .i64 N] (ys.map (Value.int .u8)) xs := by unfold groupA mid; simp
theorem group_midB (N : Int) (xs ys : List Int) : groupA N (xs ++ ys) = mid (.int .i64 N :: xs.map (Value.int .u8)) [] ys := by unfold groupA mid; simp
theorem info23 : (Tryz.prog.info? 34).map (·.size) = some 3 := by kernel_rfl
theorem zers_cut : zers 40 = zers 8 ++ zers 32 := by decide
theorem of_data {g b i n : Nat} (h : Gm.In (g : Int) (b : Int) (i : Int) (n : Int)) : Gm.Of (g : Int) (b : Int) (i : Int) (b : Int) ((n : Int) * (b : Int) + (2 + (i : Int) / 4)) ∧ ((n : Int) * (b : Int) + (2 + (i : Int) / 4)) / (b : Int) = (n : Int) ∧ ((n : Int) * (b : Int) + (2 + (i : Int) / 4)) % (b : Int) = ((2 + i / 4 : Nat) : Int) := by
  have hm := h.1.all
  have h2 := h.2
  have hk : (2 + (i : Int) / 4) < (b : Int) := by omega
  have hk0 : 0 ≤ (2 + (i : Int) / 4) := by omega
  have hb : (b : Int) ≠ 0 := by omega
  refine ⟨?_, ?_, ?_⟩
  · refine ⟨h.1, ?_, ?_⟩
    · have : 0 ≤ (n : Int) * (b : Int) := by exact_mod_cast Nat.zero_le _
      omega
    · have h3 : (n : Int) + 1 ≤ (g : Int) := by omega
      have h4 : ((n : Int) + 1) * (b : Int) ≤ (g : Int) * (b : Int) := Int.mul_le_mul_of_nonneg_right h3 (by omega)
      rw [Int.add_mul] at h4
      omega
  · rw [Int.add_comm, Int.add_mul_ediv_right _ _ hb, Int.ediv_eq_zero_of_lt hk0 hk]
    omega
  · rw [Int.add_comm, Int.add_mul_emod_self_right, Int.emod_eq_of_lt hk0 hk]
    omega

end Go.Proofs.YtomkhipdcjnkhaaGreat.Mk

/- mkfs: an image while it is made; noughts. -/
namespace Go.Proofs.YtomkhipdcjnkhaaGreat.Mk
open Go.RowKit
set_option maxRecDepth 100000
set_option linter.unusedVariables false
set_option maxRecDepth 100000

def aZ : Array Value := ((zers 128).map (Value.int .u8)).toArray
/-- A list of blocks that is being made: it stands in block A, all of it from B on; its third block is noughts in a block of its own. -/
structure PIm (B : Nat) (w : World) (A n g2 : Nat) (L : Nat → List Int) : Prop where
  hA : B ≤ A
  row : ∃ cs : Array Value, w.heap[A]? = some (.cells cs 38 (0, 0)) ∧ n ≤ cs.size ∧ (∀ k, k < n → ∃ g o c, cs[k]? = some (.slice (some ⟨g, o, none⟩) 128 c) ∧ B ≤ g ∧ g ≠ A ∧ (k ≠ 2 → g ≠ g2) ∧ BI w (some ⟨g, o, none⟩) 128 (L k)) ∧ cs[2]? = some (.slice (some ⟨g2, 0, none⟩) 128 128)
  two : w.heap[g2]? = some (.cells aZ 5 (0, 0)) ∧ B ≤ g2 ∧ g2 ≠ A
section
variable {B : Nat} {w w' : World} {A n g2 : Nat} {L L' : Nat → List Int}
theorem PIm.lt (h : PIm B w A n g2 L) : A < w.heap.size ∧ g2 < w.heap.size := by
  obtain ⟨cs, h1, _⟩ := h.row
  exact ⟨(Array.getElem?_eq_some_iff.1 h1).1, (Array.getElem?_eq_some_iff.1 h.two.1).1⟩
theorem PIm.kept (h : PIm B w A n g2 L) (hb : Below w.heap.size w w') : PIm B w' A n g2 L := by
  obtain ⟨cs, h1, h2, h3, h4⟩ := h.row
  refine ⟨h.hA, ⟨cs, (hb.block A h.lt.1).trans h1, h2, fun k hk => ?_, h4⟩, (hb.block g2 h.lt.2).trans h.two.1, h.two.2⟩
  obtain ⟨g, o, c, e1, e2, e3, e4, e5⟩ := h3 k hk
  exact ⟨g, o, c, e1, e2, e3, e4, e5.kept hb⟩
theorem PIm.congr (h : PIm B w A n g2 L) (he : ∀ k, k < n → L' k = L k) : PIm B w A n g2 L' := by
  obtain ⟨cs, h1, h2, h3, h4⟩ := h.row
  refine ⟨h.hA, ⟨cs, h1, h2, fun k hk => ?_, h4⟩, h.two⟩
  rw [he k hk]
  exact h3 k hk
/-- What a block's place in the list has, and that it may be stored to. -/
theorem PIm.spot (h : PIm B w A n g2 L) (k : Nat) (hk : k < n) : ∃ g o c, w.cell? ⟨A, k, none⟩ = some (.slice (some ⟨g, o, none⟩) 128 c) ∧ BI w (some ⟨g, o, none⟩) 128 (L k) ∧ w.frozen? ⟨A, k, none⟩ = false := by
  obtain ⟨cs, h1, h2, h3, h4⟩ := h.row
  obtain ⟨g, o, c, e1, e2, e3, e4, e5⟩ := h3 k hk
  exact ⟨g, o, c, cell_row h1 k _ e1, e5, by simp [World.frozen?, h1]⟩
theorem PIm.third (h : PIm B w A n g2 L) : w.cell? ⟨A, 2, none⟩ = some (.slice (some ⟨g2, 0, none⟩) 128 128) := by
  obtain ⟨cs, h1, h2, h3, h4⟩ := h.row
  exact cell_row h1 2 _ h4
/-- A block put into the list. -/
theorem PIm.set (h : PIm B w A n g2 L) {k : Nat} (hk : k < n) (h2 : k ≠ 2) {g o c : Nat} {xs : List Int} (hg : B ≤ g) (hgA : g ≠ A) (hg2 : g ≠ g2) (hb : BI w (some ⟨g, o, none⟩) 128 xs) :
    PIm B (w.setCell ⟨A, k, none⟩ (.slice (some ⟨g, o, none⟩) 128 c)) A n g2 (fun x => if x = k then xs else L x) := by
  obtain ⟨cs, h1, hn, h3, h4⟩ := h.row
  have so : ∀ b, b ≠ A → (w.setCell ⟨A, k, none⟩ (.slice (some ⟨g, o, none⟩) 128 c)).heap[b]? = w.heap[b]? := fun b hb => Below.heap_setCell _ _ _ _ hb
  refine ⟨h.hA, ⟨_, heap_setCell_same w A k cs 38 _ h1, by simpa using hn, fun x hx => ?_, ?_⟩, (so g2 h.two.2.2).trans h.two.1, h.two.2⟩
  · by_cases hxk : x = k
    · subst hxk
      refine ⟨g, o, c, ?_, hg, hgA, fun _ => hg2, ?_⟩
      · rw [Array.getElem?_setIfInBounds_self_of_lt (by omega)]
      · rw [if_pos rfl]
        exact bi_same hb (fun b o e _ => by cases e; exact so _ hgA)
    · obtain ⟨g', o', c', e1, e2, e3, e4, e5⟩ := h3 x hx
      refine ⟨g', o', c', ?_, e2, e3, e4, ?_⟩
      · rw [Array.getElem?_setIfInBounds_ne (by omega)]; exact e1
      · rw [if_neg hxk]
        exact bi_same e5 (fun b o e _ => by cases e; exact so _ e3)
  · rw [Array.getElem?_setIfInBounds_ne (by omega)]; exact h4
end

theorem own_rowS {w : World} {B g n : Nat} {L : List Value} (h : w.ownsRow B 38 1 (.slice (some ⟨g, 0, none⟩) n n) n L) : w.heap[g]? = some (.cells L.toArray 38 (0, 0)) := by
  rcases h.2 with ⟨h', _⟩ | ⟨g', cap', cur, h', _, hg, _, _, hcs, ht⟩
  · simp at h'
  · simp only [Value.slice.injEq, Option.some.injEq, Addr.mk.injEq, and_true, true_and] at h'
    obtain ⟨rfl, rfl⟩ := h'
    rw [List.take_of_length_le (by simp; omega)] at ht
    subst ht
    simpa using hg
theorem info36S : (Tryz.prog.info? 38).map (fun i => (i.zero, i.size, i.bytes)) = some (some (.slice none 0 0), 1, 24) := by kernel_rfl
theorem info_partsS {t : TypeId} {z : Value} {s b : Nat} (h : (Tryz.prog.info? t).map (fun i => (i.zero, i.size, i.bytes)) = some (some z, s, b)) : ∃ i, Tryz.prog.info? t = some i ∧ i.zero = some z ∧ i.size = s ∧ i.bytes = b := by
  cases hi : Tryz.prog.info? t with
  | none => rw [hi] at h; cases h
  | some i => rw [hi] at h; simp at h; exact ⟨i, rfl, h.1, h.2.1, h.2.2⟩
/-- The list while noughts are put into it. -/
def rowN (gs : Nat → Nat) (n j : Nat) : List Value := (List.range j).map (fun k => Value.slice (some ⟨gs k, 0, none⟩) 128 128) ++ List.replicate (n - j) (Value.slice none 0 0)
theorem rowN_len {gs : Nat → Nat} {n j : Nat} (h : j ≤ n) : (rowN gs n j).length = n := by simp [rowN]; omega
theorem rowN_old {gs : Nat → Nat} {n j k : Nat} (h : k < j) : (rowN gs n j)[k]? = some (.slice (some ⟨gs k, 0, none⟩) 128 128) := by
  unfold rowN
  rw [List.getElem?_append_left (by simpa using h), List.getElem?_map, List.getElem?_range h]
  rfl
theorem rowN_new {gs : Nat → Nat} {n j : Nat} (h : j < n) : (rowN gs n j)[j]? = some (.slice none 0 0) := by
  unfold rowN
  rw [List.getElem?_append_right (by simp), List.getElem?_replicate, if_pos (by simp; omega)]
def gsN (gs : Nat → Nat) (j x : Nat) (k : Nat) : Nat := if k = j then x else gs k
theorem rowN_next {gs : Nat → Nat} {n j x : Nat} (h : j < n) : (rowN gs n j).toArray.setIfInBounds j (.slice (some ⟨x, 0, none⟩) 128 128) = (rowN (gsN gs j x) n (j + 1)).toArray := by
  rw [List.setIfInBounds_toArray]
  congr 1
  unfold rowN
  have e : (List.range j).map (fun k => Value.slice (some ⟨gsN gs j x k, 0, none⟩) 128 128) = (List.range j).map (fun k => Value.slice (some ⟨gs k, 0, none⟩) 128 128) := by
    apply List.map_congr_left
    intro k hk
    have : k < j := List.mem_range.1 hk
    unfold gsN
    rw [if_neg (by omega)]
  rw [List.set_append_right _ _ (by simp), List.length_map, List.length_range, Nat.sub_self, show n - j = (n - (j + 1)) + 1 by omega, List.replicate_succ, List.set_cons_zero, List.range_succ, List.map_append, e, List.append_assoc]
  simp [gsN]
/-- The noughts that were made so far. -/
structure NoI (w wr : World) (A n j : Nat) (gs : Nat → Nat) : Prop where
  row : wr.heap[A]? = some (.cells (rowN gs n j).toArray 38 (0, 0))
  el : ∀ k, k < j → A < gs k ∧ gs k < wr.heap.size ∧ wr.heap[gs k]? = some (.cells aZ 5 (0, 0))
  ne : ∀ k l, k < j → l < j → k ≠ l → gs k ≠ gs l
  bel : Below w.heap.size w wr
theorem made_zeroS (n : Nat) : (madeCells (Value.slice none 0 0).cells (n * 1)).toList = List.replicate n (Value.slice none 0 0) := by
  refine List.ext_getElem ?_ ?_
  · simp [madeCells]
  · intro i h1 h2
    simp [madeCells, Value.cells, Nat.mod_one]
theorem made_zeroB (n : Nat) : (madeCells (Value.int .u8 0).cells (n * 1)).toList = (zers n).map (Value.int .u8) := by
  refine List.ext_getElem ?_ ?_
  · simp [madeCells, zers]
  · intro i h1 h2
    simp [madeCells, Value.cells, Nat.mod_one, zers]

end Go.Proofs.YtomkhipdcjnkhaaGreat.Mk
