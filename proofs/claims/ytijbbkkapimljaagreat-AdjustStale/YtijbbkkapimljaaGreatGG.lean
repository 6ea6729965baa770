/- What the calls of geom and of the document answer about geometries: each said once for all arguments. -/
import Derived.Test.YtijbbkkapimljaaGreatGL
import Derived.WalkKit
import Derived.WalkSpells
import Derived.WalkLawsBesides
import Derived.BigQuiet
import Derived.Deep.QuietTactic
import Derived.Deep.RegionHeld3
namespace Go.Proofs.YtijbbkkapimljaaGreat.Mk
open Go.RowKit
set_option maxRecDepth 100000

namespace Gm
def can (G B I : Int) : Int := if May G B I then 0 else 170
end Gm

theorem gwithin_ok (n l h : Int) (w : World) : Calls Tryz.prog 123 #[.int .i64 n, .int .i64 l, .int .i64 h] w fun e w' => e = .returned (.bool (decide (l ≤ n ∧ n ≤ h))) ∧ w' = w := by
  go_enter Tryz.func123, Tryz.ntmps123
  go_wp2
  all_goals
    go_ret
    exact ⟨by simp [*]; try omega, rfl⟩

theorem box_at {w w1 : World} {o : Obj} (hb : Below (w.alloc o).heap.size (w.alloc o) w1) : w1.heap[w.heap.size]? = some o := by
  rw [hb.block _ (by rw [size_alloc]; omega), heap_new]
theorem box_below {w w1 : World} {o : Obj} (hb : Below (w.alloc o).heap.size (w.alloc o) w1) : Below w.heap.size w w1 :=
  ((Below.refl _ _).alloc (Nat.le_refl _) _).trans (hb.mono (by rw [size_alloc]; omega))

/-- Block b holds a geometry. -/
def Box (w : World) (b : Nat) (G B I : Int) : Prop := w.cell? ⟨b, 0, none⟩ = some (.int .i64 G) ∧ w.cell? ⟨b, 1, none⟩ = some (.int .i64 B) ∧ w.cell? ⟨b, 2, none⟩ = some (.int .i64 I)
theorem box_ok {w w1 : World} {G B I : Int} (hb : Below (w.alloc (geomO G B I)).heap.size (w.alloc (geomO G B I)) w1) : Box w1 w.heap.size G B I := by
  have := box_at hb
  refine ⟨?_, ?_, ?_⟩ <;> simp [World.cell?, this]
theorem Box.kept {w w1 : World} {b : Nat} {G B I : Int} (h : Box w b G B I) (hb : Below w.heap.size w w1) : Box w1 b G B I := by
  have hlt := lt_of_cell h.1
  refine ⟨?_, ?_, ?_⟩
  · rw [hb.cell (p := ⟨b, 0, none⟩) hlt]; exact h.1
  · rw [hb.cell (p := ⟨b, 1, none⟩) hlt]; exact h.2.1
  · rw [hb.cell (p := ⟨b, 2, none⟩) hlt]; exact h.2.2

theorem dataPlace_any (G B I : Int) (w : World) : Calls Tryz.prog 131 #[geomV G B I] w fun e w' => (∃ v, e = .returned (.int .i64 v) ∧ (4 ≤ I ∧ I ≤ 64 → v = 2 + I / 4)) ∧ Below w.heap.size w w' := by
  go_enter Tryz.func131, Tryz.ntmps131
  go_wp2
  go_ret
  refine ⟨⟨_, rfl, fun h => ?_⟩, (Below.refl _ _).alloc (Nat.le_refl _) _⟩
  have h1 := h.1
  have h2 := h.2
  unfold wrap64
  rw [Int.tdiv_eq_ediv_of_nonneg (by omega)]
  omega
theorem dataBlocks_any (G B I : Int) (w : World) : Calls Tryz.prog 124 #[geomV G B I] w fun e w' => (∃ v, e = .returned (.int .i64 v) ∧ (4 ≤ I ∧ I ≤ 64 ∧ 8 ≤ B ∧ B ≤ 256 → v = B - (2 + I / 4))) ∧ Below w.heap.size w w' := by
  go_enter Tryz.func124, Tryz.ntmps124
  go_wp2_with fail
  have hB := box_ok (Below.refl _ (w.alloc (geomO G B I)))
  have hbe := box_below (Below.refl _ (w.alloc (geomO G B I)))
  have hsz := size_alloc w (geomO G B I)
  generalize w.alloc (geomO G B I) = w0 at *
  obtain ⟨c0, c1, c2⟩ := hB
  go_region_held3 (fun w' => w'.cell? ⟨w.heap.size, 0, none⟩ = some (.int .i64 G) ∧ w'.cell? ⟨w.heap.size, 1, none⟩ = some (.int .i64 B) ∧ w'.cell? ⟨w.heap.size, 2, none⟩ = some (.int .i64 I)) (first | exact ⟨c0, c1, c2⟩ | exact cc) ((go_at_call 131; refine (dataPlace_any _ _ _ _).mono ?_; rintro e w1 ⟨⟨v, rfl, hv⟩, hb1⟩; have cc := Box.kept (w := w0.drew) ⟨c0, c1, c2⟩ hb1))
  go_wp2
  go_ret
  refine ⟨⟨_, rfl, fun h => ?_⟩, hbe.drew.trans (hb1.mono (by show w.heap.size ≤ w0.heap.size; omega))⟩
  rw [hv ⟨h.1, h.2.1⟩, IntKind.wrap_i64]
  omega

theorem Gm.can_pos {G B I : Int} (h : Gm.May G B I) : Gm.can G B I = 0 := if_pos h
theorem Gm.can_neg {G B I : Int} (h : ¬ Gm.May G B I) : Gm.can G B I = 170 := if_neg h
theorem can_ok (G B I : Int) (w : World) : Calls Tryz.prog 72 #[geomV G B I] w fun e w' => e = .returned (.int .i64 (Gm.can G B I)) ∧ Below w.heap.size w w' := by
  have HB : Below w.heap.size w (w.alloc (geomO G B I)) := (Below.refl _ _).alloc (Nat.le_refl _) _
  have HS := size_alloc w (geomO G B I)
  go_enter Tryz.func72, Tryz.ntmps72
  go_wp2_with (first | (go_at_call 123; refine same_at (gwithin_ok _ _ _ _) ?_) | (go_at_call 124; refine (dataBlocks_any _ _ _ _).mono ?_; rintro e w1 ⟨⟨v, rfl, hv⟩, hb1⟩))
  all_goals
    go_ret
    refine ⟨?_, by first | exact HB | exact HB.trans (hb1.mono HB.size)⟩
    try simp only [Bool.not_eq_true', decide_eq_false_iff_not, Bool.not_eq_false', decide_eq_true_eq] at *
    first
      | (rw [Gm.can_pos (by unfold Gm.May; omega)]; rfl)
      | (rw [Gm.can_neg (by unfold Gm.May; omega)]; rfl)

theorem rcan_ok (G B I : Int) (w : World) : Calls Tryz.prog 52 #[geomV G B I] w fun e w' => e = .returned (.int .i64 (Gm.can G B I)) ∧ Below w.heap.size w w' := by
  have HB : Below w.heap.size w (w.alloc (geomO G B I)) := (Below.refl _ _).alloc (Nat.le_refl _) _
  go_enter Tryz.func52, Tryz.ntmps52
  go_wp2
  all_goals
    go_ret
    refine ⟨?_, HB⟩
    first
      | (rw [Gm.can_pos (by unfold Gm.May; omega)]; rfl)
      | (rw [Gm.can_neg (by unfold Gm.May; omega)]; rfl)

/-- What a geometry that may be keeps to. -/
theorem Gm.May.all {G B I : Int} (h : Gm.May G B I) : (1 ≤ G ∧ G ≤ 8) ∧ (8 ≤ B ∧ B ≤ 256) ∧ (4 ≤ I ∧ I ≤ 64) ∧ I % 4 = 0 ∧ 3 + I / 4 ≤ B := by
  unfold Gm.May at h; omega
theorem mul_le' {a b m n : Int} (h0 : 0 ≤ a) (h1 : a ≤ m) (h2 : 0 ≤ b) (h3 : b ≤ n) : 0 ≤ a * b ∧ a * b ≤ m * n :=
  ⟨Int.mul_nonneg h0 h2, Int.mul_le_mul h1 h3 h2 (by omega)⟩
theorem can_may {G B I : Int} (h : Gm.May G B I) (w : World) : Calls Tryz.prog 72 #[geomV G B I] w fun e w' => e = .returned (.int .i64 0) ∧ Below w.heap.size w w' := by
  have := can_ok G B I w
  rwa [Gm.can, if_pos h] at this
theorem can_not {G B I : Int} (h : ¬ Gm.May G B I) (w : World) : Calls Tryz.prog 72 #[geomV G B I] w fun e w' => e = .returned (.int .i64 170) ∧ Below w.heap.size w w' := by
  have := can_ok G B I w
  rwa [Gm.can, if_neg h] at this
theorem rcan_may {G B I : Int} (h : Gm.May G B I) (w : World) : Calls Tryz.prog 52 #[geomV G B I] w fun e w' => e = .returned (.int .i64 0) ∧ Below w.heap.size w w' := by
  have := rcan_ok G B I w
  rwa [Gm.can, if_pos h] at this
theorem rcan_not {G B I : Int} (h : ¬ Gm.May G B I) (w : World) : Calls Tryz.prog 52 #[geomV G B I] w fun e w' => e = .returned (.int .i64 170) ∧ Below w.heap.size w w' := by
  have := rcan_ok G B I w
  rwa [Gm.can, if_neg h] at this
def Gm.num (G B I each : Int) : Int := if Gm.May G B I then G * each else 0
theorem Gm.num_pos {G B I : Int} (h : Gm.May G B I) (k : Int) : Gm.num G B I k = G * k := if_pos h
theorem Gm.num_neg {G B I : Int} (h : ¬ Gm.May G B I) (k : Int) : Gm.num G B I k = 0 := if_neg h
theorem box_cells (w : World) (G B I : Int) : (w.alloc (geomO G B I)).cell? ⟨w.heap.size, 0, none⟩ = some (.int .i64 G) ∧ (w.alloc (geomO G B I)).cell? ⟨w.heap.size, 1, none⟩ = some (.int .i64 B) ∧ (w.alloc (geomO G B I)).cell? ⟨w.heap.size, 2, none⟩ = some (.int .i64 I) :=
  box_ok (Below.refl _ (w.alloc (geomO G B I)))

theorem inAll_ok (G B I k : Int) (w : World) (hk : Gm.May G B I → 0 ≤ k ∧ k ≤ 256) : Calls Tryz.prog 125 #[geomV G B I, .int .i64 k] w fun e w' => e = .returned (.int .i64 (Gm.num G B I k)) ∧ Below w.heap.size w w' := by
  have HB : Below w.heap.size w (w.alloc (geomO G B I)) := (Below.refl _ _).alloc (Nat.le_refl _) _
  obtain ⟨c0, c1, c2⟩ := box_cells w G B I
  by_cases h : Gm.May G B I
  · rw [Gm.num_pos h]
    obtain ⟨hG, hB, hI, h4, h3⟩ := h.all
    have hp := mul_le' (a := G) (b := k) (m := 8) (n := 256) (by omega) (by omega) (hk h).1 (hk h).2
    go_enter Tryz.func125, Tryz.ntmps125
    go_wp2_with (first | (go_at_call 72; refine grew_at (can_may h _) ?_; intro wn hbn; have HB := grew_trans HB hbn; have c0 := cell_kept c0 hbn))
    go_ret
    exact ⟨rfl, HB⟩
  · rw [Gm.num_neg h]
    go_enter Tryz.func125, Tryz.ntmps125
    go_wp2_with (first | (go_at_call 72; refine grew_at (can_not h _) ?_; intro wn hbn; have HB := grew_trans HB hbn))
    go_ret
    exact ⟨rfl, HB⟩

theorem blocks_ok (G B I : Int) (w : World) : Calls Tryz.prog 73 #[geomV G B I] w fun e w' => e = .returned (.int .i64 (Gm.num G B I B)) ∧ Below w.heap.size w w' := by
  have HB : Below w.heap.size w (w.alloc (geomO G B I)) := (Below.refl _ _).alloc (Nat.le_refl _) _
  go_enter Tryz.func73, Tryz.ntmps73
  go_wp2_with (first | (go_at_call 125; refine grew_at (inAll_ok _ _ _ _ _ (fun h => by have := h.all; omega)) ?_; intro wn hbn; have HB := grew_trans HB hbn))
  go_ret
  exact ⟨rfl, HB⟩

theorem inodes_ok (G B I : Int) (w : World) : Calls Tryz.prog 78 #[geomV G B I] w fun e w' => e = .returned (.int .i64 (Gm.num G B I I)) ∧ Below w.heap.size w w' := by
  have HB : Below w.heap.size w (w.alloc (geomO G B I)) := (Below.refl _ _).alloc (Nat.le_refl _) _
  go_enter Tryz.func78, Tryz.ntmps78
  go_wp2_with (first | (go_at_call 125; refine grew_at (inAll_ok _ _ _ _ _ (fun h => by have := h.all; omega)) ?_; intro wn hbn; have HB := grew_trans HB hbn))
  go_ret
  exact ⟨rfl, HB⟩

end Go.Proofs.YtijbbkkapimljaaGreat.Mk
