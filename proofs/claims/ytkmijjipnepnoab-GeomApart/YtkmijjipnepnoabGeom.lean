/- What the calls of geom and of the document answer about geometries: each said once for all arguments. -/
import Derived.Test.YtkmijjipnepnoabChecked
import Derived.WalkKit
import Derived.WalkSpells
import Derived.WalkLawsBesides
import Derived.BigQuiet
import Derived.Deep.QuietTactic
import Derived.Deep.RegionHeld3
namespace Go.Proofs.Ytkmijjipnepnoab
open Go.RowKit

theorem same_at {P : Program} {f : FuncId} {args : Array Value} {w : World} {v : Value} {Q : Ending → World → Prop} (h : Calls P f args w fun e w' => e = .returned v ∧ w' = w) (hq : Q (.returned v) w) : Calls P f args w Q :=
  h.mono (by rintro e w' ⟨rfl, rfl⟩; exact hq)

abbrev geomV (G B I : Int) : Value := .agg #[.int .i64 G, .int .i64 B, .int .i64 I]
abbrev geomO (G B I : Int) : Obj := .cells #[.int .i64 G, .int .i64 B, .int .i64 I] 23

namespace Gm
def May (G B I : Int) : Prop := 1 ≤ G ∧ G ≤ 8 ∧ 8 ≤ B ∧ B ≤ 256 ∧ 4 ≤ I ∧ I ≤ 64 ∧ I % 4 = 0 ∧ 3 + I / 4 ≤ B
instance (G B I : Int) : Decidable (May G B I) := by unfold May; infer_instance
def can (G B I : Int) : Int := if May G B I then 0 else 170
end Gm

theorem within_ok (n l h : Int) (w : World) : Calls Try.prog 56 #[.int .i64 n, .int .i64 l, .int .i64 h] w fun e w' => e = .returned (.bool (decide (l ≤ n ∧ n ≤ h))) ∧ w' = w := by
  go_enter Try.func56, Try.ntmps56
  go_wp2
  all_goals
    go_ret
    exact ⟨by simp [*]; try omega, rfl⟩

theorem size_alloc (w : World) (o : Obj) : (w.alloc o).heap.size = w.heap.size + 1 := by simp
theorem heap_new (w : World) (o : Obj) : (w.alloc o).heap[w.heap.size]? = some o := by
  show (w.heap.push o)[w.heap.size]? = some o
  simp
theorem box_at {w w1 : World} {o : Obj} (hb : Below (w.alloc o).heap.size (w.alloc o) w1) : w1.heap[w.heap.size]? = some o := by
  rw [hb.block _ (by rw [size_alloc]; omega), heap_new]
theorem box_below {w w1 : World} {o : Obj} (hb : Below (w.alloc o).heap.size (w.alloc o) w1) : Below w.heap.size w w1 :=
  ((Below.refl _ _).alloc (Nat.le_refl _) _).trans (hb.mono (by rw [size_alloc]; omega))

/-- Block b holds a geometry. -/
def Box (w : World) (b : Nat) (G B I : Int) : Prop := w.cell? ⟨b, 0, none⟩ = some (.int .i64 G) ∧ w.cell? ⟨b, 1, none⟩ = some (.int .i64 B) ∧ w.cell? ⟨b, 2, none⟩ = some (.int .i64 I)
theorem box_ok {w w1 : World} {G B I : Int} (hb : Below (w.alloc (geomO G B I)).heap.size (w.alloc (geomO G B I)) w1) : Box w1 w.heap.size G B I := by
  have := box_at hb
  refine ⟨?_, ?_, ?_⟩ <;> simp [World.cell?, this]
theorem lt_of_cell {w : World} {b o : Nat} {v : Value} (h : w.cell? ⟨b, o, none⟩ = some v) : b < w.heap.size := by
  by_cases hb : b < w.heap.size
  · exact hb
  · have : w.heap[b]? = none := Array.getElem?_eq_none (by omega)
    simp [World.cell?, this] at h
theorem Box.kept {w w1 : World} {b : Nat} {G B I : Int} (h : Box w b G B I) (hb : Below w.heap.size w w1) : Box w1 b G B I := by
  have hlt := lt_of_cell h.1
  refine ⟨?_, ?_, ?_⟩
  · rw [hb.cell (p := ⟨b, 0, none⟩) hlt]; exact h.1
  · rw [hb.cell (p := ⟨b, 1, none⟩) hlt]; exact h.2.1
  · rw [hb.cell (p := ⟨b, 2, none⟩) hlt]; exact h.2.2

theorem dataPlace_any (G B I : Int) (w : World) : Calls Try.prog 59 #[geomV G B I] w fun e w' => (∃ v, e = .returned (.int .i64 v) ∧ (4 ≤ I ∧ I ≤ 64 → v = 2 + I / 4)) ∧ Below w.heap.size w w' := by
  go_enter Try.func59, Try.ntmps59
  go_wp2
  go_ret
  refine ⟨⟨_, rfl, fun h => ?_⟩, (Below.refl _ _).alloc (Nat.le_refl _) _⟩
  have h1 := h.1
  have h2 := h.2
  unfold wrap64
  rw [Int.tdiv_eq_ediv_of_nonneg (by omega)]
  omega
theorem dataBlocks_any (G B I : Int) (w : World) : Calls Try.prog 57 #[geomV G B I] w fun e w' => (∃ v, e = .returned (.int .i64 v) ∧ (4 ≤ I ∧ I ≤ 64 ∧ 8 ≤ B ∧ B ≤ 256 → v = B - (2 + I / 4))) ∧ Below w.heap.size w w' := by
  go_enter Try.func57, Try.ntmps57
  go_wp2_with fail
  have hB := box_ok (Below.refl _ (w.alloc (geomO G B I)))
  have hbe := box_below (Below.refl _ (w.alloc (geomO G B I)))
  have hsz := size_alloc w (geomO G B I)
  generalize w.alloc (geomO G B I) = w0 at *
  obtain ⟨c0, c1, c2⟩ := hB
  go_region_held3 (fun w' => w'.cell? ⟨w.heap.size, 0, none⟩ = some (.int .i64 G) ∧ w'.cell? ⟨w.heap.size, 1, none⟩ = some (.int .i64 B) ∧ w'.cell? ⟨w.heap.size, 2, none⟩ = some (.int .i64 I)) (first | exact ⟨c0, c1, c2⟩ | exact cc) ((go_at_call 59; refine (dataPlace_any _ _ _ _).mono ?_; rintro e w1 ⟨⟨v, rfl, hv⟩, hb1⟩; have cc := Box.kept (w := w0.drew) ⟨c0, c1, c2⟩ hb1))
  go_wp2
  go_ret
  refine ⟨⟨_, rfl, fun h => ?_⟩, hbe.drew.trans (hb1.mono (by show w.heap.size ≤ w0.heap.size; omega))⟩
  rw [hv ⟨h.1, h.2.1⟩, IntKind.wrap_i64]
  omega

theorem grew_at {P : Program} {f : FuncId} {args : Array Value} {w : World} {v : Value} {Q : Ending → World → Prop} (h : Calls P f args w fun e w' => e = .returned v ∧ Below w.heap.size w w') (hq : ∀ w1, Below w.heap.size w w1 → Q (.returned v) w1) : Calls P f args w Q :=
  h.mono (by rintro e w' ⟨rfl, hb⟩; exact hq w' hb)
theorem cell_kept {w w1 : World} {b i : Nat} {v : Value} (h : w.cell? ⟨b, i, none⟩ = some v) (hb : Below w.heap.size w w1) : w1.cell? ⟨b, i, none⟩ = some v := by
  rw [hb.cell (p := ⟨b, i, none⟩) (lt_of_cell h)]; exact h
theorem grew_trans {w0 w w1 : World} (h : Below w0.heap.size w0 w) (hb : Below w.heap.size w w1) : Below w0.heap.size w0 w1 := h.trans (hb.mono h.size)

theorem Gm.can_pos {G B I : Int} (h : Gm.May G B I) : Gm.can G B I = 0 := if_pos h
theorem Gm.can_neg {G B I : Int} (h : ¬ Gm.May G B I) : Gm.can G B I = 170 := if_neg h
theorem can_ok (G B I : Int) (w : World) : Calls Try.prog 16 #[geomV G B I] w fun e w' => e = .returned (.int .i64 (Gm.can G B I)) ∧ Below w.heap.size w w' := by
  have HB : Below w.heap.size w (w.alloc (geomO G B I)) := (Below.refl _ _).alloc (Nat.le_refl _) _
  have HS := size_alloc w (geomO G B I)
  go_enter Try.func16, Try.ntmps16
  go_wp2_with (first | (go_at_call 56; refine same_at (within_ok _ _ _ _) ?_) | (go_at_call 57; refine (dataBlocks_any _ _ _ _).mono ?_; rintro e w1 ⟨⟨v, rfl, hv⟩, hb1⟩))
  all_goals
    go_ret
    refine ⟨?_, by first | exact HB | exact HB.trans (hb1.mono HB.size)⟩
    try simp only [Bool.not_eq_true', decide_eq_false_iff_not, Bool.not_eq_false', decide_eq_true_eq] at *
    first
      | (rw [Gm.can_pos (by unfold Gm.May; omega)]; rfl)
      | (rw [Gm.can_neg (by unfold Gm.May; omega)]; rfl)

theorem rcan_ok (G B I : Int) (w : World) : Calls Try.prog 17 #[geomV G B I] w fun e w' => e = .returned (.int .i64 (Gm.can G B I)) ∧ Below w.heap.size w w' := by
  have HB : Below w.heap.size w (w.alloc (geomO G B I)) := (Below.refl _ _).alloc (Nat.le_refl _) _
  go_enter Try.func17, Try.ntmps17
  go_wp2
  all_goals
    go_ret
    refine ⟨?_, HB⟩
    first
      | (rw [Gm.can_pos (by unfold Gm.May; omega)]; rfl)
      | (rw [Gm.can_neg (by unfold Gm.May; omega)]; rfl)

/-- What a geometry that may be keeps to. -/
theorem Gm.May.all {G B I : Int} (h : Gm.May G B I) : (1 ≤ G ∧ G ≤ 8) ∧ (8 ≤ B ∧ B ≤ 256) ∧ (4 ≤ I ∧ I ≤ 64) ∧ I % 4 = 0 ∧ 3 + I / 4 ≤ B := by
  unfold Gm.May at h; omega
theorem mul_le' {a b m n : Int} (h0 : 0 ≤ a) (h1 : a ≤ m) (h2 : 0 ≤ b) (h3 : b ≤ n) : 0 ≤ a * b ∧ a * b ≤ m * n :=
  ⟨Int.mul_nonneg h0 h2, Int.mul_le_mul h1 h3 h2 (by omega)⟩
theorem can_may {G B I : Int} (h : Gm.May G B I) (w : World) : Calls Try.prog 16 #[geomV G B I] w fun e w' => e = .returned (.int .i64 0) ∧ Below w.heap.size w w' := by
  have := can_ok G B I w
  rwa [Gm.can, if_pos h] at this
theorem can_not {G B I : Int} (h : ¬ Gm.May G B I) (w : World) : Calls Try.prog 16 #[geomV G B I] w fun e w' => e = .returned (.int .i64 170) ∧ Below w.heap.size w w' := by
  have := can_ok G B I w
  rwa [Gm.can, if_neg h] at this
theorem rcan_may {G B I : Int} (h : Gm.May G B I) (w : World) : Calls Try.prog 17 #[geomV G B I] w fun e w' => e = .returned (.int .i64 0) ∧ Below w.heap.size w w' := by
  have := rcan_ok G B I w
  rwa [Gm.can, if_pos h] at this
theorem rcan_not {G B I : Int} (h : ¬ Gm.May G B I) (w : World) : Calls Try.prog 17 #[geomV G B I] w fun e w' => e = .returned (.int .i64 170) ∧ Below w.heap.size w w' := by
  have := rcan_ok G B I w
  rwa [Gm.can, if_neg h] at this
def Gm.num (G B I each : Int) : Int := if Gm.May G B I then G * each else 0
theorem Gm.num_pos {G B I : Int} (h : Gm.May G B I) (k : Int) : Gm.num G B I k = G * k := if_pos h
theorem Gm.num_neg {G B I : Int} (h : ¬ Gm.May G B I) (k : Int) : Gm.num G B I k = 0 := if_neg h
theorem box_cells (w : World) (G B I : Int) : (w.alloc (geomO G B I)).cell? ⟨w.heap.size, 0, none⟩ = some (.int .i64 G) ∧ (w.alloc (geomO G B I)).cell? ⟨w.heap.size, 1, none⟩ = some (.int .i64 B) ∧ (w.alloc (geomO G B I)).cell? ⟨w.heap.size, 2, none⟩ = some (.int .i64 I) :=
  box_ok (Below.refl _ (w.alloc (geomO G B I)))

theorem inAll_ok (G B I k : Int) (w : World) (hk : Gm.May G B I → 0 ≤ k ∧ k ≤ 256) : Calls Try.prog 58 #[geomV G B I, .int .i64 k] w fun e w' => e = .returned (.int .i64 (Gm.num G B I k)) ∧ Below w.heap.size w w' := by
  have HB : Below w.heap.size w (w.alloc (geomO G B I)) := (Below.refl _ _).alloc (Nat.le_refl _) _
  obtain ⟨c0, c1, c2⟩ := box_cells w G B I
  by_cases h : Gm.May G B I
  · rw [Gm.num_pos h]
    obtain ⟨hG, hB, hI, h4, h3⟩ := h.all
    have hp := mul_le' (a := G) (b := k) (m := 8) (n := 256) (by omega) (by omega) (hk h).1 (hk h).2
    go_enter Try.func58, Try.ntmps58
    go_wp2_with (first | (go_at_call 16; refine grew_at (can_may h _) ?_; intro wn hbn; have HB := grew_trans HB hbn; have c0 := cell_kept c0 hbn))
    go_ret
    exact ⟨rfl, HB⟩
  · rw [Gm.num_neg h]
    go_enter Try.func58, Try.ntmps58
    go_wp2_with (first | (go_at_call 16; refine grew_at (can_not h _) ?_; intro wn hbn; have HB := grew_trans HB hbn))
    go_ret
    exact ⟨rfl, HB⟩

theorem blocks_ok (G B I : Int) (w : World) : Calls Try.prog 18 #[geomV G B I] w fun e w' => e = .returned (.int .i64 (Gm.num G B I B)) ∧ Below w.heap.size w w' := by
  have HB : Below w.heap.size w (w.alloc (geomO G B I)) := (Below.refl _ _).alloc (Nat.le_refl _) _
  go_enter Try.func18, Try.ntmps18
  go_wp2_with (first | (go_at_call 58; refine grew_at (inAll_ok _ _ _ _ _ (fun h => by have := h.all; omega)) ?_; intro wn hbn; have HB := grew_trans HB hbn))
  go_ret
  exact ⟨rfl, HB⟩

theorem inodes_ok (G B I : Int) (w : World) : Calls Try.prog 20 #[geomV G B I] w fun e w' => e = .returned (.int .i64 (Gm.num G B I I)) ∧ Below w.heap.size w w' := by
  have HB : Below w.heap.size w (w.alloc (geomO G B I)) := (Below.refl _ _).alloc (Nat.le_refl _) _
  go_enter Try.func20, Try.ntmps20
  go_wp2_with (first | (go_at_call 58; refine grew_at (inAll_ok _ _ _ _ _ (fun h => by have := h.all; omega)) ?_; intro wn hbn; have HB := grew_trans HB hbn))
  go_ret
  exact ⟨rfl, HB⟩

theorem room_ok (G B I : Int) (w : World) : Calls Try.prog 22 #[geomV G B I] w fun e w' => e = .returned (.int .i64 (Gm.num G B I (B - (2 + I / 4)))) ∧ Below w.heap.size w w' := by
  have HB : Below w.heap.size w (w.alloc (geomO G B I)) := (Below.refl _ _).alloc (Nat.le_refl _) _
  obtain ⟨c0, c1, c2⟩ := box_cells w G B I
  go_enter Try.func22, Try.ntmps22
  go_wp2_with fail
  generalize w.alloc (geomO G B I) = w0 at *
  have HB := HB.drew
  go_region_held3 (fun w' => w'.cell? ⟨w.heap.size, 0, none⟩ = some (.int .i64 G) ∧ w'.cell? ⟨w.heap.size, 1, none⟩ = some (.int .i64 B) ∧ w'.cell? ⟨w.heap.size, 2, none⟩ = some (.int .i64 I)) (first | exact ⟨c0, c1, c2⟩ | exact cc | exact cc')
    (first
      | (go_at_call 57; refine (dataBlocks_any _ _ _ _).mono ?_; rintro e w1 ⟨⟨v, rfl, hv⟩, hb1⟩; have cc := Box.kept (w := w0.drew) ⟨c0, c1, c2⟩ hb1)
      | (go_at_call 58; refine grew_at (inAll_ok _ _ _ _ _ (fun h => by have := h.all; rw [hv (by omega)]; omega)) ?_; intro wn hbn; have HB := grew_trans (grew_trans HB hb1) hbn; have cc' := Box.kept cc hbn))
  go_wp2
  go_ret
  refine ⟨?_, HB⟩
  have e : Gm.num G B I v = Gm.num G B I (B - (2 + I / 4)) := by
    by_cases h : Gm.May G B I
    · rw [hv (by have := h.all; omega)]
    · rw [Gm.num_neg h, Gm.num_neg h]
  rw [← e]; rfl

theorem rblocks_ok (G B I : Int) (w : World) : Calls Try.prog 19 #[geomV G B I] w fun e w' => e = .returned (.int .i64 (Gm.num G B I B)) ∧ Below w.heap.size w w' := by
  have HB : Below w.heap.size w (w.alloc (geomO G B I)) := (Below.refl _ _).alloc (Nat.le_refl _) _
  obtain ⟨c0, c1, c2⟩ := box_cells w G B I
  by_cases h : Gm.May G B I
  · rw [Gm.num_pos h]
    obtain ⟨hG, hB, hI, h4, h3⟩ := h.all
    have hp := mul_le' (a := G) (b := B) (m := 8) (n := 256) (by omega) (by omega) (by omega) (by omega)
    go_enter Try.func19, Try.ntmps19
    go_wp2_with (first | (go_at_call 17; refine grew_at (rcan_may h _) ?_; intro wn hbn; have HB := grew_trans HB hbn; have c0 := cell_kept c0 hbn; have c1 := cell_kept c1 hbn; have c2 := cell_kept c2 hbn))
    go_ret
    exact ⟨rfl, HB⟩
  · rw [Gm.num_neg h]
    go_enter Try.func19, Try.ntmps19
    go_wp2_with (first | (go_at_call 17; refine grew_at (rcan_not h _) ?_; intro wn hbn; have HB := grew_trans HB hbn))
    go_ret
    exact ⟨rfl, HB⟩

theorem rinodes_ok (G B I : Int) (w : World) : Calls Try.prog 21 #[geomV G B I] w fun e w' => e = .returned (.int .i64 (Gm.num G B I I)) ∧ Below w.heap.size w w' := by
  have HB : Below w.heap.size w (w.alloc (geomO G B I)) := (Below.refl _ _).alloc (Nat.le_refl _) _
  obtain ⟨c0, c1, c2⟩ := box_cells w G B I
  by_cases h : Gm.May G B I
  · rw [Gm.num_pos h]
    obtain ⟨hG, hB, hI, h4, h3⟩ := h.all
    have hp := mul_le' (a := G) (b := I) (m := 8) (n := 256) (by omega) (by omega) (by omega) (by omega)
    go_enter Try.func21, Try.ntmps21
    go_wp2_with (first | (go_at_call 17; refine grew_at (rcan_may h _) ?_; intro wn hbn; have HB := grew_trans HB hbn; have c0 := cell_kept c0 hbn; have c1 := cell_kept c1 hbn; have c2 := cell_kept c2 hbn))
    go_ret
    exact ⟨rfl, HB⟩
  · rw [Gm.num_neg h]
    go_enter Try.func21, Try.ntmps21
    go_wp2_with (first | (go_at_call 17; refine grew_at (rcan_not h _) ?_; intro wn hbn; have HB := grew_trans HB hbn))
    go_ret
    exact ⟨rfl, HB⟩

theorem rroom_ok (G B I : Int) (w : World) : Calls Try.prog 23 #[geomV G B I] w fun e w' => e = .returned (.int .i64 (Gm.num G B I (B - (2 + I / 4)))) ∧ Below w.heap.size w w' := by
  have HB : Below w.heap.size w (w.alloc (geomO G B I)) := (Below.refl _ _).alloc (Nat.le_refl _) _
  obtain ⟨c0, c1, c2⟩ := box_cells w G B I
  by_cases h : Gm.May G B I
  · rw [Gm.num_pos h]
    obtain ⟨hG, hB, hI, h4, h3⟩ := h.all
    have hp := mul_le' (a := G) (b := (B - (2 + I / 4))) (m := 8) (n := 256) (by omega) (by omega) (by omega) (by omega)
    rw [show B - (2 + I / 4) = B - 2 - I / 4 by omega] at hp ⊢
    go_enter Try.func23, Try.ntmps23
    go_wp2_with (first | (go_at_call 17; refine grew_at (rcan_may h _) ?_; intro wn hbn; have HB := grew_trans HB hbn; have c0 := cell_kept c0 hbn; have c1 := cell_kept c1 hbn; have c2 := cell_kept c2 hbn))
    go_ret
    exact ⟨rfl, HB⟩
  · rw [Gm.num_neg h]
    go_enter Try.func23, Try.ntmps23
    go_wp2_with (first | (go_at_call 17; refine grew_at (rcan_not h _) ?_; intro wn hbn; have HB := grew_trans HB hbn))
    go_ret
    exact ⟨rfl, HB⟩

end Go.Proofs.Ytkmijjipnepnoab
