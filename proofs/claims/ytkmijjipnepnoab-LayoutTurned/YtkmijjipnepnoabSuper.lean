/- Superblocks as bytes, by the program and by the document. -/
import Derived.Test.YtkmijjipnepnoabNums
import Derived.Deep.RegionHeld3
namespace Go.Proofs.Ytkmijjipnepnoab
open Go.RowKit

abbrev geomV (G B I : Int) : Value := .agg #[.int .i64 G, .int .i64 B, .int .i64 I]
abbrev geomO (G B I : Int) : Obj := .cells #[.int .i64 G, .int .i64 B, .int .i64 I] 23
abbrev superV (G B I M : Int) : Value := .agg #[.int .i64 G, .int .i64 B, .int .i64 I, .int .i64 M]
abbrev superO (G B I M : Int) : Obj := .cells #[.int .i64 G, .int .i64 B, .int .i64 I, .int .i64 M] 25

theorem size_alloc (w : World) (o : Obj) : (w.alloc o).heap.size = w.heap.size + 1 := by simp
theorem heap_new (w : World) (o : Obj) : (w.alloc o).heap[w.heap.size]? = some o := by
  show (w.heap.push o)[w.heap.size]? = some o
  simp
theorem grew_at {P : Program} {f : FuncId} {args : Array Value} {w : World} {v : Value} {Q : Ending → World → Prop} (h : Calls P f args w fun e w' => e = .returned v ∧ Below w.heap.size w w') (hq : ∀ w1, Below w.heap.size w w1 → Q (.returned v) w1) : Calls P f args w Q :=
  h.mono (by rintro e w' ⟨rfl, hb⟩; exact hq w' hb)
theorem cell_kept {w w1 : World} {b i : Nat} {v : Value} (h : w.cell? ⟨b, i, none⟩ = some v) (hb : Below w.heap.size w w1) : w1.cell? ⟨b, i, none⟩ = some v := by
  rw [hb.cell (p := ⟨b, i, none⟩) (lt_of_cell h)]; exact h
theorem cell_under {B : Nat} {w w1 : World} {b i : Nat} {v : Value} (h : w.cell? ⟨b, i, none⟩ = some v) (hb : Below B w w1) (hB : b < B) : w1.cell? ⟨b, i, none⟩ = some v := by
  rw [hb.cell (p := ⟨b, i, none⟩) hB]; exact h
theorem grew_trans {w0 w w1 : World} (h : Below w0.heap.size w0 w) (hb : Below w.heap.size w w1) : Below w0.heap.size w0 w1 := h.trans (hb.mono h.size)
theorem grew_alloc (w : World) (o : Obj) : Below w.heap.size w (w.alloc o) := (Below.refl _ _).alloc (Nat.le_refl _) _
theorem drew_cell {w : World} {a : Addr} {v : Value} (h : w.cell? a = some v) : w.drew.cell? a = some v := h

namespace Gm
def May (G B I : Int) : Prop := 1 ≤ G ∧ G ≤ 8 ∧ 8 ≤ B ∧ B ≤ 256 ∧ 4 ≤ I ∧ I ≤ 64 ∧ I % 4 = 0 ∧ 3 + I / 4 ≤ B
instance (G B I : Int) : Decidable (May G B I) := by unfold May; infer_instance
end Gm
def SMay (G B I M : Int) : Prop := Gm.May G B I ∧ 0 ≤ M ∧ M ≤ 4294967295
instance (G B I M : Int) : Decidable (SMay G B I M) := by unfold SMay; infer_instance

theorem within_ok (n l h : Int) (w : World) : Calls Try.prog 62 #[.int .i64 n, .int .i64 l, .int .i64 h] w fun e w' => e = .returned (.bool (decide (l ≤ n ∧ n ≤ h))) ∧ w' = w := by
  go_enter Try.func62, Try.ntmps62
  go_wp2
  all_goals
    go_ret
    exact ⟨by simp [*]; try omega, rfl⟩

theorem geomMay_ok (G B I : Int) (w : World) : Calls Try.prog 61 #[geomV G B I] w fun e w' => e = .returned (.bool (decide (Gm.May G B I))) ∧ Below w.heap.size w w' := by
  have HB := grew_alloc w (geomO G B I)
  go_enter Try.func61, Try.ntmps61
  go_wp2_with (first | (go_at_call 62; refine same_at (within_ok _ _ _ _) ?_))
  all_goals
    go_ret
    refine ⟨?_, HB⟩
    first
      | (rw [show decide (Gm.May G B I) = decide (3 + I / 4 ≤ B) from decide_eq_decide.2 (by unfold Gm.May; omega)]; rfl)
      | (rw [show decide (Gm.May G B I) = false from decide_eq_false (by unfold Gm.May; omega)]; rfl)

theorem rmay_ok (G B I : Int) (w : World) : Calls Try.prog 44 #[geomV G B I] w fun e w' => e = .returned (.bool (decide (Gm.May G B I))) ∧ Below w.heap.size w w' := by
  have HB := grew_alloc w (geomO G B I)
  go_enter Try.func44, Try.ntmps44
  go_wp2
  all_goals
    go_ret
    refine ⟨?_, HB⟩
    first
      | (rw [show decide (Gm.May G B I) = decide (3 + I / 4 ≤ B) from decide_eq_decide.2 (by unfold Gm.May; omega)]; rfl)
      | (rw [show decide (Gm.May G B I) = false from decide_eq_false (by unfold Gm.May; omega)]; rfl)

theorem super_cells (w : World) (G B I M : Int) : (w.alloc (superO G B I M)).cell? ⟨w.heap.size, 0, none⟩ = some (.int .i64 G) ∧ (w.alloc (superO G B I M)).cell? ⟨w.heap.size, 1, none⟩ = some (.int .i64 B) ∧ (w.alloc (superO G B I M)).cell? ⟨w.heap.size, 2, none⟩ = some (.int .i64 I) ∧ (w.alloc (superO G B I M)).cell? ⟨w.heap.size, 3, none⟩ = some (.int .i64 M) :=
  ⟨cell_row (heap_new w (superO G B I M)) 0 _ rfl, cell_row (heap_new w (superO G B I M)) 1 _ rfl, cell_row (heap_new w (superO G B I M)) 2 _ rfl, cell_row (heap_new w (superO G B I M)) 3 _ rfl⟩

theorem superMay_ok (G B I M : Int) (w : World) : Calls Try.prog 38 #[superV G B I M] w fun e w' => e = .returned (.bool (decide (SMay G B I M))) ∧ Below w.heap.size w w' := by
  have HB := grew_alloc w (superO G B I M)
  have c3 : (w.alloc (superO G B I M)).cell? ⟨w.heap.size, 3, none⟩ = some (.int .i64 M) := cell_row (heap_new w (superO G B I M)) 3 _ rfl
  have hg := geomMay_ok G B I
  by_cases h : Gm.May G B I
  · rw [decide_eq_true h] at hg
    rw [show decide (SMay G B I M) = decide (0 ≤ M ∧ M ≤ 4294967295) from decide_eq_decide.2 ⟨fun k => k.2, fun k => ⟨h, k⟩⟩]
    go_enter Try.func38, Try.ntmps38
    go_wp2_with (first | (go_at_call 61; refine grew_at (hg _) ?_; intro wn hbn; have HB := grew_trans HB hbn; have c3 := cell_kept c3 hbn) | (go_at_call 62; refine same_at (within_ok _ _ _ _) ?_))
    go_ret
    exact ⟨by simp, HB⟩
  · rw [decide_eq_false h] at hg
    rw [show decide (SMay G B I M) = false from decide_eq_false (fun k => h k.1)]
    go_enter Try.func38, Try.ntmps38
    go_wp2_with (first | (go_at_call 61; refine grew_at (hg _) ?_; intro wn hbn; have HB := grew_trans HB hbn; have c3 := cell_kept c3 hbn) | (go_at_call 62; refine same_at (within_ok _ _ _ _) ?_))
    go_ret
    exact ⟨rfl, HB⟩

theorem encodeSuper_no (G B I M : Int) (h : ¬ SMay G B I M) (w : World) : Calls Try.prog 9 #[superV G B I M] w fun e w' => e = .returned (.tuple #[.slice none 0 0, .int .i64 1]) ∧ Below w.heap.size w w' := by
  have HB := grew_alloc w (superO G B I M)
  have hm := superMay_ok G B I M
  rw [decide_eq_false h] at hm
  go_enter Try.func9, Try.ntmps9
  go_wp2_with (first | (go_at_call 38; refine grew_at (hm _) ?_; intro wn hbn; have HB := grew_trans HB hbn))
  go_ret2
  exact ⟨rfl, HB⟩

/-- A superblock's bytes, but for the sum. -/
def superL (G B I M : Int) : List Int := Num.putTo (Num.putTo (Num.putTo (Num.putTo (splice (zers 128) 0 [98, 111, 108, 108]) 4 G 1) 5 (B - 1) 1) 6 I 1) 8 M 4
/-- Bytes sealed. -/
def sealL (xs : List Int) : List Int := Num.putTo xs (xs.length - 4) (Num.sum xs (xs.length - 4)) 4
def superS (G B I M : Int) : List Int := sealL (superL G B I M)

theorem splice_len128 : (splice (zers 128) 0 [98, 111, 108, 108]).length = 128 := by
  rw [splice_len _ _ _ (by rw [zers_len]; decide), zers_len]

set_option maxHeartbeats 1000000 in
theorem encodeSuper_yes (G B I M : Int) (h : SMay G B I M) (w : World) : Calls Try.prog 9 #[superV G B I M] w fun e w' => ∃ g cap, e = .returned (.tuple #[.slice (some ⟨g, 0, none⟩) 128 cap, .int .i64 0]) ∧ Own w.heap.size w' g 128 cap (superS G B I M) ∧ Below w.heap.size w w' := by
  have HB := grew_alloc w (superO G B I M)
  have hm := superMay_ok G B I M
  rw [decide_eq_true h] at hm
  have hh := h
  unfold SMay Gm.May at hh
  obtain ⟨c0, c1, c2, c3⟩ := super_cells w G B I M
  go_enter Try.func9, Try.ntmps9
  go_wp2_with (first | (go_at_call 38; refine grew_at (hm _) ?_; intro wn hbn; have HB := grew_trans HB hbn; have c0 := cell_kept c0 hbn; have c1 := cell_kept c1 hbn; have c2 := cell_kept c2 hbn; have c3 := cell_kept c3 hbn))
  have hsz : w.heap.size + 1 ≤ wn.heap.size := by have := hbn.size; rw [size_alloc] at this; omega
  refine Calls.mono (newPage_ok 128 (by omega) (w.heap.size + 1) _ hsz) ?_
  rintro e w1 ⟨pb, g, rfl, pg, bn⟩
  have c0 := cell_under c0 bn (by omega); have c1 := cell_under c1 bn (by omega); have c2 := cell_under c2 bn (by omega); have c3 := cell_under c3 bn (by omega); have HB := HB.trans (bn.mono (by omega)); clear bn
  go_wp2_with (first
    | (go_at_call 40; refine Calls.mono (ptext_ok pg _ (by decide) (by decide)) ?_; rintro e wm ⟨rfl, pg, bn⟩; have c0 := cell_under c0 bn (by omega); have c1 := cell_under c1 bn (by omega); have c2 := cell_under c2 bn (by omega); have c3 := cell_under c3 bn (by omega); have HB := HB.trans (bn.mono (by omega)); clear bn; have pg : Pg (w.heap.size + 1) wm pb g 128 4 (splice (zers 128) 0 [98, 111, 108, 108]) := pg)
    | (go_at_call 42; refine Calls.mono (pskip_ok pg 1 (by omega) (by decide)) ?_; rintro e wm ⟨rfl, pg, bn⟩; have c0 := cell_under c0 bn (by omega); have c1 := cell_under c1 bn (by omega); have c2 := cell_under c2 bn (by omega); have c3 := cell_under c3 bn (by omega); have HB := HB.trans (bn.mono (by omega)); clear bn)
    | (go_at_call_of 41 G; refine Calls.mono (pnum_ok pg 1 G (by omega) (by omega) (by decide) (by omega) (by omega)) ?_; rintro e wm ⟨rfl, pg, bn⟩; have c0 := cell_under c0 bn (by omega); have c1 := cell_under c1 bn (by omega); have c2 := cell_under c2 bn (by omega); have c3 := cell_under c3 bn (by omega); have HB := HB.trans (bn.mono (by omega)); clear bn; have d0 := pg.c0)
    | (go_at_call_of 41 I; refine Calls.mono (pnum_ok pg 1 I (by omega) (by omega) (by decide) (by omega) (by omega)) ?_; rintro e wm ⟨rfl, pg, bn⟩; have c0 := cell_under c0 bn (by omega); have c1 := cell_under c1 bn (by omega); have c2 := cell_under c2 bn (by omega); have c3 := cell_under c3 bn (by omega); have HB := HB.trans (bn.mono (by omega)); clear bn; have d0 := pg.c0)
    | (go_at_call_of 41 M; refine Calls.mono (pnum_ok pg 4 M (by omega) (by omega) (by decide) (by omega) (by omega)) ?_; rintro e wm ⟨rfl, pg, bn⟩; have c0 := cell_under c0 bn (by omega); have c1 := cell_under c1 bn (by omega); have c2 := cell_under c2 bn (by omega); have c3 := cell_under c3 bn (by omega); have HB := HB.trans (bn.mono (by omega)); clear bn; have d0 := pg.c0)
    | (go_at_call 41; refine Calls.mono (pnum_ok pg 1 (B - 1) (by omega) (by omega) (by decide) (by omega) (by omega)) ?_; rintro e wm ⟨rfl, pg, bn⟩; have c0 := cell_under c0 bn (by omega); have c1 := cell_under c1 bn (by omega); have c2 := cell_under c2 bn (by omega); have c3 := cell_under c3 bn (by omega); have HB := HB.trans (bn.mono (by omega)); clear bn; have d0 := pg.c0)
    | (go_at_call 43; refine Calls.mono (seal_ok _ 128 128 _ _ pg.bi (Nat.le_refl _) (by omega)) ?_; rintro e wz ⟨g2, cap, rfl, ho, hb⟩))
  go_ret2
  refine ⟨g2, cap, rfl, ?_, HB.trans (hb.mono HB.size)⟩
  have ho := ho.base HB.size
  unfold superS sealL superL
  simp only [Num.putTo_length, splice_len128]
  exact ho

theorem rnumber_ok (p : Option Addr) (n c : Nat) (xs : List Int) (a k : Nat) (v : Int) (w : World) (h : BI w p n xs) (h1 : 1 ≤ k) (h4 : k ≤ 4) (h2 : a + k ≤ n) (hv0 : 0 ≤ v) (hv1 : v < 256 ^ k) :
    Calls Try.prog 45 #[.slice p n c, .int .i64 (a : Int), .int .i64 (k : Int), .int .i64 v] w fun e w' => ∃ g cap, e = .returned (.slice (some ⟨g, 0, none⟩) n cap) ∧ Own w.heap.size w' g n cap (Num.putTo xs a v k) ∧ Below w.heap.size w w' := by
  have hp0 : Num.pE n (a : Int) (k : Int) v = 0 := by
    unfold Num.pE
    rw [Int.toNat_natCast, if_neg (by omega), if_neg (by omega)]
  have hput := rput_yes p n c xs a k v w h hp0
  rw [Int.toNat_natCast, Int.toNat_natCast] at hput
  clear hp0 hv1
  go_enter Try.func45, Try.ntmps45
  go_wp2_with fail
  refine hput.mono ?_
  rintro e w2 ⟨g2, cap, rfl, ho2, hb2⟩
  go_wp2
  go_ret
  exact ⟨g2, cap, rfl, ho2, hb2⟩

theorem rencodeSuper_no (G B I M : Int) (h : ¬ SMay G B I M) (w : World) : Calls Try.prog 10 #[superV G B I M] w fun e w' => e = .returned (.tuple #[.slice none 0 0, .int .i64 1]) ∧ Below w.heap.size w w' := by
  have HB := grew_alloc w (superO G B I M)
  obtain ⟨c0, c1, c2, c3⟩ := super_cells w G B I M
  have hm := rmay_ok G B I
  by_cases hg : Gm.May G B I
  · rw [decide_eq_true hg] at hm
    have hM : M < 0 ∨ 4294967296 ≤ M := by
      by_cases h1 : M < 0
      · exact .inl h1
      · by_cases h2 : 4294967296 ≤ M
        · exact .inr h2
        · exact absurd ⟨hg, by omega, by omega⟩ h
    go_enter Try.func10, Try.ntmps10
    go_wp2_with (first | (go_at_call 44; refine grew_at (hm _) ?_; intro wn hbn; have HB := grew_trans HB hbn; have c3 := cell_kept c3 hbn))
    all_goals first | omega | skip
    all_goals
      go_ret2
      exact ⟨rfl, HB⟩
  · rw [decide_eq_false hg] at hm
    go_enter Try.func10, Try.ntmps10
    go_wp2_with (first | (go_at_call 44; refine grew_at (hm _) ?_; intro wn hbn; have HB := grew_trans HB hbn; have c3 := cell_kept c3 hbn))
    go_ret2
    exact ⟨rfl, HB⟩
end Go.Proofs.Ytkmijjipnepnoab
