/- Headers as bytes, by the program. -/
import Derived.Test.YtkmijjipnepnoaaRDec
namespace Go.Proofs.Ytkmijjipnepnoaa
open Go.RowKit
set_option linter.unusedVariables false

/-- A header's cells: its number, and 40 bytes. -/
def groupA (N : Int) (ys : List Int) : Array Value := (Value.int .i64 N :: ys.map (Value.int .u8)).toArray
abbrev groupV (N : Int) (ys : List Int) : Value := .agg (groupA N ys)
abbrev groupO (N : Int) (ys : List Int) : Obj := .cells (groupA N ys) 38
theorem groupA_size (N : Int) (ys : List Int) (h : ys.length = 40) : (groupA N ys).size = 41 := by simp [groupA, h]
theorem groupA_zero (N : Int) (ys : List Int) : (groupA N ys)[0]? = some (.int .i64 N) := by simp [groupA]
theorem groupA_succ (N : Int) (ys : List Int) (i : Nat) (h : i < ys.length) : (groupA N ys)[i + 1]? = some (.int .u8 (ys.getD i 0)) := by
  simp [groupA, List.getD_eq_getElem?_getD, List.getElem?_eq_getElem h]

/-- The bytes i up to i + k of a header's, as they lie in its block. -/
theorem group_bi {w : World} {b : Nat} {N : Int} {ys : List Int} {mk : Nat × Nat} (h : w.heap[b]? = some (.cells (groupA N ys) 38 mk)) (hy : Num.Byt ys) (i k : Nat) (hk : i + k ≤ ys.length) (hl : ys.length = 40) : BI w (some ⟨b, i + 1, none⟩) k ((ys.drop i).take k) := by
  refine ⟨by simp; omega, by omega, byt_take (byt_drop hy _) _, fun _ => ⟨b, i + 1, rfl, fun j hj => ?_⟩⟩
  rw [getD_take _ _ _ hj, getD_drop']
  have := groupA_succ N ys (i + j) (by omega)
  simp [World.cell?, h, show i + 1 + j = i + j + 1 by omega, this]

def GMay (N : Int) : Prop := 0 ≤ N ∧ N ≤ 7
instance (N : Int) : Decidable (GMay N) := by unfold GMay; infer_instance
/-- A header's bytes. -/
def groupL (N : Int) (ys : List Int) : List Int := splice (splice (Num.putTo (splice (zers 128) 0 [104, 100]) 2 N 1) 4 (ys.take 8)) 12 (ys.drop 8)

theorem encodeGroup_no (N : Int) (ys : List Int) (hl : ys.length = 40) (h : ¬ GMay N) (w : World) : Calls Try.prog 15 #[groupV N ys] w fun e w' => e = .returned (.tuple #[.slice none 0 0, .int .i64 1]) ∧ Below w.heap.size w w' := by
  have HB := grew_alloc w (groupO N ys)
  have c0 : (w.alloc (groupO N ys)).cell? ⟨w.heap.size, 0, none⟩ = some (.int .i64 N) := cell_row (heap_new w (groupO N ys)) 0 _ (groupA_zero N ys)
  have hw := fun w => within_ok N 0 7 w
  rw [show decide (0 ≤ N ∧ N ≤ 7) = false from decide_eq_false h] at hw
  unfold GMay at h
  go_enter Try.func15, Try.ntmps15
  go_wp2_with (first | (go_at_call 51; refine same_at (hw _) ?_))
  go_ret2
  exact ⟨rfl, HB⟩

set_option maxHeartbeats 1000000 in
theorem encodeGroup_yes (N : Int) (ys : List Int) (hl : ys.length = 40) (hy : Num.Byt ys) (h : GMay N) (w : World) : Calls Try.prog 15 #[groupV N ys] w fun e w' => ∃ g, e = .returned (.tuple #[.slice (some ⟨g, 0, none⟩) 128 128, .int .i64 0]) ∧ Own w.heap.size w' g 128 128 (groupL N ys) ∧ Below w.heap.size w w' := by
  have HB := grew_alloc w (groupO N ys)
  have hx0 := heap_new w (groupO N ys)
  have c0 : (w.alloc (groupO N ys)).cell? ⟨w.heap.size, 0, none⟩ = some (.int .i64 N) := cell_row hx0 0 _ (groupA_zero N ys)
  have hw := fun w => within_ok N 0 7 w
  rw [show decide (0 ≤ N ∧ N ≤ 7) = true from decide_eq_true h] at hw
  unfold GMay at h
  have hsz : w.heap.size + 1 ≤ (w.alloc (groupO N ys)).heap.size := by rw [size_alloc]; omega
  go_enter Try.func15, Try.ntmps15
  go_wp2_with (first | (go_at_call 51; refine same_at (hw _) ?_))
  generalize w.alloc (groupO N ys) = w0 at *
  refine Calls.mono (newPage_ok 128 (by omega) (w.heap.size + 1) _ hsz) ?_
  rintro e w1 ⟨pb, g, rfl, pg, bn⟩
  have c0 := cell_under c0 bn (by omega)
  have hx0 : w1.heap[w.heap.size]? = some (groupO N ys) := by rw [bn.block _ (by omega)]; exact hx0
  have HB := HB.trans (bn.mono (by omega))
  clear bn
  go_wp2_with (first
    | (go_at_call 37; refine Calls.mono (ptext_ok pg _ (by decide) (by decide)) ?_; rintro e wm ⟨rfl, pg, bn⟩; have c0 := cell_under c0 bn (by omega); have hx0 : wm.heap[w.heap.size]? = some (groupO N ys) := (by rw [bn.block _ (by omega)]; exact hx0); have HB := HB.trans (bn.mono (by omega)); clear bn; have pg : Pg (w.heap.size + 1) wm pb g 128 2 (splice (zers 128) 0 [104, 100]) := pg)
    | (go_at_call 38; refine Calls.mono (pnum_ok pg 1 N (by omega) (by omega) (by decide) (by omega) (by omega)) ?_; rintro e wm ⟨rfl, pg, bn⟩; have hx0 : wm.heap[w.heap.size]? = some (groupO N ys) := (by rw [bn.block _ (by omega)]; exact hx0); have HB := HB.trans (bn.mono (by omega)); clear bn)
    | (go_at_call 39; refine Calls.mono (pskip_ok pg 1 (by omega) (by decide)) ?_; rintro e wm ⟨rfl, pg, bn⟩; have hx0 : wm.heap[w.heap.size]? = some (groupO N ys) := (by rw [bn.block _ (by omega)]; exact hx0); have HB := HB.trans (bn.mono (by omega)); clear bn))
  have hb1 : BI wm (some ⟨w.heap.size, 1, none⟩) 8 (ys.take 8) := group_bi hx0 hy 0 8 (by omega) hl
  refine Calls.mono (prow_ok pg 8 8 _ _ hb1 (by omega) (by decide) (by intro b o e; cases e; omega)) ?_
  rintro e wm ⟨rfl, pg, bn⟩
  have hx0 : wm.heap[w.heap.size]? = some (groupO N ys) := (by rw [bn.block _ (by omega)]; exact hx0); have HB := HB.trans (bn.mono (by omega)); clear bn
  go_wp2_with fail
  have hb2 : BI wm (some ⟨w.heap.size, 9, none⟩) 32 (ys.drop 8) := by
    have := group_bi hx0 hy 8 32 (by omega) hl
    rwa [List.take_of_length_le (by simp; omega)] at this
  refine Calls.mono (prow_ok pg 32 32 _ _ hb2 (by omega) (by decide) (by intro b o e; cases e; omega)) ?_
  rintro e wm ⟨rfl, pg, bn⟩
  have hx0 : wm.heap[w.heap.size]? = some (groupO N ys) := (by rw [bn.block _ (by omega)]; exact hx0); have HB := HB.trans (bn.mono (by omega)); clear bn
  have d0 := pg.c0
  go_wp2
  go_ret2
  exact ⟨g, rfl, own_of_row (Nat.le_trans (Nat.le_succ _) pg.log) (by decide) pg.len pg.row, HB⟩

theorem groupL_len (N : Int) (ys : List Int) (hl : ys.length = 40) : (groupL N ys).length = 128 := by
  unfold groupL
  have h1 : (Num.putTo (splice (zers 128) 0 [104, 100]) 2 N 1).length = 128 := by rw [Num.putTo_length, splice_len _ _ _ (by rw [zers_len]; decide), zers_len]
  have h2 : (splice (Num.putTo (splice (zers 128) 0 [104, 100]) 2 N 1) 4 (ys.take 8)).length = 128 := by rw [splice_len _ _ _ (by simp [h1]; omega), h1]
  rw [splice_len _ _ _ (by simp [h2]; omega), h2]
theorem groupL_byt (N : Int) (ys : List Int) (hy : Num.Byt ys) : Num.Byt (groupL N ys) :=
  splice_byt (splice_byt (Num.putTo_byt (splice_byt (zers_byt _) (Num.byt_of_wf (by decide)) 0) _ _ _) (byt_take hy _) 4) (byt_drop hy _) 12

theorem getD_append (a b : List Int) (i : Nat) : (a ++ b).getD i 0 = if i < a.length then a.getD i 0 else b.getD (i - a.length) 0 := by
  simp only [List.getD_eq_getElem?_getD]
  split
  · rename_i h; rw [List.getElem?_append_left h]
  · rename_i h; rw [List.getElem?_append_right (by omega)]
theorem zers_getD (n i : Nat) : (zers n).getD i 0 = 0 := by
  unfold zers
  rw [List.getD_eq_getElem?_getD, List.getElem?_replicate]
  split <;> rfl

/-- The same, piece behind piece. -/
theorem groupL_eq (N : Int) (ys : List Int) (hl : ys.length = 40) (h : GMay N) : groupL N ys = [104, 100, N, 0] ++ ys ++ zers 84 := by
  unfold GMay at h
  have h0 : (splice (zers 128) 0 [104, 100]).length = 128 := by rw [splice_len _ _ _ (by rw [zers_len]; decide), zers_len]
  have h1 : (Num.putTo (splice (zers 128) 0 [104, 100]) 2 N 1).length = 128 := by rw [Num.putTo_length, h0]
  have h8 : (ys.take 8).length = 8 := by simp; omega
  have h32 : (ys.drop 8).length = 32 := by simp; omega
  have h2 : (splice (Num.putTo (splice (zers 128) 0 [104, 100]) 2 N 1) 4 (ys.take 8)).length = 128 := by rw [splice_len _ _ _ (by omega), h1]
  apply ext_getD
  · rw [groupL_len N ys hl]; simp [zers_len]; omega
  intro i _
  unfold groupL
  rw [getD_splice _ _ _ (by omega), getD_splice _ _ _ (by omega), getD_append, getD_append, h8, h32]
  simp only [List.length_append, List.length_cons, List.length_nil, hl]
  by_cases c1 : i < 4
  · rw [if_pos (by omega), if_pos c1, if_pos (by omega), if_pos (by omega)]
    by_cases c2 : i = 2
    · subst c2
      have := Num.putTo_in (splice (zers 128) 0 [104, 100]) 2 N 1 (by omega) 0 (by omega)
      rw [Nat.add_zero] at this
      rw [this]
      simp
      omega
    · rw [Num.putTo_out _ _ _ _ _ (by omega), getD_splice _ _ _ (by rw [zers_len]; decide), if_neg (by omega), zers_getD]
      rcases (by omega : i = 0 ∨ i = 1 ∨ i = 3) with rfl | rfl | rfl <;> rfl
  · by_cases c2 : i < 12
    · rw [if_pos c2, if_neg c1, if_pos (by omega), if_pos (by omega), if_neg (by omega), getD_take _ _ _ (by omega)]
    · rw [if_neg c2]
      by_cases c3 : i < 44
      · rw [if_pos (by omega), if_pos (by omega), if_neg (by omega), getD_drop']
        congr 1
        omega
      · rw [if_neg (by omega), if_neg (by omega), if_neg (by omega), if_neg (by omega), zers_getD, Num.putTo_out _ _ _ _ _ (by omega), getD_splice _ _ _ (by rw [zers_len]; decide), if_neg (by omega), if_neg (by simp; omega), zers_getD]
end Go.Proofs.Ytkmijjipnepnoaa
