/- A patch laid over a block's bytes. -/
import Derived.Test.YteapkfnklbhdfaaNumb
import Derived.Laws.CopyRow
namespace Go.Proofs.Yteapkfnklbhdfaa
open Go.RowKit Go.Maps
set_option linter.unusedVariables false

/-- Bytes with a patch over them. -/
def ovr (xs : List Int) (p : Pv) : List Int := xs.take p.off ++ p.bs ++ xs.drop (p.off + p.bs.length)
theorem ovr_len {xs : List Int} {p : Pv} (h : p.off + p.bs.length ≤ xs.length) : (ovr xs p).length = xs.length := by
  unfold ovr; simp; omega

theorem byt_append {xs ys : List Int} (hx : Num.Byt xs) (hy : Num.Byt ys) : Num.Byt (xs ++ ys) := by
  intro i
  rw [List.getD_eq_getElem?_getD]
  rcases Nat.lt_or_ge i xs.length with h | h
  · rw [List.getElem?_append_left h, ← List.getD_eq_getElem?_getD]; exact hx i
  · rw [List.getElem?_append_right h, ← List.getD_eq_getElem?_getD]; exact hy _
theorem ovr_byt {xs : List Int} {p : Pv} (hx : Num.Byt xs) (hp : Num.Byt p.bs) : Num.Byt (ovr xs p) := byt_append (byt_append (byt_take hx _) hp) (byt_drop hx _)

theorem splice_take (cur X bs : List Value) (o : Nat) (h : cur.take 128 = X) (hX : X.length = 128) (hl : o + bs.length ≤ 128) : (cur.take o ++ bs ++ cur.drop (o + bs.length)).take 128 = X.take o ++ bs ++ X.drop (o + bs.length) := by
  have hc : 128 ≤ cur.length := by
    have := congrArg List.length h
    rw [List.length_take, hX] at this
    omega
  have e1 : (cur.take o).length = o := by rw [List.length_take]; omega
  rw [List.append_assoc, List.append_assoc, List.take_append, List.take_append, e1]
  have e2 : (cur.take o).take 128 = X.take o := by rw [← h, List.take_take, List.take_take]; congr 1; omega
  have e3 : bs.take (128 - o) = bs := List.take_of_length_le (by omega)
  have e4 : (cur.drop (o + bs.length)).take (128 - o - bs.length) = X.drop (o + bs.length) := by
    rw [← h, List.drop_take]; congr 1; omega
  rw [e2, e3, e4]

set_option maxRecDepth 100000 in
set_option maxHeartbeats 1000000 in
theorem lay_ok {B : Nat} {w : World} {g cap : Nat} {xs : List Int} (h : Own B w g 128 cap xs) (p : Pv) (hp : BI w p.bp p.bs.length p.bs) (hl : 1 ≤ p.bs.length) (ho : p.off + p.bs.length ≤ 128) :
    Calls Try.prog 53 #[.slice (some ⟨g, 0, none⟩) 128 cap, p.v] w fun e w' => e = .returned (.tuple #[]) ∧ Own B w' g 128 cap (ovr xs p) ∧ Frame (fun k => k = g) w w' := by
  obtain ⟨pb, po, hpe, hpc⟩ := hp.cells (by omega)
  have hxl : xs.length = 128 := h.len
  rcases h.2 with ⟨e, _⟩ | ⟨g', cap', cur, e, hbg, hgc, hnc, hcm, hcs, htk⟩
  · cases e
  cases e
  have hglt : g < w.heap.size := (Array.getElem?_eq_some_iff.1 hgc).1
  obtain ⟨W, hW⟩ : ∃ W, w.alloc (.cells p.cells 44) = W := ⟨_, rfl⟩
  have hbW : Below w.heap.size w W := by rw [← hW]; exact (Below.refl _ w).alloc (Nat.le_refl _) _
  have hrow : ∀ k, (W.drewN k).heap[g]? = some (.cells cur 5 (0, 0)) := fun k => by
    show W.heap[g]? = _
    rw [hbW.block g hglt]; exact hgc
  have c2 : W.cell? ⟨w.heap.size, 2, none⟩ = some (.int .i64 (p.off : Int)) := by rw [← hW, cell_of_row _ _ 2 _ 44 _ (at_new rfl)]; rfl
  have c3 : W.cell? ⟨w.heap.size, 3, none⟩ = some (.slice p.bp p.bs.length p.bc) := by rw [← hW, cell_of_row _ _ 3 _ 44 _ (at_new rfl)]; rfl
  obtain ⟨NEW, hNEW⟩ : ∃ NEW, (cur.toList.take p.off ++ p.bs.map (Value.int .u8) ++ cur.toList.drop (p.off + (p.bs.map (Value.int .u8)).length)).toArray = NEW := ⟨_, rfl⟩
  have hmin : Nat.min p.bs.length (128 - p.off) = p.bs.length := Nat.min_eq_left (by omega)
  have hcp : ∀ k ty, (Builtin.copy_ #[29, 29] ty #[.slice (some ⟨g, p.off, none⟩) (128 - p.off) (cap - p.off), .slice p.bp p.bs.length p.bc]).run Try.prog (W.drewN k) = .ok (.int .i64 (p.bs.length : Int)) ((W.drewN k).setRow g NEW) := fun k ty => by
    have hsrc : ∀ j v, (p.bs.map (Value.int .u8))[j]? = some v → (W.drewN k).cell? ((⟨pb, po, none⟩ : Addr).add j) = some v := by
      have hk := hp.kept hbW
      rw [hpe] at hk
      exact hk.src'
    rw [hpe]
    have := run_copy_row (P := Try.prog) (W.drewN k) 29 29 ty 5 g p.off (128 - p.off) (cap - p.off) ⟨pb, po, none⟩ p.bs.length p.bc cur 5 (p.bs.map (Value.int .u8)) Try.underlying29 size5 (hrow k) (by rw [hmin]; simp) hsrc (by simp; omega) (one_cells _)
    rw [this, hNEW]
    simp [goInt]
  have hfin : ∀ k, Own B ((W.drewN k).setRow g NEW) g 128 cap (ovr xs p) ∧ Frame (fun k => k = g) w ((W.drewN k).setRow g NEW) := fun k => by
    refine ⟨⟨by simp [ovr_len (xs := xs) (p := p) (by omega), hxl], .inr ⟨g, cap, NEW, rfl, hbg, setRow_heap _ _ _ _ _ _ (hrow k), hnc, hcm, ?_, ?_⟩⟩, ?_⟩
    · rw [← hNEW]; simp; omega
    · rw [← hNEW]
      have := splice_take cur.toList (xs.map (Value.int .u8)) (p.bs.map (Value.int .u8)) p.off (by simpa using htk) (by simp [hxl]) (by simp; omega)
      simp only [Nat.mul_one]
      show (_ : List Value).take 128 = _
      rw [List.toList_toArray, this]
      simp [ovr, List.map_take, List.map_drop]
    · refine ⟨hbW.os, hbW.tape, hbW.output, by simp; exact hbW.size, fun i hi hne => ?_⟩
      rw [setRow_other _ _ _ _ hne]
      exact hbW.block i hi
  have hcd : ∀ ty, (Builtin.copy_ #[29, 29] ty #[.slice (some ⟨g, p.off, none⟩) (128 - p.off) (cap - p.off), .slice p.bp p.bs.length p.bc]).run Try.prog W.drew = .ok (.int .i64 (p.bs.length : Int)) (W.drew.setRow g NEW) := fun ty => hcp 1 ty
  have hfd : Own B (W.drew.setRow g NEW) g 128 cap (ovr xs p) ∧ Frame (fun k => k = g) w (W.drew.setRow g NEW) := hfin 1
  have HF : Hid _ := hfd
  have hv : p.v = .agg p.cells := rfl
  clear hcp hfin hfd
  clear h hp hpc hpe htk hgc hcm hcs hrow hNEW hbW hxl hmin
  have ho1 : (p.off : Int) ≤ 128 := by omega
  have ho2 : p.off ≤ 128 := by omega
  go_enter Try.func53, Try.ntmps53
  go_wp2_with fail
  clear hW hv
  generalize p.off = off at *
  generalize p.bs.length = n at *
  generalize p.bp = bp at *
  generalize p.v = pv at *
  go_region_with (fail)
  all_goals go_end0
  all_goals exact ⟨rfl, HF.out⟩
end Go.Proofs.Yteapkfnklbhdfaa
