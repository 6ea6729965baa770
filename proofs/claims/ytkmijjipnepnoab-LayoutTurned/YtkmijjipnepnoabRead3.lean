/- A reader's three calls, whole: what they answer, and what the reader is behind them. -/
import Derived.Test.YtkmijjipnepnoabRead2
namespace Go.Proofs.Ytkmijjipnepnoab
open Go.RowKit

theorem bi_same {w w' : World} {p : Option Addr} {n : Nat} {xs : List Int} (h : BI w p n xs) (hs : ∀ b o, p = some ⟨b, o, none⟩ → 0 < n → w'.heap[b]? = w.heap[b]?) : BI w' p n xs := by
  refine ⟨h.len, h.big, h.byt, fun hn => ?_⟩
  obtain ⟨b, o, rfl, hc⟩ := h.cells hn
  refine ⟨b, o, rfl, fun i hi => ?_⟩
  rw [World.cell?_of_block (w := w) (a := ⟨b, o + i, none⟩) (hs b o rfl hn)]
  exact hc i hi

/-- A block without a byte in it is none of those that hold the bytes. -/
theorem bi_ne {w : World} {b o n : Nat} {xs : List Int} (h : BI w (some ⟨b, o, none⟩) n xs) (hn : 0 < n) {g : Nat} {cs : Array Value} {t : TypeId} {mk : Nat × Nat} (hg : w.heap[g]? = some (.cells cs t mk)) (hno : ∀ (x : Int) (j : Nat), cs[j]? ≠ some (Value.int .u8 x)) : b ≠ g := by
  obtain ⟨b', o', e, hc⟩ := h.cells hn
  cases e
  rintro rfl
  have := hc 0 hn
  rw [cell_of_row w b (o + 0) cs t mk hg] at this
  exact hno _ _ this

theorem bi_block {w : World} {b o n : Nat} {xs : List Int} (h : BI w (some ⟨b, o, none⟩) n xs) (hn : 0 < n) : b < w.heap.size := by
  obtain ⟨b', o', e, hc⟩ := h.cells hn
  cases e
  exact lt_of_cell (hc 0 hn)

/-- The reader at rb has so much left, an error, and was made by a call. -/
def Rest (w : World) (rb : Nat) (n : Nat) (xs : List Int) (E : Int) : Prop :=
  ∃ b o c, Rd w rb (.slice (some ⟨b, o, none⟩) n c) E true ∧ n ≤ c ∧ BI w (some ⟨b, o, none⟩) n xs

theorem rd_no (v : Value) (E : Int) (m : Bool) (hv : ∀ x, v ≠ Value.int .u8 x) : ∀ (x : Int) (j : Nat), (#[v, .int .i64 E, .bool m] : Array Value)[j]? ≠ some (Value.int .u8 x) := by
  intro x j
  rcases j with _ | _ | _ | j
  · simp; exact hv x
  · simp
  · simp
  · simp

theorem one_no (v : Value) (hv : ∀ x, v ≠ Value.int .u8 x) : ∀ (x : Int) (j : Nat), (#[v] : Array Value)[j]? ≠ some (Value.int .u8 x) := by
  intro x j
  rcases j with _ | j
  · simp; exact hv x
  · simp

/-- Behind a call that took k bytes and laid its answer into block B2 of its own. -/
theorem fin_yes {w W w1 : World} {rb B2 n k : Nat} {xs : List Int} {u v : Value} {t : TypeId} {p : Option Addr} {m c : Nat} (hb : Below w.heap.size w W) (hr : Rd W rb (.slice p m c) 0 true) (hB : w.heap.size ≤ B2) (h2 : W.heap[B2]? = some (.cells #[u] t (0, 0))) (hu : ∀ x, u ≠ Value.int .u8 x) (hlt : rb < w.heap.size)
    (hc : Cutoff W w1 rb n xs k) : (w1.setCell ⟨B2, 0, none⟩ v).cell? ⟨B2, 0, none⟩ = some v ∧ w.grownBy (w1.setCell ⟨B2, 0, none⟩ v) (some rb) ∧ Rest (w1.setCell ⟨B2, 0, none⟩ v) rb (n - k) (xs.drop k) 0 := by
  obtain ⟨b, o, c', rfl, hnc, hbi⟩ := hc
  have hne : rb ≠ B2 := by omega
  have e2 : (W.setCell ⟨rb, 0, none⟩ (.slice (some ⟨b, o, none⟩) (n - k) c')).heap[B2]? = some (.cells #[u] t (0, 0)) := by
    rw [Below.heap_setCell _ _ _ _ (by simp; omega)]; exact h2
  have e3 := heap_setCell_same _ B2 0 _ t v e2
  have er : Rd ((W.setCell ⟨rb, 0, none⟩ (.slice (some ⟨b, o, none⟩) (n - k) c')).setCell ⟨B2, 0, none⟩ v) rb (.slice (some ⟨b, o, none⟩) (n - k) c') 0 true := by
    unfold Rd
    rw [Below.heap_setCell _ _ _ _ (by simpa using hne)]
    exact hr.set0 _
  refine ⟨?_, ⟨?_, ?_, ?_, ?_, ?_⟩, ⟨b, o, c', er, hnc, ?_⟩⟩
  · rw [cell_of_row _ B2 0 _ t (0, 0) e3]; simp
  · exact hb.os
  · exact hb.tape
  · exact hb.output
  · have := hb.size; simpa using this
  · intro j hj hn
    rw [Below.heap_setCell _ _ _ _ (by simp; omega), Below.heap_setCell _ _ _ _ (by simp; intro e; exact hn (by rw [e]))]
    exact hb.block j hj
  · refine bi_same hbi fun b' o' e hn => ?_
    cases e
    have n1 := bi_ne hbi hn hr (rd_no _ _ _ (by intro x; simp))
    have n2 := bi_ne hbi hn h2 (one_no _ hu)
    rw [Below.heap_setCell _ _ _ _ (by simpa using n2), Below.heap_setCell _ _ _ _ (by simpa using n1)]

theorem at_old {w : World} {k : Nat} {o u : Obj} (h : w.heap[k]? = some u) : (w.alloc o).heap[k]? = some u := by
  rw [Below.heap_alloc _ _ _ (Array.getElem?_eq_some_iff.1 h).1]; exact h

theorem at_new {w : World} {k : Nat} {o : Obj} (h : k = w.heap.size) : (w.alloc o).heap[k]? = some o := by
  subst h; exact heap_alloc_new w o

theorem cell_one {w : World} {g : Nat} {v : Value} {t : TypeId} (h : w.heap[g]? = some (.cells #[v] t (0, 0))) : w.cell? ⟨g, 0, none⟩ = some v := by
  rw [cell_of_row w g 0 _ t _ h]; simp

theorem fz_one {w : World} {g : Nat} {v : Value} {t : TypeId} (h : w.heap[g]? = some (.cells #[v] t (0, 0))) : w.frozen? ⟨g, 0, none⟩ = false := frozen_of_row w g 0 _ t h

/-- Three new blocks, and a fourth: what each holds. -/
theorem three (w : World) (a b c d : Value) (ta tb tc td : TypeId) :
    (((((w.alloc (.cells #[a] ta)).alloc (.cells #[b] tb)).alloc (.cells #[c] tc)).alloc (.cells #[d] td)).heap[w.heap.size]? = some (.cells #[a] ta (0, 0))) ∧
    (((((w.alloc (.cells #[a] ta)).alloc (.cells #[b] tb)).alloc (.cells #[c] tc)).alloc (.cells #[d] td)).heap[w.heap.size + 1]? = some (.cells #[b] tb (0, 0))) ∧
    (((((w.alloc (.cells #[a] ta)).alloc (.cells #[b] tb)).alloc (.cells #[c] tc)).alloc (.cells #[d] td)).heap[w.heap.size + 1 + 1]? = some (.cells #[c] tc (0, 0))) ∧
    Below w.heap.size w ((((w.alloc (.cells #[a] ta)).alloc (.cells #[b] tb)).alloc (.cells #[c] tc)).alloc (.cells #[d] td)) ∧
    Below w.heap.size w (((w.alloc (.cells #[a] ta)).alloc (.cells #[b] tb)).alloc (.cells #[c] tc)) := by
  refine ⟨at_old (at_old (at_old (at_new rfl))), at_old (at_old (at_new (by simp))), at_old (at_new (by simp)), ?_, ?_⟩
  · exact ((((Below.refl _ _).alloc (Nat.le_refl _) _).alloc (by simp) _).alloc (by simp; omega) _).alloc (by simp; omega) _
  · exact (((Below.refl _ _).alloc (Nat.le_refl _) _).alloc (by simp) _).alloc (by simp; omega) _

theorem rd_kept {w w' : World} {rb : Nat} {v : Value} {E : Int} {m : Bool} (h : Rd w rb v E m) (hb : Below w.heap.size w w') : Rd w' rb v E m := by
  unfold Rd
  rw [hb.block rb h.lt]
  exact h

set_option maxHeartbeats 800000 in
theorem take_yes (w : World) (rb n k : Nat) (xs : List Int) (h : Rest w rb n xs 0) (h1 : 1 ≤ k) (h2 : k ≤ 4) (h3 : k ≤ n) :
    Calls Try.prog 72 #[.pointer (some ⟨rb, 0, none⟩), .int .i64 k] w fun e w' => e = .returned (.int .i64 (Num.numD xs 0 k)) ∧ w.grownBy w' (some rb) ∧ Rest w' rb (n - k) (xs.drop k) 0 := by
  obtain ⟨b, o, c, hr, hnc, hbi⟩ := h
  have hmf := makes
  have hlt := hr.lt
  obtain ⟨t0, t1, t2, t3, t4⟩ := three w (.pointer (some ⟨rb, 0, none⟩)) (.int .i64 k) (.int .i64 0) (.pointer (some ⟨rb, 0, none⟩)) 81 3 3 81
  have hcon := attempt34_yes _ rb _ ⟨w.heap.size, 0, none⟩ ⟨w.heap.size + 1, 0, none⟩ ⟨w.heap.size + 1 + 1, 0, none⟩
    (fun w' => w'.cell? ⟨w.heap.size + 1 + 1, 0, none⟩ = some (.int .i64 (Num.numD xs 0 k)) ∧ w.grownBy w' (some rb) ∧ Rest w' rb (n - k) (xs.drop k) 0) (rd_kept hr t4)
    ((take1_yes _ rb _ _ _ b o n c 0 true xs k _ (rd_kept hr t3) (hbi.kept t3) hnc h1 h2 h3 (cell_one t0) (cell_one t1) (cell_one t2) (fz_one t2) (by omega)).mono
      (by rintro e w' ⟨he, w1, hc, rfl⟩; exact ⟨he, fin_yes t3 (rd_kept hr t3) (by omega) t2 (by intro x; simp) hlt hc⟩))
  have HC := (show Hid _ from hcon)
  clear hcon t0 t1 t2 t3 t4 hr hbi
  go_enter Try.func72, Try.ntmps72
  go_wp2_with fail
  refine Calls.mono HC.out ?_
  rintro e w' ⟨rfl, hcell, hgr, hrest⟩
  clear HC
  go_wp2
  go_ret
  exact ⟨rfl, hgr, hrest⟩

/-- Behind a call that gave up with an error. -/
theorem fin_bad {w W : World} {rb n : Nat} {xs : List Int} {E : Int} {p : Option Addr} {c : Nat} (hb : Below w.heap.size w W) (hr : Rd W rb (.slice p n c) 0 true) (hbi : BI W p n xs) :
    w.grownBy (W.setCell ⟨rb, 1, none⟩ (.int .i64 E)) (some rb) ∧ Rd (W.setCell ⟨rb, 1, none⟩ (.int .i64 E)) rb (.slice p n c) E true ∧ BI (W.setCell ⟨rb, 1, none⟩ (.int .i64 E)) p n xs := by
  refine ⟨⟨hb.os, hb.tape, hb.output, by have := hb.size; simpa using this, fun j hj hn => ?_⟩, hr.set1 E, bi_same hbi fun b' o' e hn => ?_⟩
  · rw [Below.heap_setCell _ _ _ _ (by simp; intro e; exact hn (by rw [e]))]
    exact hb.block j hj
  · subst e
    have n1 := bi_ne hbi hn hr (rd_no _ _ _ (by intro x; simp))
    rw [Below.heap_setCell _ _ _ _ (by simpa using n1)]

set_option maxHeartbeats 800000 in
theorem take_bad (w : World) (rb n : Nat) (xs : List Int) (wd : Int) (h : Rest w rb n xs 0) (h1 : Num.gE n 0 wd ≠ 0) :
    Calls Try.prog 72 #[.pointer (some ⟨rb, 0, none⟩), .int .i64 wd] w fun e w' => e = .returned (.int .i64 0) ∧ w.grownBy w' (some rb) ∧ Rest w' rb n xs (Num.gE n 0 wd) := by
  obtain ⟨b, o, c, hr, hnc, hbi⟩ := h
  have hmf := makes
  have hlt := hr.lt
  obtain ⟨t0, t1, t2, t3, t4⟩ := three w (.pointer (some ⟨rb, 0, none⟩)) (.int .i64 wd) (.int .i64 0) (.pointer (some ⟨rb, 0, none⟩)) 81 3 3 81
  have hcon := attempt34_pan _ rb _ ⟨w.heap.size, 0, none⟩ ⟨w.heap.size + 1, 0, none⟩ ⟨w.heap.size + 1 + 1, 0, none⟩ (Num.gE n 0 wd) (rd_kept hr t4)
    (take1_bad _ rb _ _ (w.heap.size + 1 + 1) _ n c 0 true xs wd (rd_kept hr t3) (hbi.kept t3) h1 (cell_one t0) (cell_one t1))
  have hfin := fin_bad (E := Num.gE n 0 wd) t3 (rd_kept hr t3) (hbi.kept t3)
  have hcell : ((((((w.alloc (.cells #[.pointer (some ⟨rb, 0, none⟩)] 81)).alloc (.cells #[.int .i64 wd] 3)).alloc (.cells #[.int .i64 0] 3)).alloc (.cells #[.pointer (some ⟨rb, 0, none⟩)] 81)).setCell ⟨rb, 1, none⟩ (.int .i64 (Num.gE n 0 wd))).cell? ⟨w.heap.size + 1 + 1, 0, none⟩) = some (.int .i64 0) := by
    rw [World.cell?_of_block (a := ⟨w.heap.size + 1 + 1, 0, none⟩) (Below.heap_setCell _ _ _ _ (by simp; omega))]
    exact cell_one t2
  have hcon2 := hcon.mono (R' := fun e w' => e = .returned (.tuple #[]) ∧ w'.cell? ⟨w.heap.size + 1 + 1, 0, none⟩ = some (.int .i64 0) ∧ w.grownBy w' (some rb) ∧ Rest w' rb n xs (Num.gE n 0 wd))
    (by rintro e w' ⟨he, rfl⟩; exact ⟨he, hcell, hfin.1, b, o, c, hfin.2.1, hnc, hfin.2.2⟩)
  have HC := (show Hid _ from hcon2)
  clear hcon hcon2 hfin hcell t0 t1 t2 t3 t4 hr hbi h1
  generalize Num.gE n 0 wd = F at *
  go_enter Try.func72, Try.ntmps72
  go_wp2_with fail
  refine Calls.mono HC.out ?_
  rintro e w' ⟨rfl, hcell, hgr, hrest⟩
  clear HC
  go_wp2
  go_ret
  exact ⟨rfl, hgr, hrest⟩

end Go.Proofs.Ytkmijjipnepnoab
