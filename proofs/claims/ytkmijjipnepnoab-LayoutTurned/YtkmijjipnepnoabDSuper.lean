/- Superblocks out of bytes, by the program. -/
import Derived.Test.YtkmijjipnepnoabRSuper
import Derived.Laws.ResultCell
namespace Go.Proofs.Ytkmijjipnepnoab
open Go.RowKit

theorem numD_drop (xs : List Int) (a : Nat) (k : Nat) : ∀ i, Num.numD (xs.drop a) i k = Num.numD xs (a + i) k := by
  induction k with
  | zero => intro i; rfl
  | succ k ih =>
    intro i
    show (xs.drop a).getD i 0 + 256 * Num.numD (xs.drop a) (i + 1) k = xs.getD (a + i) 0 + 256 * Num.numD xs (a + i + 1) k
    rw [ih, getD_drop', Nat.add_assoc]

theorem bi_ne_size {w : World} {b o n : Nat} {xs : List Int} (h : BI w (some ⟨b, o, none⟩) n xs) {g : Nat} {cs : Array Value} {t : TypeId} {mk : Nat × Nat} (hg : w.heap[g]? = some (.cells cs t mk)) (hn : cs.size < n) : b ≠ g := by
  rintro rfl
  obtain ⟨b', o', e, hc⟩ := h.cells (by omega)
  cases e
  have := hc (n - 1) (by omega)
  simp only [World.cell?, hg] at this
  rw [Array.getElem?_eq_none (by omega)] at this
  cases this

theorem rest_at {w w' : World} {rb n : Nat} {xs : List Int} {E : Int} (h : Rest w rb n xs E) (hr : w'.heap[rb]? = w.heap[rb]?) (hs : ∀ b o, BI w (some ⟨b, o, none⟩) n xs → 0 < n → w'.heap[b]? = w.heap[b]?) : Rest w' rb n xs E := by
  obtain ⟨b, o, c, h1, h2, h3⟩ := h
  refine ⟨b, o, c, hr.trans h1, h2, bi_same h3 (fun b' o' e hn => ?_)⟩
  cases e
  exact hs b o h3 hn

/-- A store to a block that has no byte leaves a reader as it was. -/
theorem rest_set {w : World} {rb n : Nat} {xs : List Int} {E : Int} (h : Rest w rb n xs E) {g : Nat} {cs : Array Value} {t : TypeId} {mk : Nat × Nat} (hg : w.heap[g]? = some (.cells cs t mk)) (hno : ∀ (x : Int) (j : Nat), cs[j]? ≠ some (Value.int .u8 x)) (hne : rb ≠ g) (i : Nat) (v : Value) : Rest (w.setCell ⟨g, i, none⟩ v) rb n xs E :=
  rest_at h (Below.heap_setCell _ _ _ _ hne) (fun _ _ hb hn => Below.heap_setCell _ _ _ _ (bi_ne hb hn hg hno))

theorem grown_cells {w w' : World} {rb g : Nat} {o : Obj} (hb : w.grownBy w' (some rb)) (hg : w.heap[g]? = some o) (hne : g ≠ rb) : w'.heap[g]? = some o := by
  rw [hb.block g (Array.getElem?_eq_some_iff.1 hg).1 (by simpa using hne)]; exact hg

theorem super_no (a b c d : Int) : ∀ (x : Int) (j : Nat), (#[.int .i64 a, .int .i64 b, .int .i64 c, .int .i64 d] : Array Value)[j]? ≠ some (Value.int .u8 x) := by
  intro x j
  rcases j with _ | _ | _ | _ | j <;> simp

theorem info25 : (Try.prog.info? 25).map (·.size) = some 4 := by kernel_rfl

/-- What the bytes of a superblock say. -/
def rG (xs : List Int) : Int := Num.numD xs 4 1
def rB (xs : List Int) : Int := Num.numD xs 5 1 + 1
def rI (xs : List Int) : Int := Num.numD xs 6 1
def rM (xs : List Int) : Int := Num.numD xs 8 4

/-- What stands while a superblock is read: the reader, the structure, the place of the answer. -/
structure SR (w w' : World) (rb n : Nat) (xs : List Int) (a b c d : Int) : Prop where
  r : Rest w' rb n xs 0
  s : w'.heap[w.heap.size + 1]? = some (superO a b c d)
  z : w'.heap[w.heap.size]? = some (superO 0 0 0 0)
  lo : w.heap.size + 2 ≤ rb
  bw : Below w.heap.size w w'

theorem SR.grown {w w' w2 : World} {rb n m : Nat} {xs ys : List Int} {a b c d : Int} (h : SR w w' rb n xs a b c d) (hg : w'.grownBy w2 (some rb)) (hr : Rest w2 rb m ys 0) : SR w w2 rb m ys a b c d := by
  have hl := h.lo
  exact ⟨hr, grown_cells hg h.s (by omega), grown_cells hg h.z (by omega), h.lo, h.bw.grown hg h.bw.size (by intro k hk; cases hk; omega)⟩

theorem SR.set {w w' : World} {rb n : Nat} {xs : List Int} {a b c d : Int} (h : SR w w' rb n xs a b c d) (i : Nat) (v : Value) {a' b' c' d' : Int} (he : #[.int .i64 a, .int .i64 b, .int .i64 c, .int .i64 d].setIfInBounds i v = #[.int .i64 a', .int .i64 b', .int .i64 c', .int .i64 d']) : SR w (w'.setCell ⟨w.heap.size + 1, i, none⟩ v) rb n xs a' b' c' d' := by
  have hl := h.lo
  refine ⟨rest_set h.r h.s (super_no a b c d) (by omega) i v, ?_, ?_, h.lo, h.bw.setCell (by show w.heap.size ≤ w.heap.size + 1; omega) v⟩
  · rw [heap_set h.s, he]
  · rw [Below.heap_setCell _ _ _ _ (by show w.heap.size ≠ w.heap.size + 1; omega)]; exact h.z

theorem SR.fz {w w' : World} {rb n : Nat} {xs : List Int} {a b c d : Int} (h : SR w w' rb n xs a b c d) (i : Nat) : w'.frozen? ⟨w.heap.size + 1, i, none⟩ = false := frozen_of_row _ _ _ _ _ h.s

theorem SR.cell {w w' : World} {rb n : Nat} {xs : List Int} {a b c d : Int} (h : SR w w' rb n xs a b c d) (i : Nat) (v : Value) (hv : (#[.int .i64 a, .int .i64 b, .int .i64 c, .int .i64 d] : Array Value)[i]? = some v) : w'.cell? ⟨w.heap.size + 1, i, none⟩ = some v := cell_row h.s i v hv

set_option maxHeartbeats 1000000 in
theorem readSuper_ok (p : Option Addr) (c : Nat) (xs : List Int) (w : World) (h : BI w p 128 xs) :
    Calls Try.prog 50 #[.slice p 128 c] w fun e w' => e = .returned (superV (rG xs) (rB xs) (rI xs) (rM xs)) ∧ Below w.heap.size w w' := by
  have hb5 := Num.numD_bd h.byt 1 5
  go_enter Try.func50, Try.ntmps50
  go_wp2_with fail
  have hb0 := (grew_alloc w (superO 0 0 0 0)).trans ((grew_alloc (w.alloc (superO 0 0 0 0)) (superO 0 0 0 0)).mono (by rw [size_alloc]; omega))
  refine Calls.mono (over_ok _ p 128 c xs (h.kept hb0)) ?_
  rintro e w1 ⟨rb, rfl, hlo, hr, hb1⟩
  have h1 : SR w w1 rb 128 xs 0 0 0 0 := by
    simp only [size_alloc] at hlo hb1
    refine ⟨hr, ?_, ?_, by omega, hb0.trans (hb1.mono (by omega))⟩
    · rw [hb1.block _ (by omega)]
      have := heap_new (w.alloc (superO 0 0 0 0)) (superO 0 0 0 0)
      rwa [size_alloc] at this
    · rw [hb1.block _ (by omega), Below.heap_alloc _ _ _ (by rw [size_alloc]; omega)]
      exact heap_new _ _
  clear hr hb1 hlo hb0
  go_wp2_with fail
  refine Calls.mono (skip_yes _ rb 128 4 _ h1.r (by omega)) ?_
  rintro e w2 ⟨rfl, hg, hr⟩
  have h2 := h1.grown hg hr
  clear h1 hg hr
  have t2 := take_yes _ rb _ 1 _ h2.r (by omega) (by omega) (by omega)
  rw [show Num.numD (xs.drop 4) 0 1 = rG xs from numD_drop xs 4 1 0] at t2
  go_wp2_with fail
  refine Calls.mono t2 ?_
  rintro e w2a ⟨rfl, hg, hr⟩
  have h2a := h2.grown hg hr
  clear h2 hg hr t2
  have f2 := h2a.fz 0
  have c2 := h2a.cell 0 _ rfl
  have h3 := h2a.set 0 (.int .i64 (rG xs)) rfl
  have t3 := take_yes _ rb _ 1 _ h3.r (by omega) (by omega) (by omega)
  rw [show Num.numD ((xs.drop 4).drop 1) 0 1 = Num.numD xs 5 1 from by rw [List.drop_drop]; exact numD_drop xs 5 1 0] at t3
  go_wp2_with fail
  refine Calls.mono t3 ?_
  rintro e w3a ⟨rfl, hg, hr⟩
  have h3a := h3.grown hg hr
  clear h3 hg hr t3
  have f3 := h3a.fz 1
  have c3 := h3a.cell 1 _ rfl
  have h4 := h3a.set 1 (.int .i64 (Num.numD xs 5 1 + 1)) rfl
  have t4 := take_yes _ rb _ 1 _ h4.r (by omega) (by omega) (by omega)
  rw [show Num.numD (((xs.drop 4).drop 1).drop 1) 0 1 = rI xs from by rw [List.drop_drop, List.drop_drop]; exact numD_drop xs 6 1 0] at t4
  go_wp2_with fail
  refine Calls.mono t4 ?_
  rintro e w4a ⟨rfl, hg, hr⟩
  have h4a := h4.grown hg hr
  clear h4 hg hr t4
  have f4 := h4a.fz 2
  have c4 := h4a.cell 2 _ rfl
  have h5 := h4a.set 2 (.int .i64 (rI xs)) rfl
  go_wp2_with fail
  refine Calls.mono (skip_yes _ rb _ 1 _ h5.r (by omega)) ?_
  rintro e w5a ⟨rfl, hg, hr⟩
  have h6 := h5.grown hg hr
  clear h5 hg hr
  have t6 := take_yes _ rb _ 4 _ h6.r (by omega) (by omega) (by omega)
  rw [show Num.numD (((((xs.drop 4).drop 1).drop 1).drop 1).drop 1) 0 4 = rM xs from by simp only [List.drop_drop]; exact numD_drop xs 8 4 0] at t6
  go_wp2_with fail
  refine Calls.mono t6 ?_
  rintro e w6a ⟨rfl, hg, hr⟩
  have h6a := h6.grown hg hr
  clear h6 hg hr t6
  have f6 := h6a.fz 3
  have c6 := h6a.cell 3 _ rfl
  have h7 := h6a.set 3 (.int .i64 (rM xs)) rfl
  have d0 := h7.cell 0 _ rfl
  have d1 := h7.cell 1 _ rfl
  have d2 := h7.cell 2 _ rfl
  have d3 := h7.cell 3 _ rfl
  have z0 := cell_row h7.z 0 _ rfl
  have z1 := cell_row h7.z 1 _ rfl
  have z2 := cell_row h7.z 2 _ rfl
  have z3 := cell_row h7.z 3 _ rfl
  have y0 := frozen_of_row _ _ 0 _ _ h7.z
  have y1 := frozen_of_row _ _ 1 _ _ h7.z
  have y2 := frozen_of_row _ _ 2 _ _ h7.z
  have y3 := frozen_of_row _ _ 3 _ _ h7.z
  have hbw := h7.bw
  have hz7 := h7.z
  clear h6a h7 h4a h3a h2a
  generalize hw7 : w6a.setCell ⟨w.heap.size + 1, 3, none⟩ (.int .i64 (rM xs)) = w7 at *
  go_wp2_with fail
  have hfin := heap_set (i := 3) (heap_set (i := 2) (heap_set (i := 1) (heap_set (i := 0) hz7 (.int .i64 (rG xs))) (.int .i64 (Num.numD xs 5 1 + 1))) (.int .i64 (rI xs))) (.int .i64 (rM xs))
  refine bodyPost_ret (v := superV (rG xs) (rB xs) (rI xs) (rM xs)) (results_cell_row (p := 2) (ty := 25) Try.results50 _ _ w.heap.size 25 _ (0, 0) _ rfl hfin Try.underlying25 rfl info25) rfl ?_
  exact ⟨rfl, (((hbw.setCell (Nat.le_refl _) _).setCell (Nat.le_refl _) _).setCell (Nat.le_refl _) _).setCell (Nat.le_refl _) _⟩
end Go.Proofs.Ytkmijjipnepnoab
