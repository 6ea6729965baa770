/- GeomApart: each block is just one of superblock, header, block of inodes, block of data; no two inodes lie in one place. -/
import Derived.Test.YtkmijjipnepnoabSets
import Derived.Test.YtkmijjipnepnoabCanW
namespace Go.Proofs.Ytkmijjipnepnoab
open Go.RowKit Go.Maps
set_option linter.unusedVariables false

theorem info3 : (Try.prog.info? 3).map (fun i => (i.zero, i.size, i.bytes)) = some (some (.int .i64 0), 1, 8) := by kernel_rfl

open Classical in
noncomputable def cnt (S : Nat → Prop) (j : Nat) : Int := if S j then 1 else 0
theorem cnt_yes {S : Nat → Prop} {j : Nat} (h : S j) : cnt S j = 1 := by unfold cnt; rw [if_pos h]
theorem cnt_no {S : Nat → Prop} {j : Nat} (h : ¬ S j) : cnt S j = 0 := by unfold cnt; rw [if_neg h]
noncomputable def cntA (S : Nat → Prop) (N : Nat) : Array Value := ((List.range N).map (fun j => Value.int .i64 (cnt S j))).toArray

/-- Block kb is a row of N numbers: 1 where S holds, else 0. -/
def Kinds (w : World) (kb N : Nat) (S : Nat → Prop) : Prop := w.heap[kb]? = some (.cells (cntA S N) 3 (0, 0))

theorem Kinds.cell {w : World} {kb N : Nat} {S : Nat → Prop} (h : Kinds w kb N S) (j : Nat) (hj : j < N) : w.cell? ⟨kb, j, none⟩ = some (.int .i64 (cnt S j)) := by
  unfold Kinds cntA at h
  simp [World.cell?, h, hj]
theorem Kinds.fz {w : World} {kb N : Nat} {S : Nat → Prop} (h : Kinds w kb N S) (j : Nat) : w.frozen? ⟨kb, j, none⟩ = false := frozen_of_row _ _ _ _ _ h
theorem Kinds.kept {w w' : World} {kb N : Nat} {S : Nat → Prop} (h : Kinds w kb N S) (hb : w'.heap[kb]? = w.heap[kb]?) : Kinds w' kb N S := hb.trans h
theorem Kinds.lt {w : World} {kb N : Nat} {S : Nat → Prop} (h : Kinds w kb N S) : kb < w.heap.size := (Array.getElem?_eq_some_iff.1 h).1
theorem heap_set {w : World} {b i : Nat} {cs : Array Value} {t : TypeId} (h : w.heap[b]? = some (.cells cs t (0, 0))) (v : Value) : (w.setCell ⟨b, i, none⟩ v).heap[b]? = some (.cells (cs.setIfInBounds i v) t (0, 0)) := by
  simp [World.setCell, Array.getElem?_modify, h]
theorem Kinds.bump {w : World} {kb N : Nat} {S : Nat → Prop} (h : Kinds w kb N S) (j : Nat) (hj : j < N) : Kinds (w.setCell ⟨kb, j, none⟩ (.int .i64 1)) kb N (fun i => S i ∨ i = j) := by
  unfold Kinds
  rw [heap_set h]
  congr 2
  unfold cntA
  apply Array.ext
  · simp
  · intro i h1 h2
    simp only [List.setIfInBounds_toArray, List.getElem_toArray, List.getElem_set, List.getElem_map, List.getElem_range]
    by_cases e : j = i
    · subst e
      rw [if_pos rfl, cnt_yes (.inr rfl)]
    · rw [if_neg e]
      by_cases hs : S i
      · rw [cnt_yes hs, cnt_yes (.inl hs)]
      · rw [cnt_no hs, cnt_no (by rintro (h | h); exact hs h; exact e h.symm)]
theorem Kinds.congr {w : World} {kb N : Nat} {S T : Nat → Prop} (h : Kinds w kb N S) (e : ∀ j, j < N → (S j ↔ T j)) : Kinds w kb N T := by
  unfold Kinds at h ⊢
  rw [h]
  congr 2
  unfold cntA
  congr 1
  apply List.map_congr_left
  intro j hj
  have := e j (List.mem_range.1 hj)
  by_cases hs : S j
  · rw [cnt_yes hs, cnt_yes (this.1 hs)]
  · rw [cnt_no hs, cnt_no (fun t => hs (this.2 t))]
theorem kinds_made {w : World} {B g N : Nat} (h : w.ownsRow B 3 1 (.slice (some ⟨g, 0, none⟩) N N) N (madeCells (Value.int .i64 0).cells (N * 1)).toList) : Kinds w g N (fun _ => False) := by
  rcases h.2 with ⟨h', _⟩ | ⟨g', cap', cur, h', _, hg, _, _, hcs, ht⟩
  · simp at h'
  · simp only [Value.slice.injEq, Option.some.injEq, Addr.mk.injEq, and_true, true_and] at h'
    obtain ⟨rfl, rfl⟩ := h'
    rw [List.take_of_length_le (by simp; omega)] at ht
    unfold Kinds
    rw [hg]
    congr 2
    apply Array.ext'
    rw [ht]
    unfold cntA
    apply List.ext_getElem
    · simp [madeCells, Value.cells]
    · intro i h1 h2
      simp [madeCells, Value.cells, Nat.mod_one, cnt]

/-- What stands in memory while blocks are counted. -/
structure AS (w : World) (G B I N : Nat) (wr : World) (kb : Nat) (S : Nat → Prop) : Prop where
  b0 : wr.cell? ⟨w.heap.size, 0, none⟩ = some (.int .i64 (G : Int))
  b1 : wr.cell? ⟨w.heap.size, 1, none⟩ = some (.int .i64 (B : Int))
  b2 : wr.cell? ⟨w.heap.size, 2, none⟩ = some (.int .i64 (I : Int))
  k : Kinds wr kb N S
  bw : Below w.heap.size w wr
  lo : w.heap.size < kb

theorem AS.grew {w : World} {G B I N : Nat} {wr w' : World} {kb : Nat} {S : Nat → Prop} (h : AS w G B I N wr kb S) (hb : Below wr.heap.size wr w') : AS w G B I N w' kb S :=
  ⟨cell_kept h.b0 hb, cell_kept h.b1 hb, cell_kept h.b2 hb, h.k.kept (hb.block _ h.k.lt), grew_trans h.bw hb, h.lo⟩
theorem AS.bump {w : World} {G B I N : Nat} {wr : World} {kb : Nat} {S : Nat → Prop} (h : AS w G B I N wr kb S) (j : Nat) (hj : j < N) : AS w G B I N (wr.setCell ⟨kb, j, none⟩ (.int .i64 1)) kb (fun i => S i ∨ i = j) := by
  have hl := h.lo
  have hc : ∀ i v, wr.cell? ⟨w.heap.size, i, none⟩ = some v → (wr.setCell ⟨kb, j, none⟩ (.int .i64 1)).cell? ⟨w.heap.size, i, none⟩ = some v := by
    intro i v hv
    rw [World.cell?_of_block (w := wr) (Below.heap_setCell _ _ _ _ (by show w.heap.size ≠ kb; omega))]
    exact hv
  exact ⟨hc _ _ h.b0, hc _ _ h.b1, hc _ _ h.b2, h.k.bump j hj, h.bw.setCell (by show w.heap.size ≤ kb; omega) _, h.lo⟩
theorem AS.congr {w : World} {G B I N : Nat} {wr : World} {kb : Nat} {S T : Nat → Prop} (h : AS w G B I N wr kb S) (e : ∀ j, j < N → (S j ↔ T j)) : AS w G B I N wr kb T := ⟨h.b0, h.b1, h.b2, h.k.congr e, h.bw, h.lo⟩

theorem AS.kept {w : World} {G B I N : Nat} {wr w' : World} {kb : Nat} {S : Nat → Prop} (h : AS w G B I N wr kb S) (sb : Nat) (hg : wr.grownBy w' (some sb)) (h1 : kb < sb) : AS w G B I N w' kb S := by
  have hl := h.lo
  have hc : ∀ i v, wr.cell? ⟨w.heap.size, i, none⟩ = some v → w'.cell? ⟨w.heap.size, i, none⟩ = some v := by
    intro i v hv
    rw [World.cell?_of_block (w := wr) (hg.block _ (lt_of_cell hv) (by simp; omega))]
    exact hv
  exact ⟨hc _ _ h.b0, hc _ _ h.b1, hc _ _ h.b2, h.k.kept (hg.block _ h.k.lt (by simp; omega)), h.bw.grown hg h.bw.size (by intro k hk; cases hk; omega), h.lo⟩

/-- What stands in memory while inodes are placed: m of them. -/
structure AT (w : World) (G B I N : Nat) (wr : World) (kb sb mb m : Nat) (S : Nat → Prop) (P Q : Value → Prop) : Prop where
  a : AS w G B I N wr kb S
  s : SetOf wr 53 sb m P
  t : ∃ k, k ≤ m ∧ SetOf wr 3 mb k Q
  o1 : kb < sb
  o2 : sb < mb

theorem AT.grew {w : World} {G B I N : Nat} {wr w' : World} {kb sb mb m : Nat} {S : Nat → Prop} {P Q : Value → Prop} (h : AT w G B I N wr kb sb mb m S P Q) (hb : Below wr.heap.size wr w') : AT w G B I N w' kb sb mb m S P Q := by
  obtain ⟨k, hk, ht⟩ := h.t
  exact ⟨h.a.grew hb, h.s.kept (hb.block _ h.s.lt), ⟨k, hk, ht.kept (hb.block _ ht.lt)⟩, h.o1, h.o2⟩

theorem AT.bump {w : World} {G B I N : Nat} {wr : World} {kb sb mb m : Nat} {S : Nat → Prop} {P Q : Value → Prop} (h : AT w G B I N wr kb sb mb m S P Q) (j : Nat) (hj : j < N) : AT w G B I N (wr.setCell ⟨kb, j, none⟩ (.int .i64 1)) kb sb mb m (fun i => S i ∨ i = j) P Q := by
  obtain ⟨k, hk, ht⟩ := h.t
  have h1 := h.o1
  have h2 := h.o2
  exact ⟨h.a.bump j hj, h.s.kept (Below.heap_setCell _ _ _ _ (by show sb ≠ kb; omega)), ⟨k, hk, ht.kept (Below.heap_setCell _ _ _ _ (by show mb ≠ kb; omega))⟩, h.o1, h.o2⟩

theorem AT.seen {w : World} {G B I N : Nat} {wr : World} {kb sb mb m : Nat} {S : Nat → Prop} {P Q : Value → Prop} (h : AT w G B I N wr kb sb mb m S P Q) (hm : m < 100000) (a b : Nat) (ha : a < 2048) (hb : b < 2048) (hn : ¬ P (pairV a b)) :
    ∃ w', (Instr.mapUpdate 51 (.map (some sb)) (pairV a b) (.bool true)).run Try.prog wr = .ok () w' ∧ AT w G B I N w' kb sb mb (m + 1) S (fun v => P v ∨ v = pairV a b) Q ∧ ∃ k, k ≤ m ∧ SetOf w' 3 mb k Q := by
  obtain ⟨l, hl⟩ := key53 (a := a) (b := b) (by omega) (by omega)
  obtain ⟨w', hr, hs, hg⟩ := h.s.add keyed53 Try.underlying51 hm hl
  rw [if_neg hn] at hs
  obtain ⟨k, hk, ht⟩ := h.t
  have h2 := h.o2
  have ht' := ht.kept (hg.block _ ht.lt (by simp; omega))
  exact ⟨w', hr, ⟨h.a.kept sb hg h.o1, hs, ⟨k, by omega, ht'⟩, h.o1, h.o2⟩, k, hk, ht'⟩

theorem AT.met {w : World} {G B I N : Nat} {wr : World} {kb sb mb m : Nat} {S : Nat → Prop} {P Q : Value → Prop} (h : AT w G B I N wr kb sb mb (m + 1) S P Q) (hq : ∃ k, k ≤ m ∧ SetOf wr 3 mb k Q) (hm : m < 100000) (a : Nat) (ha : a < 2048) :
    ∃ w', (Instr.mapUpdate 52 (.map (some mb)) (.int .i64 (a : Int)) (.bool true)).run Try.prog wr = .ok () w' ∧ AT w G B I N w' kb sb mb (m + 1) S P (fun v => Q v ∨ v = .int .i64 (a : Int)) := by
  obtain ⟨l, hl⟩ := key3 (a := a) (by omega)
  obtain ⟨k, hk, ht⟩ := hq
  obtain ⟨w', hr, hs, hg⟩ := ht.add keyed3 Try.underlying52 (by omega) hl
  have h1 := h.o1
  have h2 := h.o2
  refine ⟨w', hr, h.a.kept mb hg (by omega), h.s.kept (hg.block _ h.s.lt (by simp; omega)), ⟨_, ?_, hs⟩, h.o1, h.o2⟩
  split <;> omega

theorem AT.bumpMet {w : World} {G B I N : Nat} {wr : World} {kb sb mb m : Nat} {S : Nat → Prop} {P Q : Value → Prop} (h : AT w G B I N wr kb sb mb m S P Q) {n : Nat} (hq : ∃ k, k ≤ n ∧ SetOf wr 3 mb k Q) (j : Nat) (v : Value) : ∃ k, k ≤ n ∧ SetOf (wr.setCell ⟨kb, j, none⟩ v) 3 mb k Q := by
  obtain ⟨k, hk, ht⟩ := hq
  have h1 := h.o1
  have h2 := h.o2
  exact ⟨k, hk, ht.kept (Below.heap_setCell _ _ _ _ (by show mb ≠ kb; omega))⟩

open Classical in
theorem AT.look {w : World} {G B I N : Nat} {wr : World} {kb sb mb m : Nat} {S : Nat → Prop} {P Q : Value → Prop} (h : AT w G B I N wr kb sb mb m S P Q) (a : Nat) (ha : a < 2048) : (Instr.lookup 52 (.map (some mb)) (.int .i64 (a : Int)) false).run Try.prog wr = .ok (.bool (decide (Q (.int .i64 (a : Int))))) wr := by
  obtain ⟨l, hl⟩ := key3 (a := a) (by omega)
  obtain ⟨k, hk, ht⟩ := h.t
  exact ht.look keyed3 Try.underlying52 hl

theorem AT.lookYes {w : World} {G B I N : Nat} {wr : World} {kb sb mb m : Nat} {S : Nat → Prop} {P Q : Value → Prop} (h : AT w G B I N wr kb sb mb m S P Q) (a : Nat) (ha : a < 2048) (hq : Q (.int .i64 (a : Int))) : (Instr.lookup 52 (.map (some mb)) (.int .i64 (a : Int)) false).run Try.prog wr = .ok (.bool true) wr := by
  have := h.look a ha
  simpa [hq] using this
theorem AT.lookNo {w : World} {G B I N : Nat} {wr : World} {kb sb mb m : Nat} {S : Nat → Prop} {P Q : Value → Prop} (h : AT w G B I N wr kb sb mb m S P Q) (a : Nat) (ha : a < 2048) (hq : ¬ Q (.int .i64 (a : Int))) : (Instr.lookup 52 (.map (some mb)) (.int .i64 (a : Int)) false).run Try.prog wr = .ok (.bool false) wr := by
  have := h.look a ha
  simpa [hq] using this

theorem AT.fresh {w : World} {G B I N : Nat} {wr : World} {kb sb mb m : Nat} {S : Nat → Prop} {P Q : Value → Prop} (h : AT w G B I N wr kb sb mb m S P Q) (a b : Nat) (ha : a < 2048) (hb : b < 2048) (hn : ¬ P (pairV a b)) : (Instr.lookup 51 (.map (some sb)) (pairV a b) false).run Try.prog wr = .ok (.bool false) wr := by
  obtain ⟨l, hl⟩ := key53 (a := a) (b := b) (by omega) (by omega)
  have := h.s.look keyed53 Try.underlying51 hl
  simpa [hn] using this

theorem AT.congr {w : World} {G B I N : Nat} {wr : World} {kb sb mb m : Nat} {S S' : Nat → Prop} {P P' Q Q' : Value → Prop} (h : AT w G B I N wr kb sb mb m S P Q) (e1 : ∀ j, j < N → (S j ↔ S' j)) (e2 : P = P') (e3 : Q = Q') : AT w G B I N wr kb sb mb m S' P' Q' := by
  subst e2 e3
  exact ⟨h.a.congr e1, h.s, h.t, h.o1, h.o2⟩
end Go.Proofs.Ytkmijjipnepnoab
