/- TreeWrites: a write's answer stored. -/
import Derived.Test.YtfchclpglcogoaaC12
namespace Go.Proofs.Ytfchclpglcogoaa
open Go.RowKit Go.Maps
set_option linter.unusedVariables false
set_option maxRecDepth 100000

def z27 : Obj := .cells #[.int .i64 0, .slice none 0 0, .slice none 0 0, .int .i64 0, .int .i64 0, .int .i64 0] 27
theorem st27 {W : World} {g : Nat} (h : W.heap[g]? = some (.cells #[.int .i64 0, .slice none 0 0, .slice none 0 0, .int .i64 0, .int .i64 0, .int .i64 0] 27 (0, 0))) :
    (W.cell? ⟨g, 0, none⟩ = some (.int .i64 0) ∧ W.cell? ⟨g, 1, none⟩ = some (.slice none 0 0) ∧ W.cell? ⟨g, 2, none⟩ = some (.slice none 0 0) ∧ W.cell? ⟨g, 3, none⟩ = some (.int .i64 0) ∧ W.cell? ⟨g, 4, none⟩ = some (.int .i64 0) ∧ W.cell? ⟨g, 5, none⟩ = some (.int .i64 0)) ∧ ∀ i, W.frozen? ⟨g, i, none⟩ = false :=
  ⟨⟨(cell_of_row W g 0 _ 27 _ h).trans rfl, (cell_of_row W g 1 _ 27 _ h).trans rfl, (cell_of_row W g 2 _ 27 _ h).trans rfl, (cell_of_row W g 3 _ 27 _ h).trans rfl, (cell_of_row W g 4 _ 27 _ h).trans rfl, (cell_of_row W g 5 _ 27 _ h).trans rfl⟩, fun i => by simp [World.frozen?, h]⟩

/-- An answer stored into its block, cell by cell. -/
def chn (W : World) (g : Nat) (A : Int) : World := (((((W.setCell ⟨g, 0, none⟩ (.int .i64 A)).setCell ⟨g, 1, none⟩ (.slice none 0 0)).setCell ⟨g, 2, none⟩ (.slice none 0 0)).setCell ⟨g, 3, none⟩ (.int .i64 0)).setCell ⟨g, 4, none⟩ (.int .i64 0)).setCell ⟨g, 5, none⟩ (.int .i64 0)
theorem chn_row {W : World} {g : Nat} (A : Int) (h : W.heap[g]? = some (.cells #[.int .i64 0, .slice none 0 0, .slice none 0 0, .int .i64 0, .int .i64 0, .int .i64 0] 27 (0, 0))) : (chn W g A).heap[g]? = some (.cells (ansC A (.slice none 0 0)) 27 (0, 0)) := by
  unfold chn
  have h0 := heap_setCell_same W g 0 _ 27 (.int .i64 A) h
  have h1 := heap_setCell_same _ g 1 _ 27 (.slice none 0 0) h0
  have h2 := heap_setCell_same _ g 2 _ 27 (.slice none 0 0) h1
  have h3 := heap_setCell_same _ g 3 _ 27 (.int .i64 0) h2
  have h4 := heap_setCell_same _ g 4 _ 27 (.int .i64 0) h3
  exact heap_setCell_same _ g 5 _ 27 (.int .i64 0) h4
theorem chn_other (W : World) (g : Nat) (A : Int) {k : Nat} (hk : k ≠ g) : (chn W g A).heap[k]? = W.heap[k]? := by
  unfold chn
  rw [Below.heap_setCell _ _ _ _ hk, Below.heap_setCell _ _ _ _ hk, Below.heap_setCell _ _ _ _ hk, Below.heap_setCell _ _ _ _ hk, Below.heap_setCell _ _ _ _ hk, Below.heap_setCell _ _ _ _ hk]
theorem chn_size (W : World) (g : Nat) (A : Int) : (chn W g A).heap.size = W.heap.size := by unfold chn; simp
theorem sc_os (W : World) (a : Addr) (v : Value) : (W.setCell a v).os = W.os ∧ (W.setCell a v).tape = W.tape ∧ (W.setCell a v).output = W.output := ⟨rfl, rfl, rfl⟩
theorem chn_os (W : World) (g : Nat) (A : Int) : (chn W g A).os = W.os ∧ (chn W g A).tape = W.tape ∧ (chn W g A).output = W.output := by
  unfold chn
  simp only [sc_os, and_self]
section
variable {w w' W6 w8 : World} {a mb f pm N o sn : Nat} {xs bs : List Int} {A E : Int}
theorem FT.other {g : Nat} (h : FT w a mb f pm N xs) (hs : ∀ k, k ≠ g → w'.heap[k]? = w.heap[k]?) (h1 : a ≠ g) (h2 : mb ≠ g) (h3 : f ≠ g) (h4 : pm ≠ g) : FT w' a mb f pm N xs := by
  obtain ⟨M, gg, hm, hg⟩ := h.nodes
  exact ⟨(hs a h1).trans h.row, ⟨M, gg, hm.kept (hs mb h2), hg⟩, ⟨(hs f h3).trans h.ct.row, h.ct.mf.kept (hs pm h4), h.ct.byt⟩, h.ne⟩
/-- What the law knows of a write behind its answer. -/
def R16 (W6 : World) (a mb f pm N o sn : Nat) (xs bs : List Int) (v15 v16 : Value) (wx : World) : Prop :=
  ∃ g, v15 = .pointer (some ⟨g, 0, none⟩) ∧ W6.heap.size ≤ g ∧ (532992 < o + sn → v16 = .int .i64 150) ∧ (o + sn ≤ 532992 → v16 = .int .i64 0 ∧ wx.heap[g]? = some (.cells (ansC (sn : Int) (.slice none 0 0)) 27 (0, 0)) ∧ FT wx a mb f pm (N + sn) (wrt xs o bs)) ∧ Fr (fun k => k = f ∨ k = pm) W6 wx
theorem R16.fresh (HAE : Hid ((532992 < o + sn → E = 150) ∧ (o + sn ≤ 532992 → E = 0 ∧ A = (sn : Int)))) (hT : Hid (o + sn ≤ 532992 → FT w8 a mb f pm (N + sn) (wrt xs o bs))) (hF : Fr (fun k => k = f ∨ k = pm) W6 w8) :
    R16 W6 a mb f pm N o sn xs bs (.pointer (some ⟨w8.heap.size, 0, none⟩)) (.int .i64 E) (w8.alloc (.cells #[.int .i64 A, .slice none 0 0, .slice none 0 0, .int .i64 0, .int .i64 0, .int .i64 0] 27)) := by
  refine ⟨_, rfl, hF.size, fun h => by rw [HAE.out.1 h], fun h => ?_, hF.trans (Fr.below (grew_alloc w8 _))⟩
  obtain ⟨h1, h2⟩ := HAE.out.2 h
  clear HAE
  subst h1
  subst h2
  exact ⟨rfl, at_new rfl, (hT.out h).kept (grew_alloc w8 _)⟩
theorem R16.old {g : Nat} (HAE : Hid ((532992 < o + sn → E = 150) ∧ (o + sn ≤ 532992 → E = 0 ∧ A = (sn : Int)))) (hT : Hid (o + sn ≤ 532992 → FT w8 a mb f pm (N + sn) (wrt xs o bs))) (hF : Fr (fun k => k = f ∨ k = pm) W6 w8) (h6 : FT W6 a mb f pm N xs)
    (hrow : w8.heap[g]? = some (.cells #[.int .i64 0, .slice none 0 0, .slice none 0 0, .int .i64 0, .int .i64 0, .int .i64 0] 27 (0, 0))) (hg : W6.heap.size ≤ g) :
    R16 W6 a mb f pm N o sn xs bs (.pointer (some ⟨g, 0, none⟩)) (.int .i64 E) (chn w8 g A) := by
  refine ⟨_, rfl, hg, fun h => by rw [HAE.out.1 h], fun h => ?_, ?_⟩
  · obtain ⟨h1, h2⟩ := HAE.out.2 h
    have l1 : a < W6.heap.size := (Array.getElem?_eq_some_iff.1 h6.row).1
    obtain ⟨M, gg, hm, _⟩ := h6.nodes
    have l2 := hm.lt
    have l3 : f < W6.heap.size := (Array.getElem?_eq_some_iff.1 h6.ct.row).1
    have l4 := h6.ct.mf.lt
    clear HAE
    subst h1
    subst h2
    refine ⟨rfl, chn_row _ hrow, (hT.out h).other (g := g) (fun k hk => chn_other _ _ _ hk) (by omega) (by omega) (by omega) (by omega)⟩
  · exact ⟨(chn_os _ _ _).1.trans hF.os, (chn_os _ _ _).2.1.trans hF.tape, (chn_os _ _ _).2.2.trans hF.output, by rw [chn_size]; exact hF.size, fun k hk hn => (chn_other _ _ _ (by omega)).trans (hF.block k hk hn)⟩
end
end Go.Proofs.Ytfchclpglcogoaa
