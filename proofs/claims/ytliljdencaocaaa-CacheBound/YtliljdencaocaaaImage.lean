/- Images: a list of blocks, each a list of bytes of its own. -/
import Derived.Test.YtliljdencaocaaaDisk
namespace Go.Proofs.Ytliljdencaocaaa
open Go.RowKit Go.Maps

/-- A whole block's bytes as a slice. -/
def sl (g : Nat) : Value := .slice (some ⟨g, 0, none⟩) 128 128
theorem info30 : (Try.prog.info? 29).map (fun i => (i.zero, i.size, i.bytes)) = some (some (.slice none 0 0), 1, 24) := by kernel_rfl

/-- Block g holds n slices, of the blocks gs, whose bytes are L. -/
structure Img (B : Nat) (w : World) (g n : Nat) (gs : List Nat) (L : Nat → List Int) : Prop where
  row : w.ownsRow B 29 1 (.slice (some ⟨g, 0, none⟩) n n) n (gs.map sl)
  el : ∀ i, i < n → Own B w (gs.getD i 0) 128 128 (L i)

theorem Img.len {B : Nat} {w : World} {g n : Nat} {gs : List Nat} {L : Nat → List Int} (h : Img B w g n gs L) : gs.length = n := by
  have := h.row.1; simpa using this

theorem Img.kept {B : Nat} {w w' : World} {g n : Nat} {gs : List Nat} {L : Nat → List Int} (h : Img B w g n gs L) (hb : ∀ k, B ≤ k → k < w.heap.size → w'.heap[k]? = w.heap[k]?) : Img B w' g n gs L := by
  refine ⟨ownsRow_kept h.row (fun k hk => ?_), fun i hi => ownsRow_kept (h.el i hi) (fun k hk => ?_)⟩
  · have := h.row.lt k hk
    exact hb k this.1 this.2
  · have := World.ownsRow.lt (h.el i hi) k hk
    exact hb k this.1 this.2

theorem Img.base {B B' : Nat} {w : World} {g n : Nat} {gs : List Nat} {L : Nat → List Int} (h : Img B w g n gs L) (hB : B' ≤ B) : Img B' w g n gs L := by
  refine ⟨⟨h.row.1, ?_⟩, fun i hi => (h.el i hi).base hB⟩
  rcases h.row.2 with ⟨h', _⟩ | ⟨g', cap', cur, h', hbg, rest⟩
  · simp at h'
  · exact .inr ⟨g', cap', cur, h', by omega, rest⟩

theorem made_list (z : Value) (n : Nat) (hz : z.cells = #[z]) : (madeCells z.cells (n * 1)).toList = List.replicate n z := by
  rw [hz]
  apply List.ext_getElem
  · simp [madeCells]
  · intro i h1 h2
    simp [madeCells, Nat.mod_one]

theorem set_mid (gs : List Nat) (N : Nat) (g : Nat) (h : gs.length < N) : (gs.map sl ++ List.replicate (N - gs.length) (Value.slice none 0 0)).set gs.length (sl g) = (gs ++ [g]).map sl ++ List.replicate (N - (gs.length + 1)) (Value.slice none 0 0) := by
  obtain ⟨m, hm⟩ : ∃ m, N - gs.length = m + 1 := ⟨N - gs.length - 1, by omega⟩
  have hm' : N - (gs.length + 1) = m := by omega
  rw [hm, hm', List.set_append_right _ _ (by simp)]
  simp [List.replicate_succ]

/-- Rows of two types are two blocks. -/
theorem rows_ne {w : World} {B B' : Nat} {e e' : TypeId} {s s' : Nat} {g g' n c n' c' : Nat} {L L' : List Value} (h : w.ownsRow B e s (.slice (some ⟨g, 0, none⟩) n c) n L) (h' : w.ownsRow B' e' s' (.slice (some ⟨g', 0, none⟩) n' c') n' L') (hne : e ≠ e') : g ≠ g' := by
  rintro rfl
  rcases h.2 with ⟨k, _⟩ | ⟨g1, cap1, cur1, k, _, hg1, _⟩
  · simp at k
  rcases h'.2 with ⟨k', _⟩ | ⟨g2, cap2, cur2, k', _, hg2, _⟩
  · simp at k'
  simp only [Value.slice.injEq, Option.some.injEq, Addr.mk.injEq, and_true, true_and] at k k'
  obtain ⟨rfl, _⟩ := k
  obtain ⟨rfl, _⟩ := k'
  rw [hg1] at hg2
  simp only [Option.some.injEq, Obj.cells.injEq] at hg2
  exact hne hg2.2.1

theorem Own.setOther {B : Nat} {w : World} {g n cap : Nat} {xs : List Int} (h : Own B w g n cap xs) {k j : Nat} (hne : g ≠ k) (u : Value) : Own B (w.setCell ⟨k, j, none⟩ u) g n cap xs :=
  ownsRow_kept h (fun i hi => by cases hi; exact Below.heap_setCell w ⟨k, j, none⟩ u g hne)

end Go.Proofs.Ytliljdencaocaaa
