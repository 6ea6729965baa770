/- dirs: names. -/
import Derived.Test.YtfchclpglcogoaaName
namespace Go.Proofs.Ytfchclpglcogoaa
open Go.RowKit
set_option linter.unusedVariables false

theorem info9z : (Try.prog.info? 9).map (fun i => (i.zero, i.size, i.bytes)) = some (some (.string ⟨#[]⟩), 1, 16) := by kernel_rfl
/-- A row of texts that the call made. -/
def Sr (B : Nat) (w : World) (v : Value) (L : List ByteArray) : Prop := w.ownsRow B 9 1 v L.length (L.map Value.string)
theorem Sr.nil (B : Nat) (w : World) : Sr B w (.slice none 0 0) [] := ⟨rfl, .inl ⟨rfl, rfl⟩⟩
theorem Sr.lt {w : World} {B : Nat} {v : Value} {L : List ByteArray} (h : Sr B w v L) : ∀ g, v.ownBlock = some g → B ≤ g ∧ g < w.heap.size := fun g hg => World.ownsRow.lt h g hg
theorem Sr.kept {w w' : World} {B : Nat} {v : Value} {L : List ByteArray} (h : Sr B w v L) (hb : Below w.heap.size w w') : Sr B w' v L := by
  refine ⟨h.1, ?_⟩
  rcases h.2 with h' | ⟨g, cap, cur, e, hB, hg, rest⟩
  · exact .inl h'
  · exact .inr ⟨g, cap, cur, e, hB, (hb.block _ (Array.getElem?_eq_some_iff.1 hg).1).trans hg, rest⟩
/-- The slice at p, of n texts, holds L. -/
structure SI (w : World) (p : Option Addr) (n : Nat) (L : List ByteArray) : Prop where
  len : L.length = n
  big : n ≤ 140737488355328
  cells : 0 < n → ∃ b o, p = some ⟨b, o, none⟩ ∧ ∀ i s, L[i]? = some s → w.cell? ⟨b, o + i, none⟩ = some (.string s)
theorem SI.kept {w w' : World} {p : Option Addr} {n : Nat} {L : List ByteArray} (h : SI w p n L) (hb : Below w.heap.size w w') : SI w' p n L := by
  refine ⟨h.len, h.big, fun hn => ?_⟩
  obtain ⟨b, o, rfl, hc⟩ := h.cells hn
  exact ⟨b, o, rfl, fun i e he => (hb.cell (p := ⟨b, o + i, none⟩) (lt_of_cell (hc i e he))).trans (hc i e he)⟩
theorem Sr.si {w : World} {B : Nat} {v : Value} {L : List ByteArray} (h : Sr B w v L) (hn : L.length ≤ 140737488355328) : ∃ p c, v = .slice p L.length c ∧ L.length ≤ c ∧ c ≤ 9223372036854775807 ∧ SI w p L.length L := by
  have hh := h
  rcases h.2 with ⟨e, e0⟩ | ⟨g, cap, cur, e, _, _, hc, hm, _⟩
  · rw [e]
    have : L = [] := List.length_eq_zero_iff.1 e0
    subst this
    exact ⟨none, 0, rfl, Nat.le_refl _, by omega, rfl, by simp, fun h => by simp at h⟩
  · refine ⟨_, _, e, hc, by unfold maxLen at hm; omega, rfl, hn, fun _ => ⟨g, 0, rfl, fun i x hx => ?_⟩⟩
    rw [Nat.zero_add]
    have hi : i < L.length := (List.getElem?_eq_some_iff.1 hx).1
    subst e
    have h1 := World.ownsRow.cellAt hh i (by omega)
    rw [List.getElem?_map, hx] at h1
    exact h1

set_option maxRecDepth 20000 in
theorem sr_app {B : Nat} {w : World} {v1 : Value} {A : List ByteArray} (h1 : Sr B w v1 A) (g : Nat) (x : ByteArray) (hg : w.heap[g]? = some (.cells #[.string x] 9)) (hB : B ≤ w.heap.size) (hl : A.length ≤ 1000) (ty : TypeId) :
    ∃ v' w', (Builtin.append_ #[25, 25] ty #[v1, .slice (some ⟨g, 0, none⟩) 1 1]).run Try.prog w = .ok v' w' ∧ Sr B w' v' (A ++ [x]) ∧ w.grownBy w' v1.ownBlock := by
  obtain ⟨i0, hi, hz0, hz1, hz2⟩ := info_parts info9z
  obtain ⟨v', w', hr, ho, hgr, _, hb⟩ := run_append_own_at (P := Try.prog) w B 25 ty 9 i0 _ 1 16 Try.underlying25 hi hz0 hz1 hz2 rfl (by decide) v1 A.length (A.map Value.string) h1 ⟨g, 0, none⟩ 1 1 [.string x] rfl (fun j u hu => by
    rw [Addr.add_mid, Nat.zero_add]
    match j, hu with
    | 0, hu => simp at hu; subst hu; exact cell_row hg 0 _ rfl
    | j + 1, hu => simp at hu) (fun u hu => by
      simp only [List.mem_cons, List.not_mem_nil, or_false] at hu
      rw [hu]; rfl) (by unfold maxLen; omega) (by omega) hB
  refine ⟨v', w', hr, ?_, hgr⟩
  unfold Sr
  rw [List.length_append, List.map_append]
  exact ho

end Go.Proofs.Ytfchclpglcogoaa
