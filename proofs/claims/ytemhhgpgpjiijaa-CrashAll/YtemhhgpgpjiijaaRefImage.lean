/- The document's disk: Image. -/
import Derived.Test.YtemhhgpgpjiijaaRefFail
namespace Go.Proofs.Ytemhhgpgpjiijaa
open Go.RowKit Go.Maps

/-- Slices of 128 bytes as an image that is read. -/
theorem rows_ib {B : Nat} {w : World} {v : Value} {n : Nat} {ps : List (Nat × Nat)} {L : Nat → List Int} (h : w.ownsRow B 42 1 v n (ps.map slc)) (hel : ∀ (i : Nat) (p : Nat × Nat), ps[i]? = some p → Own B w p.1 128 p.2 (L i)) (hs : ∀ i, Num.Byt (L i)) (hn : n ≤ 2048) : ∃ p c, v = .slice p n c ∧ IB w p n (imgL L n) := by
  have hl : ps.length = n := by have := h.1; simpa using this
  obtain ⟨p, c, e, hp⟩ := row_case h
  refine ⟨p, c, e, by simp [imgL], by omega, fun h0 => ?_⟩
  obtain ⟨g, rfl⟩ := hp h0
  subst e
  refine ⟨g, 0, rfl, fun i x hx => ?_⟩
  have hi : i < n := by have := (List.getElem?_eq_some_iff.1 hx).1; simpa [imgL] using this
  have ex : x = L i := by simpa [imgL, hi] using hx.symm
  subst ex
  have hpi : ps[i]? = some (ps[i]'(by omega)) := List.getElem?_eq_getElem _
  refine ⟨_, 128, (ps[i]'(by omega)).2, ?_, (hel i _ hpi).bi (by omega) (hs i)⟩
  rw [Nat.zero_add, h.cellAt i (by omega), List.getElem?_map, hpi]
  rfl

end Go.Proofs.Ytemhhgpgpjiijaa
