/- bollardref18.Geom: the geometry that an image tells. -/
import Derived.Test.YtijbbkkapimljaaGreatGG
import Derived.Test.YtijbbkkapimljaaGreatX3
namespace Go.Proofs.YtijbbkkapimljaaGreat
open Go.RowKit Go.Maps Go.MuLone
set_option linter.unusedVariables false
set_option maxRecDepth 100000

namespace Mk
theorem rblocks_ok (G B I : Int) (w : World) : Calls Tryz.prog 21 #[geomV G B I] w fun e w' => e = .returned (.int .i64 (Gm.num G B I B)) ∧ Below w.heap.size w w' := by
  have HB : Below w.heap.size w (w.alloc (geomO G B I)) := (Below.refl _ _).alloc (Nat.le_refl _) _
  by_cases h : Gm.May G B I
  · rw [Gm.num_pos h]
    have ha := h.all
    have hbd := mul_le' (a := G) (b := B) (m := 8) (n := 256) (by omega) (by omega) (by omega) (by omega)
    have hc := rcan_may h (w.alloc (geomO G B I))
    go_enter Tryz.func21, Tryz.ntmps21
    go_wp2_with fail
    refine grew_at hc ?_
    intro wn hbn
    have hx := box_ok hbn
    obtain ⟨c0, c1, c2⟩ := hx
    have HB2 := grew_trans HB hbn
    clear hc hbn HB
    dsimp only
    go_wp2
    go_ret
    refine ⟨?_, HB2⟩
    have : wrap64 (G * B) = G * B := by unfold wrap64; omega
    first | rfl | (rw [this]; done) | (simp [this])
  · rw [Gm.num_neg h]
    have hc := rcan_not h (w.alloc (geomO G B I))
    go_enter Tryz.func21, Tryz.ntmps21
    go_wp2_with fail
    refine grew_at hc ?_
    intro wn hbn
    have HB2 := grew_trans HB hbn
    clear hc hbn HB
    dsimp only
    go_wp2
    go_ret
    exact ⟨rfl, HB2⟩
end Mk

theorem BI.toMk {w : World} {p : Option Addr} {n : Nat} {xs : List Int} (h : BI w p n xs) : Mk.BI w p n xs := ⟨h.len, h.big, h.byt, h.cells⟩

/-- The slice at p, of n slices of bytes, holds L; none has less room than bytes. -/
structure ID (w : World) (p : Option Addr) (n : Nat) (L : List (List Int)) : Prop where
  len : L.length = n
  big : n ≤ 140737488355328
  cells : 0 < n → ∃ b o, p = some ⟨b, o, none⟩ ∧ ∀ i x, L[i]? = some x → ∃ q m c, w.cell? ⟨b, o + i, none⟩ = some (.slice q m c) ∧ BI w q m x ∧ m ≤ c

theorem ID.ib {w : World} {p : Option Addr} {n : Nat} {L : List (List Int)} (h : ID w p n L) : IB w p n L :=
  ⟨h.len, h.big, fun h0 => by
    obtain ⟨b, o, e, hc⟩ := h.cells h0
    exact ⟨b, o, e, fun i x hx => by obtain ⟨q, m, c, h1, h2, _⟩ := hc i x hx; exact ⟨q, m, c, h1, h2⟩⟩⟩

theorem ID.kept {w w' : World} {p : Option Addr} {n : Nat} {L : List (List Int)} (h : ID w p n L) (hb : Below w.heap.size w w') : ID w' p n L := by
  refine ⟨h.len, h.big, fun h0 => ?_⟩
  obtain ⟨b, o, e, hc⟩ := h.cells h0
  refine ⟨b, o, e, fun i x hx => ?_⟩
  obtain ⟨q, m, c, h1, h2, h3⟩ := hc i x hx
  exact ⟨q, m, c, (hb.cell (p := ⟨b, o + i, none⟩) (lt_of_cell h1)).trans h1, h2.kept hb, h3⟩

theorem decV_is (n : Nat) (xs : List Int) : ∃ a b c d, Mk.decV n xs = Mk.superV a b c d := by
  unfold Mk.decV
  split
  · exact ⟨_, _, _, _, rfl⟩
  · exact ⟨_, _, _, _, rfl⟩

/-- What is told: a geometry and an error; without one all blocks are whole, the geometry may be, and there are as many blocks. -/
def GeP (w : World) (n : Nat) (L : List (List Int)) (e : Ending) (w' : World) : Prop :=
  (∃ a b c k, e = .returned (.tuple #[Mk.geomV a b c, .int .i64 k]) ∧ (k = 0 → (∀ xs ∈ L, xs.length = 128) ∧ Mk.Gm.May a b c ∧ (n : Int) = a * b)) ∧ Below w.heap.size w w'
end Go.Proofs.YtijbbkkapimljaaGreat
