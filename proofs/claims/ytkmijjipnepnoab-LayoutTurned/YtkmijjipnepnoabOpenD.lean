/- Inodes that came in as arguments. -/
import Derived.Test.YtkmijjipnepnoabOpenS
import Derived.Test.YtkmijjipnepnoabDinode
namespace Go.Proofs.Ytkmijjipnepnoab
open Go.ChangeShapes Go.WideShapes Go.ChangeAt Go.RowKit Go.Joins
set_option linter.unusedVariables false

theorem cells43 : Try.prog.cellsOf 26 = 4 := by kernel_rfl
theorem cells45 : Try.prog.cellsOf 28 = 9 := by kernel_rfl
theorem array9 {α : Type} {cs : Array α} (h : cs.size = 9) : ∃ c0 c1 c2 c3 c4 c5 c6 c7 c8, cs = #[c0, c1, c2, c3, c4, c5, c6, c7, c8] := by
  obtain ⟨l⟩ := cs
  match l, h with
  | [c0, c1, c2, c3, c4, c5, c6, c7, c8], _ => exact ⟨c0, c1, c2, c3, c4, c5, c6, c7, c8, rfl⟩
/-- A number in a structure that came in. -/
theorem trod_at {H : Type} {enc : TypeId × Value → H} {W : World} {n o : Nat} {cs : List Value} {y : Option (DataW H × List MemPlace)} (h : DataW.trod enc Try.prog W 0 (fun _ => true) true n 3 ((cs.drop o).take 1) = y) (hy : y.isSome = true) : ∃ a, cs[o]? = some (.int .i64 a) := by
  obtain ⟨y, rfl⟩ := Option.isSome_iff_exists.1 hy
  obtain ⟨a, e, _, _⟩ := DataW.trod_int Try.underlying3 h
  have e' : (List.take 1 (List.drop o cs))[0]? = some (.int .i64 a) := by rw [e]; rfl
  simp [List.getElem?_drop] at e'
  exact ⟨a, e'⟩

set_option maxRecDepth 100000 in
theorem open_dinode {H : Type} {enc : TypeId × Value → H} {W : World} {base : Nat} {v : Value} {dd : DataW H} {p : List MemPlace} (hv : Value.okWide Try.prog W .any base 28 v)
    (h : DataW.Trod enc Try.prog W 0 (fun _ => true) true 28 v dd p) : ∃ m l s a b c d i j, v = dinV m l s a b c d i j := by
  obtain ⟨cs, rfl, hsz⟩ := okWide_struct Try.underlying28 hv
  rw [cells45] at hsz
  obtain ⟨fuel, hf⟩ := h
  obtain ⟨xs, n, _, _, _, hlen, hf⟩ := DataW.trod_struct Try.underlying28 hf
  have k0 := hf 0 _ rfl
  have k1 := hf 1 _ rfl
  have k2 := hf 2 _ rfl
  have k3 := hf 3 _ rfl
  have k4 := hf 4 _ rfl
  have k5 := hf 5 _ rfl
  simp only [Value.cells] at k0 k1 k2 k3 k4 k5
  have hl : xs.length = 6 := hlen
  rw [List.getElem?_eq_getElem (by omega)] at k0 k1 k2 k3 k4 k5
  obtain ⟨ys, n2, _, _, hl2, hxl, hg⟩ := DataW.trod_array Try.underlying26 k3
  have g0 := hg 0 (by omega)
  have g1 := hg 1 (by omega)
  have g2 := hg 2 (by omega)
  have g3 := hg 3 (by omega)
  rw [cells3, Nat.mul_one, List.getElem?_eq_getElem (by omega)] at g0 g1 g2 g3
  obtain ⟨m, e0⟩ := trod_at k0 rfl
  obtain ⟨l, e1⟩ := trod_at k1 rfl
  obtain ⟨s, e2⟩ := trod_at k2 rfl
  obtain ⟨i, e7⟩ := trod_at k4 rfl
  obtain ⟨j, e8⟩ := trod_at k5 rfl
  obtain ⟨a, e3⟩ := trod_at g0 rfl
  obtain ⟨b, e4⟩ := trod_at g1 rfl
  obtain ⟨c, e5⟩ := trod_at g2 rfl
  obtain ⟨d, e6⟩ := trod_at g3 rfl
  clear k0 k1 k2 k3 k4 k5 g0 g1 g2 g3 hf hg
  obtain ⟨c0, c1, c2, c3, c4, c5, c6, c7, c8, rfl⟩ := array9 hsz
  simp [cells43] at e0 e1 e2 e3 e4 e5 e6 e7 e8
  subst e0 e1 e2 e3 e4 e5 e6 e7 e8
  exact ⟨_, _, _, _, _, _, _, _, _, rfl⟩
end Go.Proofs.Ytkmijjipnepnoab
