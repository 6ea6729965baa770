/- Headers that came in as arguments. -/
import Derived.Test.YtkmijjipnepnoaaOpenS
import Derived.Test.YtkmijjipnepnoaaGroup
namespace Go.Proofs.Ytkmijjipnepnoaa
open Go.ChangeShapes Go.WideShapes Go.ChangeAt Go.RowKit Go.Joins
set_option linter.unusedVariables false

theorem cellsB35 : Try.prog.cellsOf 35 = 8 := by kernel_rfl
theorem cellsB36 : Try.prog.cellsOf 36 = 32 := by kernel_rfl
theorem cellsB38 : Try.prog.cellsOf 38 = 41 := by kernel_rfl
theorem cellsB5 : Try.prog.cellsOf 5 = 1 := by kernel_rfl

def numOf (v : Value) : Int := match v with | .int _ n => n | _ => 0

/-- An array of bytes that came in. -/
theorem open_barr {H : Type} {enc : TypeId × Value → H} {W : World} {t : TypeId} {n fuel : Nat} {cs : List Value} {x : DataW H × List MemPlace} (ht : Try.prog.underlying t = some (.array n 5)) (hc : Try.prog.cellsOf t = n)
    (h : DataW.trod enc Try.prog W 0 (fun _ => true) true fuel t cs = some x) : ∃ ys : List Int, ys.length = n ∧ Num.Byt ys ∧ cs = ys.map (Value.int .u8) := by
  obtain ⟨xs, m, _, _, hl, hxl, hf⟩ := DataW.trod_array ht h
  rw [hc] at hl
  have key : ∀ i, i < n → ∃ v : Int, cs[i]? = some (.int .u8 v) ∧ 0 ≤ v ∧ v < 256 := by
    intro i hi
    have := hf i hi
    rw [cellsB5, Nat.mul_one, List.getElem?_eq_getElem (by omega)] at this
    obtain ⟨a, e, _, hw⟩ := DataW.trod_int Try.underlying5 this
    have e' : (List.take 1 (List.drop i cs))[0]? = some (.int .u8 a) := by rw [e]; rfl
    simp [List.getElem?_drop] at e'
    simp [Lit.wf, IntKind.min, IntKind.max, IntKind.signed, IntKind.bits] at hw
    exact ⟨a, e', by omega, by omega⟩
  have hy : ∀ i, i < n → cs[i]? = some (.int .u8 (numOf (cs.getD i default))) ∧ 0 ≤ numOf (cs.getD i default) ∧ numOf (cs.getD i default) < 256 := by
    intro i hi
    obtain ⟨v, hv, h0, h1⟩ := key i hi
    have e : cs.getD i default = .int .u8 v := by rw [List.getD_eq_getElem?_getD, hv]; rfl
    rw [e]
    exact ⟨hv, h0, h1⟩
  refine ⟨cs.map numOf, by simp [hl], ?_, ?_⟩
  · intro i
    rw [List.getD_eq_getElem?_getD, List.getElem?_map]
    by_cases hi : i < n
    · obtain ⟨v, hv, h0, h1⟩ := key i hi
      rw [hv]
      exact ⟨h0, h1⟩
    · rw [List.getElem?_eq_none (by omega)]; simp
  · apply List.ext_getElem
    · simp
    · intro i h1 h2
      obtain ⟨v, hv, _, _⟩ := key i (by omega)
      rw [List.getElem?_eq_getElem h1] at hv
      have hv := Option.some.inj hv
      simp [hv, numOf]

set_option maxRecDepth 100000 in
theorem open_group {H : Type} {enc : TypeId × Value → H} {W : World} {base : Nat} {v : Value} {d : DataW H} {p : List MemPlace} (hv : Value.okWide Try.prog W .any base 38 v)
    (h : DataW.Trod enc Try.prog W 0 (fun _ => true) true 38 v d p) : ∃ N ys, ys.length = 40 ∧ Num.Byt ys ∧ v = groupV N ys := by
  obtain ⟨cs, rfl, hsz⟩ := okWide_struct Try.underlying38 hv
  rw [cellsB38] at hsz
  obtain ⟨fuel, hf⟩ := h
  obtain ⟨y0, y1, y2, n, hx, _, h0, h1, h2⟩ := Go.Deep.trod_struct3 Try.underlying38 hf
  simp only [Value.cells, cells3, cellsB35, cellsB36] at h0 h1 h2
  obtain ⟨a, e0, _, _⟩ := DataW.trod_int Try.underlying3 h0
  obtain ⟨ya, la, ba, ea⟩ := open_barr Try.underlying35 cellsB35 h1
  obtain ⟨yb, lb, bb, eb⟩ := open_barr Try.underlying36 cellsB36 h2
  obtain ⟨l⟩ := cs
  simp at hsz e0 ea eb
  refine ⟨a, ya ++ yb, by simp [la, lb], ?_, ?_⟩
  · intro i
    have hgd : (ya ++ yb).getD i 0 = if i < ya.length then ya.getD i 0 else yb.getD (i - ya.length) 0 := getD_append ya yb i
    rw [hgd]
    split
    · exact ba i
    · exact bb _
  · unfold groupV groupA
    congr 2
    rw [List.map_append, ← ea, ← eb]
    have h9 : List.take 32 (List.drop 9 l) = List.drop 8 (List.drop 1 l) := by
      rw [List.drop_drop, List.take_of_length_le (by simp; omega)]
    rw [h9, List.drop_one, List.take_append_drop]
    have := List.take_append_drop 1 l
    rw [e0, List.drop_one] at this
    exact this.symm
end Go.Proofs.Ytkmijjipnepnoaa
