/- Entries that came in as arguments. -/
import Derived.Test.YthfnldclpommlabLays
import Derived.Test.YthfnldclpommlabEntry
namespace Go.Proofs.Ythfnldclpommlab
open Go.ChangeShapes Go.WideShapes Go.ChangeAt Go.RowKit Go.Joins
set_option linter.unusedVariables false

theorem cells51 : Try.prog.cellsOf 32 = 2 := by kernel_rfl
theorem cells9 : Try.prog.cellsOf 9 = 1 := by kernel_rfl

set_option maxRecDepth 100000 in
theorem open_entry {H : Type} {enc : TypeId × Value → H} {W : World} {base : Nat} {v : Value} {d : DataW H} {p : List MemPlace} {ts : List TypeId} {ds : List (DataW H)} {j : Nat} (hv : Value.okWide Try.prog W .any base 32 v)
    (h : DataW.Trod enc Try.prog W 0 (fun _ => true) true 32 v d p)
    (hsz : (DataW.weightsEach Try.prog ts ds).all (· ≤ reachBytes) = true) (ht : ts[j]? = some 32) (hd : ds[j]? = some d) : ∃ N s, s.size ≤ 140737488355328 ∧ v = entV N s := by
  obtain ⟨cs, rfl, hn⟩ := okWide_struct Try.underlying32 hv
  obtain ⟨c0, c1, rfl⟩ := array2 (hn.trans cells51)
  obtain ⟨fuel, hf⟩ := h
  obtain ⟨y0, y1, n, hx, _, h0, h1⟩ := trod_struct2 Try.underlying32 hf
  simp [Value.cells, cells9, cells3] at h0 h1
  obtain ⟨a, e0, _, _⟩ := DataW.trod_int Try.underlying3 h0
  obtain ⟨s, e1, e2, _⟩ := DataW.trod_string Try.underlying9 h1
  simp at e0 e1
  subst e0 e1
  simp only [Prod.mk.injEq] at hx
  obtain ⟨rfl, _⟩ := hx
  have hw := List.all_eq_true.1 hsz _ (DataW.weights_mem_each ht hd s.size (by simp [DataW.weights, DataW.weightsEach, Try.underlying32, e2]))
  have hw : s.size ≤ reachBytes := by simpa using hw
  unfold reachBytes at hw
  exact ⟨a, s, by omega, rfl⟩
end Go.Proofs.Ythfnldclpommlab
