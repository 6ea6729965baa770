/- What came in as arguments: an image; a request. -/
import Derived.Test.YtijbbkkapimljaaGreatRows
import Derived.Test.YtijbbkkapimljaaGreatAG
import Derived.ProofKit
import Derived.OpenShut
import Derived.ShutString
import Derived.ChangeOld
import Derived.SizedLaws
import Derived.Deep.Slices
import Derived.Deep.Grids
import Derived.Lib.SmallJoins
namespace Go.Proofs.YtijbbkkapimljaaGreat
open Go.ChangeShapes Go.WideShapes Go.ChangeAt Go.RowKit Go.Joins
set_option linter.unusedVariables false
set_option maxRecDepth 100000

theorem ownKnob_none : ownKnob Tryz.prog.godebug = none := by kernel_rfl
theorem laid_out : laidOutB Tryz.prog = true := by kernel_rfl
theorem bytes5 : Tryz.prog.bytesOf 5 = 1 := by kernel_rfl
theorem bytes75 : Tryz.prog.bytesOf 75 = 24 := by kernel_rfl
theorem cells5 : Tryz.prog.cellsOf 5 = 1 := by kernel_rfl
theorem cells75 : Tryz.prog.cellsOf 75 = 1 := by kernel_rfl
theorem cells25 : Tryz.prog.cellsOf 25 = 4 := by kernel_rfl

theorem open_rq {H : Type} {enc : TypeId × Value → H} {W : World} {base : Nat} {v : Value} {d : DataW H} {p : List MemPlace} (hv : Value.okWide Tryz.prog W .any base 25 v)
    (h : DataW.Trod enc Tryz.prog W 0 (fun _ => true) true 25 v d p) : ∃ a b c e, v = rqV a b c e := by
  obtain ⟨c0, c1, c2, c3, y0, y1, y2, y3, m, rfl, rfl, rfl, hy0, hy1, hy2, hy3⟩ := open_agg4 Tryz.underlying25 (by kernel_rfl) cells25 hv h
  obtain ⟨a, e0, _, _⟩ := DataW.trod_int Tryz.underlying3 hy0
  obtain ⟨b, e1, _, _⟩ := DataW.trod_int Tryz.underlying3 hy1
  obtain ⟨c, e2, _, _⟩ := DataW.trod_int Tryz.underlying3 hy2
  obtain ⟨e, e3, _, _⟩ := DataW.trod_int Tryz.underlying3 hy3
  simp at e0 e1 e2 e3
  subst e0 e1 e2 e3
  exact ⟨a, b, c, e, rfl⟩

theorem byt_of_wf {xs : List Int} (h : ∀ n ∈ xs, (Lit.int .u8 n).wf = true) : Num.Byt xs := by
  intro i
  rw [List.getD_eq_getElem?_getD]
  cases hx : xs[i]? with
  | none => simp
  | some x =>
    have := h x (List.mem_of_getElem? hx)
    simp [Lit.wf, IntKind.min, IntKind.max, IntKind.signed, IntKind.bits] at this
    simp only [Option.getD_some]
    omega

theorem weightsAll_mem {H : Type} {P : Program} {e : TypeId} {d : DataW H} {x : Nat} (hx : x ∈ d.weights P e) : ∀ {l : List (DataW H)}, d ∈ l → x ∈ DataW.weightsAll P e l
  | [], h => by cases h
  | y :: r, h => by
    simp only [DataW.weightsAll, List.mem_append]
    rcases List.mem_cons.1 h with rfl | h'
    · exact .inl hx
    · exact .inr (weightsAll_mem hx h')

section
variable {H : Type} {enc : TypeId × Value → H} {W : World}

/-- One cell that reads as bytes. -/
theorem open_bi {v : Value} {d : DataW H} {pl : List MemPlace} {n : Nat} (h : DataW.trod enc Tryz.prog W 0 (fun _ => true) true n 75 [v] = some (d, pl)) (hw : ∀ x ∈ d.weights Tryz.prog 75, x ≤ reachBytes) :
    ∃ p m c xs, v = .slice p m c ∧ m ≤ c ∧ BI W p m xs := by
  rcases open_ints Tryz.underlying75 Tryz.underlying5 cells5 h with ⟨hcs, _⟩ | ⟨x, l, c, zs, hcs, _, hl, hm, hz, hx, hcell, hwz⟩
  · simp at hcs
    subst hcs
    exact ⟨none, 0, 0, [], rfl, Nat.le_refl _, ⟨rfl, by omega, fun i => by simp, fun h => by omega⟩⟩
  · simp at hcs
    subst hcs
    simp only [Prod.mk.injEq] at hx
    obtain ⟨rfl, _⟩ := hx
    simp only [if_true] at hz
    have hw1 := hw ((lits IntKind.u8 (zs.take l) : List (DataW H)).length + (lits IntKind.u8 (zs.drop l) : List (DataW H)).length) (by simp [DataW.weights, Tryz.underlying75, bytes5])
    simp only [lits, List.length_map, List.length_take, List.length_drop, reachBytes] at hw1
    unfold maxLen at hm
    refine ⟨some x, l, c, zs.take l, rfl, hl, ⟨by rw [List.length_take]; omega, by omega, byt_take (byt_of_wf hwz) _, fun hn => ?_⟩⟩
    · obtain ⟨b, off, spot⟩ := x
      have hc := hcell 0 (by omega)
      have hspot : spot = none := by simpa [Addr.add] using World.cell?_spot hc
      subst hspot
      refine ⟨b, off, rfl, fun i hi => ?_⟩
      have hci := hcell i (by omega)
      rw [Addr.add_mid] at hci
      rw [hci, getD_take _ _ _ hi]

theorem choose_list {α : Type} {P : Nat → α → Prop} : ∀ (n : Nat), (∀ i, i < n → ∃ x, P i x) → ∃ l : List α, l.length = n ∧ ∀ i x, l[i]? = some x → P i x
  | 0, _ => ⟨[], rfl, by simp⟩
  | n + 1, h => by
    obtain ⟨l, hl, hp⟩ := choose_list n (fun i hi => h i (by omega))
    obtain ⟨x, hx⟩ := h n (by omega)
    refine ⟨l ++ [x], by simp [hl], fun i y hy => ?_⟩
    by_cases hi : i < n
    · rw [List.getElem?_append_left (by omega)] at hy
      exact hp i y hy
    · have hin : i = n := by have := (List.getElem?_eq_some_iff.1 hy).1; simp at this; omega
      subst hin
      rw [List.getElem?_append_right (by omega), hl] at hy
      simp at hy
      subst hy
      exact hx

set_option maxRecDepth 10000 in
/-- The image that was handed in. -/
theorem open_id {a0 : Option Addr} {len0 cap0 : Nat} {d0 : DataW H} {p0 : List MemPlace} {ts : List TypeId} {ds : List (DataW H)} {j : Nat}
    (h0 : DataW.Trod enc Tryz.prog W 0 (fun _ => true) true 46 (.slice a0 len0 cap0) d0 p0)
    (hsz : (DataW.weightsEach Tryz.prog ts ds).all (· ≤ reachBytes) = true) (ht : ts[j]? = some 46) (hd : ds[j]? = some d0) : ∃ L, ID W a0 len0 L := by
  obtain ⟨fuel, hf⟩ := h0
  have hall : ∀ x ∈ d0.weights Tryz.prog 46, x ≤ reachBytes := fun x hx => by
    have := List.all_eq_true.1 hsz x (DataW.weights_mem_each ht hd x hx)
    simpa using this
  rcases Go.Deep.open_slice Tryz.underlying46 hf with ⟨hcs, _⟩ | ⟨x, l, c, m, nn, E, Pl, hcs, _, hl, hm, hmm, hx, hcell⟩
  · simp [Value.cells] at hcs
    obtain ⟨rfl, rfl, rfl⟩ := hcs
    exact ⟨[], ⟨rfl, by omega, fun h => by omega⟩⟩
  · simp [Value.cells] at hcs
    obtain ⟨rfl, rfl, rfl⟩ := hcs
    simp only [if_true] at hmm
    subst hmm
    simp only [Prod.mk.injEq] at hx
    obtain ⟨rfl, _⟩ := hx
    have hw := sized_slice hsz (j := j) (t := 46) (e := 75) ht hd Tryz.underlying46
    rw [bytes75] at hw
    simp only [List.length_map, List.length_range, reachBytes] at hw
    rcases Nat.eq_zero_or_pos len0 with h0 | hpos
    · subst h0
      exact ⟨[], ⟨rfl, by omega, fun h => by omega⟩⟩
    obtain ⟨b, off, spot⟩ := x
    have hspot : spot = none := by
      obtain ⟨cs', h1, _⟩ := hcell 0 (by omega)
      rw [cells75] at h1
      obtain ⟨_, hlen, hce⟩ := World.cells?_some h1
      have := hce 0 (by omega)
      have h5 : cs'[0]? = some (cs'[0]'(by omega)) := List.getElem?_eq_getElem (by omega)
      rw [h5] at this
      simpa [Addr.add] using World.cell?_spot this
    subst hspot
    obtain ⟨L, hLl, hL⟩ := choose_list (P := fun i xs => ∃ q m c, W.cell? ⟨b, off + i, none⟩ = some (.slice q m c) ∧ BI W q m xs ∧ m ≤ c) len0 (fun i hi => by
      obtain ⟨cs', h1, h2⟩ := hcell i (by omega)
      rw [cells75] at h1
      obtain ⟨_, hlen, hce⟩ := World.cells?_some h1
      have h3 := hce 0 (by omega)
      rw [Addr.add_mid, Addr.add_mid] at h3
      match cs', hlen with
      | [u], _ =>
        obtain ⟨q, m, c, xs, rfl, hmc, hbi⟩ := open_bi h2 (fun y hy => hall y (by
          simp only [DataW.weights, Tryz.underlying46, List.mem_cons, List.mem_append]
          exact .inr (.inl (weightsAll_mem hy (List.mem_map.2 ⟨i, List.mem_range.2 hi, rfl⟩)))))
        exact ⟨xs, q, m, c, by simpa using h3, hbi, hmc⟩)
    exact ⟨L, ⟨hLl, by omega, fun _ => ⟨b, off, rfl, hL⟩⟩⟩
end
end Go.Proofs.YtijbbkkapimljaaGreat
