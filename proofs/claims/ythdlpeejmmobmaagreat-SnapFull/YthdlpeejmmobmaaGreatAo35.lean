/- AP -/
import Derived.Test.YthdlpeejmmobmaaGreatAo31
import Derived.Test.YthdlpeejmmobmaaGreatAo34

namespace Go.Proofs.YthdlpeejmmobmaaGreat
open Go.ChangeShapes Go.WideShapes Go.ChangeAt Go.RowKit Go.Joins
set_option linter.unusedVariables false
set_option maxRecDepth 100000

theorem cells51 : Tryz.prog.cellsOf 51 = 4 := by kernel_rfl
theorem bytes51 : Tryz.prog.bytesOf 51 = 48 := by kernel_rfl
theorem cells4o : Tryz.prog.cellsOf 4 = 1 := by kernel_rfl
theorem cells49o : Tryz.prog.cellsOf 49 = 1 := by kernel_rfl

/-- Four cells that read as a call. -/
def DoC (W : World) (b o : Nat) (z : Int × Int × Value × Value) : Prop := W.rangeAt b o (doA z.1 z.2.1 z.2.2.1 z.2.2.2).toList ∧ z.2.2.1.oneCell' = true ∧ z.2.2.2.oneCell' = true
set_option maxRecDepth 10000 in
theorem open_do {H : Type} {enc : TypeId × Value → H} {W : World} {b o : Nat} {cs : List Value} {d : DataW H} {pl : List MemPlace} {n : Nat} (hc : ∀ j, j < 4 → W.cell? ⟨b, o + j, none⟩ = cs[j]?) (h : DataW.trod enc Tryz.prog W 0 (fun _ => true) true n 51 cs = some (d, pl)) : ∃ z, DoC W b o z := by
  obtain ⟨xs, k, hk, hxy, hlen, hxl, hf⟩ := DataW.trod_struct Tryz.underlying51 h
  rw [cells51] at hlen
  match xs, hxl, cs, hlen with
  | [y0, y1, y2, y3], _, [v0, v1, v2, v3], _ =>
    have g0 := hf 0 _ rfl
    have g1 := hf 1 _ rfl
    have g2 := hf 2 _ rfl
    have g3 := hf 3 _ rfl
    simp [cells3, cells4o, cells49o] at g0 g1 g2 g3
    obtain ⟨x0, rfl, _⟩ := open_i g0
    obtain ⟨x1, rfl, _⟩ := open_i g1
    obtain ⟨b2, e2, _⟩ := DataW.trod_bool Tryz.underlying4 g2
    simp at e2
    subst e2
    have h3 : v3.oneCell' = true := by
      rcases Go.Deep.open_slice Tryz.underlying49 g3 with ⟨hcs, _⟩ | ⟨x, l, c, m, nn, E, Pl, hcs, _⟩
      · simp at hcs; subst hcs; rfl
      · simp at hcs; subst hcs; rfl
    refine ⟨(x0, x1, .bool b2, v3), ?_, rfl, h3⟩
    intro j u hu
    have hj : j < 4 := (List.getElem?_eq_some_iff.1 hu).1
    rw [hc j hj]
    exact hu
set_option maxRecDepth 10000 in
/-- The calls that were handed in. -/
theorem open_dol {H : Type} {enc : TypeId × Value → H} {W : World} {a0 : Option Addr} {len0 cap0 : Nat} {d0 : DataW H} {p0 : List MemPlace} {ts : List TypeId} {ds : List (DataW H)} {j : Nat}
    (h0 : DataW.Trod enc Tryz.prog W 0 (fun _ => true) true 47 (.slice a0 len0 cap0) d0 p0)
    (hsz : (DataW.weightsEach Tryz.prog ts ds).all (· ≤ reachBytes) = true) (ht : ts[j]? = some 47) (hd : ds[j]? = some d0) : ∃ D, Dol W a0 len0 D := by
  obtain ⟨fuel, hf⟩ := h0
  rcases Go.Deep.open_slice Tryz.underlying47 hf with ⟨hcs, _⟩ | ⟨x, l, c, m, nn, E, Pl, hcs, _, hl, hm, hmm, hx, hcell⟩
  · simp [Value.cells] at hcs
    obtain ⟨rfl, rfl, rfl⟩ := hcs
    exact ⟨fun _ => (0, 0, .bool false, .bool false), by omega, fun h => by omega⟩
  · simp [Value.cells] at hcs
    obtain ⟨rfl, rfl, rfl⟩ := hcs
    simp only [if_true] at hmm
    subst hmm
    simp only [Prod.mk.injEq] at hx
    obtain ⟨rfl, _⟩ := hx
    have hw := sized_slice hsz (j := j) (t := 47) (e := 51) ht hd Tryz.underlying47
    rw [bytes51] at hw
    simp only [List.length_map, List.length_range, reachBytes] at hw
    rcases Nat.eq_zero_or_pos len0 with h0 | hpos
    · subst h0
      exact ⟨fun _ => (0, 0, .bool false, .bool false), by omega, fun h => by omega⟩
    obtain ⟨b, off, spot⟩ := x
    have hspot : spot = none := by
      obtain ⟨cs', h1, _⟩ := hcell 0 (by omega)
      rw [cells51] at h1
      obtain ⟨_, hlen, hce⟩ := World.cells?_some h1
      have := hce 0 (by omega)
      have h5 : cs'[0]? = some (cs'[0]'(by omega)) := List.getElem?_eq_getElem (by omega)
      rw [h5] at this
      simpa [Addr.add] using World.cell?_spot this
    subst hspot
    have hall : ∀ i, ∃ z, i < len0 → DoC W b (off + i * 4) z := fun i => by
      by_cases hi : i < len0
      · obtain ⟨cs', h1, h2⟩ := hcell i (by omega)
        rw [cells51] at h1
        obtain ⟨_, hlen, hce⟩ := World.cells?_some h1
        obtain ⟨z, hz⟩ := open_do (W := W) (b := b) (o := off + i * 4) (cs := cs') (fun k hk => by
          have := hce k (by omega)
          rw [Addr.add_mid, Addr.add_mid] at this
          exact this) h2
        exact ⟨z, fun _ => hz⟩
      · exact ⟨(0, 0, .bool false, .bool false), fun h => absurd h hi⟩
    refine ⟨fun i => (hall i).choose, by omega, fun _ => ⟨b, off, rfl, fun i hi => ?_⟩⟩
    exact (hall i).choose_spec hi
end Go.Proofs.YthdlpeejmmobmaaGreat
