/- dirs: rows of entries opened. -/
import Derived.Test.YthfnldclpommlaaDO
import Derived.Test.YthfnldclpommlaaD9
import Derived.Deep.Slices
import Derived.Deep.Grids
namespace Go.Proofs.Ythfnldclpommlaa
open Go.RowKit Go.ChangeShapes Go.WideShapes Go.ChangeAt
set_option linter.unusedVariables false

theorem bytes32 : Try.prog.bytesOf 27 = 24 := by kernel_rfl
theorem weightsAll_mem {H : Type} {P : Program} {e : TypeId} {d : DataW H} {x : Nat} (hx : x ∈ d.weights P e) : ∀ {l : List (DataW H)}, d ∈ l → x ∈ DataW.weightsAll P e l
  | [], h => by cases h
  | y :: r, h => by
    simp only [DataW.weightsAll, List.mem_append]
    rcases List.mem_cons.1 h with rfl | h'
    · exact .inl hx
    · exact .inr (weightsAll_mem hx h')
theorem choose_list {α : Type} {P : Nat → α → Prop} : ∀ (n : Nat), (∀ i, i < n → ∃ x, P i x) → ∃ l : List α, l.length = n ∧ ∀ i x, l[i]? = some x → P i x
  | 0, _ => ⟨[], rfl, by simp⟩
  | n + 1, h => by
    obtain ⟨l, hl, hp⟩ := choose_list n (fun i hi => h i (by omega))
    obtain ⟨x, hx⟩ := h n (by omega)
    refine ⟨l ++ [x], by simp [hl], fun i y hy => ?_⟩
    by_cases hi : i < n
    · rw [List.getElem?_append_left (by omega)] at hy; exact hp i y hy
    · rw [List.getElem?_append_right (by omega)] at hy
      have hi0 : i - l.length = 0 := by have := (List.getElem?_eq_some_iff.1 hy).1; simpa using this
      rw [hi0] at hy
      simp at hy
      subst hy
      obtain rfl : i = n := by omega
      exact hx

section
variable {H : Type} {enc : TypeId × Value → H} {W : World}
set_option maxRecDepth 10000 in
theorem open_ent {b o : Nat} {cs : List Value} {d : DataW H} {pl : List MemPlace} {n : Nat} (hc : ∀ j, j < 2 → W.cell? ⟨b, o + j, none⟩ = cs[j]?) (h : DataW.trod enc Try.prog W 0 (fun _ => true) true n 27 cs = some (d, pl)) (hw : ∀ x ∈ d.weights Try.prog 27, x ≤ reachBytes) :
    ∃ x : En, (W.cell? ⟨b, o, none⟩ = some (.int .i64 x.n) ∧ W.cell? ⟨b, o + 1, none⟩ = some (.string x.s)) ∧ x.s.size ≤ 140737488355328 := by
  obtain ⟨xs, k, hk, hxy, hlen, hxl, hf⟩ := DataW.trod_struct Try.underlying27 h
  rw [cells51] at hlen
  simp only [Prod.mk.injEq] at hxy
  obtain ⟨rfl, rfl⟩ := hxy
  match xs, hxl, cs, hlen with
  | [y0, y1], _, [v0, v1], _ =>
    have g0 := hf 0 _ rfl
    have g1 := hf 1 _ rfl
    simp [cells3, cells9] at g0 g1
    obtain ⟨x0, e0, _, _⟩ := DataW.trod_int Try.underlying3 g0
    obtain ⟨s, e1, e2, _⟩ := DataW.trod_string Try.underlying9 g1
    simp at e0 e1
    subst e0 e1
    have hwe := hw s.size (by
      simp only [DataW.weights, Try.underlying27]
      refine DataW.weights_mem_each (j := 1) (t := 9) (d := y1.1) rfl rfl s.size ?_
      rw [e2]
      simp [DataW.weights])
    unfold reachBytes at hwe
    exact ⟨⟨x0, s⟩, ⟨hc 0 (by omega), hc 1 (by omega)⟩, by show s.size ≤ _; omega⟩

set_option maxRecDepth 10000 in
theorem open_ents {a0 : Option Addr} {len0 cap0 : Nat} {d0 : DataW H} {p0 : List MemPlace} {ts : List TypeId} {ds : List (DataW H)} {j : Nat}
    (h0 : DataW.Trod enc Try.prog W 0 (fun _ => true) true 23 (.slice a0 len0 cap0) d0 p0)
    (hsz : (DataW.weightsEach Try.prog ts ds).all (· ≤ reachBytes) = true) (ht : ts[j]? = some 23) (hd : ds[j]? = some d0) : ∃ L, EI W a0 len0 L ∧ len0 ≤ cap0 ∧ cap0 ≤ 9223372036854775807 ∧ (∀ e ∈ L, e.s.size ≤ 140737488355328) ∧ len0 * 24 ≤ 140737488355328 := by
  obtain ⟨fuel, hf⟩ := h0
  have hall : ∀ x ∈ d0.weights Try.prog 23, x ≤ reachBytes := fun x hx => by
    have := List.all_eq_true.1 hsz x (DataW.weights_mem_each ht hd x hx)
    simpa using this
  rcases Go.Deep.open_slice Try.underlying23 hf with ⟨hcs, _⟩ | ⟨x, l, c, m, nn, E, Pl, hcs, _, hl, hm, hmm, hx, hcell⟩
  · simp [Value.cells] at hcs
    obtain ⟨rfl, rfl, rfl⟩ := hcs
    exact ⟨[], ⟨rfl, by omega, fun h => by omega⟩, Nat.le_refl _, by omega, (fun e he => by cases he), by omega⟩
  · simp [Value.cells] at hcs
    obtain ⟨rfl, rfl, rfl⟩ := hcs
    simp only [if_true] at hmm
    subst hmm
    simp only [Prod.mk.injEq] at hx
    obtain ⟨rfl, _⟩ := hx
    have hw := sized_slice hsz (j := j) (t := 23) (e := 27) ht hd Try.underlying23
    rw [bytes32] at hw
    simp only [List.length_map, List.length_range, reachBytes] at hw
    unfold maxLen at hm
    rcases Nat.eq_zero_or_pos len0 with h0 | hpos
    · subst h0
      exact ⟨[], ⟨rfl, by omega, fun h => by omega⟩, hl, by omega, (fun e he => by cases he), by omega⟩
    obtain ⟨b, off, spot⟩ := x
    have hspot : spot = none := by
      obtain ⟨cs', h1, _⟩ := hcell 0 (by omega)
      rw [cells51] at h1
      obtain ⟨_, hlen, hce⟩ := World.cells?_some h1
      have := hce 0 (by omega)
      have h5 : cs'[0]? = some (cs'[0]'(by omega)) := List.getElem?_eq_getElem (by omega)
      rw [h5] at this
      simpa [Addr.add] using World.cell?_spot this
    subst hspot
    obtain ⟨D, hDl, hD⟩ := choose_list (P := fun i (x : En) => (W.cell? ⟨b, off + i * 2, none⟩ = some (.int .i64 x.n) ∧ W.cell? ⟨b, off + i * 2 + 1, none⟩ = some (.string x.s)) ∧ x.s.size ≤ 140737488355328) len0 (fun i hi => by
      obtain ⟨cs', h1, h2⟩ := hcell i (by omega)
      rw [cells51] at h1
      obtain ⟨_, hlen, hce⟩ := World.cells?_some h1
      refine open_ent (cs := cs') (fun k hk => ?_) h2 (fun y hy => hall y ?_)
      · have := hce k (by omega)
        rw [Addr.add_mid, Addr.add_mid] at this
        exact this
      · simp only [DataW.weights, Try.underlying23, List.mem_cons, List.mem_append]
        exact .inr (.inl (weightsAll_mem hy (List.mem_map.2 ⟨i, List.mem_range.2 hi, rfl⟩))))
    refine ⟨D, ⟨hDl, by omega, fun _ => ⟨b, off, rfl, fun i e he => (hD i e he).1⟩⟩, hl, by omega, fun e he => ?_, by omega⟩
    obtain ⟨i, hi, hie⟩ := List.mem_iff_getElem.1 he
    exact (hD i e (by rw [List.getElem?_eq_getElem hi, hie])).2
end
end Go.Proofs.Ythfnldclpommlaa
