/- What came in as arguments: bytes, and a list of bytes; how much it is. -/
import Derived.Test.YtknklopohdmncaaRows
import Derived.Test.YtknklopohdmncaaFW
import Derived.ProofKit
import Derived.OpenShut
import Derived.ShutString
import Derived.ChangeOld
import Derived.SizedLaws
import Derived.Deep.Slices
import Derived.Deep.Grids
namespace Go.Proofs.Ytknklopohdmncaa
open Go.ChangeShapes Go.WideShapes Go.ChangeAt Go.RowKit

theorem ownKnob_none : ownKnob Try.prog.godebug = none := by kernel_rfl
theorem laid_out : laidOutB Try.prog = true := by kernel_rfl
theorem bytes5 : Try.prog.bytesOf 5 = 1 := by kernel_rfl
theorem bytes22 : Try.prog.bytesOf 22 = 24 := by kernel_rfl
theorem cells5 : Try.prog.cellsOf 5 = 1 := by kernel_rfl
theorem cells22 : Try.prog.cellsOf 22 = 1 := by kernel_rfl

theorem byt_of_wf {xs : List Int} (h : ∀ n ∈ xs, (Lit.int .u8 n).wf = true) : Num.Byt xs := by
  intro i
  rw [List.getD_eq_getElem?_getD]
  cases hx : xs[i]? with
  | none => simp
  | some x =>
    have := h x (List.mem_of_getElem? hx)
    simp [Lit.wf, IntKind.min, IntKind.max, IntKind.signed, IntKind.bits] at this
    simp only [Option.getD_some]
    omega

theorem weightsAll_mem {H : Type} {P : Program} {e : TypeId} {d : DataW H} {x : Nat} (hx : x ∈ d.weights P e) : ∀ {l : List (DataW H)}, d ∈ l → x ∈ DataW.weightsAll P e l
  | [], h => by cases h
  | y :: r, h => by
    simp only [DataW.weightsAll, List.mem_append]
    rcases List.mem_cons.1 h with rfl | h'
    · exact .inl hx
    · exact .inr (weightsAll_mem hx h')

theorem bulk_lits {H : Type} (k : IntKind) : ∀ zs : List Int, Rows.uptoBulkAll (lits k zs : List (DataW H)) = zs.length
  | [] => rfl
  | z :: r => by
    have ih := bulk_lits (H := H) k r
    show Rows.uptoBulk (DataW.lit (.int k z) : DataW H) + Rows.uptoBulkAll (lits k r) = r.length + 1
    rw [ih]
    show 1 + r.length = r.length + 1
    omega

theorem bulk_sum {H : Type} (E : Nat → DataW H) : ∀ n, Rows.uptoBulkAll ((List.range n).map E) = ((List.range n).map (fun i => Rows.uptoBulk (E i))).sum := by
  have key : ∀ l : List Nat, Rows.uptoBulkAll (l.map E) = (l.map (fun i => Rows.uptoBulk (E i))).sum := by
    intro l
    induction l with
    | nil => rfl
    | cons a r ih => simp only [List.map_cons, Rows.uptoBulkAll, List.sum_cons, ih]
  exact fun n => key _

theorem tot_sum {L : List (List Int)} {n : Nat} (hl : L.length = n) (f : Nat → Nat) (h : ∀ i xs, L[i]? = some xs → xs.length ≤ f i) : tot L ≤ ((List.range n).map f).sum := by
  have key : ∀ k, k ≤ n → tot (L.take k) ≤ ((List.range k).map f).sum := by
    intro k
    induction k with
    | zero => intro _; simp [tot]
    | succ k ih =>
      intro hk
      have hx : L[k]? = some (L[k]'(by omega)) := List.getElem?_eq_getElem _
      have h1 := tot_take L k hx
      have h2 := ih (by omega)
      have h3 := h k _ hx
      rw [h1, List.range_succ, List.map_append, List.sum_append]
      simp only [List.map_cons, List.map_nil, List.sum_cons, List.sum_nil]
      omega
  have := key n (Nat.le_refl _)
  rwa [List.take_of_length_le (by omega)] at this

section
variable {H : Type} {enc : TypeId × Value → H} {W : World}

/-- One cell that reads as bytes. -/
theorem open_bi {v : Value} {d : DataW H} {pl : List MemPlace} {n : Nat} (h : DataW.trod enc Try.prog W 0 (fun _ => true) true n 22 [v] = some (d, pl)) (hw : ∀ x ∈ d.weights Try.prog 22, x ≤ reachBytes) :
    ∃ p m c xs, v = .slice p m c ∧ m ≤ c ∧ (p = none → c = 0) ∧ BI W p m xs ∧ xs.length ≤ Rows.uptoBulk d := by
  rcases open_ints Try.underlying22 Try.underlying5 cells5 h with ⟨hcs, _⟩ | ⟨x, l, c, zs, hcs, _, hl, hm, hz, hx, hcell, hwz⟩
  · simp at hcs
    subst hcs
    exact ⟨none, 0, 0, [], rfl, Nat.le_refl _, fun _ => rfl, ⟨rfl, by omega, fun i => by simp, fun h => by omega⟩, by simp⟩
  · simp at hcs
    subst hcs
    simp only [Prod.mk.injEq] at hx
    obtain ⟨rfl, _⟩ := hx
    simp only [if_true] at hz
    have hw1 := hw ((lits IntKind.u8 (zs.take l) : List (DataW H)).length + (lits IntKind.u8 (zs.drop l) : List (DataW H)).length) (by simp [DataW.weights, Try.underlying22, bytes5])
    simp only [lits, List.length_map, List.length_take, List.length_drop, reachBytes] at hw1
    unfold maxLen at hm
    refine ⟨some x, l, c, zs.take l, rfl, hl, (by intro e; cases e), ⟨by rw [List.length_take]; omega, by omega, byt_take (byt_of_wf hwz) _, fun hn => ?_⟩, ?_⟩
    · obtain ⟨b, off, spot⟩ := x
      have hc := hcell 0 (by omega)
      have hspot : spot = none := by simpa [Addr.add] using World.cell?_spot hc
      subst hspot
      refine ⟨b, off, rfl, fun i hi => ?_⟩
      have hci := hcell i (by omega)
      rw [Addr.add_mid] at hci
      rw [hci, getD_take _ _ _ hi]
    · simp only [Rows.uptoBulk, bulk_lits]
      omega

theorem choose_list {α : Type} {P : Nat → α → Prop} : ∀ (n : Nat), (∀ i, i < n → ∃ x, P i x) → ∃ l : List α, l.length = n ∧ ∀ i x, l[i]? = some x → P i x
  | 0, _ => ⟨[], rfl, by simp⟩
  | n + 1, h => by
    obtain ⟨l, hl, hp⟩ := choose_list n (fun i hi => h i (by omega))
    obtain ⟨x, hx⟩ := h n (by omega)
    refine ⟨l ++ [x], by simp [hl], fun i y hy => ?_⟩
    by_cases hi : i < n
    · rw [List.getElem?_append_left (by omega)] at hy
      exact hp i y hy
    · have hin : i = n := by have := (List.getElem?_eq_some_iff.1 hy).1; simp at this; omega
      subst hin
      rw [List.getElem?_append_right (by omega), hl] at hy
      simp at hy
      subst hy
      exact hx

/-- The bytes that were handed in. -/
theorem open_bytes {a0 : Option Addr} {len0 cap0 : Nat} {d0 : DataW H} {p0 : List MemPlace} {ts : List TypeId} {ds : List (DataW H)} {j : Nat}
    (h0 : DataW.Trod enc Try.prog W 0 (fun _ => true) true 22 (.slice a0 len0 cap0) d0 p0)
    (hsz : (DataW.weightsEach Try.prog ts ds).all (· ≤ reachBytes) = true) (ht : ts[j]? = some 22) (hd : ds[j]? = some d0) : ∃ xs, BI W a0 len0 xs ∧ len0 ≤ cap0 := by
  obtain ⟨fuel, hf⟩ := h0
  obtain ⟨p, m, c, xs, e, h1, _, h2, _⟩ := open_bi hf (fun x hx => by
    have := List.all_eq_true.1 hsz x (DataW.weights_mem_each ht hd x hx)
    simpa using this)
  cases e
  exact ⟨xs, h2, h1⟩

set_option maxRecDepth 10000 in
/-- The image that was handed in. -/
theorem open_ic {a0 : Option Addr} {len0 cap0 : Nat} {d0 : DataW H} {p0 : List MemPlace} {ts : List TypeId} {ds : List (DataW H)} {j : Nat}
    (h0 : DataW.Trod enc Try.prog W 0 (fun _ => true) true 23 (.slice a0 len0 cap0) d0 p0)
    (hsz : (DataW.weightsEach Try.prog ts ds).all (· ≤ reachBytes) = true) (ht : ts[j]? = some 23) (hd : ds[j]? = some d0) : ∃ L, IC W a0 len0 L ∧ tot L ≤ Rows.uptoBulk d0 := by
  obtain ⟨fuel, hf⟩ := h0
  have hall : ∀ x ∈ d0.weights Try.prog 23, x ≤ reachBytes := fun x hx => by
    have := List.all_eq_true.1 hsz x (DataW.weights_mem_each ht hd x hx)
    simpa using this
  rcases Go.Deep.open_slice Try.underlying23 hf with ⟨hcs, _⟩ | ⟨x, l, c, m, nn, E, Pl, hcs, _, hl, hm, hmm, hx, hcell⟩
  · simp [Value.cells] at hcs
    obtain ⟨rfl, rfl, rfl⟩ := hcs
    exact ⟨[], ⟨rfl, by omega, fun h => by omega⟩, by simp [tot]⟩
  · simp [Value.cells] at hcs
    obtain ⟨rfl, rfl, rfl⟩ := hcs
    simp only [if_true] at hmm
    subst hmm
    simp only [Prod.mk.injEq] at hx
    obtain ⟨rfl, _⟩ := hx
    have hw := sized_slice hsz (j := j) (t := 23) (e := 22) ht hd Try.underlying23
    rw [bytes22] at hw
    simp only [List.length_map, List.length_range, reachBytes] at hw
    rcases Nat.eq_zero_or_pos len0 with h0 | hpos
    · subst h0
      exact ⟨[], ⟨rfl, by omega, fun h => by omega⟩, by simp [tot]⟩
    obtain ⟨b, off, spot⟩ := x
    have hspot : spot = none := by
      obtain ⟨cs', h1, _⟩ := hcell 0 (by omega)
      rw [cells22] at h1
      obtain ⟨_, hlen, hce⟩ := World.cells?_some h1
      have := hce 0 (by omega)
      have h5 : cs'[0]? = some (cs'[0]'(by omega)) := List.getElem?_eq_getElem (by omega)
      rw [h5] at this
      simpa [Addr.add] using World.cell?_spot this
    subst hspot
    obtain ⟨L, hLl, hL⟩ := choose_list (P := fun i xs => (∃ q m c, W.cell? ⟨b, off + i, none⟩ = some (.slice q m c) ∧ BI W q m xs ∧ (q = none → c = 0)) ∧ xs.length ≤ Rows.uptoBulk (E i)) len0 (fun i hi => by
      obtain ⟨cs', h1, h2⟩ := hcell i (by omega)
      rw [cells22] at h1
      obtain ⟨_, hlen, hce⟩ := World.cells?_some h1
      have h3 := hce 0 (by omega)
      rw [Addr.add_mid, Addr.add_mid] at h3
      match cs', hlen with
      | [u], _ =>
        obtain ⟨q, m, c, xs, rfl, _, hq, hbi, hbk⟩ := open_bi h2 (fun y hy => hall y (by
          simp only [DataW.weights, Try.underlying23, List.mem_cons, List.mem_append]
          exact .inr (.inl (weightsAll_mem hy (List.mem_map.2 ⟨i, List.mem_range.2 hi, rfl⟩)))))
        exact ⟨xs, ⟨q, m, c, by simpa using h3, hbi, hq⟩, hbk⟩)
    refine ⟨L, ⟨hLl, by omega, fun _ => ⟨b, off, rfl, fun i x hx => (hL i x hx).1⟩⟩, ?_⟩
    have h1 := tot_sum hLl (fun i => Rows.uptoBulk (E i)) (fun i xs hx => (hL i xs hx).2)
    rw [← bulk_sum] at h1
    simp only [Rows.uptoBulk]
    omega
end
end Go.Proofs.Ytknklopohdmncaa
