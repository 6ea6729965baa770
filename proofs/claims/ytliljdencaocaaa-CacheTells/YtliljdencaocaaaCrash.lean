/- Crash: some writes of the queue are done, the others are lost. -/
import Derived.Test.YtliljdencaocaaaComplete
import Derived.Test.YtliljdencaocaaaScript
namespace Go.Proofs.Ytliljdencaocaaa
open Go.RowKit Go.Maps

theorem find_of_idx {t : Wr → Bool} : ∀ {q : List Wr} {i : Nat}, q.findIdx? t = some i → ∃ x, q[i]? = some x ∧ q.find? t = some x
  | [], i, h => by simp at h
  | y :: r, i, h => by
    rw [List.findIdx?_cons] at h
    by_cases hy : t y = true
    · rw [if_pos hy] at h
      cases h
      exact ⟨y, rfl, by simp [hy]⟩
    · rw [if_neg hy] at h
      obtain ⟨k, hk, rfl⟩ := Option.map_eq_some_iff.1 h
      obtain ⟨x, h1, h2⟩ := find_of_idx hk
      exact ⟨x, by simpa using h1, by simp [hy, h2]⟩

/-- One number of those that are done. -/
def crash1 (q : List Wr) (f : Nat → List Int) (id : Int) : Nat → List Int := match q.find? (fun y => y.id == id) with | some x => upd f x.block x.bytes | none => f

section
variable {B : Nat} {w : World} {a mb fb : Nat} {qv : Value} {S : St}

theorem wpList_clear_map {P : Program} {ops : Array Oper} {rest : List Oper} {o : Oper} {a : Act} {w : World} {Q : Exit → Act → World → Prop} (hgd : o.guard = none) (x : Operand) (t k e : TypeId) (hop : o.op = Op.call { callee := Callee.builtin Builtin.clear, args := #[x], argTypes := #[t] })
    (ht : P.underlying t = some (.map k e)) (r : Nat) (es : Array MapEntry) (clock : Nat) (hb : w.heap[r]? = some (.map es clock)) (hx : a.eval x = .map (some r))
    (hK : wpList P ops Q rest (a.put o.dst (.tuple #[])) (Go.ChangeMaps.setBlock w r (.map #[] clock))) : wpList P ops Q (o :: rest) a w := by
  refine wpList_plain hgd fun K hK' => ?_
  unfold Oper.wp
  simp [execOp, hop, resolve, invoke, builtin, hx, Builtin.clear_, run_underlying ht, MapKept.run_getObj_map hb, MapKept.run_setObj_map _ hb, Result.andThen]
  exact hK' _ _ hK

theorem DI.noQueue (h : DI B w a mb fb qv S) : DI B (w.setCell ⟨a, 2, none⟩ (.slice none 0 0)) a mb fb (.slice none 0 0) { S with q := [] } := by
  obtain ⟨n1, n2, n3, n4, n5⟩ := h.apart
  have ho : ∀ k, k ≠ a → (w.setCell ⟨a, 2, none⟩ (.slice none 0 0)).heap[k]? = w.heap[k]? := fun k hk => Below.heap_setCell w ⟨a, 2, none⟩ _ k hk
  exact { row := row_set2 h.row _, secs := h.secs.kept (ho mb n1.symm), que := World.ownsRow_nil _ _ _ _, fls := h.fls.kept (ho fb n2.symm), lo := h.lo, ne := h.ne, N1 := h.N1, N2 := h.N2, q64 := by simp, qok := by simp, lok := h.lok }

theorem DI.noFails (h : DI B w a mb fb qv S) : ∃ es clock, w.heap[fb]? = some (.map es clock) ∧ DI B (Go.ChangeMaps.setBlock w fb (.map #[] clock)) a mb fb qv { S with fl := fun _ => 0 } ∧ w.grownBy (Go.ChangeMaps.setBlock w fb (.map #[] clock)) (some fb) := by
  obtain ⟨n1, n2, n3, n4, n5⟩ := h.apart
  obtain ⟨D, ⟨es, clock, hb, _⟩, _⟩ := h.fls.ex
  have ho : ∀ k, k ≠ fb → (Go.ChangeMaps.setBlock w fb (.map #[] clock)).heap[k]? = w.heap[k]? := fun k hk => Go.ChangeMaps.heap_setBlock_other hb _ hk
  refine ⟨es, clock, hb, { row := (ho a n2).trans h.row, secs := h.secs.kept (ho mb h.ne), que := ownsRow_kept h.que (fun k hk => ho k (by rintro rfl; exact n5 hk)), fls := ?_, lo := h.lo, ne := h.ne, N1 := h.N1, N2 := h.N2, q64 := h.q64, qok := h.qok, lok := h.lok }, ⟨rfl, rfl, rfl, by simp [Go.ChangeMaps.setBlock], fun k _ hk => ho k (by simpa using hk)⟩⟩
  refine ⟨⟨.map [], ⟨#[], clock, Go.ChangeMaps.heap_setBlock_same hb _, ⟨by simp, Go.MapKept.stamped_empty clock, by simp⟩, Nat.zero_le _, rfl⟩, ?_, fun b _ => rfl⟩, fun _ => ⟨Int.le_refl _, by show (0 : Int) ≤ 1000; omega⟩⟩
  have := List.length_filter_le (fun b => !has (.map [] : DataW Unit) (key b)) (List.range S.N)
  rw [List.length_range] at this
  show 0 + miss (.map []) S.N ≤ S.N
  unfold miss
  omega

end
end Go.Proofs.Ytliljdencaocaaa
