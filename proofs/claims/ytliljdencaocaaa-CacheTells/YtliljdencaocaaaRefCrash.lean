/- The document's disk: Crash. -/
import Derived.Test.YtliljdencaocaaaRefSet
import Derived.Test.YtliljdencaocaaaCrash
namespace Go.Proofs.Ytliljdencaocaaa
open Go.RowKit Go.Maps

theorem crash_sect {q : List Wr} (hq : ∀ y ∈ q, Sect y.bytes) : ∀ (ids : List Int) (f : Nat → List Int), (∀ b, Sect (f b)) → ∀ b, Sect (ids.foldl (crash1 q) f b)
  | [], f, hf => hf
  | id :: ids, f, hf => by
    refine crash_sect hq ids _ (fun b => ?_)
    unfold crash1
    cases hy : q.find? (fun y => y.id == id) with
    | some y =>
      show Sect (upd f y.block y.bytes b)
      unfold upd
      split
      · exact hq y (List.mem_of_find?_eq_some hy)
      · exact hf b
    | none => exact hf b

theorem Ok.withF {S : St} (h : Ok S) {F : Nat → List Int} (hF : ∀ b, Sect (F b)) : Ok { S with f := F } := ⟨h.N1, h.N2, h.q64, h.qok, h.lok, hF, h.fl⟩

section
variable {B : Nat} {w w' : World} {x : Nat} {bv qv fv : Value} {gB gQ : List (Nat × Nat)} {S : St}

theorem zeros_at {wr w5 : World} (hb : Below ((wr.alloc (.cells #[.int .i64 0, .int .i64 0, .slice none 0 0] 111)).drew).heap.size (wr.alloc (.cells #[.int .i64 0, .int .i64 0, .slice none 0 0] 111)).drew w5) :
    w5.cell? ⟨wr.heap.size, 0, none⟩ = some (.int .i64 0) ∧ w5.cell? ⟨wr.heap.size, 1, none⟩ = some (.int .i64 0) ∧ w5.cell? ⟨wr.heap.size, 2, none⟩ = some (.slice none 0 0) ∧ w5.frozen? ⟨wr.heap.size, 0, none⟩ = false ∧ w5.frozen? ⟨wr.heap.size, 1, none⟩ = false ∧ w5.frozen? ⟨wr.heap.size, 2, none⟩ = false := by
  have hT : w5.heap[wr.heap.size]? = some (.cells #[.int .i64 0, .int .i64 0, .slice none 0 0] 111 (0, 0)) := (hb.block wr.heap.size (by show wr.heap.size < (wr.alloc (.cells #[.int .i64 0, .int .i64 0, .slice none 0 0] 111)).heap.size; simp)).trans (at_new rfl)
  refine ⟨?_, ?_, ?_, ?_, ?_, ?_⟩
  · rw [cell_of_row _ _ 0 _ _ _ hT]; rfl
  · rw [cell_of_row _ _ 1 _ _ _ hT]; rfl
  · rw [cell_of_row _ _ 2 _ _ _ hT]; rfl
  all_goals simp [World.frozen?, hT]

theorem stored3 {wr w5 : World} (hb : Below ((wr.alloc (.cells #[.int .i64 0, .int .i64 0, .slice none 0 0] 111)).drew).heap.size (wr.alloc (.cells #[.int .i64 0, .int .i64 0, .slice none 0 0] 111)).drew w5) (a b c : Value) :
    Below wr.heap.size wr (((w5.setCell ⟨wr.heap.size, 0, none⟩ a).setCell ⟨wr.heap.size, 1, none⟩ b).setCell ⟨wr.heap.size, 2, none⟩ c) ∧ (((w5.setCell ⟨wr.heap.size, 0, none⟩ a).setCell ⟨wr.heap.size, 1, none⟩ b).setCell ⟨wr.heap.size, 2, none⟩ c).heap[wr.heap.size]? = some (.cells #[a, b, c] 111 (0, 0)) := by
  have hT : w5.heap[wr.heap.size]? = some (.cells #[.int .i64 0, .int .i64 0, .slice none 0 0] 111 (0, 0)) := (hb.block wr.heap.size (by show wr.heap.size < (wr.alloc (.cells #[.int .i64 0, .int .i64 0, .slice none 0 0] 111)).heap.size; simp)).trans (at_new rfl)
  have bz := ((Below.refl wr.heap.size wr).alloc (Nat.le_refl _) (.cells #[.int .i64 0, .int .i64 0, .slice none 0 0] 111)).drew
  have b5 : Below wr.heap.size wr w5 := bz.trans (hb.mono bz.size)
  exact ⟨((b5.setCell (p := ⟨wr.heap.size, 0, none⟩) (Nat.le_refl _) a).setCell (p := ⟨wr.heap.size, 1, none⟩) (Nat.le_refl _) b).setCell (p := ⟨wr.heap.size, 2, none⟩) (Nat.le_refl _) c, row_set (row_set (row_set hT 0 a) 1 b) 2 c⟩

/-- The counts of failures are another row. -/
theorem RI.newF (h : RI B w x bv qv fv gB gQ S) {v : Value} (hb : Below w.heap.size w w') (hown : w'.ownsRow B 3 1 v S.N (List.replicate S.N (.int .i64 0))) : RI B (w'.setCell ⟨x, 2, none⟩ v) x bv qv v gB gQ { S with fl := fun _ => 0 } := by
  have h' := h.later hb
  have hxv := not_row h'.row hown (by decide)
  have hk : ∀ k, k ≠ x → (w'.setCell ⟨x, 2, none⟩ v).heap[k]? = w'.heap[k]? := fun k hk => Below.heap_setCell w' ⟨x, 2, none⟩ _ k hk
  have hkr : ∀ {e : TypeId} {s m : Nat} {u : Value} {Lx : List Value}, w'.ownsRow B e s u m Lx → e ≠ 105 → (w'.setCell ⟨x, 2, none⟩ v).ownsRow B e s u m Lx := fun ho h71 => ownsRow_kept ho (fun k hk' => hk k (by rintro rfl; exact not_row h'.row ho h71 hk'))
  have e : (List.range S.N).map (fun _ => Value.int .i64 0) = List.replicate S.N (.int .i64 0) := by simp [List.map_const']
  exact ⟨row_set h'.row 2 v, hkr h'.bs (by decide), fun i q hq => hkr (h'.bel i q hq) (by decide), hkr h'.qs (by decide), h.qlen, fun i y p hy hp => hkr (h'.qel i y p hy hp) (by decide), by show World.ownsRow _ B 3 1 v S.N ((List.range S.N).map fun _ => Value.int .i64 0); rw [e]; exact hkr hown (by decide), h.lo⟩

theorem RI.four (h : RI B w x bv qv fv gB gQ S) {g n cap : Nat} (hqv : qv = .slice (some ⟨g, 0, none⟩) n cap) (hn : n = S.q.length) {j : Nat} {y : Wr} (hy : S.q[j]? = some y) {p : Nat × Nat} (hp : gQ[j]? = some p) :
    w.cell? ⟨x, 1, none⟩ = some (.slice (some ⟨g, 0, none⟩) n cap) ∧ w.cell? ⟨g, j * 3, none⟩ = some (.int .i64 y.id) ∧ w.cell? ⟨g, j * 3 + 1, none⟩ = some (.int .i64 (y.block : Int)) ∧ w.cell? ⟨g, j * 3 + 2, none⟩ = some (.slice (some ⟨p.1, 0, none⟩) 128 p.2) := by
  have hc := h.c1
  rw [hqv] at hc
  obtain ⟨p', hp', a, b, c, _⟩ := h.sentAt (g := g) (cap := cap) (by rw [hqv, hn]) hy
  rw [hp] at hp'
  cases hp'
  exact ⟨hc, a, b, c⟩

end
end Go.Proofs.Ytliljdencaocaaa
