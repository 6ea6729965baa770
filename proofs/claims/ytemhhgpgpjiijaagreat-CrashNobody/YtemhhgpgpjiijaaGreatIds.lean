/- Lists of numbers, and the writes of a queue, in memory. -/
import Derived.Test.YtemhhgpgpjiijaaGreatQueue
import Derived.Test.YtemhhgpgpjiijaaGreatSame
namespace Go.Proofs.YtemhhgpgpjiijaaGreat
open Go.RowKit Go.Maps

/-- The slice at p, of n ints, holds xs. -/
structure II (w : World) (p : Option Addr) (n : Nat) (xs : List Int) : Prop where
  len : xs.length = n
  big : n * 8 ≤ 140737488355328
  rng : ∀ x ∈ xs, -9223372036854775808 ≤ x ∧ x ≤ 9223372036854775807
  cells : 0 < n → ∃ b o, p = some ⟨b, o, none⟩ ∧ ∀ i, i < n → w.cell? ⟨b, o + i, none⟩ = some (.int .i64 (xs.getD i 0))

theorem II.kept {w w' : World} {p : Option Addr} {n : Nat} {xs : List Int} (h : II w p n xs) (hb : Below w.heap.size w w') : II w' p n xs := by
  refine ⟨h.len, h.big, h.rng, fun hn => ?_⟩
  obtain ⟨b, o, rfl, hc⟩ := h.cells hn
  exact ⟨b, o, rfl, fun i hi => by rw [hb.cell (p := ⟨b, o + i, none⟩) (lt_of_cell (hc i hi))]; exact hc i hi⟩

theorem sflat_at : ∀ (gs : List Nat) (q : List Wr), gs.length = q.length → ∀ (j c : Nat) (x : Wr), q[j]? = some x → c < 3 → (sflat gs q)[j * 3 + c]? = (sent (gs.getD j 0) x)[c]?
  | [], [], _, j, c, x, h, _ => by simp at h
  | g :: gs, y :: r, hl, 0, c, x, h, hc => by
    simp only [List.getElem?_cons_zero, Option.some.injEq] at h
    subst h
    have e : sflat (g :: gs) (y :: r) = sent g y ++ sflat gs r := by simp [sflat]
    rw [e, Nat.zero_mul, Nat.zero_add, List.getElem?_append_left (by simp [sent]; omega)]
    simp
  | g :: gs, y :: r, hl, j + 1, c, x, h, hc => by
    simp only [List.getElem?_cons_succ] at h
    have ih := sflat_at gs r (by simpa using hl) j c x h hc
    have e : sflat (g :: gs) (y :: r) = sent g y ++ sflat gs r := by simp [sflat]
    have el : (sent g y).length = 3 := rfl
    rw [e, List.getElem?_append_right (by rw [el]; omega), el]
    have e2 : (j + 1) * 3 + c - 3 = j * 3 + c := by omega
    rw [e2, ih]
    simp
  | [], y :: r, hl, _, _, _, _, _ => by simp at hl
  | g :: gs, [], hl, _, _, _, _, _ => by simp at hl

theorem Sents.at {B : Nat} {w : World} {g : Nat} {gs : List Nat} {q : List Wr} (h : Sents B w g gs q) {j : Nat} {x : Wr} (hx : q[j]? = some x) :
    w.cell? ⟨g, j * 3, none⟩ = some (.int .i64 x.id) ∧ w.cell? ⟨g, j * 3 + 1, none⟩ = some (.int .i64 (x.block : Int)) ∧ w.cell? ⟨g, j * 3 + 2, none⟩ = some (sl (gs.getD j 0)) := by
  have hj := (List.getElem?_eq_some_iff.1 hx).1
  have a0 := sflat_at gs q h.len j 0 x hx (by omega)
  have a1 := sflat_at gs q h.len j 1 x hx (by omega)
  have a2 := sflat_at gs q h.len j 2 x hx (by omega)
  refine ⟨?_, ?_, ?_⟩
  · rw [Nat.add_zero] at a0
    rw [h.row.cellAt _ (by omega), a0]; rfl
  · rw [h.row.cellAt _ (by omega), a1]; rfl
  · rw [h.row.cellAt _ (by omega), a2]; rfl

theorem Sents.kept {B : Nat} {w w' : World} {g : Nat} {gs : List Nat} {q : List Wr} (h : Sents B w g gs q) (hb : ∀ k, B ≤ k → k < w.heap.size → w'.heap[k]? = w.heap[k]?) : Sents B w' g gs q := by
  refine ⟨ownsRow_kept h.row (fun k hk => ?_), h.len, fun i x hx => ownsRow_kept (h.el i x hx) (fun k hk => ?_)⟩
  · have := h.row.lt k hk; exact hb k this.1 this.2
  · have := World.ownsRow.lt (h.el i x hx) k hk; exact hb k this.1 this.2

theorem Sents.base {B B' : Nat} {w : World} {g : Nat} {gs : List Nat} {q : List Wr} (h : Sents B w g gs q) (hB : B' ≤ B) : Sents B' w g gs q := by
  refine ⟨⟨h.row.1, ?_⟩, h.len, fun i x hx => (h.el i x hx).base hB⟩
  rcases h.row.2 with ⟨h', r⟩ | ⟨g', cap', cur, h', hbg, rest⟩
  · exact .inl ⟨h', r⟩
  · exact .inr ⟨g', cap', cur, h', by omega, rest⟩

theorem info3 : (Tryz.prog.info? 3).map (fun i => (i.zero, i.size, i.bytes)) = some (some (.int .i64 0), 1, 8) := by kernel_rfl

theorem owns_ne {w : World} {B B' : Nat} {e e' : TypeId} {s s' n n' : Nat} {v v' : Value} {L L' : List Value} (h : w.ownsRow B e s v n L) (h' : w.ownsRow B' e' s' v' n' L') (hne : e ≠ e') {k : Nat} (hk : v.ownBlock = some k) : v'.ownBlock ≠ some k := by
  intro hk'
  rcases h.2 with ⟨rfl, _⟩ | ⟨g1, cap1, cur1, rfl, _, hg1, _⟩
  · simp [Value.ownBlock] at hk
  rcases h'.2 with ⟨rfl, _⟩ | ⟨g2, cap2, cur2, rfl, _, hg2, _⟩
  · simp [Value.ownBlock] at hk'
  simp only [Value.ownBlock, Option.some.injEq] at hk hk'
  subst hk
  subst hk'
  rw [hg1] at hg2
  simp only [Option.some.injEq, Obj.cells.injEq] at hg2
  exact hne hg2.2.1

theorem ids_ii {w : World} {B n : Nat} {v : Value} {L : List Int} (h : w.ownsRow B 3 1 v n (L.map (Value.int .i64))) (hn : n ≤ 64) (hr : ∀ x ∈ L, -9223372036854775808 ≤ x ∧ x ≤ 9223372036854775807) : ∃ p c, v = .slice p n c ∧ II w p n L ∧ ∀ b o, p = some ⟨b, o, none⟩ → B ≤ b := by
  have hl : L.length = n := by have := h.1; simpa using this
  rcases h.2 with ⟨rfl, rfl⟩ | ⟨g, cap, cur, rfl, hB, _⟩
  · exact ⟨none, 0, rfl, ⟨hl, by omega, hr, fun h => by omega⟩, fun b o e => by cases e⟩
  · refine ⟨some ⟨g, 0, none⟩, cap, rfl, ⟨hl, by omega, hr, fun _ => ⟨g, 0, rfl, fun i hi => ?_⟩⟩, fun b o e => by cases e; exact hB⟩
    rw [Nat.zero_add, h.cellAt i (by omega), List.getElem?_map, List.getD_eq_getElem?_getD, List.getElem?_eq_getElem (by omega)]
    rfl

theorem ownsRow_base {w : World} {B B' : Nat} {e : TypeId} {s m : Nat} {u : Value} {Lx : List Value} (ho : w.ownsRow B e s u m Lx) (hB : B' ≤ B) : w.ownsRow B' e s u m Lx := by
  refine ⟨ho.1, ?_⟩
  rcases ho.2 with h' | ⟨g', cap', cur, h', hbg, rest⟩
  · exact .inl h'
  · exact .inr ⟨g', cap', cur, h', Nat.le_trans hB hbg, rest⟩
end Go.Proofs.YtemhhgpgpjiijaaGreat
