/- DiskLast: a block has what its last write that was done had, or noughts. -/
import Derived.Test.YtemhhgpgpjiijaaScript
import Derived.Test.YtemhhgpgpjiijaaComplete
namespace Go.Proofs.Ytemhhgpgpjiijaa
open Go.RowKit Go.Maps

/-- The slice at p, of n bools, holds bs. -/
structure BoI (w : World) (p : Option Addr) (n : Nat) (bs : List Bool) : Prop where
  len : bs.length = n
  big : n ≤ 140737488355328
  cells : 0 < n → ∃ b o, p = some ⟨b, o, none⟩ ∧ ∀ i y, bs[i]? = some y → w.cell? ⟨b, o + i, none⟩ = some (.bool y)

theorem sflat_at : ∀ (gs : List Nat) (q : List Wr), gs.length = q.length → ∀ (j c : Nat) (x : Wr), q[j]? = some x → c < 3 → (sflat gs q)[j * 3 + c]? = (sent (gs.getD j 0) x)[c]?
  | [], [], _, j, c, x, h, _ => by simp at h
  | g :: gs, y :: r, hl, 0, c, x, h, hc => by
    simp only [List.getElem?_cons_zero, Option.some.injEq] at h
    subst h
    have e : sflat (g :: gs) (y :: r) = sent g y ++ sflat gs r := by simp [sflat]
    rw [e, Nat.zero_mul, Nat.zero_add, List.getElem?_append_left (by simp [sent]; omega)]
    simp
  | g :: gs, y :: r, hl, j + 1, c, x, h, hc => by
    simp only [List.getElem?_cons_succ] at h
    have ih := sflat_at gs r (by simpa using hl) j c x h hc
    have e : sflat (g :: gs) (y :: r) = sent g y ++ sflat gs r := by simp [sflat]
    have el : (sent g y).length = 3 := rfl
    rw [e, List.getElem?_append_right (by rw [el]; omega), el]
    have e2 : (j + 1) * 3 + c - 3 = j * 3 + c := by omega
    rw [e2, ih]
    simp
  | [], y :: r, hl, _, _, _, _, _ => by simp at hl
  | g :: gs, [], hl, _, _, _, _, _ => by simp at hl

theorem Sents.at {B : Nat} {w : World} {g : Nat} {gs : List Nat} {q : List Wr} (h : Sents B w g gs q) {j : Nat} {x : Wr} (hx : q[j]? = some x) :
    w.cell? ⟨g, j * 3, none⟩ = some (.int .i64 x.id) ∧ w.cell? ⟨g, j * 3 + 1, none⟩ = some (.int .i64 (x.block : Int)) ∧ w.cell? ⟨g, j * 3 + 2, none⟩ = some (sl (gs.getD j 0)) := by
  have hj := (List.getElem?_eq_some_iff.1 hx).1
  have a0 := sflat_at gs q h.len j 0 x hx (by omega)
  have a1 := sflat_at gs q h.len j 1 x hx (by omega)
  have a2 := sflat_at gs q h.len j 2 x hx (by omega)
  refine ⟨?_, ?_, ?_⟩
  · rw [Nat.add_zero] at a0
    rw [h.row.cellAt _ (by omega), a0]; rfl
  · rw [h.row.cellAt _ (by omega), a1]; rfl
  · rw [h.row.cellAt _ (by omega), a2]; rfl

theorem Sents.kept {B : Nat} {w w' : World} {g : Nat} {gs : List Nat} {q : List Wr} (h : Sents B w g gs q) (hb : ∀ k, B ≤ k → k < w.heap.size → w'.heap[k]? = w.heap[k]?) : Sents B w' g gs q := by
  refine ⟨ownsRow_kept h.row (fun k hk => ?_), h.len, fun i x hx => ownsRow_kept (h.el i x hx) (fun k hk => ?_)⟩
  · have := h.row.lt k hk; exact hb k this.1 this.2
  · have := World.ownsRow.lt (h.el i x hx) k hk; exact hb k this.1 this.2

theorem Sents.base {B B' : Nat} {w : World} {g : Nat} {gs : List Nat} {q : List Wr} (h : Sents B w g gs q) (hB : B' ≤ B) : Sents B' w g gs q := by
  refine ⟨⟨h.row.1, ?_⟩, h.len, fun i x hx => (h.el i x hx).base hB⟩
  rcases h.row.2 with ⟨h', r⟩ | ⟨g', cap', cur, h', hbg, rest⟩
  · exact .inl ⟨h', r⟩
  · exact .inr ⟨g', cap', cur, h', by omega, rest⟩

/-- One block of an image is set. -/
theorem Img.set {B : Nat} {w : World} {g n : Nat} {gs : List Nat} {L : Nat → List Int} (h : Img B w g n gs L) {b g' : Nat} {xs : List Int} (ho : Own B w g' 128 128 xs) (hb : b < n) : Img B (w.setCell ⟨g, b, none⟩ (sl g')) g n (gs.set b g') (upd L b xs) := by
  refine ⟨?_, ?_⟩
  · have := (h.row.stored b (sl g')).1
    rw [← List.map_set] at this
    exact this
  · intro i hi
    have hl := h.len
    unfold upd
    by_cases e : i = b
    · subst e
      rw [if_pos rfl]
      have e1 : (gs.set i g').getD i 0 = g' := by simp [List.getD_eq_getElem?_getD, List.getElem?_set_self (show i < gs.length by omega)]
      rw [e1]
      exact ho.setOther (rows_ne ho h.row (by decide)) _
    · rw [if_neg e]
      have e1 : (gs.set b g').getD i 0 = gs.getD i 0 := by simp [List.getD_eq_getElem?_getD, List.getElem?_set_ne (Ne.symm e)]
      rw [e1]
      exact (h.el i hi).setOther (rows_ne (h.el i hi) h.row (by decide)) _

/-- Where the loop over the queue stands. -/
structure At (w w1 wr : World) (a mb fb gw gq : Nat) (gsq : List Nat) (q : List Wr) (N j : Nat) (qv : Value) (S : St) (gsw : List Nat) (L : Nat → List Int) : Prop where
  d : DI w.heap.size wr a mb fb qv S
  foot : ∀ k, foot a mb fb qv k → k < w1.heap.size
  sq : S.q = q.drop j
  sn : S.N = N
  img : Img w1.heap.size wr gw N gsw L
  sents : Sents w1.heap.size wr gq gsq q
  bw : Below w.heap.size w wr
  b1 : w1.heap.size ≤ wr.heap.size

theorem At.later {w w1 wr w' : World} {a mb fb gw gq : Nat} {gsq : List Nat} {q : List Wr} {N j : Nat} {qv : Value} {S : St} {gsw : List Nat} {L : Nat → List Int} (h : At w w1 wr a mb fb gw gq gsq q N j qv S gsw L) (hb : Below wr.heap.size wr w') : At w w1 w' a mb fb gw gq gsq q N j qv S gsw L :=
  ⟨h.d.later hb, h.foot, h.sq, h.sn, h.img.kept (fun k _ hk => hb.block k hk), h.sents.kept (fun k _ hk => hb.block k hk), h.bw.trans (hb.mono h.bw.size), Nat.le_trans h.b1 hb.size⟩

/-- One write is done, or fails. -/
theorem At.step {w w1 wr w' : World} {a mb fb gw gq : Nat} {gsq : List Nat} {q : List Wr} {N j : Nat} {qv qv' : Value} {S : St} {gsw : List Nat} {L : Nat → List Int} (h : At w w1 wr a mb fb gw gq gsq q N j qv S gsw L) {x : Wr} {ok : Bool} (hw : w.heap.size ≤ w1.heap.size)
    (hd : DI w.heap.size w' a mb fb qv' (S.done 0 x ok)) (hf : Frame (Go.Proofs.Ytemhhgpgpjiijaa.foot a mb fb qv) wr w') (ho : qv'.ownBlock = qv.ownBlock) : At w w1 w' a mb fb gw gq gsq q N (j + 1) qv' (S.done 0 x ok) gsw L := by
  have hk : ∀ k, w1.heap.size ≤ k → k < wr.heap.size → w'.heap[k]? = wr.heap[k]? := fun k h1 h2 => hf.block k h2 (fun hx => by have := h.foot k hx; omega)
  refine ⟨hd, ?_, ?_, h.sn, ?_, h.sents.kept hk, h.bw.trans (hf.below (Nat.le_trans hw h.b1) (fun k hk => (h.d.in k hk).1)), Nat.le_trans h.b1 hf.size⟩
  · intro k hk
    apply h.foot k
    rcases hk with e | e | e | e
    · exact .inl e
    · exact .inr (.inl e)
    · exact .inr (.inr (.inl e))
    · exact .inr (.inr (.inr (by rw [← ho]; exact e)))
  · show (S.q.eraseIdx 0) = _
    rw [h.sq]
    simp [List.eraseIdx_zero]
  · exact h.img.kept hk
/-- The wanted image takes the write's bytes. -/
theorem At.want {w w1 wr : World} {a mb fb gw gq : Nat} {gsq : List Nat} {q : List Wr} {N j : Nat} {qv : Value} {S : St} {gsw : List Nat} {L : Nat → List Int} (h : At w w1 wr a mb fb gw gq gsq q N j qv S gsw L) (hw : w.heap.size ≤ w1.heap.size) {i : Nat} {x : Wr} (hx : q[i]? = some x) (hb : x.block < N) :
    At w w1 (wr.setCell ⟨gw, x.block, none⟩ (sl (gsq.getD i 0))) a mb fb gw gq gsq q N j qv S (gsw.set x.block (gsq.getD i 0)) (upd L x.block x.bytes) := by
  have hg := (h.img.row.lt gw rfl).1
  have hk : ∀ k, k ≠ gw → (wr.setCell ⟨gw, x.block, none⟩ (sl (gsq.getD i 0))).heap[k]? = wr.heap[k]? := fun k hk => Below.heap_setCell wr ⟨gw, x.block, none⟩ _ k hk
  refine ⟨h.d.kept (fun k hk' => hk k (by have := h.foot k hk'; omega)), h.foot, h.sq, h.sn, h.img.set (h.sents.el i x hx) hb, ?_, h.bw.setCell (Nat.le_trans hw hg) _, by simpa using h.b1⟩
  refine ⟨ownsRow_kept h.sents.row (fun k hk' => ?_), h.sents.len, fun i x hx => (h.sents.el i x hx).setOther (rows_ne (h.sents.el i x hx) h.img.row (by decide)) _⟩
  cases hk'
  exact hk gq (rows_ne h.sents.row h.img.row (by decide))

theorem find_zero {q : List Wr} {j : Nat} {x : Wr} (hx : q[j]? = some x) : (q.drop j).findIdx? (fun y => y.id == x.id) = some 0 ∧ (q.drop j)[0]? = some x := by
  have e : q.drop j = x :: q.drop (j + 1) := by
    obtain ⟨h1, h2⟩ := List.getElem?_eq_some_iff.1 hx
    rw [← h2]; exact List.drop_eq_getElem_cons h1
  rw [e]
  simp [List.findIdx?_cons]

end Go.Proofs.Ytemhhgpgpjiijaa
