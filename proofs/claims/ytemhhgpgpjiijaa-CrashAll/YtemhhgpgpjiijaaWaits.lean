/- DiskWaits: a write that is not done is not read; a crash with all of them is as if all were done, one by one. -/
import Derived.Test.YtemhhgpgpjiijaaCopy
import Derived.Test.YtemhhgpgpjiijaaLast
namespace Go.Proofs.Ytemhhgpgpjiijaa
open Go.RowKit Go.Maps

theorem info3 : (Try.prog.info? 3).map (fun i => (i.zero, i.size, i.bytes)) = some (some (.int .i64 0), 1, 8) := by kernel_rfl

theorem idx_at {q : List Wr} (hid : ∀ (i : Nat) (x : Wr), q[i]? = some x → x.id = (i : Int) + 1) {i : Nat} {x : Wr} (hx : q[i]? = some x) : q.findIdx? (fun y => y.id == x.id) = some i := by
  rw [List.findIdx?_eq_some_iff_getElem]
  obtain ⟨h1, h2⟩ := List.getElem?_eq_some_iff.1 hx
  refine ⟨h1, by simp [h2], fun j hj => ?_⟩
  have a := hid j q[j] (List.getElem?_eq_getElem (by omega))
  have b := hid i x hx
  simp
  omega

/-- The blocks behind some writes. -/
def runs (f : Nat → List Int) (q : List Wr) : Nat → List Int := q.foldl (fun f x => upd f x.block x.bytes) f

theorem crash_part {q : List Wr} (hid : ∀ (i : Nat) (x : Wr), q[i]? = some x → x.id = (i : Int) + 1) : ∀ (l : List Wr) (f : Nat → List Int), (∀ x ∈ l, x ∈ q) → (l.map Wr.id).foldl (crash1 q) f = runs f l
  | [], f, _ => rfl
  | x :: l, f, h => by
    obtain ⟨i, hx⟩ := List.mem_iff_getElem?.1 (h x (by simp))
    obtain ⟨y, h1, h2⟩ := find_of_idx (idx_at hid hx)
    rw [hx] at h1
    cases h1
    have e : crash1 q f x.id = upd f x.block x.bytes := by simp [crash1, h2]
    simp only [List.map_cons, List.foldl_cons, runs, e]
    exact crash_part hid l _ (fun y hy => h y (List.mem_cons_of_mem _ hy))

theorem owns_ne {w : World} {B B' : Nat} {e e' : TypeId} {s s' n n' : Nat} {v v' : Value} {L L' : List Value} (h : w.ownsRow B e s v n L) (h' : w.ownsRow B' e' s' v' n' L') (hne : e ≠ e') {k : Nat} (hk : v.ownBlock = some k) : v'.ownBlock ≠ some k := by
  intro hk'
  rcases h.2 with ⟨rfl, _⟩ | ⟨g1, cap1, cur1, rfl, _, hg1, _⟩
  · simp [Value.ownBlock] at hk
  rcases h'.2 with ⟨rfl, _⟩ | ⟨g2, cap2, cur2, rfl, _, hg2, _⟩
  · simp [Value.ownBlock] at hk'
  simp only [Value.ownBlock, Option.some.injEq] at hk hk'
  subst hk
  subst hk'
  rw [hg1] at hg2
  simp only [Option.some.injEq, Obj.cells.injEq] at hg2
  exact hne hg2.2.1

theorem ids_ii {w : World} {B n : Nat} {v : Value} {L : List Int} (h : w.ownsRow B 3 1 v n (L.map (Value.int .i64))) (hn : n ≤ 64) (hr : ∀ x ∈ L, -9223372036854775808 ≤ x ∧ x ≤ 9223372036854775807) : ∃ p c, v = .slice p n c ∧ II w p n L ∧ ∀ b o, p = some ⟨b, o, none⟩ → B ≤ b := by
  have hl : L.length = n := by have := h.1; simpa using this
  rcases h.2 with ⟨rfl, rfl⟩ | ⟨g, cap, cur, rfl, hB, _⟩
  · exact ⟨none, 0, rfl, ⟨hl, by omega, hr, fun h => by omega⟩, fun b o e => by cases e⟩
  · refine ⟨some ⟨g, 0, none⟩, cap, rfl, ⟨hl, by omega, hr, fun _ => ⟨g, 0, rfl, fun i hi => ?_⟩⟩, fun b o e => by cases e; exact hB⟩
    rw [Nat.zero_add, h.cellAt i (by omega), List.getElem?_map, List.getD_eq_getElem?_getD, List.getElem?_eq_getElem (by omega)]
    rfl

/-- Where the loop over the queue stands: the disk, its copy behind j writes, the numbers of k writes. -/
structure Wt (w w4 w5 wr : World) (a mb fb : Nat) (qv : Value) (S : St) (a' mb' fb' gq : Nat) (gsq : List Nat) (j k : Nat) (qv' : Value) (S' : St) (v : Value) : Prop where
  d : DI w.heap.size wr a mb fb qv S
  df : ∀ k, foot a mb fb qv k → k < w4.heap.size
  c : DI w4.heap.size wr a' mb' fb' qv' S'
  cf : ∀ k, foot a' mb' fb' qv' k → k < w5.heap.size
  sq : S'.q = S.q.drop j
  sn : S'.N = S.N
  sf : S'.f = runs S.f (S.q.take j)
  sents : Sents w5.heap.size wr gq gsq S.q
  ids : wr.ownsRow w5.heap.size 3 1 v k (((S.q.take k).map Wr.id).map (Value.int .i64))
  bw : Below w.heap.size w wr
  b5 : w5.heap.size ≤ wr.heap.size
  b4 : w4.heap.size ≤ w5.heap.size
  b0 : w.heap.size ≤ w4.heap.size

section
variable {w w4 w5 wr w' : World} {a mb fb : Nat} {qv : Value} {S : St} {a' mb' fb' gq : Nat} {gsq : List Nat} {j k : Nat} {qv' : Value} {S' : St} {v : Value}

theorem Wt.later (h : Wt w w4 w5 wr a mb fb qv S a' mb' fb' gq gsq j k qv' S' v) (hb : Below wr.heap.size wr w') : Wt w w4 w5 w' a mb fb qv S a' mb' fb' gq gsq j k qv' S' v :=
  { h with
    d := h.d.later hb
    c := h.c.later hb
    sents := h.sents.kept (fun k _ hk => hb.block k hk)
    ids := ownsRow_kept h.ids (fun k hk => hb.block k (h.ids.lt k hk).2)
    bw := h.bw.trans (hb.mono h.bw.size)
    b5 := Nat.le_trans h.b5 hb.size }

/-- One number more. -/
theorem Wt.app (h : Wt w w4 w5 wr a mb fb qv S a' mb' fb' gq gsq j k qv' S' v) {x : Wr} (hx : S.q[k]? = some x) {v' : Value} (hown : w'.ownsRow w5.heap.size 3 1 v' (k + 1) (((S.q.take k).map Wr.id).map (Value.int .i64) ++ [.int .i64 x.id])) (hg : wr.grownBy w' v.ownBlock) : Wt w w4 w5 w' a mb fb qv S a' mb' fb' gq gsq j (k + 1) qv' S' v' := by
  have hlo : ∀ i, v.ownBlock = some i → w5.heap.size ≤ i := fun i hi => (h.ids.lt i hi).1
  have h4 := h.b4
  have h0 := h.b0
  have h5 := h.b5
  have hk : ∀ i, i < w5.heap.size → w'.heap[i]? = wr.heap[i]? := fun i hi => hg.block i (by omega) (fun e => by have := hlo i e.symm; omega)
  refine { h with d := h.d.kept (fun i hi => hk i (by have := h.df i hi; omega)), c := h.c.kept (fun i hi => hk i (h.cf i hi)), sents := ?_, ids := ?_, bw := ?_, b5 := Nat.le_trans h.b5 hg.size }
  · refine ⟨ownsRow_kept h.sents.row (fun i hi => hg.block i (h.sents.row.lt i hi).2 (fun e => owns_ne h.sents.row h.ids (by decide) hi e.symm)), h.sents.len, fun i y hy => ownsRow_kept (h.sents.el i y hy) (fun m hm => hg.block m (World.ownsRow.lt (h.sents.el i y hy) m hm).2 (fun e => owns_ne (h.sents.el i y hy) h.ids (by decide) hm e.symm))⟩
  · rw [take_snoc hx, List.map_append, List.map_append]
    exact hown
  · exact h.bw.grown hg h.bw.size (fun i hi => by have := hlo i hi; omega)

/-- One write of the copy is done. -/
theorem Wt.step (h : Wt w w4 w5 wr a mb fb qv S a' mb' fb' gq gsq j k qv' S' v) {x : Wr} (hx : S.q[j]? = some x) {qv2 : Value} (hd : DI w4.heap.size w' a' mb' fb' qv2 (S'.done 0 x true)) (hf : Frame (Go.Proofs.Ytemhhgpgpjiijaa.foot a' mb' fb' qv') wr w') (ho : qv2.ownBlock = qv'.ownBlock) : Wt w w4 w5 w' a mb fb qv S a' mb' fb' gq gsq (j + 1) k qv2 (S'.done 0 x true) v := by
  have h4 := h.b4
  have h0 := h.b0
  have h5 := h.b5
  have hlo : ∀ i, foot a' mb' fb' qv' i → w4.heap.size ≤ i ∧ i < w5.heap.size := fun i hi => ⟨(h.c.in i hi).1, h.cf i hi⟩
  have hk : ∀ i, i < wr.heap.size → (i < w4.heap.size ∨ w5.heap.size ≤ i) → w'.heap[i]? = wr.heap[i]? := fun i hi hor => hf.block i hi (fun e => by have := hlo i e; omega)
  refine { h with d := h.d.kept (fun i hi => hk i (h.d.in i hi).2 (.inl (h.df i hi))), c := hd, cf := ?_, sq := ?_, sn := h.sn, sf := ?_, sents := h.sents.kept (fun i h1 h2 => hk i h2 (.inr h1)), ids := ownsRow_kept h.ids (fun i hi => hk i (h.ids.lt i hi).2 (.inr (h.ids.lt i hi).1)), bw := h.bw.trans (hf.below (Nat.le_trans h0 (Nat.le_trans h4 h5)) (fun i hi => by have := hlo i hi; omega)), b5 := Nat.le_trans h5 hf.size }
  · intro i hi
    apply h.cf i
    rcases hi with e | e | e | e
    · exact .inl e
    · exact .inr (.inl e)
    · exact .inr (.inr (.inl e))
    · exact .inr (.inr (.inr (by rw [← ho]; exact e)))
  · show S'.q.eraseIdx 0 = _
    rw [h.sq]
    simp [List.eraseIdx_zero]
  · show (if true = true then upd S'.f x.block x.bytes else S'.f) = _
    rw [if_pos rfl, h.sf, take_snoc hx]
    simp [runs, List.foldl_append]
end
end Go.Proofs.Ytemhhgpgpjiijaa
