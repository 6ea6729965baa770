/- What stands in memory while a call is done on both disks. -/
import Derived.Test.YtnbknoibelajaabBoth
namespace Go.Proofs.Ytnbknoibelajaab
open Go.RowKit Go.Maps

theorem DI.notin {B : Nat} {w : World} {a mb fb : Nat} {dq : Value} {S : St} (hd : DI B w a mb fb dq S) {k : Nat} {cs : Array Value} {t : TypeId} (h : w.heap[k]? = some (.cells cs t (0, 0))) (h1 : t ≠ 62) (h2 : t ≠ 86) : ¬ foot a mb fb dq k := by
  rintro (rfl | rfl | rfl | hf)
  · have := hd.row
    rw [h] at this
    simp only [Option.some.injEq, Obj.cells.injEq] at this
    exact h1 this.2.1
  · obtain ⟨D, ⟨es, c, ho, _⟩, _⟩ := hd.secs.ex
    rw [h] at ho
    simp at ho
  · obtain ⟨D, ⟨es, c, ho, _⟩, _⟩ := hd.fls.ex
    rw [h] at ho
    simp at ho
  · obtain ⟨cs', e'⟩ := own_ty hd.que hf
    rw [h] at e'
    simp only [Option.some.injEq, Obj.cells.injEq] at e'
    exact h2 e'.2.1

theorem RI.notin {B : Nat} {w : World} {x : Nat} {bv qv fv : Value} {gB gQ : List (Nat × Nat)} {S : St} (hr : RI B w x bv qv fv gB gQ S) {k : Nat} {cs : Array Value} {t : TypeId} (h : w.heap[k]? = some (.cells cs t (0, 0))) (h1 : t ≠ 71) (h2 : t ≠ 30) (h3 : t ≠ 52) (h4 : t ≠ 3) : ¬ rfoot x bv qv fv k := by
  rintro (rfl | hf | hf | hf)
  · have := hr.row
    rw [h] at this
    simp only [Option.some.injEq, Obj.cells.injEq] at this
    exact h1 this.2.1
  · obtain ⟨cs', e'⟩ := own_ty hr.bs hf
    rw [h] at e'
    simp only [Option.some.injEq, Obj.cells.injEq] at e'
    exact h2 e'.2.1
  · obtain ⟨cs', e'⟩ := own_ty hr.qs hf
    rw [h] at e'
    simp only [Option.some.injEq, Obj.cells.injEq] at e'
    exact h3 e'.2.1
  · obtain ⟨cs', e'⟩ := own_ty hr.fs hf
    rw [h] at e'
    simp only [Option.some.injEq, Obj.cells.injEq] at e'
    exact h4 e'.2.1

theorem RI.base {B B' : Nat} {w : World} {x : Nat} {bv qv fv : Value} {gB gQ : List (Nat × Nat)} {S : St} (h : RI B w x bv qv fv gB gQ S) (hB : B' ≤ B) : RI B' w x bv qv fv gB gQ S :=
  ⟨h.row, ownsRow_base h.bs hB, fun i p hp => ownsRow_base (h.bel i p hp) hB, ownsRow_base h.qs hB, h.qlen, fun i y p hy hp => ownsRow_base (h.qel i y p hy hp) hB, ownsRow_base h.fs hB, Nat.le_trans hB h.lo⟩

theorem row_bi {w : World} {H n c : Nat} {p : Option Addr} {xs : List Int} (h : w.ownsRow H 5 1 (.slice p n c) n (xs.map (Value.int .u8))) (hn : n ≤ 140737488355328) (hx : Num.Byt xs) : BI w p n xs := by
  have hl : xs.length = n := by have := h.1; simpa using this
  refine ⟨hl, hn, hx, fun h0 => ?_⟩
  rcases h.2 with ⟨e, e0⟩ | ⟨g, cap, cur, e, _⟩
  · omega
  · cases e
    exact ⟨g, 0, rfl, fun i hi => by rw [Nat.zero_add]; exact Own.cell (B := H) (cap := c) h i hi⟩

theorem row_ii {w : World} {H n c : Nat} {p : Option Addr} {xs : List Int} (h : w.ownsRow H 3 1 (.slice p n c) n (xs.map (Value.int .i64))) (hn : n * 8 ≤ 140737488355328) (hx : ∀ y ∈ xs, -9223372036854775808 ≤ y ∧ y ≤ 9223372036854775807) : II w p n xs := by
  have hl : xs.length = n := by have := h.1; simpa using this
  refine ⟨hl, hn, hx, fun h0 => ?_⟩
  rcases h.2 with ⟨e, e0⟩ | ⟨g, cap, cur, e, _⟩
  · omega
  · cases e
    refine ⟨g, 0, rfl, fun i hi => ?_⟩
    rw [Nat.zero_add, h.cellAt i (by omega), List.getElem?_map, List.getD_eq_getElem?_getD, List.getElem?_eq_getElem (by omega)]
    rfl

/-- What has turned since lies from the first world's end on. -/
theorem frame_far {K X : Nat → Prop} {a b c : World} (h : Frame K a b) (k : Frame X b c) (hx : ∀ i, X i → a.heap.size ≤ i) : Frame K a c :=
  ⟨k.os.trans h.os, k.tape.trans h.tape, k.output.trans h.output, Nat.le_trans h.size k.size, fun i hi hn => (k.block i (Nat.lt_of_lt_of_le hi h.size) (fun e => by have := hx i e; omega)).trans (h.block i hi hn)⟩

/-- The two disks, the call as it was handed in, the copies of its lists. -/
structure Dz (wi : World) (K K2 : Nat → Prop) (w0 wr : World) (a mb fb : Nat) (dq : Value) (Sd : St) (x : Nat) (bv qv fv : Value) (gB gQ : List (Nat × Nat)) (Sr : St) (T : Nat) (cs : Array Value) (g j : Value) (bn jn : Nat) (xs is : List Int) (H : Nat) : Prop where
  d : DI w0.heap.size wr a mb fb dq Sd
  r : RI w0.heap.size wr x bv qv fv gB gQ Sr
  t : wr.heap[T]? = some (.cells cs 33 (0, 0))
  gr : wr.ownsRow H 5 1 g bn (xs.map (Value.int .u8))
  jr : wr.ownsRow H 3 1 j jn (is.map (Value.int .i64))
  bw : Below w0.heap.size w0 wr
  H0 : w0.heap.size ≤ H
  gne : ∀ k, g.ownBlock = some k → ¬ rrows gB gQ k
  fr : Frame K wi wr
  H1 : wi.heap.size ≤ H
  dn : ∀ k, foot a mb fb dq k → K k ∨ wi.heap.size ≤ k
  rn : ∀ k, rfoot x bv qv fv k ∨ rrows gB gQ k → K2 k ∨ wi.heap.size ≤ k

section
variable {wi : World} {K K2 : Nat → Prop} {w0 wr w' : World} {a mb fb : Nat} {dq dq' : Value} {Sd Sd' : St} {x : Nat} {bv qv fv qv' fv' : Value} {gB gQ gB' gQ' : List (Nat × Nat)} {Sr Sr' : St} {T : Nat} {cs : Array Value} {g j : Value} {bn jn : Nat} {xs is : List Int} {H : Nat}

theorem Dz.later (h : Dz wi K K2 w0 wr a mb fb dq Sd x bv qv fv gB gQ Sr T cs g j bn jn xs is H) (hb : Below wr.heap.size wr w') : Dz wi K K2 w0 w' a mb fb dq Sd x bv qv fv gB gQ Sr T cs g j bn jn xs is H :=
  { h with
    d := h.d.later hb
    r := h.r.later hb
    t := (hb.block T (Array.getElem?_eq_some_iff.1 h.t).1).trans h.t
    gr := ownsRow_kept h.gr (fun k hk => hb.block k (h.gr.lt k hk).2)
    jr := ownsRow_kept h.jr (fun k hk => hb.block k (h.jr.lt k hk).2)
    bw := h.bw.trans (hb.mono h.bw.size)
    fr := h.fr.trans (frame_of_below hb) }

/-- A call of the disk. -/
theorem Dz.dop (h : Dz wi K K2 w0 wr a mb fb dq Sd x bv qv fv gB gQ Sr T cs g j bn jn xs is H) (hK : ∀ k, foot a mb fb dq k → K k) (hd : DI w0.heap.size w' a mb fb dq' Sd') (hf : Frame (foot a mb fb dq) wr w') (hn : ∀ k, foot a mb fb dq' k → foot a mb fb dq k ∨ wr.heap.size ≤ k) : Dz wi K K2 w0 w' a mb fb dq' Sd' x bv qv fv gB gQ Sr T cs g j bn jn xs is H := by
  have hrow : ∀ {e : TypeId} {s m : Nat} {u : Value} {Lx : List Value}, wr.ownsRow H e s u m Lx → e ≠ 62 → e ≠ 86 → w'.ownsRow H e s u m Lx := fun ho h1 h2 => ownsRow_kept ho (fun k hk => hf.block k (ho.lt k hk).2 (fun hx => by
    obtain ⟨cs', hc⟩ := own_ty ho hk
    exact h.d.notin hc h1 h2 hx))
  exact { h with
    d := hd
    r := h.r.kept (fun k hk => hf.block k (h.r.in hk).2 (h.r.apart h.d hk))
    t := (hf.block T (Array.getElem?_eq_some_iff.1 h.t).1 (h.d.notin h.t (by decide) (by decide))).trans h.t
    gr := hrow h.gr (by decide) (by decide)
    jr := hrow h.jr (by decide) (by decide)
    bw := h.bw.trans (hf.below h.bw.size (fun k hk => (h.d.in k hk).1))
    fr := h.fr.trans (hf.mono (fun k _ hk => hK k hk))
    dn := fun k hk => by
      rcases hn k hk with h' | h'
      · exact h.dn k h'
      · exact .inr (Nat.le_trans h.fr.size h') }

/-- A call of the document's disk. -/
theorem Dz.rop (h : Dz wi K K2 w0 wr a mb fb dq Sd x bv qv fv gB gQ Sr T cs g j bn jn xs is H) (hK : ∀ k, rfoot x bv qv fv k → K k) (hjn : ∀ k, j.ownBlock = some k → ¬ rfoot x bv qv fv k) (hr : RI w0.heap.size w' x bv qv' fv' gB' gQ' Sr') (hf : Frame (rfoot x bv qv fv) wr w') (hnew : ∀ k, rrows gB' gQ' k → rrows gB gQ k ∨ wr.heap.size ≤ k) (hn : ∀ k, rfoot x bv qv' fv' k → rfoot x bv qv fv k ∨ wr.heap.size ≤ k) : Dz wi K K2 w0 w' a mb fb dq Sd x bv qv' fv' gB' gQ' Sr' T cs g j bn jn xs is H :=
  { h with
    d := h.d.kept (fun k hk => hf.block k (h.d.in k hk).2 (fun hx => h.r.apart h.d (.inl hx) hk))
    r := hr
    t := (hf.block T (Array.getElem?_eq_some_iff.1 h.t).1 (h.r.notin h.t (by decide) (by decide) (by decide) (by decide))).trans h.t
    gr := ownsRow_kept h.gr (fun k hk => hf.block k (h.gr.lt k hk).2 (fun hx => by
      obtain ⟨cs', hc⟩ := own_ty h.gr hk
      exact h.r.notin hc (by decide) (by decide) (by decide) (by decide) hx))
    jr := ownsRow_kept h.jr (fun k hk => hf.block k (h.jr.lt k hk).2 (hjn k hk))
    bw := h.bw.trans (hf.below h.bw.size (fun k hk => (h.r.in (.inl hk)).1))
    fr := h.fr.trans (hf.mono (fun k _ hk => hK k hk))
    rn := fun k hk => by
      rcases hk with hk | hk
      · rcases hn k hk with h' | h'
        · exact h.rn k (.inl h')
        · exact .inr (Nat.le_trans h.fr.size h')
      · rcases hnew k hk with h' | h'
        · exact h.rn k (.inr h')
        · exact .inr (Nat.le_trans h.fr.size h')
    gne := fun k hk hx => by
      rcases hnew k hx with h' | h'
      · exact h.gne k hk h'
      · have := (h.gr.lt k hk).2; omega }

/-- Bytes of another row are written over. -/
theorem Dz.spoil (h : Dz wi K K2 w0 wr a mb fb dq Sd x bv qv fv gB gQ Sr T cs g j bn jn xs is H) {v : Value} {H' m : Nat} {Lx : List Value} (hv : wr.ownsRow H' 5 1 v m Lx) (hH : w0.heap.size ≤ H') (hH2 : wi.heap.size ≤ H') (hf : Frame (fun k => v.ownBlock = some k) wr w') (hne : ∀ k, v.ownBlock = some k → ¬ rrows gB gQ k ∧ g.ownBlock ≠ some k) : Dz wi K K2 w0 w' a mb fb dq Sd x bv qv fv gB gQ Sr T cs g j bn jn xs is H := by
  have hty : ∀ {k : Nat} {cs' : Array Value} {t : TypeId}, wr.heap[k]? = some (.cells cs' t (0, 0)) → t ≠ 5 → v.ownBlock ≠ some k := fun hc ht e => by
    obtain ⟨cs2, h2⟩ := own_ty hv e
    rw [hc] at h2
    simp only [Option.some.injEq, Obj.cells.injEq] at h2
    exact ht h2.2.1
  exact { h with
    d := h.d.kept (fun k hk => hf.block k (h.d.in k hk).2 (fun e => by
      obtain ⟨cs2, h2⟩ := own_ty hv e
      exact h.d.notin h2 (by decide) (by decide) hk))
    r := h.r.kept (fun k hk => hf.block k (h.r.in hk).2 (fun e => by
      rcases hk with hk | hk
      · obtain ⟨cs2, h2⟩ := own_ty hv e
        exact h.r.notin h2 (by decide) (by decide) (by decide) (by decide) hk
      · exact (hne k e).1 hk))
    t := (hf.block T (Array.getElem?_eq_some_iff.1 h.t).1 (fun e => hty h.t (by decide) e)).trans h.t
    gr := ownsRow_kept h.gr (fun k hk => hf.block k (h.gr.lt k hk).2 (fun e => (hne k e).2 hk))
    jr := ownsRow_kept h.jr (fun k hk => hf.block k (h.jr.lt k hk).2 (fun e => by
      obtain ⟨cs2, h2⟩ := own_ty h.jr hk
      exact hty h2 (by decide) e))
    bw := h.bw.trans (hf.below h.bw.size (fun k hk => Nat.le_trans hH (hv.lt k hk).1))
    fr := frame_far h.fr hf (fun k hk => Nat.le_trans hH2 (hv.lt k hk).1) }

/-- At the end the copy of the bytes is written over. -/
theorem Dz.fin (h : Dz wi K K2 w0 wr a mb fb dq Sd x bv qv fv gB gQ Sr T cs g j bn jn xs is H) (hf : Frame (fun k => g.ownBlock = some k) wr w') : DI w0.heap.size w' a mb fb dq Sd ∧ RI w0.heap.size w' x bv qv fv gB gQ Sr ∧ Below w0.heap.size w0 w' ∧ Frame K wi w' := by
  refine ⟨h.d.kept (fun k hk => hf.block k (h.d.in k hk).2 (fun e => ?_)), h.r.kept (fun k hk => hf.block k (h.r.in hk).2 (fun e => ?_)), h.bw.trans (hf.below h.bw.size (fun k hk => Nat.le_trans h.H0 (h.gr.lt k hk).1)), frame_far h.fr hf (fun k hk => Nat.le_trans h.H1 (h.gr.lt k hk).1)⟩
  · obtain ⟨cs2, h2⟩ := own_ty h.gr e
    exact h.d.notin h2 (by decide) (by decide) hk
  · rcases hk with hk | hk
    · obtain ⟨cs2, h2⟩ := own_ty h.gr e
      exact h.r.notin h2 (by decide) (by decide) (by decide) (by decide) hk
    · exact h.gne k e hk
end

theorem six (b : Int) : ∃ r : Int, IntKind.i64.wrap ((IntKind.u64.wrap b).tmod 6) = r ∧ wrap64 ((IntKind.u64.wrap b).tmod 6) = r ∧ 0 ≤ r ∧ r < 6 := by
  have h0 : 0 ≤ IntKind.u64.wrap b := wrap_u64_nonneg b
  rw [Int.tmod_eq_emod_of_nonneg h0]
  have h1 : 0 ≤ IntKind.u64.wrap b % 6 := by omega
  have h2 : IntKind.u64.wrap b % 6 < 6 := by omega
  generalize IntKind.u64.wrap b % 6 = r at h1 h2
  refine ⟨r, ?_, ?_, h1, h2⟩
  · rw [IntKind.wrap_i64]; omega
  · unfold wrap64; omega
end Go.Proofs.Ytnbknoibelajaab
