/- The document's disk in memory, and what only reads it: copied, has, find. -/
import Derived.Test.YtemhhgpgpjiijaaWaits
namespace Go.Proofs.Ytemhhgpgpjiijaa
open Go.RowKit Go.Maps

/-- What holds of every disk that calls have made. -/
structure Ok (S : St) : Prop where
  N1 : 1 ≤ S.N
  N2 : S.N ≤ 2048
  q64 : S.q.length ≤ 64
  qok : ∀ x ∈ S.q, x.block < S.N ∧ Sect x.bytes ∧ -9223372036854775808 ≤ x.id ∧ x.id ≤ 9223372036854775807
  lok : 0 ≤ S.last ∧ S.last ≤ 9223372036854775807
  sec : ∀ b, Sect (S.f b)
  fl : ∀ b, 0 ≤ S.fl b ∧ S.fl b ≤ 1000

theorem DI.ok {B : Nat} {w : World} {a mb fb : Nat} {qv : Value} {S : St} (h : DI B w a mb fb qv S) : Ok S := ⟨h.N1, h.N2, h.q64, h.qok, h.lok, h.secs.all, h.fls.all⟩

/-- A block's 128 bytes as a slice: the row and its capacity. -/
def slc (p : Nat × Nat) : Value := .slice (some ⟨p.1, 0, none⟩) 128 p.2
def rsent (p : Nat × Nat) (x : Wr) : List Value := [.int .i64 x.id, .int .i64 (x.block : Int), slc p]
def rflat (ps : List (Nat × Nat)) (q : List Wr) : List Value := (ps.zip q).flatMap (fun p => rsent p.1 p.2)

/-- Block x is the document's disk that has S. -/
structure RI (B : Nat) (w : World) (x : Nat) (bv qv fv : Value) (gB gQ : List (Nat × Nat)) (S : St) : Prop where
  row : w.heap[x]? = some (.cells #[bv, qv, fv, .int .i64 S.last] 92 (0, 0))
  bs : w.ownsRow B 42 1 bv S.N (gB.map slc)
  bel : ∀ (i : Nat) (p : Nat × Nat), gB[i]? = some p → Own B w p.1 128 p.2 (S.f i)
  qs : w.ownsRow B 44 3 qv S.q.length (rflat gQ S.q)
  qlen : gQ.length = S.q.length
  qel : ∀ (i : Nat) (y : Wr) (p : Nat × Nat), S.q[i]? = some y → gQ[i]? = some p → Own B w p.1 128 p.2 y.bytes
  fs : w.ownsRow B 3 1 fv S.N ((List.range S.N).map fun b => .int .i64 (S.fl b))
  lo : B ≤ x

/-- The blocks that its calls write to. -/
def rfoot (x : Nat) (bv qv fv : Value) (k : Nat) : Prop := k = x ∨ bv.ownBlock = some k ∨ qv.ownBlock = some k ∨ fv.ownBlock = some k
/-- The rows of bytes, that are never written to. -/
def rrows (gB gQ : List (Nat × Nat)) (k : Nat) : Prop := (∃ p ∈ gB, p.1 = k) ∨ (∃ p ∈ gQ, p.1 = k)

section
variable {B : Nat} {w w' : World} {x : Nat} {bv qv fv : Value} {gB gQ : List (Nat × Nat)} {S : St}

theorem RI.blen (h : RI B w x bv qv fv gB gQ S) : gB.length = S.N := by have := h.bs.1; simpa using this

theorem own_ty {e : TypeId} {s n : Nat} {v : Value} {L : List Value} (h : w.ownsRow B e s v n L) {k : Nat} (hk : v.ownBlock = some k) : ∃ cs, w.heap[k]? = some (.cells cs e (0, 0)) := by
  rcases h.2 with ⟨rfl, _⟩ | ⟨g1, cap1, cur1, rfl, _, hg1, _⟩
  · simp [Value.ownBlock] at hk
  · simp only [Value.ownBlock, Option.some.injEq] at hk
    subst hk
    exact ⟨_, hg1⟩

theorem RI.rowOwn (h : RI B w x bv qv fv gB gQ S) {k : Nat} (hk : rrows gB gQ k) : ∃ c xs, Own B w k 128 c xs := by
  rcases hk with ⟨p, hp, rfl⟩ | ⟨p, hp, rfl⟩
  · obtain ⟨i, hi⟩ := List.mem_iff_getElem?.1 hp
    exact ⟨_, _, h.bel i p hi⟩
  · obtain ⟨i, hi⟩ := List.mem_iff_getElem?.1 hp
    have hl := h.qlen
    have hil := (List.getElem?_eq_some_iff.1 hi).1
    exact ⟨_, _, h.qel i (S.q[i]'(by omega)) p (List.getElem?_eq_getElem _) hi⟩

theorem RI.in (h : RI B w x bv qv fv gB gQ S) {k : Nat} (hk : rfoot x bv qv fv k ∨ rrows gB gQ k) : B ≤ k ∧ k < w.heap.size := by
  rcases hk with (rfl | hk | hk | hk) | hk
  · exact ⟨h.lo, (Array.getElem?_eq_some_iff.1 h.row).1⟩
  · exact h.bs.lt k hk
  · exact h.qs.lt k hk
  · exact h.fs.lt k hk
  · obtain ⟨c, xs, ho⟩ := h.rowOwn hk
    exact ho.spot

theorem RI.ty (h : RI B w x bv qv fv gB gQ S) {k : Nat} (hk : rfoot x bv qv fv k ∨ rrows gB gQ k) : ∃ cs t, w.heap[k]? = some (.cells cs t (0, 0)) ∧ t ≠ 67 ∧ t ≠ 71 := by
  rcases hk with (rfl | hk | hk | hk) | hk
  · exact ⟨_, _, h.row, by decide, by decide⟩
  · obtain ⟨cs, e⟩ := own_ty h.bs hk
    exact ⟨_, _, e, by decide, by decide⟩
  · obtain ⟨cs, e⟩ := own_ty h.qs hk
    exact ⟨_, _, e, by decide, by decide⟩
  · obtain ⟨cs, e⟩ := own_ty h.fs hk
    exact ⟨_, _, e, by decide, by decide⟩
  · obtain ⟨c, xs, ho⟩ := h.rowOwn hk
    obtain ⟨cs, e⟩ := own_ty ho (k := k) rfl
    exact ⟨_, _, e, by decide, by decide⟩

/-- The two disks have no block in common. -/
theorem RI.apart (h : RI B w x bv qv fv gB gQ S) {B' a mb fb : Nat} {dq : Value} {S' : St} (hd : DI B' w a mb fb dq S') {k : Nat} (hk : rfoot x bv qv fv k ∨ rrows gB gQ k) : ¬ foot a mb fb dq k := by
  obtain ⟨cs, t, e, h1, h2⟩ := h.ty hk
  rintro (rfl | rfl | rfl | hf)
  · have := hd.row
    rw [e] at this
    simp only [Option.some.injEq, Obj.cells.injEq] at this
    exact h1 this.2.1
  · obtain ⟨D, ⟨es, c, ho, _⟩, _⟩ := hd.secs.ex
    rw [e] at ho
    simp at ho
  · obtain ⟨D, ⟨es, c, ho, _⟩, _⟩ := hd.fls.ex
    rw [e] at ho
    simp at ho
  · obtain ⟨cs', e'⟩ := own_ty hd.que hf
    rw [e] at e'
    simp only [Option.some.injEq, Obj.cells.injEq] at e'
    exact h2 e'.2.1

theorem RI.kept (h : RI B w x bv qv fv gB gQ S) (hb : ∀ k, rfoot x bv qv fv k ∨ rrows gB gQ k → w'.heap[k]? = w.heap[k]?) : RI B w' x bv qv fv gB gQ S :=
  { h with
    row := (hb x (.inl (.inl rfl))).trans h.row
    bs := ownsRow_kept h.bs (fun k hk => hb k (.inl (.inr (.inl hk))))
    bel := fun i p hp => ownsRow_kept (h.bel i p hp) (fun k hk => hb k (.inr (.inl ⟨p, List.mem_of_getElem? hp, by simpa [Value.ownBlock] using hk⟩)))
    qs := ownsRow_kept h.qs (fun k hk => hb k (.inl (.inr (.inr (.inl hk)))))
    qel := fun i y p hy hp => ownsRow_kept (h.qel i y p hy hp) (fun k hk => hb k (.inr (.inr ⟨p, List.mem_of_getElem? hp, by simpa [Value.ownBlock] using hk⟩)))
    fs := ownsRow_kept h.fs (fun k hk => hb k (.inl (.inr (.inr (.inr hk))))) }

theorem RI.later (h : RI B w x bv qv fv gB gQ S) (hb : Below w.heap.size w w') : RI B w' x bv qv fv gB gQ S := h.kept (fun k hk => hb.block k (h.in hk).2)

theorem RI.c0 (h : RI B w x bv qv fv gB gQ S) : w.cell? ⟨x, 0, none⟩ = some bv := by rw [cell_of_row _ _ 0 _ _ _ h.row]; rfl
theorem RI.c1 (h : RI B w x bv qv fv gB gQ S) : w.cell? ⟨x, 1, none⟩ = some qv := by rw [cell_of_row _ _ 1 _ _ _ h.row]; rfl
theorem RI.c2 (h : RI B w x bv qv fv gB gQ S) : w.cell? ⟨x, 2, none⟩ = some fv := by rw [cell_of_row _ _ 2 _ _ _ h.row]; rfl
theorem RI.c3 (h : RI B w x bv qv fv gB gQ S) : w.cell? ⟨x, 3, none⟩ = some (.int .i64 S.last) := by rw [cell_of_row _ _ 3 _ _ _ h.row]; rfl

theorem RI.froz (h : RI B w x bv qv fv gB gQ S) (j : Nat) : w.frozen? ⟨x, j, none⟩ = false := by
  simp [World.frozen?, h.row]

theorem rflat_at : ∀ (gs : List (Nat × Nat)) (q : List Wr), gs.length = q.length → ∀ (j c : Nat) (x : Wr) (p : Nat × Nat), q[j]? = some x → gs[j]? = some p → c < 3 → (rflat gs q)[j * 3 + c]? = (rsent p x)[c]?
  | [], [], _, j, c, x, p, h, _, _ => by simp at h
  | g :: gs, y :: r, hl, 0, c, x, p, h, hp, hc => by
    simp only [List.getElem?_cons_zero, Option.some.injEq] at h hp
    subst h
    subst hp
    have e : rflat (g :: gs) (y :: r) = rsent g y ++ rflat gs r := by simp [rflat]
    rw [e, Nat.zero_mul, Nat.zero_add, List.getElem?_append_left (by simp [rsent]; omega)]
  | g :: gs, y :: r, hl, j + 1, c, x, p, h, hp, hc => by
    simp only [List.getElem?_cons_succ] at h hp
    have ih := rflat_at gs r (by simpa using hl) j c x p h hp hc
    have e : rflat (g :: gs) (y :: r) = rsent g y ++ rflat gs r := by simp [rflat]
    have el : (rsent g y).length = 3 := rfl
    rw [e, List.getElem?_append_right (by rw [el]; omega), el]
    have e2 : (j + 1) * 3 + c - 3 = j * 3 + c := by omega
    rw [e2, ih]
  | [], y :: r, hl, _, _, _, _, _, _, _ => by simp at hl
  | g :: gs, [], hl, _, _, _, _, _, _, _ => by simp at hl

/-- The three cells of write j of the queue. -/
theorem RI.sentAt (h : RI B w x bv qv fv gB gQ S) {g cap : Nat} (hqv : qv = .slice (some ⟨g, 0, none⟩) S.q.length cap) {j : Nat} {y : Wr} (hy : S.q[j]? = some y) :
    ∃ p, gQ[j]? = some p ∧ w.cell? ⟨g, j * 3, none⟩ = some (.int .i64 y.id) ∧ w.cell? ⟨g, j * 3 + 1, none⟩ = some (.int .i64 (y.block : Int)) ∧ w.cell? ⟨g, j * 3 + 2, none⟩ = some (slc p) ∧ Own B w p.1 128 p.2 y.bytes := by
  subst hqv
  have hj := (List.getElem?_eq_some_iff.1 hy).1
  have hl := h.qlen
  obtain ⟨p, hp⟩ : ∃ p, gQ[j]? = some p := ⟨gQ[j]'(by omega), List.getElem?_eq_getElem _⟩
  have a0 := rflat_at gQ S.q hl j 0 y p hy hp (by omega)
  have a1 := rflat_at gQ S.q hl j 1 y p hy hp (by omega)
  have a2 := rflat_at gQ S.q hl j 2 y p hy hp (by omega)
  refine ⟨p, hp, ?_, ?_, ?_, h.qel j y p hy hp⟩
  · rw [Nat.add_zero] at a0
    rw [h.qs.cellAt _ (by omega), a0]; rfl
  · rw [h.qs.cellAt _ (by omega), a1]; rfl
  · rw [h.qs.cellAt _ (by omega), a2]; rfl

theorem row_case {e : TypeId} {s n : Nat} {v : Value} {L : List Value} (h : w.ownsRow B e s v n L) : ∃ p c, v = .slice p n c ∧ (0 < n → ∃ g, p = some ⟨g, 0, none⟩) := by
  rcases h.2 with ⟨rfl, rfl⟩ | ⟨g, cap, cur, rfl, _⟩
  · exact ⟨_, _, rfl, fun h => by omega⟩
  · exact ⟨_, _, rfl, fun _ => ⟨g, rfl⟩⟩

set_option maxHeartbeats 400000 in
theorem copied_ok (a : Addr) (n c : Nat) (xs : List Int) (w : World) (h : BI w (some a) n xs) :
    Calls Try.prog 43 #[.slice (some a) n c] w fun e w' => ∃ g cap, e = .returned (.slice (some ⟨g, 0, none⟩) n cap) ∧ Own w.heap.size w' g n cap xs ∧ Below w.heap.size w w' := by
  obtain ⟨i0, hi, hz0, hz1, hz2⟩ := info_parts info5
  have hbig := h.big
  have hlen := h.len
  have hb0 := (Below.refl w.heap.size w).alloc (Nat.le_refl _) (Obj.cells #[] 5)
  go_enter Try.func43, Try.ntmps43
  go_wp2_with (at_builtin; refine wpList_append_own _ rfl _ _ 42 rfl w.heap.size 5 i0 (.int .u8 0) 1 1 Try.underlying42 hi hz0 hz1 hz2 rfl (by decide) _ _ _ rfl (World.ownsRow_made w #[] 0 (Nat.le_refl _) (Nat.zero_le _) rfl) a n c (xs.map (Value.int .u8)) rfl ?c1 ?c2 ?c3 ?c4 ?c5 ?c6 ?_)
  case c1 => simp [hlen]
  case c2 => exact (h.kept hb0).src'
  case c3 => exact one_cells xs
  case c4 => unfold maxLen; omega
  case c5 => omega
  case c6 => simp
  intro v' w1 hown hgrow hnil
  obtain ⟨g, cap, hv, ho⟩ := own_shape hown (by first | exact hnil | (intro e; exact absurd (hnil.1 e).1 (by simp)))
  rw [hv]
  clear hown hnil
  have hb1 := hb0.grown hgrow (by simp) (by intro k hk; simp [Value.ownBlock] at hk; omega)
  go_wp2
  go_ret
  exact ⟨g, cap, rfl, ho, hb1⟩

set_option maxHeartbeats 400000 in
theorem rhas_ok (h : RI B w x bv qv fv gB gQ S) (b : Int) : Calls Try.prog 46 #[.pointer (some ⟨x, 0, none⟩), .int .i64 b] w fun e w' => e = .returned (.bool (decide (0 ≤ b) && decide (b < S.N))) ∧ w' = w := by
  obtain ⟨p, c, rfl, _⟩ := row_case h.bs
  have hc := h.c0
  clear h
  go_enter Try.func46, Try.ntmps46
  by_cases hb : 0 ≤ b
  · go_wp2
    go_ret
    exact ⟨ret_bool (by simp [hb]), rfl⟩
  · go_wp2
    go_ret
    exact ⟨ret_bool (by simp; intro; omega), rfl⟩

end
end Go.Proofs.Ytemhhgpgpjiijaa
