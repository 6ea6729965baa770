/- script: a disk of some blocks behind writes. -/
import Derived.Test.YtemhhgpgpjiijaaWrite
import Derived.Test.YtemhhgpgpjiijaaSame
import Derived.Test.YtemhhgpgpjiijaaZeros
namespace Go.Proofs.Ytemhhgpgpjiijaa
open Go.RowKit Go.Maps

/-- A call of a disk, as it is handed in. -/
structure DoV where
  op : Int
  b : Int
  n : Int
  bytes : List Int
  ids : List Int

/-- The slice at p, of n ints, holds xs. -/
structure II (w : World) (p : Option Addr) (n : Nat) (xs : List Int) : Prop where
  len : xs.length = n
  big : n * 8 ≤ 140737488355328
  rng : ∀ x ∈ xs, -9223372036854775808 ≤ x ∧ x ≤ 9223372036854775807
  cells : 0 < n → ∃ b o, p = some ⟨b, o, none⟩ ∧ ∀ i, i < n → w.cell? ⟨b, o + i, none⟩ = some (.int .i64 (xs.getD i 0))

/-- A call's five cells. -/
structure DoAt (w : World) (b o : Nat) (x : DoV) : Prop where
  c0 : w.cell? ⟨b, o, none⟩ = some (.int .i64 x.op)
  c1 : w.cell? ⟨b, o + 1, none⟩ = some (.int .i64 x.b)
  c2 : w.cell? ⟨b, o + 2, none⟩ = some (.int .i64 x.n)
  c3 : ∃ p m c, w.cell? ⟨b, o + 3, none⟩ = some (.slice p m c) ∧ m ≤ c ∧ c ≤ 9223372036854775807 ∧ BI w p m x.bytes
  c4 : ∃ p m c, w.cell? ⟨b, o + 4, none⟩ = some (.slice p m c) ∧ m ≤ c ∧ c ≤ 9223372036854775807 ∧ II w p m x.ids
  r0 : -9223372036854775808 ≤ x.op ∧ x.op ≤ 9223372036854775807
  r1 : -9223372036854775808 ≤ x.b ∧ x.b ≤ 9223372036854775807
  r2 : -9223372036854775808 ≤ x.n ∧ x.n ≤ 9223372036854775807

/-- The slice at p, of n calls, holds D. -/
structure DoI (w : World) (p : Option Addr) (n : Nat) (D : List DoV) : Prop where
  len : D.length = n
  big : n ≤ 140737488355328
  cells : 0 < n → ∃ b o, p = some ⟨b, o, none⟩ ∧ ∀ i x, D[i]? = some x → DoAt w b (o + i * 5) x

theorem II.kept {w w' : World} {p : Option Addr} {n : Nat} {xs : List Int} (h : II w p n xs) (hb : Below w.heap.size w w') : II w' p n xs := by
  refine ⟨h.len, h.big, h.rng, fun hn => ?_⟩
  obtain ⟨b, o, rfl, hc⟩ := h.cells hn
  exact ⟨b, o, rfl, fun i hi => by rw [hb.cell (p := ⟨b, o + i, none⟩) (lt_of_cell (hc i hi))]; exact hc i hi⟩

theorem DoAt.kept {w w' : World} {b o : Nat} {x : DoV} (h : DoAt w b o x) (hb : Below w.heap.size w w') : DoAt w' b o x := by
  have hlt := lt_of_cell h.c0
  have hk : ∀ j, w'.cell? ⟨b, j, none⟩ = w.cell? ⟨b, j, none⟩ := fun j => hb.cell (p := ⟨b, j, none⟩) hlt
  refine ⟨(hk _).trans h.c0, (hk _).trans h.c1, (hk _).trans h.c2, ?_, ?_, h.r0, h.r1, h.r2⟩
  · obtain ⟨p, m, c, e, r1, r2, r3⟩ := h.c3
    exact ⟨p, m, c, (hk _).trans e, r1, r2, r3.kept hb⟩
  · obtain ⟨p, m, c, e, r1, r2, r3⟩ := h.c4
    exact ⟨p, m, c, (hk _).trans e, r1, r2, r3.kept hb⟩

theorem DoAt.kept' {w w' : World} {b o : Nat} {x : DoV} (h : DoAt w b o x) (hb : Below w.heap.size w w') : DoAt w' b o x := h.kept hb

theorem n_blocks (b : Int) : ∃ N : Nat, wrap64 (1 + wrap64 ((IntKind.u64.wrap b).tmod 8)) = (N : Int) ∧ 1 ≤ N ∧ N ≤ 8 := by
  have h0 : 0 ≤ IntKind.u64.wrap b := wrap_u64_nonneg b
  rw [Int.tmod_eq_emod_of_nonneg h0]
  have h1 : 0 ≤ IntKind.u64.wrap b % 8 := by omega
  have h2 : IntKind.u64.wrap b % 8 < 8 := by omega
  generalize IntKind.u64.wrap b % 8 = r at h1 h2
  refine ⟨(1 + r).toNat, ?_, ?_, ?_⟩
  · unfold wrap64; omega
  · omega
  · omega

theorem step_append_run {P : Program} {w : World} {ops : Array Oper} {o : Oper} {a : Act} {K : Act → World → Prop} {Q : Exit → Act → World → Prop} {E : Prop} (hgd : o.guard = none) (s x : Operand) (t tn : TypeId)
    (ho : o.op = .call { callee := .builtin .append, args := #[s, x], argTypes := #[t, tn] }) (vs vx : Value) (hs : a.eval s = vs) (hx : a.eval x = vx)
    (v' : Value) (w' : World) (hr : (Builtin.append_ #[t, tn] o.type #[vs, vx]).run P w = .ok v' w') (h : K (a.put o.dst v') w') : if Region.wanted o (yielded ops a.tmps) = true then Oper.wp P o a w K Q else E := by
  have hw : Region.wanted o (yielded ops a.tmps) = true := by simp [Region.wanted, hgd]
  rw [if_pos hw]
  exact Lib.wp_append_run w s x t tn ho vs vx hs hx v' w' hr h

theorem block_no (N : Nat) (hN : 1 ≤ N) (h8 : N ≤ 8) (b : Int) : ∃ k : Nat, wrap64 ((IntKind.u64.wrap b).tmod (N : Int)) = (k : Int) ∧ k < N := by
  have h0 : 0 ≤ IntKind.u64.wrap b := wrap_u64_nonneg b
  rw [Int.tmod_eq_emod_of_nonneg h0]
  have h1 : 0 ≤ IntKind.u64.wrap b % (N : Int) := Int.emod_nonneg _ (by omega)
  have h2 : IntKind.u64.wrap b % (N : Int) < N := Int.emod_lt_of_pos _ (by omega)
  generalize IntKind.u64.wrap b % (N : Int) = r at h1 h2
  refine ⟨r.toNat, ?_, ?_⟩
  · unfold wrap64; omega
  · omega

/-- A write to a block that there is, while there is room: it goes into the queue, or one for the block stands there. -/
theorem write_any {B : Nat} {w : World} {a mb fb : Nat} {qv : Value} {S : St} (h : DI B w a mb fb qv S) (hB : B ≤ w.heap.size) (b : Nat) (p : Option Addr) (c : Nat) (xs : List Int) (hx : BI w p 128 xs) (hb : b < S.N) (hf : S.q.length < 64) (hl : S.last < 9223372036854775807) :
    Calls Try.prog 22 #[.pointer (some ⟨a, 0, none⟩), .int .i64 (b : Int), .slice p 128 c] w fun e w' => ∃ v qv' S', e = .returned v ∧ (S' = S ∧ S.q ≠ [] ∨ S' = S.put b xs) ∧ DI B w' a mb fb qv' S' ∧ Frame (foot a mb fb qv) w w' := by
  cases hq : (S.q.any fun x => (x.block : Int) == (b : Int)) with
  | true =>
    refine (write_busy h b p c hb hq).mono ?_
    rintro e w' ⟨rfl, hb'⟩
    exact ⟨_, qv, S, rfl, .inl ⟨rfl, by rintro e; rw [e] at hq; simp at hq⟩, h.later hb', frame_of_below hb'⟩
  | false =>
    refine (write_new h hB b p c xs hx hb hq hf hl).mono ?_
    rintro e w' ⟨qv', rfl, hd, hfr, _⟩
    exact ⟨_, qv', _, rfl, .inr rfl, hd, hfr⟩

/-- The disk of a script: nothing is done yet; numbers go up from 1. -/
structure Scr (S : St) (N : Nat) : Prop where
  n : S.N = N
  f : S.f = fun _ => zer
  fl : S.fl = fun _ => 0
  last : S.last = S.q.length
  ids : ∀ (i : Nat) (x : Wr), S.q[i]? = some x → x.id = (i : Int) + 1

theorem byt_pad {xs : List Int} (h : Num.Byt xs) (q : Nat) : Num.Byt (xs ++ List.replicate q 0) := by
  intro i
  rw [List.getD_eq_getElem?_getD, List.getElem?_append]
  split
  · have := h i
    rw [List.getD_eq_getElem?_getD] at this
    exact this
  · rw [List.getElem?_replicate]
    split <;> simp

theorem scr_len {S S' : St} {b : Nat} {xs : List Int} (h : S' = S ∧ S.q ≠ [] ∨ S' = S.put b xs) : S'.q.length ≤ S.q.length + 1 := by
  rcases h with ⟨rfl, _⟩ | rfl
  · omega
  · simp [St.put]
theorem scr_pos {S S' : St} {b : Nat} {xs : List Int} (h : S' = S ∧ S.q ≠ [] ∨ S' = S.put b xs) : 0 < S'.q.length := by
  rcases h with ⟨rfl, h⟩ | rfl
  · exact List.length_pos_iff.2 h
  · simp [St.put]
theorem Scr.next {S S' : St} {N b : Nat} {xs : List Int} (h : Scr S N) (hs : S' = S ∧ S.q ≠ [] ∨ S' = S.put b xs) : Scr S' N := by
  rcases hs with ⟨rfl, _⟩ | rfl
  · exact h
  · refine ⟨h.n, h.f, h.fl, ?_, ?_⟩
    · have := h.last
      simp [St.put]; omega
    · intro i x hx
      have hl := h.last
      simp only [St.put] at hx
      by_cases hi : i < S.q.length
      · rw [List.getElem?_append_left hi] at hx
        exact h.ids i x hx
      · rw [List.getElem?_append_right (by omega)] at hx
        have hi0 : i - S.q.length = 0 := by
          have := (List.getElem?_eq_some_iff.1 hx).1
          simpa using this
        rw [hi0] at hx
        simp at hx
        subst hx
        simp only
        omega

end Go.Proofs.Ytemhhgpgpjiijaa
