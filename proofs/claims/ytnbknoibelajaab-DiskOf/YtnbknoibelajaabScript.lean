/- script: a disk of some blocks behind writes. -/
import Derived.Test.YtnbknoibelajaabWrite
import Derived.Test.YtnbknoibelajaabSame
import Derived.Test.YtnbknoibelajaabZeros
namespace Go.Proofs.Ytnbknoibelajaab
open Go.RowKit Go.Maps

/-- A call of a disk, as it is handed in. -/
structure DoV where
  op : Int
  b : Int
  n : Int
  bytes : List Int
  ids : List Int

/-- The slice at p, of n ints, holds xs. -/
structure II (w : World) (p : Option Addr) (n : Nat) (xs : List Int) : Prop where
  len : xs.length = n
  big : n * 8 ≤ 140737488355328
  rng : ∀ x ∈ xs, -9223372036854775808 ≤ x ∧ x ≤ 9223372036854775807
  cells : 0 < n → ∃ b o, p = some ⟨b, o, none⟩ ∧ ∀ i, i < n → w.cell? ⟨b, o + i, none⟩ = some (.int .i64 (xs.getD i 0))

/-- A call's five cells. -/
structure DoAt (w : World) (b o : Nat) (x : DoV) : Prop where
  c0 : w.cell? ⟨b, o, none⟩ = some (.int .i64 x.op)
  c1 : w.cell? ⟨b, o + 1, none⟩ = some (.int .i64 x.b)
  c2 : w.cell? ⟨b, o + 2, none⟩ = some (.int .i64 x.n)
  c3 : ∃ p m c, w.cell? ⟨b, o + 3, none⟩ = some (.slice p m c) ∧ m ≤ c ∧ c ≤ 9223372036854775807 ∧ BI w p m x.bytes
  c4 : ∃ p m c, w.cell? ⟨b, o + 4, none⟩ = some (.slice p m c) ∧ m ≤ c ∧ c ≤ 9223372036854775807 ∧ II w p m x.ids
  r0 : -9223372036854775808 ≤ x.op ∧ x.op ≤ 9223372036854775807
  r1 : -9223372036854775808 ≤ x.b ∧ x.b ≤ 9223372036854775807
  r2 : -9223372036854775808 ≤ x.n ∧ x.n ≤ 9223372036854775807

/-- The slice at p, of n calls, holds D. -/
structure DoI (w : World) (p : Option Addr) (n : Nat) (D : List DoV) : Prop where
  len : D.length = n
  big : n ≤ 140737488355328
  cells : 0 < n → ∃ b o, p = some ⟨b, o, none⟩ ∧ ∀ i x, D[i]? = some x → DoAt w b (o + i * 5) x

theorem II.kept {w w' : World} {p : Option Addr} {n : Nat} {xs : List Int} (h : II w p n xs) (hb : Below w.heap.size w w') : II w' p n xs := by
  refine ⟨h.len, h.big, h.rng, fun hn => ?_⟩
  obtain ⟨b, o, rfl, hc⟩ := h.cells hn
  exact ⟨b, o, rfl, fun i hi => by rw [hb.cell (p := ⟨b, o + i, none⟩) (lt_of_cell (hc i hi))]; exact hc i hi⟩

theorem DoAt.kept {w w' : World} {b o : Nat} {x : DoV} (h : DoAt w b o x) (hb : Below w.heap.size w w') : DoAt w' b o x := by
  have hlt := lt_of_cell h.c0
  have hk : ∀ j, w'.cell? ⟨b, j, none⟩ = w.cell? ⟨b, j, none⟩ := fun j => hb.cell (p := ⟨b, j, none⟩) hlt
  refine ⟨(hk _).trans h.c0, (hk _).trans h.c1, (hk _).trans h.c2, ?_, ?_, h.r0, h.r1, h.r2⟩
  · obtain ⟨p, m, c, e, r1, r2, r3⟩ := h.c3
    exact ⟨p, m, c, (hk _).trans e, r1, r2, r3.kept hb⟩
  · obtain ⟨p, m, c, e, r1, r2, r3⟩ := h.c4
    exact ⟨p, m, c, (hk _).trans e, r1, r2, r3.kept hb⟩

theorem DoAt.kept' {w w' : World} {b o : Nat} {x : DoV} (h : DoAt w b o x) (hb : Below w.heap.size w w') : DoAt w' b o x := h.kept hb

theorem n_blocks (b : Int) : ∃ N : Nat, wrap64 (1 + wrap64 ((IntKind.u64.wrap b).tmod 8)) = (N : Int) ∧ 1 ≤ N ∧ N ≤ 8 := by
  have h0 : 0 ≤ IntKind.u64.wrap b := wrap_u64_nonneg b
  rw [Int.tmod_eq_emod_of_nonneg h0]
  have h1 : 0 ≤ IntKind.u64.wrap b % 8 := by omega
  have h2 : IntKind.u64.wrap b % 8 < 8 := by omega
  generalize IntKind.u64.wrap b % 8 = r at h1 h2
  refine ⟨(1 + r).toNat, ?_, ?_, ?_⟩
  · unfold wrap64; omega
  · omega
  · omega

theorem step_append_run {P : Program} {w : World} {ops : Array Oper} {o : Oper} {a : Act} {K : Act → World → Prop} {Q : Exit → Act → World → Prop} {E : Prop} (hgd : o.guard = none) (s x : Operand) (t tn : TypeId)
    (ho : o.op = .call { callee := .builtin .append, args := #[s, x], argTypes := #[t, tn] }) (vs vx : Value) (hs : a.eval s = vs) (hx : a.eval x = vx)
    (v' : Value) (w' : World) (hr : (Builtin.append_ #[t, tn] o.type #[vs, vx]).run P w = .ok v' w') (h : K (a.put o.dst v') w') : if Region.wanted o (yielded ops a.tmps) = true then Oper.wp P o a w K Q else E := by
  have hw : Region.wanted o (yielded ops a.tmps) = true := by simp [Region.wanted, hgd]
  rw [if_pos hw]
  exact Lib.wp_append_run w s x t tn ho vs vx hs hx v' w' hr h

theorem block_no (N : Nat) (hN : 1 ≤ N) (h8 : N ≤ 8) (b : Int) : ∃ k : Nat, wrap64 ((IntKind.u64.wrap b).tmod (N : Int)) = (k : Int) ∧ k < N := by
  have h0 : 0 ≤ IntKind.u64.wrap b := wrap_u64_nonneg b
  rw [Int.tmod_eq_emod_of_nonneg h0]
  have h1 : 0 ≤ IntKind.u64.wrap b % (N : Int) := Int.emod_nonneg _ (by omega)
  have h2 : IntKind.u64.wrap b % (N : Int) < N := Int.emod_lt_of_pos _ (by omega)
  generalize IntKind.u64.wrap b % (N : Int) = r at h1 h2
  refine ⟨r.toNat, ?_, ?_⟩
  · unfold wrap64; omega
  · omega

/-- A write to a block that there is, while there is room: it goes into the queue, or one for the block stands there. -/
theorem write_any {B : Nat} {w : World} {a mb fb : Nat} {qv : Value} {S : St} (h : DI B w a mb fb qv S) (hB : B ≤ w.heap.size) (b : Nat) (p : Option Addr) (c : Nat) (xs : List Int) (hx : BI w p 128 xs) (hb : b < S.N) (hf : S.q.length < 64) (hl : S.last < 9223372036854775807) :
    Calls Try.prog 27 #[.pointer (some ⟨a, 0, none⟩), .int .i64 (b : Int), .slice p 128 c] w fun e w' => ∃ v qv' S', e = .returned v ∧ (S' = S ∧ S.q ≠ [] ∨ S' = S.put b xs) ∧ DI B w' a mb fb qv' S' ∧ Frame (foot a mb fb qv) w w' := by
  cases hq : (S.q.any fun x => (x.block : Int) == (b : Int)) with
  | true =>
    refine (write_busy h b p c hb hq).mono ?_
    rintro e w' ⟨rfl, hb'⟩
    exact ⟨_, qv, S, rfl, .inl ⟨rfl, by rintro e; rw [e] at hq; simp at hq⟩, h.later hb', frame_of_below hb'⟩
  | false =>
    refine (write_new h hB b p c xs hx hb hq hf hl).mono ?_
    rintro e w' ⟨qv', rfl, hd, hfr, _⟩
    exact ⟨_, qv', _, rfl, .inr rfl, hd, hfr⟩

/-- The disk of a script: nothing is done yet; numbers go up from 1. -/
structure Scr (S : St) (N : Nat) : Prop where
  n : S.N = N
  f : S.f = fun _ => zer
  fl : S.fl = fun _ => 0
  last : S.last = S.q.length
  ids : ∀ (i : Nat) (x : Wr), S.q[i]? = some x → x.id = (i : Int) + 1

theorem byt_pad {xs : List Int} (h : Num.Byt xs) (q : Nat) : Num.Byt (xs ++ List.replicate q 0) := by
  intro i
  rw [List.getD_eq_getElem?_getD, List.getElem?_append]
  split
  · have := h i
    rw [List.getD_eq_getElem?_getD] at this
    exact this
  · rw [List.getElem?_replicate]
    split <;> simp

theorem scr_len {S S' : St} {b : Nat} {xs : List Int} (h : S' = S ∧ S.q ≠ [] ∨ S' = S.put b xs) : S'.q.length ≤ S.q.length + 1 := by
  rcases h with ⟨rfl, _⟩ | rfl
  · omega
  · simp [St.put]
theorem scr_pos {S S' : St} {b : Nat} {xs : List Int} (h : S' = S ∧ S.q ≠ [] ∨ S' = S.put b xs) : 0 < S'.q.length := by
  rcases h with ⟨rfl, h⟩ | rfl
  · exact List.length_pos_iff.2 h
  · simp [St.put]
theorem Scr.next {S S' : St} {N b : Nat} {xs : List Int} (h : Scr S N) (hs : S' = S ∧ S.q ≠ [] ∨ S' = S.put b xs) : Scr S' N := by
  rcases hs with ⟨rfl, _⟩ | rfl
  · exact h
  · refine ⟨h.n, h.f, h.fl, ?_, ?_⟩
    · have := h.last
      simp [St.put]; omega
    · intro i x hx
      have hl := h.last
      simp only [St.put] at hx
      by_cases hi : i < S.q.length
      · rw [List.getElem?_append_left hi] at hx
        exact h.ids i x hx
      · rw [List.getElem?_append_right (by omega)] at hx
        have hi0 : i - S.q.length = 0 := by
          have := (List.getElem?_eq_some_iff.1 hx).1
          simpa using this
        rw [hi0] at hx
        simp at hx
        subst hx
        simp only
        omega

set_option maxRecDepth 10000 in
set_option maxHeartbeats 4000000 in
theorem script_ok (blocks : Int) (p : Option Addr) (n c : Nat) (D : List DoV) (w : World) (h : DoI w p n D) :
    Calls Try.prog 19 #[.int .i64 blocks, .slice p n c] w fun e w' => ∃ a mb fb qv S N, e = .returned (.pointer (some ⟨a, 0, none⟩)) ∧ DI w.heap.size w' a mb fb qv S ∧ Scr S N ∧ (0 < n → 0 < S.q.length) ∧ Below w.heap.size w w' := by
  have hbig := h.big
  have hlen := h.len
  obtain ⟨N, hN, hN1, hN2⟩ := n_blocks blocks
  go_enter Try.func19, Try.ntmps19
  go_wp2_with fail
  rw [hN]
  refine (new_ok N hN1 (by omega) w).mono ?_
  rintro e w1 ⟨a, mb, fb, rfl, hd1, hb1⟩
  go_wp2_with fail
  refine same_at (blocks_ok hd1) ?_
  have hN1' : (1 : Int) ≤ (N : Int) := by omega
  go_wp2_with fail
  go_loopw [27] (fun i wr => ∃ (j : Nat) (qv : Value) (S : St), j ≤ n ∧ i = .int .i64 (j : Int) ∧ DI w.heap.size wr a mb fb qv S ∧ Scr S N ∧ S.q.length ≤ j ∧ (0 < j → 0 < S.q.length) ∧ Below w.heap.size w wr) (fun i _ => n - (intOf i).toNat)
  case atStart => exact ⟨0, _, _, by omega, rfl, hd1, ⟨rfl, rfl, rfl, rfl, by simp⟩, by simp, by omega, hb1⟩
  case round =>
    clear hd1 hb1
    obtain ⟨j, qv, S, hj, rfl, hd, hsc, hqj, hq0, hb⟩ := hrel
    by_cases hlt : j < n
    · obtain ⟨bb, oo, rfl, hat⟩ := h.cells (by omega)
      obtain ⟨x, hx⟩ : ∃ x, D[j]? = some x := ⟨D[j], List.getElem?_eq_getElem (by omega)⟩
      have hx0 := (hat j x hx).kept' hb
      obtain ⟨k0, k1, k2, ⟨xp, xm, xc, k3, x1, x2, x3⟩, ⟨yp, ym, yc, k4, y1, y2, y3⟩, r0, r1, r2⟩ := hx0
      by_cases h64 : j < 64
      · have hTs := fun o => Below.heap_alloc wr o
        have hb6 := (Below.refl wr.heap.size wr).alloc (Nat.le_refl _) (.cells #[.int .i64 x.op, .int .i64 x.b, .int .i64 x.n, .slice xp xm xc, .slice yp ym yc] 33)
        have hT6 : (wr.alloc (.cells #[.int .i64 x.op, .int .i64 x.b, .int .i64 x.n, .slice xp xm xc, .slice yp ym yc] 33)).heap[wr.heap.size]? = some (.cells #[.int .i64 x.op, .int .i64 x.b, .int .i64 x.n, .slice xp xm xc, .slice yp ym yc] 33 (0, 0)) := at_new rfl
        have hs6 : (wr.alloc (.cells #[.int .i64 x.op, .int .i64 x.b, .int .i64 x.n, .slice xp xm xc, .slice yp ym yc] 33)).heap.size = wr.heap.size + 1 := by simp
        clear hTs
        go_wp2_with fail
        generalize wr.alloc (.cells #[.int .i64 x.op, .int .i64 x.b, .int .i64 x.n, .slice xp xm xc, .slice yp ym yc] 33) = w6 at hb6 hT6 hs6 ⊢
        obtain ⟨T, hT⟩ : ∃ T, wr.heap.size = T := ⟨_, rfl⟩
        have hd6 : DI w.heap.size w6.drew a mb fb qv S := hd.later hb6.drew
        have hx6 : BI w6.drew xp xm x.bytes := x3.kept hb6.drew
        rw [hT] at hb6 hT6 hs6 ⊢
        have t1 : w6.drew.cell? ⟨T, 1, none⟩ = some (.int .i64 x.b) := by rw [cell_of_row w6.drew T 1 _ _ _ hT6]; rfl
        have t3 : w6.drew.cell? ⟨T, 3, none⟩ = some (.slice xp xm xc) := by rw [cell_of_row w6.drew T 3 _ _ _ hT6]; rfl
        have hc0 := hd6.c0
        rw [hsc.n] at hc0
        obtain ⟨k, hk, hkN⟩ := block_no N hN1 hN2 x.b
        have hNw : IntKind.u64.wrap (N : Int) = (N : Int) := by rw [IntKind.wrap_u64]; omega
        have hN0 : ¬ (N : Int) = 0 := by omega
        have hTf : ∀ k, foot a mb fb qv k → k ≠ T := fun k hk => by have := (hd.in k hk).2; omega
        have hxB : ∀ k y, w6.drew.cell? ⟨k, y, none⟩ = w6.cell? ⟨k, y, none⟩ := fun _ _ => rfl
        clear hxB
        obtain ⟨m, hm, hm1, hm2⟩ : ∃ m : Nat, m = min xm 128 ∧ m ≤ xm ∧ m ≤ 128 := ⟨_, rfl, by omega, by omega⟩
        have hxc : (m : Int) ≤ (xc : Int) := by omega
        have hcut : BI w6.drew xp m (x.bytes.take m) := hx6.take m hm1
        obtain ⟨q, hq⟩ : ∃ q : Nat, q = 128 - m := ⟨_, rfl⟩
        have hqm : m + q = 128 := by omega
        have hpad : wrap64 (128 - (m : Int)) = (q : Int) := by unfold wrap64; omega
        have hpad' : IntKind.i64.wrap (128 - (m : Int)) = (q : Int) := by rw [IntKind.wrap_i64]; omega
        have hpad2 : (128 : Int) - (m : Int) = (q : Int) := by omega
        have hbt := byt_take hx6.byt m
        have HM := (show Hid (m = min xm 128) from hm)
        clear hm hq hpad hpad'
        have hN0n : ¬ N = 0 := by omega
        have hkw : IntKind.i64.wrap ((IntKind.u64.wrap x.b).tmod (N : Int)) = (k : Int) := by rw [← hk, IntKind.wrap_i64]; unfold wrap64; rfl
        have hqw : IntKind.i64.wrap (q : Int) = (q : Int) := by rw [IntKind.wrap_i64]; omega
        refine wp_region_noPanic ?_
        refine wp_region_held_drew (S := fun w' => w'.cell? ⟨T, 1, none⟩ = some (.int .i64 x.b) ∧ w'.cell? ⟨T, 3, none⟩ = some (.slice xp xm xc)) (by kernel_rfl) ⟨t1, t3⟩ (fun hHeld => ?_)
        refine wpAnyH_take (i := 0) (oi := { dst := some 34, op := Op.move (Operand.tmp 5), type := 23, pos := "law.go:98", after := #[], guard := none }) (v := ?_) rfl (by kernel_rfl) (by kernel_rfl) (by kernel_rfl) (fun _ _ _ h => h) (Or.inl ⟨by rfl, ?_⟩) (by assumption) ?_
        rotate_left
        · (intro w hSw; (try dsimp only at hSw); go_simp; try (with_reducible rfl))
        simp only [Act.put, List.setIfInBounds_toArray, List.set_cons_zero, List.set_cons_succ]
        refine wpAnyH_take (i := 1) (oi := { dst := some 35, op := Op.fieldAddr 33 (Operand.tmp 8) 1, type := 0, pos := "law.go:98", after := #[], guard := none }) (v := ?_) rfl (by kernel_rfl) (by kernel_rfl) (by kernel_rfl) (fun _ _ _ h => h) (Or.inl ⟨by rfl, ?_⟩) (by assumption) ?_
        rotate_left
        · (intro w hSw; (try dsimp only at hSw); go_simp; try (with_reducible rfl))
        simp only [Act.put, List.setIfInBounds_toArray, List.set_cons_zero, List.set_cons_succ]
        refine wpAnyH_take (i := 2) (oi := { dst := some 36, op := Op.load 3 (Operand.tmp 35), type := 3, pos := "law.go:98", after := #[{ on := 1, ground := Ground.data }], guard := none }) (v := ?_) rfl (by kernel_rfl) (by kernel_rfl) (by kernel_rfl) (fun _ _ _ h => h) (Or.inl ⟨by rfl, ?_⟩) (by assumption) ?_
        rotate_left
        · (intro w hSw; (try dsimp only at hSw); go_simp; try (with_reducible rfl))
        simp only [Act.put, List.setIfInBounds_toArray, List.set_cons_zero, List.set_cons_succ]
        refine wpAnyH_take (i := 3) (oi := { dst := some 37, op := Op.convert 3 74 (Operand.tmp 36), type := 74, pos := "law.go:98", after := #[{ on := 2, ground := Ground.data }], guard := none }) (v := ?_) rfl (by kernel_rfl) (by kernel_rfl) (by kernel_rfl) (fun _ _ _ h => h) (Or.inl ⟨by rfl, ?_⟩) (by assumption) ?_
        rotate_left
        · (intro w hSw; (try dsimp only at hSw); go_simp; try (with_reducible rfl))
        simp only [Act.put, List.setIfInBounds_toArray, List.set_cons_zero, List.set_cons_succ]
        refine wpAnyH_take (i := 4) (oi := { dst := some 38, op := Op.move (Operand.tmp 5), type := 23, pos := "law.go:98", after := #[], guard := none }) (v := ?_) rfl (by kernel_rfl) (by kernel_rfl) (by kernel_rfl) (fun _ _ _ h => h) (Or.inl ⟨by rfl, ?_⟩) (by assumption) ?_
        rotate_left
        · (intro w hSw; (try dsimp only at hSw); go_simp; try (with_reducible rfl))
        simp only [Act.put, List.setIfInBounds_toArray, List.set_cons_zero, List.set_cons_succ]
        refine wpAnyH_take (i := 9) (oi := { dst := some 43, op := Op.fieldAddr 33 (Operand.tmp 8) 3, type := 0, pos := "law.go:98", after := #[], guard := none }) (v := ?_) rfl (by kernel_rfl) (by kernel_rfl) (by kernel_rfl) (fun _ _ _ h => h) (Or.inl ⟨by rfl, ?_⟩) (by assumption) ?_
        rotate_left
        · (intro w hSw; (try dsimp only at hSw); go_simp; try (with_reducible rfl))
        simp only [Act.put, List.setIfInBounds_toArray, List.set_cons_zero, List.set_cons_succ]
        refine wpAnyH_take (i := 10) (oi := { dst := some 44, op := Op.load 30 (Operand.tmp 43), type := 30, pos := "law.go:98", after := #[{ on := 9, ground := Ground.data }], guard := none }) (v := ?_) rfl (by kernel_rfl) (by kernel_rfl) (by kernel_rfl) (fun _ _ _ h => h) (Or.inl ⟨by rfl, ?_⟩) (by assumption) ?_
        rotate_left
        · (intro w hSw; (try dsimp only at hSw); go_simp; try (with_reducible rfl))
        simp only [Act.put, List.setIfInBounds_toArray, List.set_cons_zero, List.set_cons_succ]
        refine wpAnyH_take (i := 11) (oi := { dst := some 45, op := Op.fieldAddr 33 (Operand.tmp 8) 3, type := 0, pos := "law.go:98", after := #[], guard := none }) (v := ?_) rfl (by kernel_rfl) (by kernel_rfl) (by kernel_rfl) (fun _ _ _ h => h) (Or.inl ⟨by rfl, ?_⟩) (by assumption) ?_
        rotate_left
        · (intro w hSw; (try dsimp only at hSw); go_simp; try (with_reducible rfl))
        simp only [Act.put, List.setIfInBounds_toArray, List.set_cons_zero, List.set_cons_succ]
        refine wpAnyH_take (i := 12) (oi := { dst := some 46, op := Op.load 30 (Operand.tmp 45), type := 30, pos := "law.go:98", after := #[{ on := 11, ground := Ground.data }], guard := none }) (v := ?_) rfl (by kernel_rfl) (by kernel_rfl) (by kernel_rfl) (fun _ _ _ h => h) (Or.inl ⟨by rfl, ?_⟩) (by assumption) ?_
        rotate_left
        · (intro w hSw; (try dsimp only at hSw); go_simp; try (with_reducible rfl))
        simp only [Act.put, List.setIfInBounds_toArray, List.set_cons_zero, List.set_cons_succ]
        refine wpAnyH_take (i := 13) (oi := { dst := some 47, op := Op.call { callee := Callee.builtin Builtin.len, args := #[Operand.tmp 46], argTypes := #[30] }, type := 3, pos := "law.go:98", after := #[{ on := 12, ground := Ground.data }], guard := none }) (v := ?_) rfl (by kernel_rfl) (by kernel_rfl) (by kernel_rfl) (fun _ _ _ h => h) (Or.inl ⟨by rfl, ?_⟩) (by assumption) ?_
        rotate_left
        · (intro w hSw; (try dsimp only at hSw); go_simp; try (with_reducible rfl))
        simp only [Act.put, List.setIfInBounds_toArray, List.set_cons_zero, List.set_cons_succ]
        refine wpAnyH_take (i := 17) (oi := { dst := some 51, op := Op.fieldAddr 33 (Operand.tmp 8) 3, type := 0, pos := "law.go:98", after := #[], guard := none }) (v := ?_) rfl (by kernel_rfl) (by kernel_rfl) (by kernel_rfl) (fun _ _ _ h => h) (Or.inl ⟨by rfl, ?_⟩) (by assumption) ?_
        rotate_left
        · (intro w hSw; (try dsimp only at hSw); go_simp; try (with_reducible rfl))
        simp only [Act.put, List.setIfInBounds_toArray, List.set_cons_zero, List.set_cons_succ]
        refine wpAnyH_take (i := 18) (oi := { dst := some 52, op := Op.load 30 (Operand.tmp 51), type := 30, pos := "law.go:98", after := #[{ on := 17, ground := Ground.data }], guard := none }) (v := ?_) rfl (by kernel_rfl) (by kernel_rfl) (by kernel_rfl) (fun _ _ _ h => h) (Or.inl ⟨by rfl, ?_⟩) (by assumption) ?_
        rotate_left
        · (intro w hSw; (try dsimp only at hSw); go_simp; try (with_reducible rfl))
        simp only [Act.put, List.setIfInBounds_toArray, List.set_cons_zero, List.set_cons_succ]
        refine wpAnyH_take (i := 19) (oi := { dst := some 53, op := Op.call { callee := Callee.builtin Builtin.len, args := #[Operand.tmp 52], argTypes := #[30] }, type := 3, pos := "law.go:98", after := #[{ on := 18, ground := Ground.data }], guard := none }) (v := ?_) rfl (by kernel_rfl) (by kernel_rfl) (by kernel_rfl) (fun _ _ _ h => h) (Or.inl ⟨by rfl, ?_⟩) (by assumption) ?_
        rotate_left
        · (intro w hSw; (try dsimp only at hSw); go_simp; try (with_reducible rfl))
        simp only [Act.put, List.setIfInBounds_toArray, List.set_cons_zero, List.set_cons_succ]
        refine wpAnyH_take (i := 14) (oi := { dst := some 48, op := Op.call { callee := Callee.builtin Builtin.min, args := #[Operand.tmp 47, Operand.const (Value.int IntKind.i64 128)], argTypes := #[3, 3] }, type := 3, pos := "law.go:98", after := #[{ on := 13, ground := Ground.data }], guard := none }) (v := .int .i64 (m : Int)) rfl (by kernel_rfl) (by kernel_rfl) (by kernel_rfl) (fun _ _ _ h => h) (Or.inl ⟨by rfl, ?_⟩) (by assumption) ?_
        · (intro w hSw; (try dsimp only at hSw); go_simp; have := HM.out; first | omega | (split <;> omega))
        simp only [Act.put, List.setIfInBounds_toArray, List.set_cons_zero, List.set_cons_succ]
        refine wpAnyH_take (i := 20) (oi := { dst := some 54, op := Op.call { callee := Callee.builtin Builtin.min, args := #[Operand.tmp 53, Operand.const (Value.int IntKind.i64 128)], argTypes := #[3, 3] }, type := 3, pos := "law.go:98", after := #[{ on := 19, ground := Ground.data }], guard := none }) (v := .int .i64 (m : Int)) rfl (by kernel_rfl) (by kernel_rfl) (by kernel_rfl) (fun _ _ _ h => h) (Or.inl ⟨by rfl, ?_⟩) (by assumption) ?_
        · (intro w hSw; (try dsimp only at hSw); go_simp; have := HM.out; first | omega | (split <;> omega))
        simp only [Act.put, List.setIfInBounds_toArray, List.set_cons_zero, List.set_cons_succ]
        refine wpAnyH_take (i := 15) (oi := { dst := some 49, op := Op.slice 30 (Operand.tmp 44) none (some (Operand.tmp 48)) none, type := 30, pos := "law.go:98", after := #[{ on := 10, ground := Ground.data }, { on := 14, ground := Ground.data }], guard := none }) (v := .slice xp m xc) rfl (by kernel_rfl) (by kernel_rfl) (by kernel_rfl) (fun _ _ _ h => h) (Or.inl ⟨by rfl, ?_⟩) (by assumption) ?_
        · (intro w hSw; (try dsimp only at hSw); go_simp)
        simp only [Act.put, List.setIfInBounds_toArray, List.set_cons_zero, List.set_cons_succ]
        refine wpAnyH_take (i := 21) (oi := { dst := some 55, op := Op.binOp BinOp.sub 3 (Operand.const (Value.int IntKind.i64 128)) (Operand.tmp 54) 3, type := 3, pos := "law.go:98", after := #[{ on := 20, ground := Ground.data }], guard := none }) (v := .int .i64 (q : Int)) rfl (by kernel_rfl) (by kernel_rfl) (by kernel_rfl) (fun _ _ _ h => h) (Or.inl ⟨by rfl, ?_⟩) (by assumption) ?_
        · (intro w hSw; (try dsimp only at hSw); go_simp)
        simp only [Act.put, List.setIfInBounds_toArray, List.set_cons_zero, List.set_cons_succ]
        refine wpAnyH_ready (rs := [5]) (by kernel_rfl) (by simp) ?_
        refine AllReadyH.cons (o := { dst := some 39, op := Op.call { callee := Callee.value (Operand.func 25), args := #[Operand.tmp 38], argTypes := #[23] }, type := 3, pos := "law.go:98", after := #[{ on := 4, ground := Ground.data }], guard := none }) rfl (fun K hK => ?_) AllReadyH.nil
        rw [if_pos (by rfl)]
        go_simp
        refine same_at (blocks_some _ a N hc0) ?_
        dsimp only
        refine hK.out _ _ ⟨t1, t3⟩ (fun hHeld => ?_)
        clear hK K
        try simp only [Act.put, List.setIfInBounds_toArray, List.set_cons_zero, List.set_cons_succ]
        refine wpAnyH_take (i := 6) (oi := { dst := some 40, op := Op.convert 3 74 (Operand.tmp 39), type := 74, pos := "law.go:98", after := #[{ on := 5, ground := Ground.data }], guard := none }) (v := .int .u64 (N : Int)) rfl (by kernel_rfl) (by kernel_rfl) (by kernel_rfl) (fun _ _ _ h => h) (Or.inl ⟨by rfl, ?_⟩) (by assumption) ?_
        · (intro w hSw; (try dsimp only at hSw); go_simp)
        simp only [Act.put, List.setIfInBounds_toArray, List.set_cons_zero, List.set_cons_succ]
        refine wpAnyH_take (i := 7) (oi := { dst := some 41, op := Op.binOp BinOp.rem 74 (Operand.tmp 37) (Operand.tmp 40) 74, type := 74, pos := "law.go:98", after := #[{ on := 3, ground := Ground.data }, { on := 6, ground := Ground.data }], guard := none }) (v := .int .u64 ((IntKind.u64.wrap x.b).tmod (N : Int))) rfl (by kernel_rfl) (by kernel_rfl) (by kernel_rfl) (fun _ _ _ h => h) (Or.inl ⟨by rfl, ?_⟩) (by assumption) ?_
        · (intro w hSw; (try dsimp only at hSw); go_simp)
        simp only [Act.put, List.setIfInBounds_toArray, List.set_cons_zero, List.set_cons_succ]
        refine wpAnyH_take (i := 8) (oi := { dst := some 42, op := Op.convert 74 3 (Operand.tmp 41), type := 3, pos := "law.go:98", after := #[{ on := 7, ground := Ground.data }], guard := none }) (v := .int .i64 (k : Int)) rfl (by kernel_rfl) (by kernel_rfl) (by kernel_rfl) (fun _ _ _ h => h) (Or.inl ⟨by rfl, ?_⟩) (by assumption) ?_
        · (intro w hSw; (try dsimp only at hSw); go_simp)
        simp only [Act.put, List.setIfInBounds_toArray, List.set_cons_zero, List.set_cons_succ]
        refine wpAnyH_ready (rs := [16]) (by kernel_rfl) (by simp) ?_
        refine AllReadyH.cons (o := { dst := some 50, op := Op.call { callee := Callee.value (Operand.func 29), args := #[Operand.tmp 49], argTypes := #[30] }, type := 30, pos := "law.go:98", after := #[{ on := 15, ground := Ground.data }, { on := 5, ground := Ground.chain }], guard := none }) rfl (fun K hK => ?_) AllReadyH.nil
        rw [if_pos (by rfl)]
        go_simp
        refine Calls.mono (bclone_any _ m _ (x.bytes.take m) _ hcut) ?_
        rintro e w7 ⟨v, rfl, ho7, hb7⟩
        dsimp only
        have hd7 := hd6.later hb7
        have t1' := (hb7.cell (p := ⟨T, 1, none⟩) (lt_of_cell t1)).trans t1
        have t3' := (hb7.cell (p := ⟨T, 3, none⟩) (lt_of_cell t3)).trans t3
        have hs7 : w6.heap.size ≤ w7.heap.size := hb7.size
        refine hK.out _ _ ⟨t1', t3'⟩ (fun hHeld => ?_)
        clear hK K
        try simp only [Act.put, List.setIfInBounds_toArray, List.set_cons_zero, List.set_cons_succ]
        have hb9 : Hid (∀ w9, w7.grownBy w9 v.ownBlock → Below w6.drew.heap.size w6.drew w9) := fun w9 hg9 => hb7.grown hg9 hb7.size (fun k hk => (ho7.lt k hk).1)
        obtain ⟨g9, cap9, w9, hr9, ho9, hg9⟩ := zeros_own _ w7 v m q (x.bytes.take m) ho7 hqm hb7.size 30
        have hbw9 := hb9.out w9 hg9
        have hd9 := hd6.later hbw9
        have t1'' := (hbw9.cell (p := ⟨T, 1, none⟩) (lt_of_cell t1)).trans t1
        have t3'' := (hbw9.cell (p := ⟨T, 3, none⟩) (lt_of_cell t3)).trans t3
        have hbi9 := ho9.bi (by omega) (byt_pad hbt q)
        have hT9 : w9.heap[T]? = some (.cells #[.int .i64 x.op, .int .i64 x.b, .int .i64 x.n, .slice xp xm xc, .slice yp ym yc] 33 (0, 0)) := (hbw9.block T (Array.getElem?_eq_some_iff.1 hT6).1).trans hT6
        refine wpAnyH_ready (rs := [22]) (by kernel_rfl) (by simp) ?_
        refine AllReadyH.cons (o := { dst := some 56, op := Op.call { callee := Callee.builtin Builtin.append, args := #[Operand.tmp 50, Operand.tmp 55], argTypes := #[30, 3] }, type := 30, pos := "law.go:98", after := #[{ on := 16, ground := Ground.data }, { on := 21, ground := Ground.data }, { on := 16, ground := Ground.chain }], guard := none }) rfl (fun K hK => ?_) AllReadyH.nil
        refine step_append_run (by rfl) (.tmp 50) (.tmp 55) 30 3 (by rfl) v (.int .i64 (q : Int)) (by rfl) (by rfl) _ _ hr9 ?_
        refine hK.out _ _ ⟨t1'', t3''⟩ (fun hHeld => ?_)
        clear hK K
        try simp only [Act.put, List.setIfInBounds_toArray, List.set_cons_zero, List.set_cons_succ]
        refine wpAnyH_ready (rs := [23]) (by kernel_rfl) (by simp) ?_
        refine AllReadyH.cons (o := { dst := some 57, op := Op.call { callee := Callee.value (Operand.func 27), args := #[Operand.tmp 34, Operand.tmp 42, Operand.tmp 56], argTypes := #[23, 3, 30] }, type := 66, pos := "law.go:98", after := #[{ on := 0, ground := Ground.data }, { on := 8, ground := Ground.data }, { on := 22, ground := Ground.data }, { on := 22, ground := Ground.chain }], guard := none }) rfl (fun K hK => ?_) AllReadyH.nil
        rw [if_pos (by rfl)]
        go_simp
        refine Calls.mono (write_any hd9 (Nat.le_trans hb.size (by have := hbw9.size; have e : w6.drew.heap.size = w6.heap.size := rfl; omega)) k _ cap9 _ hbi9 (by rw [hsc.n]; exact hkN) (by omega) (by rw [hsc.last]; omega)) ?_
        rintro e w10 ⟨v10, qv', S', rfl, hS', hd10, hf10⟩
        dsimp only
        have hT10 : w10.heap[T]? = _ := (hf10.block T (Array.getElem?_eq_some_iff.1 hT9).1 (fun hk => hTf T hk rfl)).trans hT9
        refine hK.out _ _ ⟨by rw [cell_of_row w10 T 1 _ _ _ hT10]; rfl, by rw [cell_of_row w10 T 3 _ _ _ hT10]; rfl⟩ (fun hHeld => ?_)
        clear hK K
        try simp only [Act.put, List.setIfInBounds_toArray, List.set_cons_zero, List.set_cons_succ]
        refine wpAnyH_done (by kernel_rfl) ?_ _
        refine NoPanic.normal ?_
        have hbw : Below w.heap.size w w10 := ((hb.trans (hb6.drew.mono (by have := hb.size; omega))).trans (hbw9.mono (by have e : w6.drew.heap.size = w6.heap.size := rfl; have := hb.size; omega))).trans (hf10.below (by have := hbw9.size; have e : w6.drew.heap.size = w6.heap.size := rfl; have := hb.size; omega) (fun k hk => (hd9.in k hk).1))
        clear hr9 ho9 hg9 ho7 hb7 hd7 hd9 hd6 t1 t3 t1' t3' t1'' t3'' hT6 hT9 hT10 hb9 hbw9
        go_wp2
        go_roundw
        case rel => exact ⟨j + 1, qv', S', by omega, by go_num, hd10, hsc.next hS', by have := scr_len hS'; omega, fun _ => scr_pos hS', hbw⟩
        case measure => simp [intOf]; omega
      · go_wp2
        go_roundw
        case rel => exact ⟨j + 1, qv, S, by omega, by go_num, hd.later ((Below.refl _ _).alloc (Nat.le_refl _) _), hsc, by omega, fun _ => hq0 (by omega), hb.alloc hb.size _⟩
        case measure => simp [intOf]; omega
    · obtain rfl : j = n := by omega
      go_wp2
      go_ret
      exact ⟨_, _, _, _, _, _, rfl, hd, hsc, hq0, hb⟩
end Go.Proofs.Ytnbknoibelajaab
