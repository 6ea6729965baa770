/- KD3 KD4 KD5 KD6 KD7 KD9 -/
import Derived.Test.YthdlpeejmmobmaaGreatAn30

/- dirs: the first empty place of a page; an entry put. -/
namespace Go.Proofs.YthdlpeejmmobmaaGreat.Mk
open Go.RowKit
set_option maxRecDepth 100000
set_option linter.unusedVariables false

theorem flat2_set : ∀ (E : List En) (i : Nat) (e : En), i < E.length → flat2 (E.set i e) = ((flat2 E).set (i * 2) (.int .i64 e.n)).set (i * 2 + 1) (.string e.s)
  | [], i, e, h => by simp at h
  | x :: l, 0, e, h => rfl
  | x :: l, i + 1, e, h => by
    have := flat2_set l i e (by simpa using h)
    rw [show (i + 1) * 2 = i * 2 + 2 by omega, show i * 2 + 2 + 1 = i * 2 + 1 + 2 by omega]
    simp [flat2, this]
theorem page_set {w : World} {b : Nat} {E : List En} (h : Pge w b E) {i : Nat} (hi : i < 8) (e : En) (he : e.n = 0 → e.s = ⟨#[]⟩) :
    Pge ((w.setCell ⟨b, i * 2, none⟩ (.int .i64 e.n)).setCell ⟨b, i * 2 + 1, none⟩ (.string e.s)) b (E.set i e) := by
  have h1 := heap_setCell_same w b (i * 2) (flat2 E).toArray 352 (.int .i64 e.n) h.row
  have h2 := heap_setCell_same _ b (i * 2 + 1) _ 352 (.string e.s) h1
  refine ⟨?_, by rw [List.length_set]; exact h.len, fun x hx => ?_⟩
  · rw [h2, flat2_set E i e (by have := h.len; omega)]
    simp
  · rcases List.mem_or_eq_of_mem_set hx with hx | hx
    · exact h.non x hx
    · rw [hx]; exact he

theorem unfrozen {w : World} {b : Nat} {cs : Array Value} {t : TypeId} (h : w.heap[b]? = some (.cells cs t (0, 0))) (i : Nat) : w.frozen? ⟨b, i, none⟩ = false := by
  simp [World.frozen?, h]

theorem two_kept {w : World} {bx b i j : Nat} {N : Int} {S : ByteArray} {u v : Value} (hne : ¬ bx = b) (h : w.heap[bx]? = some (entO N S)) :
    ((w.setCell ⟨b, i, none⟩ u).setCell ⟨b, j, none⟩ v).drew.cell? ⟨bx, 0, none⟩ = some (.int .i64 N) ∧ ((w.setCell ⟨b, i, none⟩ u).setCell ⟨b, j, none⟩ v).drew.cell? ⟨bx, 1, none⟩ = some (.string S) := by
  have h2 : ((w.setCell ⟨b, i, none⟩ u).setCell ⟨b, j, none⟩ v).drew.heap[bx]? = some (entO N S) := by
    show ((w.setCell ⟨b, i, none⟩ u).setCell ⟨b, j, none⟩ v).heap[bx]? = _
    rw [Below.heap_setCell _ _ _ _ hne, Below.heap_setCell _ _ _ _ hne]
    exact h
  exact ⟨cell_row h2 0 _ rfl, cell_row h2 1 _ rfl⟩
theorem two_below {w w1 : World} {B b : Nat} (h : Below w.heap.size w w1) (hB : B ≤ b) (hb : b < w.heap.size) (i j : Nat) (u v : Value) : Below B w ((w1.setCell ⟨b, i, none⟩ u).setCell ⟨b, j, none⟩ v).drew :=
  (((h.mono (by omega)).setCell (by simpa using hB) _).setCell (by simpa using hB) _).drew

/-- The page's entries, and the box's, while one is stored. -/
def Bx (bx : Nat) (N : Int) (S : ByteArray) (w : World) : Prop := w.cell? ⟨bx, 0, none⟩ = some (.int .i64 N) ∧ w.cell? ⟨bx, 1, none⟩ = some (.string S)

set_option maxRecDepth 20000 in
set_option maxHeartbeats 1000000 in
theorem pput_empty {w : World} {B b : Nat} {E : List En} (h : Pge w b E) (hB : B ≤ b) (i : Nat) (hi : i < 8) :
    Calls Tryz.prog 287 #[.pointer (some ⟨b, 0, none⟩), .int .i64 (i : Int), entV 0 ⟨#[]⟩] w fun r w' => r = .returned (.bool true) ∧ Pge w' b (E.set i ⟨0, ⟨#[]⟩⟩) ∧ Below B w w' := by
  have HB := grew_alloc w (entO 0 ⟨#[]⟩)
  have hx := heap_new w (entO 0 ⟨#[]⟩)
  have hk := kindOf_ok 0 ⟨#[]⟩ (by decide) (w.alloc (entO 0 ⟨#[]⟩))
  rw [show kd 0 ⟨#[]⟩ = 1 from rfl] at hk
  have hP := h.kept HB
  have hlw : b < w.heap.size := (Array.getElem?_eq_some_iff.1 h.row).1
  have hiI : (i : Int) < 8 := by omega
  have hi0 : (0 : Int) ≤ (i : Int) := by omega
  clear h
  go_enter Tryz.func287, Tryz.ntmps287
  go_wp2_with fail
  refine grew_at hk ?_
  intro w1 hb1
  clear hk
  have hP1 := hP.kept hb1
  have hx1 := (hb1.block _ (Array.getElem?_eq_some_iff.1 hx).1).trans hx
  have x0 : w1.cell? ⟨w.heap.size, 0, none⟩ = some (.int .i64 0) := cell_row hx1 0 _ rfl
  have x1 : w1.cell? ⟨w.heap.size, 1, none⟩ = some (.string ⟨#[]⟩) := cell_row hx1 1 _ rfl
  have H1 : Hid _ := And.intro hP1 (And.intro (grew_trans HB hb1) hx1)
  clear hx hx1 hP hP1 HB hb1
  obtain ⟨e0, he0⟩ : ∃ e, E[i]? = some e := ⟨_, List.getElem?_eq_getElem (by have := H1.out.1.len; omega)⟩
  have c0 := H1.out.1.c0 he0
  have c1 := H1.out.1.c1 he0
  have f0 : w1.frozen? ⟨b, i * 2, none⟩ = false := unfrozen H1.out.1.row _
  have f1 : w1.frozen? ⟨b, i * 2 + 1, none⟩ = false := unfrozen H1.out.1.row _
  have hbx : ¬ w.heap.size = b := by omega
  have S0 : w1.drew.cell? ⟨w.heap.size, 0, none⟩ = some (.int .i64 0) ∧ w1.drew.cell? ⟨w.heap.size, 1, none⟩ = some (.string ⟨#[]⟩) := ⟨x0, x1⟩
  dsimp only
  go_wp2_with fail
  go_region_held3 (fun w' => w'.cell? ⟨w.heap.size, 0, none⟩ = some (.int .i64 0) ∧ w'.cell? ⟨w.heap.size, 1, none⟩ = some (.string ⟨#[]⟩)) (first | exact S0 | exact two_kept hbx H1.out.2.2) (fail)
  have hf := page_set H1.out.1 hi ⟨0, ⟨#[]⟩⟩ (fun _ => rfl)
  have hbf := two_below H1.out.2.1 hB hlw (i * 2) (i * 2 + 1) (.int .i64 0) (.string ⟨#[]⟩)
  go_wp2_with fail
  go_ret
  exact ⟨rfl, ⟨hf.row, hf.len, hf.non⟩, hbf⟩

set_option maxRecDepth 20000 in
set_option maxHeartbeats 1000000 in
theorem pput_named {w : World} {B b : Nat} {E : List En} (h : Pge w b E) (hB : B ≤ b) (i : Nat) (hi : i < 8) (N : Int) (S : ByteArray) (hm : EMay N S) (h0 : N ≠ 0) (hno : E.findIdx? (hit S) = none) :
    Calls Tryz.prog 287 #[.pointer (some ⟨b, 0, none⟩), .int .i64 (i : Int), entV N S] w fun r w' => r = .returned (.bool true) ∧ Pge w' b (E.set i ⟨N, S⟩) ∧ Below B w w' := by
  have hsz := emay_size hm
  have HB := grew_alloc w (entO N S)
  have hx := heap_new w (entO N S)
  have hk := kindOf_ok N S (by omega) (w.alloc (entO N S))
  rw [show kd N S = 2 by unfold kd; rw [if_pos hm, if_neg h0]] at hk
  have hP := h.kept HB
  have hlw : b < w.heap.size := (Array.getElem?_eq_some_iff.1 h.row).1
  have hiI : (i : Int) < 8 := by omega
  have hi0 : (0 : Int) ≤ (i : Int) := by omega
  have HNO : Hid _ := hno
  have H0 : Hid _ := h0
  clear h hm hno h0
  go_enter Tryz.func287, Tryz.ntmps287
  go_wp2_with fail
  refine grew_at hk ?_
  intro w1 hb1
  clear hk
  have hP1 := hP.kept hb1
  have hx1 := (hb1.block _ (Array.getElem?_eq_some_iff.1 hx).1).trans hx
  have x0 : w1.cell? ⟨w.heap.size, 0, none⟩ = some (.int .i64 N) := cell_row hx1 0 _ rfl
  have x1 : w1.cell? ⟨w.heap.size, 1, none⟩ = some (.string S) := cell_row hx1 1 _ rfl
  have hfi := find_ok hP1 S
  rw [HNO.out] at hfi
  have H1 : Hid _ := And.intro hP1 (And.intro (grew_trans HB hb1) hx1)
  clear hx hx1 hP hP1 HB hb1
  dsimp only
  go_wp2_with fail
  refine grew_at hfi ?_
  intro w2 hb2
  clear hfi x0 x1
  have hx2 := (hb2.block _ (Array.getElem?_eq_some_iff.1 H1.out.2.2).1).trans H1.out.2.2
  have x0 : w2.cell? ⟨w.heap.size, 0, none⟩ = some (.int .i64 N) := cell_row hx2 0 _ rfl
  have x1 : w2.cell? ⟨w.heap.size, 1, none⟩ = some (.string S) := cell_row hx2 1 _ rfl
  have H2 : Hid _ := And.intro (H1.out.1.kept hb2) (And.intro (grew_trans H1.out.2.1 hb2) hx2)
  clear hb2 hx2
  obtain ⟨e0, he0⟩ : ∃ e, E[i]? = some e := ⟨_, List.getElem?_eq_getElem (by have := H2.out.1.len; omega)⟩
  have c0 := H2.out.1.c0 he0
  have c1 := H2.out.1.c1 he0
  have f0 : w2.frozen? ⟨b, i * 2, none⟩ = false := unfrozen H2.out.1.row _
  have f1 : w2.frozen? ⟨b, i * 2 + 1, none⟩ = false := unfrozen H2.out.1.row _
  have hbx : ¬ w.heap.size = b := by omega
  have S0 : w2.drew.cell? ⟨w.heap.size, 0, none⟩ = some (.int .i64 N) ∧ w2.drew.cell? ⟨w.heap.size, 1, none⟩ = some (.string S) := ⟨x0, x1⟩
  dsimp only
  go_wp2_with fail
  go_region_held3 (fun w' => w'.cell? ⟨w.heap.size, 0, none⟩ = some (.int .i64 N) ∧ w'.cell? ⟨w.heap.size, 1, none⟩ = some (.string S)) (first | exact S0 | exact two_kept hbx H2.out.2.2) (fail)
  have hf := page_set H2.out.1 hi ⟨N, S⟩ (fun h => absurd h H0.out)
  have hbf := two_below H2.out.2.1 hB hlw (i * 2) (i * 2 + 1) (.int .i64 N) (.string S)
  go_wp2_with fail
  go_ret
  exact ⟨rfl, ⟨hf.row, hf.len, hf.non⟩, hbf⟩

set_option maxRecDepth 20000 in
set_option maxHeartbeats 1000000 in
theorem pput_there {w : World} {b : Nat} {E : List En} (h : Pge w b E) (i : Int) (N : Int) (S : ByteArray) (hm : EMay N S) (h0 : N ≠ 0) (k : Nat) (hno : E.findIdx? (hit S) = some k) :
    Calls Tryz.prog 287 #[.pointer (some ⟨b, 0, none⟩), .int .i64 i, entV N S] w fun r w' => r = .returned (.bool false) ∧ Below w.heap.size w w' := by
  have hsz := emay_size hm
  have HB := grew_alloc w (entO N S)
  have hx := heap_new w (entO N S)
  have hk := kindOf_ok N S (by omega) (w.alloc (entO N S))
  rw [show kd N S = 2 by unfold kd; rw [if_pos hm, if_neg h0]] at hk
  have hP := h.kept HB
  have HNO : Hid _ := hno
  clear h hm hno h0
  go_enter Tryz.func287, Tryz.ntmps287
  go_wp2_with fail
  refine grew_at hk ?_
  intro w1 hb1
  clear hk
  have hP1 := hP.kept hb1
  have hx1 := (hb1.block _ (Array.getElem?_eq_some_iff.1 hx).1).trans hx
  have x0 : w1.cell? ⟨w.heap.size, 0, none⟩ = some (.int .i64 N) := cell_row hx1 0 _ rfl
  have x1 : w1.cell? ⟨w.heap.size, 1, none⟩ = some (.string S) := cell_row hx1 1 _ rfl
  have hfi := find_ok hP1 S
  rw [HNO.out] at hfi
  have H1 : Hid _ := grew_trans HB hb1
  clear hx hx1 hP hP1 HB hb1
  dsimp only
  go_wp2_with fail
  refine grew_at hfi ?_
  intro w2 hb2
  clear hfi
  dsimp only
  go_wp2_with fail
  go_ret
  exact ⟨rfl, grew_trans H1.out hb2⟩

set_option maxRecDepth 20000 in
set_option maxHeartbeats 1000000 in
theorem pput_wrong {w : World} {b : Nat} (i : Int) (N : Int) (S : ByteArray) (hs : S.size ≤ 140737488355328) (hm : ¬ EMay N S) :
    Calls Tryz.prog 287 #[.pointer (some ⟨b, 0, none⟩), .int .i64 i, entV N S] w fun r w' => r = .returned (.bool false) ∧ Below w.heap.size w w' := by
  have HB := grew_alloc w (entO N S)
  have hx := heap_new w (entO N S)
  have hk := kindOf_ok N S hs (w.alloc (entO N S))
  rw [show kd N S = 0 by unfold kd; rw [if_neg hm]] at hk
  clear hm
  go_enter Tryz.func287, Tryz.ntmps287
  go_wp2_with fail
  refine grew_at hk ?_
  intro w1 hb1
  clear hk
  dsimp only
  go_wp2_with fail
  go_ret
  exact ⟨rfl, grew_trans HB hb1⟩
end Go.Proofs.YthdlpeejmmobmaaGreat.Mk

/- dirs: a page as bytes. -/
namespace Go.Proofs.YthdlpeejmmobmaaGreat.Mk
open Go.RowKit
set_option maxRecDepth 100000
set_option linter.unusedVariables false

/-- Entries as bytes. -/
def encL (E : List En) : List Int := E.flatMap (fun e => entL e.n e.s)
theorem encL_len : ∀ E : List En, (∀ e ∈ E, EMay e.n e.s) → (encL E).length = 16 * E.length
  | [], _ => rfl
  | e :: l, h => by
    have h1 := entL_len e.n e.s (emay_size (h e List.mem_cons_self))
    have h2 := encL_len l (fun x hx => h x (List.mem_cons_of_mem _ hx))
    unfold encL at *
    rw [List.flatMap_cons, List.length_append, h1, h2, List.length_cons]
    omega
theorem encL_snoc (E : List En) (e : En) : encL (E ++ [e]) = encL E ++ entL e.n e.s := by simp [encL]
theorem byt_append {xs ys : List Int} (h1 : Num.Byt xs) (h2 : Num.Byt ys) : Num.Byt (xs ++ ys) := by
  intro i
  rw [List.getD_eq_getElem?_getD, List.getElem?_append]
  split
  · have := h1 i; rwa [List.getD_eq_getElem?_getD] at this
  · have := h2 (i - xs.length); rwa [List.getD_eq_getElem?_getD] at this
theorem encL_byt : ∀ E : List En, Num.Byt (encL E)
  | [] => fun i => by simp [encL]
  | e :: l => by
    have h1 := entL_byt e.n e.s
    have h2 := encL_byt l
    unfold encL at *
    rw [List.flatMap_cons]
    exact byt_append h1 h2

/-- A row of bytes that the call made. -/
def Rw (B : Nat) (w : World) (v : Value) (xs : List Int) : Prop := w.ownsRow B 5 1 v xs.length (xs.map (Value.int .u8))
theorem Rw.bi {w : World} {B : Nat} {v : Value} {zs : List Int} (h : Rw B w v zs) (hn : zs.length ≤ 140737488355328) (hf : Num.Byt zs) : ∃ p c, v = .slice p zs.length c ∧ BI w p zs.length zs := by
  rcases h.2 with ⟨e, e0⟩ | ⟨g, cap, cur, e, k⟩
  · rw [e, e0]
    have : zs = [] := List.length_eq_zero_iff.1 e0
    subst this
    exact ⟨none, 0, rfl, rfl, by simp, fun i => by simp, fun h => by simp at h⟩
  · refine ⟨_, _, e, rfl, hn, hf, fun _ => ⟨g, 0, rfl, fun i hi => ?_⟩⟩
    have h' : Own B w g zs.length cap zs := by rw [e] at h; exact h
    rw [Nat.zero_add]
    exact h'.cell i hi
theorem Rw.cap {w : World} {B : Nat} {zs : List Int} {p : Option Addr} {n c : Nat} (h : Rw B w (.slice p n c) zs) (h0 : 0 < zs.length) : zs.length ≤ c ∧ c ≤ 9223372036854775807 := by
  rcases h.2 with ⟨e, e0⟩ | ⟨g, cap, cur, e, _, _, h1, h2, _⟩
  · omega
  · injection e with _ _ e
    subst e
    unfold maxLen at h2
    exact ⟨h1, by omega⟩
theorem Rw.lt {w : World} {B : Nat} {v : Value} {zs : List Int} (h : Rw B w v zs) : ∀ g, v.ownBlock = some g → B ≤ g ∧ g < w.heap.size := fun g hg => World.ownsRow.lt h g hg
theorem Rw.kept {w w' : World} {B : Nat} {v : Value} {zs : List Int} (h : Rw B w v zs) (hb : Below w.heap.size w w') : Rw B w' v zs := by
  refine ⟨h.1, ?_⟩
  rcases h.2 with h' | ⟨g, cap, cur, e, hB, hg, rest⟩
  · exact .inl h'
  · exact .inr ⟨g, cap, cur, e, hB, (hb.block _ (Array.getElem?_eq_some_iff.1 hg).1).trans hg, rest⟩

set_option maxRecDepth 20000 in
theorem rw_app {B : Nat} {w : World} {v1 : Value} {A : List Int} (h1 : Rw B w v1 A) {a : Addr} {m c : Nat} {C : List Int} (h2 : BI w (some a) m C) (hB : B ≤ w.heap.size) (hl : A.length + m ≤ 140737488355328) (ty : TypeId) :
    ∃ v' w', (Builtin.append_ #[42, 42] ty #[v1, .slice (some a) m c]).run Tryz.prog w = .ok v' w' ∧ Rw B w' v' (A ++ C) ∧ w.grownBy w' v1.ownBlock := by
  obtain ⟨i0, hi, hz0, hz1, hz2⟩ := info_parts info5
  have hlen := h2.len
  · have hcell : ∀ j u, (C.map (Value.int .u8))[j]? = some u → w.cell? (a.add j) = some u := fun j u hu => by
      have hj : j < m := by have := (List.getElem?_eq_some_iff.1 hu).1; rw [← hlen]; simpa using this
      obtain ⟨b, o, e, hc⟩ := h2.cells (by omega)
      injection e with e
      subst e
      rw [Addr.add_mid, hc j hj]
      rw [List.getElem?_map] at hu
      rw [List.getD_eq_getElem?_getD]
      cases e : C[j]? with
      | none => rw [e] at hu; cases hu
      | some y => rw [e] at hu; simpa using hu
    obtain ⟨v', w', hr, ho, hgr, _, hb⟩ := run_append_own_at (P := Tryz.prog) w B 42 ty 5 i0 (.int .u8 0) 1 1 Tryz.underlying42 hi hz0 hz1 hz2 rfl (by decide) v1 A.length (A.map (Value.int .u8)) h1 a m c (C.map (Value.int .u8)) (by simp [hlen]) hcell (fun u hu => by obtain ⟨x, _, rfl⟩ := List.mem_map.1 hu; rfl) (by unfold maxLen; omega) (by omega) hB
    refine ⟨v', w', hr, ?_, hgr⟩
    unfold Rw
    rw [List.length_append, List.map_append, hlen]
    exact ho
theorem grown_bel {w w1 w2 : World} {r : Option Nat} (h : Below w.heap.size w w1) (hg : w1.grownBy w2 r) (hr : ∀ g, r = some g → w.heap.size ≤ g) : Below w.heap.size w w2 :=
  h.trans ⟨hg.os, hg.tape, hg.output, hg.size, fun i hi => hg.block i (Nat.lt_of_lt_of_le hi h.size) (fun e => by have := hr i e.symm; omega)⟩
theorem wp_append {P : Program} {o : Oper} {a : Act} {w w' : World} {K : Act → World → Prop} {Q : Exit → Act → World → Prop} {t u : TypeId} (s x : Operand) (ho : o.op = .call { callee := .builtin .append, args := #[s, x], argTypes := #[t, u] }) {v1 v2 v' : Value}
    (hs : a.eval s = v1) (hx : a.eval x = v2) (hr : (Builtin.append_ #[t, u] o.type #[v1, v2]).run P w = .ok v' w') (h : K (a.put o.dst v') w') : o.wp P a w K Q := by
  unfold Oper.wp execOp
  simp only [ho, resolve, invoke, builtin, Sem.run_bind, Sem.run_pure, Result.andThen_ok, List.map_toArray, List.map_cons, List.map_nil, hs, hx, hr]
  exact h
theorem wpList_append_run2 {P : Program} {ops : Array Oper} {rest : List Oper} {o : Oper} {a : Act} {Q : Exit → Act → World → Prop} {w w' : World} (hgd : o.guard = none) (s x : Operand) (t u : TypeId) (ho : o.op = .call { callee := .builtin .append, args := #[s, x], argTypes := #[t, u] }) {v1 v2 v' : Value}
    (hs : a.eval s = v1) (hx : a.eval x = v2) (hr : (Builtin.append_ #[t, u] o.type #[v1, v2]).run P w = .ok v' w') (h : wpList P ops Q rest (a.put o.dst v') w') : wpList P ops Q (o :: rest) a w :=
  wpList_plain hgd fun K hK => wp_append s x ho hs hx hr (hK _ _ h)

set_option maxRecDepth 20000 in
set_option maxHeartbeats 1000000 in
theorem pbytes_c {w : World} {b : Nat} {E : List En} (h : Pge w b E) (hm : ∀ e ∈ E, EMay e.n e.s) :
    Calls Tryz.prog 288 #[.pointer (some ⟨b, 0, none⟩)] w fun r w' => ∃ p c, r = .returned (.slice p 128 c) ∧ BI w' p 128 (encL E) ∧ Below w.heap.size w w' ∧ 128 ≤ c ∧ c ≤ 9223372036854775807 ∧ (∀ g o, p = some ⟨g, o, none⟩ → w.heap.size ≤ g) := by
  obtain ⟨i0, hi, hz0, hz1, hz2⟩ := info_parts info5
  obtain ⟨wm, hmk, hown, hgm⟩ := run_makeSlice_owned (P := Tryz.prog) w w.heap.size 42 5 i0 (.int .u8 0) 1 Tryz.underlying42 hi hz0 hz1 .i64 .i64 128 (by decide) (by rw [hz2]; decide) (by decide) (Nat.le_refl _)
  have hmk' : (Instr.makeSlice 42 (.int .i64 0) (.int .i64 128)).run Tryz.prog w = .ok (.slice (some ⟨w.heap.size, 0, none⟩) 0 128) wm := hmk
  clear hmk
  have hbm : Below w.heap.size w wm := grown_bel (Below.refl _ _) hgm (fun g e => by cases e)
  have hR0 : Rw w.heap.size wm (.slice (some ⟨w.heap.size, 0, none⟩) 0 128) [] := hown
  have H0 : Hid _ := And.intro hbm hR0
  clear hown hgm hbm hR0
  have hlw : b < w.heap.size := (Array.getElem?_eq_some_iff.1 h.row).1
  go_enter Tryz.func288, Tryz.ntmps288
  go_wp2_with fail
  go_loopw [3, 11] (fun v i wr => ∃ j : Nat, j ≤ 8 ∧ i = .int .i64 (j : Int) ∧ Below w.heap.size w wr ∧ Rw w.heap.size wr v (encL (E.take j))) (fun _ i _ => 8 - (intOf i).toNat)
  case atStart => exact ⟨0, by omega, rfl, H0.out.1, H0.out.2⟩
  case round =>
    clear H0 hmk'
    obtain ⟨j, hj, rfl, hb, hR⟩ := hrel
    by_cases hlt : j < 8
    · obtain ⟨e, he⟩ : ∃ e, E[j]? = some e := ⟨_, List.getElem?_eq_getElem (by have := h.len; omega)⟩
      have hP := h.kept hb
      have c0 := hP.c0 he
      have c1 := hP.c1 he
      have hjI : (j : Int) < 8 := by omega
      have hj0 : (0 : Int) ≤ (j : Int) := by omega
      have hen := encodeEntry_yes e.n e.s (hm e (List.mem_of_getElem? he)) (wr.alloc (entO e.n e.s))
      have hT : E.take (j + 1) = E.take j ++ [e] := by rw [List.take_add_one, he]; rfl
      have hlenT : (encL (E.take j)).length = 16 * j := by rw [encL_len _ (fun x hx => hm x (List.mem_of_mem_take hx)), List.length_take]; have := h.len; omega
      have HR : Hid _ := And.intro hR (And.intro hb (And.intro hT hlenT))
      clear hP hR hb he hT hlenT
      go_wp2_with fail
      refine hen.mono ?_
      rintro _ w1 ⟨p, c, rfl, hB, hb1⟩
      clear hen c0 c1
      obtain ⟨a, rfl⟩ : ∃ a, p = some a := by obtain ⟨b', o', e', _⟩ := hB.cells (by omega); exact ⟨_, e'⟩
      have hbA := grew_trans (grew_alloc wr (entO e.n e.s)) hb1
      obtain ⟨v', w2, hr2, hR2, hg2⟩ := rw_app (c := c) (HR.out.1.kept hbA) hB (by have := hbA.size; have := HR.out.2.1.size; omega) (by rw [HR.out.2.2.2]; omega) 42
      have hb2 : Below w.heap.size w w2 := grown_bel (grew_trans HR.out.2.1 hbA) hg2 (fun g hg => (HR.out.1.lt g hg).1)
      rw [← encL_snoc, ← HR.out.2.2.1] at hR2
      have H2 : Hid _ := And.intro hb2 hR2
      clear hbA hB hb1 hg2 hb2 hR2
      dsimp only
      go_wp2_with (refine wpList_append_run2 rfl _ _ 42 42 rfl rfl rfl hr2 ?_)
      clear hr2
      go_roundw
      case rel => exact ⟨j + 1, by omega, by go_num, H2.out.1, H2.out.2⟩
      case measure => simp [intOf]; omega
    · obtain rfl : j = 8 := by omega
      rw [List.take_of_length_le (by have := h.len; omega)] at hR
      have hl : (encL E).length = 128 := by rw [encL_len E hm]; have := h.len; omega
      obtain ⟨p, c, hv, hB⟩ := hR.bi (by omega) (encL_byt E)
      rw [hl] at hB hv
      subst hv
      have hcap := hR.cap (by omega)
      rw [hl] at hcap
      have hfr : ∀ g o, p = some ⟨g, o, none⟩ → w.heap.size ≤ g := fun g o e => (hR.lt g (by rw [e]; rfl)).1
      have H2 : Hid _ := And.intro hB (And.intro hb (And.intro hcap.1 (And.intro hcap.2 hfr)))
      clear hB hR hb hl hcap hfr
      go_wp2_with fail
      go_ret
      exact ⟨p, c, rfl, H2.out.1, H2.out.2.1, H2.out.2.2⟩
theorem pbytes_ok {w : World} {b : Nat} {E : List En} (h : Pge w b E) (hm : ∀ e ∈ E, EMay e.n e.s) :
    Calls Tryz.prog 288 #[.pointer (some ⟨b, 0, none⟩)] w fun r w' => ∃ p c, r = .returned (.slice p 128 c) ∧ BI w' p 128 (encL E) ∧ Below w.heap.size w w' :=
  (pbytes_c h hm).mono fun r w' ⟨p, c, h1, h2, h3, _⟩ => ⟨p, c, h1, h2, h3⟩
end Go.Proofs.YthdlpeejmmobmaaGreat.Mk

/- dirs: the entries of a block, without memory. -/
namespace Go.Proofs.YthdlpeejmmobmaaGreat.Mk
open Go.RowKit
set_option maxRecDepth 100000
set_option linter.unusedVariables false

/-- Whether two have one name: from the last one on. -/
def clR : List En → Bool
  | [] => false
  | e :: r => clR r || (decide (e.n ≠ 0) && r.any (hit e.s))
def clB (E : List En) : Bool := clR E.reverse
theorem clB_snoc (E : List En) (e : En) : clB (E ++ [e]) = (clB E || (decide (e.n ≠ 0) && E.any (hit e.s))) := by
  simp [clB, clR]
def ent00 : En := ⟨0, ⟨#[]⟩⟩
theorem may_non {e : En} (h : EMay e.n e.s) (h0 : e.n = 0) : e.s = ⟨#[]⟩ := str_none (by rcases h with h | h <;> omega)
theorem idx_any (E : List En) (p : En → Bool) : E.findIdx? p = none ↔ E.any p = false := by
  rw [List.findIdx?_eq_none_iff, List.any_eq_false]
  simp

end Go.Proofs.YthdlpeejmmobmaaGreat.Mk

/- dirs: a page is read. -/
namespace Go.Proofs.YthdlpeejmmobmaaGreat.Mk
open Go.RowKit
set_option maxRecDepth 100000
set_option linter.unusedVariables false

abbrev z16 : Array Value := #[.int .i64 0, .string ⟨#[]⟩, .int .i64 0, .string ⟨#[]⟩, .int .i64 0, .string ⟨#[]⟩, .int .i64 0, .string ⟨#[]⟩, .int .i64 0, .string ⟨#[]⟩, .int .i64 0, .string ⟨#[]⟩, .int .i64 0, .string ⟨#[]⟩, .int .i64 0, .string ⟨#[]⟩]
end Go.Proofs.YthdlpeejmmobmaaGreat.Mk

/- dirs: Find, Free, With, Without. -/
namespace Go.Proofs.YthdlpeejmmobmaaGreat.Mk
open Go.RowKit
set_option maxRecDepth 100000
set_option linter.unusedVariables false

theorem bi_nil (w : World) : BI w none 0 [] := ⟨rfl, by omega, (fun i => by simp), fun h => by omega⟩

end Go.Proofs.YthdlpeejmmobmaaGreat.Mk

/- dirs, the document's: rows of entries; clash. -/
namespace Go.Proofs.YthdlpeejmmobmaaGreat.Mk
open Go.RowKit
set_option maxRecDepth 100000
set_option linter.unusedVariables false

/-- The slice at p, of n entries, holds L. -/
structure EI (w : World) (p : Option Addr) (n : Nat) (L : List En) : Prop where
  len : L.length = n
  big : n ≤ 140737488355328
  cells : 0 < n → ∃ b o, p = some ⟨b, o, none⟩ ∧ ∀ i e, L[i]? = some e → w.cell? ⟨b, o + i * 2, none⟩ = some (.int .i64 e.n) ∧ w.cell? ⟨b, o + i * 2 + 1, none⟩ = some (.string e.s)
theorem EI.kept {w w' : World} {p : Option Addr} {n : Nat} {L : List En} (h : EI w p n L) (hb : Below w.heap.size w w') : EI w' p n L := by
  refine ⟨h.len, h.big, fun hn => ?_⟩
  obtain ⟨b, o, rfl, hc⟩ := h.cells hn
  refine ⟨b, o, rfl, fun i e he => ?_⟩
  obtain ⟨h1, h2⟩ := hc i e he
  have hl : b < w.heap.size := lt_of_cell h1
  exact ⟨(hb.cell (p := ⟨b, o + i * 2, none⟩) hl).trans h1, (hb.cell (p := ⟨b, o + i * 2 + 1, none⟩) hl).trans h2⟩

theorem clB_app : ∀ (B A : List En), clB (A ++ B) = false → clB A = false
  | [], A, h => by rwa [List.append_nil] at h
  | b :: B, A, h => by
    have h1 := clB_app B (A ++ [b]) (by rwa [List.append_assoc])
    rw [clB_snoc, Bool.or_eq_false_iff] at h1
    exact h1.1
theorem clB_take {L : List En} (j : Nat) (h : clB L = false) : clB (L.take j) = false := clB_app (L.drop j) _ (by rw [List.take_append_drop]; exact h)
theorem clB_hit {L : List En} {j k : Nat} {e x : En} (he : L[j]? = some e) (hx : L[k]? = some x) (hkj : k < j) (h0 : e.n ≠ 0) (hh : hit e.s x = true) : clB L = true := by
  cases hc : clB L with
  | true => rfl
  | false =>
    have h1 := clB_take (j + 1) hc
    rw [List.take_add_one, he] at h1
    have h2 : clB (L.take j ++ [e]) = false := h1
    rw [clB_snoc, Bool.or_eq_false_iff, decide_eq_true h0, Bool.true_and, List.any_eq_false] at h2
    have hm : x ∈ L.take j := List.mem_of_getElem? (i := k) (by rw [List.getElem?_take, if_pos hkj]; exact hx)
    exact absurd hh (h2.2 x hm)

set_option maxRecDepth 20000 in
set_option maxHeartbeats 2000000 in
theorem clash_ok (p : Option Addr) (n c : Nat) (L : List En) (w : World) (h : EI w p n L) (hnc : n ≤ c) (hc2 : c ≤ 9223372036854775807) :
    Calls Tryz.prog 186 #[.slice p n c] w fun e w' => e = .returned (.bool (clB L)) ∧ Below w.heap.size w w' := by
  have hlen := h.len
  have hbig := h.big
  go_enter Tryz.func186, Tryz.ntmps186
  go_wp2_with fail
  go_loopw [9] (fun i wr => ∃ j : Nat, j ≤ n ∧ i = .int .i64 (j : Int) ∧ Below w.heap.size w wr ∧ clB (L.take j) = false) (fun i _ => n - (intOf i).toNat)
  case atStart => exact ⟨0, by omega, rfl, Below.refl _ _, rfl⟩
  case round =>
    rename World => wo
    obtain ⟨j, hj, rfl, hb, hcl⟩ := hrel
    have HC : Hid _ := And.intro hb hcl
    by_cases hlt : j < n
    · obtain ⟨b, o, rfl, hcs⟩ := (h.kept hb).cells (by omega)
      obtain ⟨N, S, he⟩ : ∃ N S, L[j]? = some ⟨N, S⟩ := ⟨_, _, List.getElem?_eq_getElem (by omega)⟩
      obtain ⟨c0, c1⟩ := hcs j _ he
      have hjI : (j : Int) < (n : Int) := by omega
      have hj0 : (0 : Int) ≤ (j : Int) := by omega
      have HCS : Hid _ := hcs
      have HE : Hid _ := he
      have hlb : b < wo.heap.size := lt_of_cell c0
      clear hb hcl hcs he
      go_wp2_with fail
      have hbo : Below wo.heap.size wo (wo.alloc (entO N S)) := grew_alloc _ _
      have hxe := heap_new wo (entO N S)
      have HO : Hid _ := And.intro hbo hxe
      clear c0 c1 hbo hxe
      go_loopw [18] (fun i wr => ∃ k : Nat, k ≤ j ∧ i = .int .i64 (k : Int) ∧ Below (wo.alloc (entO N S)).heap.size (wo.alloc (entO N S)) wr ∧ (decide (N ≠ 0) && (L.take k).any (hit S)) = false) (fun i _ => j - (intOf i).toNat)
      case atStart => exact ⟨0, by omega, rfl, Below.refl _ _, by simp⟩
      case round =>
        obtain ⟨k, hk, rfl, hbk, hno⟩ := hrel
        have HK : Hid _ := And.intro hbk hno
        have hbx := grew_trans HO.out.1 hbk
        have hxk := (hbk.block _ (Array.getElem?_eq_some_iff.1 HO.out.2).1).trans HO.out.2
        by_cases hkl : k < j
        · obtain ⟨M, T, hx⟩ : ∃ M T, L[k]? = some ⟨M, T⟩ := ⟨_, _, List.getElem?_eq_getElem (by omega)⟩
          obtain ⟨d0, d1⟩ := HCS.out k _ hx
          have d0' : wr.cell? ⟨b, o + k * 2, none⟩ = some (.int .i64 M) := (hbx.cell (p := ⟨b, o + k * 2, none⟩) hlb).trans d0
          have d1' : wr.cell? ⟨b, o + k * 2 + 1, none⟩ = some (.string T) := (hbx.cell (p := ⟨b, o + k * 2 + 1, none⟩) hlb).trans d1
          have hkI : (k : Int) < (j : Int) := by omega
          have hk0 : (0 : Int) ≤ (k : Int) := by omega
          have hbV := grew_alloc wr (entO M T)
          have hxV := (hbV.block _ (Array.getElem?_eq_some_iff.1 hxk).1).trans hxk
          have y0 : (wr.alloc (entO M T)).cell? ⟨wo.heap.size, 0, none⟩ = some (.int .i64 N) := cell_row hxV 0 _ rfl
          have y1 : (wr.alloc (entO M T)).cell? ⟨wo.heap.size, 1, none⟩ = some (.string S) := cell_row hxV 1 _ rfl
          have HX : Hid _ := hx
          have HV : Hid _ := grew_trans hbk hbV
          have HF : Hid _ := grew_trans HC.out.1 (grew_trans hbx hbV)
          have hstep : ∀ p : En → Bool, (L.take (k + 1)).any p = ((L.take k).any p || p ⟨M, T⟩) := fun p => by rw [List.take_add_one, hx]; simp
          clear hbk hno hx d0 d1 hbx hxk hbV hxV
          by_cases h0 : N = 0
          · subst h0
            have hnx : (decide ((0 : Int) ≠ 0) && (L.take (k + 1)).any (hit S)) = false := by simp
            clear hstep
            have HN : Hid _ := hnx
            clear hnx
            go_wp2_with fail
            go_roundw
            case rel => exact ⟨k + 1, by omega, by go_num, HV.out, HN.out⟩
            case measure => simp [intOf]; omega
          · by_cases h1 : M = 0
            · subst h1
              have hnx : (decide (N ≠ 0) && (L.take (k + 1)).any (hit S)) = false := by
                rw [hstep, Bool.and_or_distrib_left, HK.out.2]
                simp [hit]
              clear hstep
              have HN : Hid _ := hnx
              clear hnx
              go_wp2_with fail
              go_roundw
              case rel => exact ⟨k + 1, by omega, by go_num, HV.out, HN.out⟩
              case measure => simp [intOf]; omega
            · cases hS : (S.toList == T.toList) with
              | true =>
                have hh : clB L = true := clB_hit HE.out HX.out hkl h0 (by
                  rw [beq_iff_eq] at hS
                  simp [hit, h1, hS])
                have HH : Hid _ := hh
                have hN : (N != 0) = true := by simpa using h0
                have hM : (M != 0) = true := by simpa using h1
                clear hh hstep
                go_wp2_with fail
                go_ret
                exact ⟨by rw [HH.out]; rfl, HF.out⟩
              | false =>
                have hnx : (decide (N ≠ 0) && (L.take (k + 1)).any (hit S)) = false := by
                  rw [hstep, Bool.and_or_distrib_left, HK.out.2]
                  have h2 : (T.toList == S.toList) = false := by
                    rw [beq_eq_false_iff_ne] at hS ⊢
                    exact fun e => hS e.symm
                  simp [hit, h2]
                clear hstep
                have HN : Hid _ := hnx
                clear hnx
                go_wp2_with fail
                go_roundw
                case rel => exact ⟨k + 1, by omega, by go_num, HV.out, HN.out⟩
                case measure => simp [intOf]; omega
        · obtain rfl : k = j := by omega
          have hnt : ¬ (k : Int) < (k : Int) := by omega
          have hnx : clB (L.take (k + 1)) = false := by
            rw [List.take_add_one, HE.out]
            show clB (L.take k ++ [⟨N, S⟩]) = false
            rw [clB_snoc, HC.out.2, Bool.false_or]
            exact hno
          have HN : Hid _ := And.intro hnx (grew_trans HC.out.1 hbx)
          clear hnx hbk hno hbx hxk
          go_wp2_with fail
          go_roundw
          case rel => exact ⟨k + 1, by omega, by go_num, HN.out.2, HN.out.1⟩
          case measure => simp [intOf]; omega
    · obtain rfl : j = n := by omega
      have hnt : ¬ (j : Int) < (j : Int) := by omega
      have hcl' : clB L = false := by rwa [List.take_of_length_le (by omega)] at hcl
      have HH : Hid _ := hcl'
      clear hcl hcl'
      go_wp2_with fail
      go_ret
      exact ⟨by rw [HH.out]; rfl, hb⟩
end Go.Proofs.YthdlpeejmmobmaaGreat.Mk
