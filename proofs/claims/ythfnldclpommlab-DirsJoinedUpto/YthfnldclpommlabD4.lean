/- dirs: a page as bytes. -/
import Derived.Test.YthfnldclpommlabD3
namespace Go.Proofs.Ythfnldclpommlab
open Go.RowKit
set_option linter.unusedVariables false

/-- Entries as bytes. -/
def encL (E : List En) : List Int := E.flatMap (fun e => entL e.n e.s)
theorem encL_len : ∀ E : List En, (∀ e ∈ E, EMay e.n e.s) → (encL E).length = 16 * E.length
  | [], _ => rfl
  | e :: l, h => by
    have h1 := entL_len e.n e.s (emay_size (h e List.mem_cons_self))
    have h2 := encL_len l (fun x hx => h x (List.mem_cons_of_mem _ hx))
    unfold encL at *
    rw [List.flatMap_cons, List.length_append, h1, h2, List.length_cons]
    omega
theorem encL_snoc (E : List En) (e : En) : encL (E ++ [e]) = encL E ++ entL e.n e.s := by simp [encL]
theorem byt_append {xs ys : List Int} (h1 : Num.Byt xs) (h2 : Num.Byt ys) : Num.Byt (xs ++ ys) := by
  intro i
  rw [List.getD_eq_getElem?_getD, List.getElem?_append]
  split
  · have := h1 i; rwa [List.getD_eq_getElem?_getD] at this
  · have := h2 (i - xs.length); rwa [List.getD_eq_getElem?_getD] at this
theorem encL_byt : ∀ E : List En, Num.Byt (encL E)
  | [] => fun i => by simp [encL]
  | e :: l => by
    have h1 := entL_byt e.n e.s
    have h2 := encL_byt l
    unfold encL at *
    rw [List.flatMap_cons]
    exact byt_append h1 h2

/-- A row of bytes that the call made. -/
def Rw (B : Nat) (w : World) (v : Value) (xs : List Int) : Prop := w.ownsRow B 5 1 v xs.length (xs.map (Value.int .u8))
theorem Rw.bi {w : World} {B : Nat} {v : Value} {zs : List Int} (h : Rw B w v zs) (hn : zs.length ≤ 140737488355328) (hf : Num.Byt zs) : ∃ p c, v = .slice p zs.length c ∧ BI w p zs.length zs := by
  rcases h.2 with ⟨e, e0⟩ | ⟨g, cap, cur, e, k⟩
  · rw [e, e0]
    have : zs = [] := List.length_eq_zero_iff.1 e0
    subst this
    exact ⟨none, 0, rfl, rfl, by simp, fun i => by simp, fun h => by simp at h⟩
  · refine ⟨_, _, e, rfl, hn, hf, fun _ => ⟨g, 0, rfl, fun i hi => ?_⟩⟩
    have h' : Own B w g zs.length cap zs := by rw [e] at h; exact h
    rw [Nat.zero_add]
    exact h'.cell i hi
theorem Rw.cap {w : World} {B : Nat} {zs : List Int} {p : Option Addr} {n c : Nat} (h : Rw B w (.slice p n c) zs) (h0 : 0 < zs.length) : zs.length ≤ c ∧ c ≤ 9223372036854775807 := by
  rcases h.2 with ⟨e, e0⟩ | ⟨g, cap, cur, e, _, _, h1, h2, _⟩
  · omega
  · injection e with _ _ e
    subst e
    unfold maxLen at h2
    exact ⟨h1, by omega⟩
theorem Rw.lt {w : World} {B : Nat} {v : Value} {zs : List Int} (h : Rw B w v zs) : ∀ g, v.ownBlock = some g → B ≤ g ∧ g < w.heap.size := fun g hg => World.ownsRow.lt h g hg
theorem Rw.kept {w w' : World} {B : Nat} {v : Value} {zs : List Int} (h : Rw B w v zs) (hb : Below w.heap.size w w') : Rw B w' v zs := by
  refine ⟨h.1, ?_⟩
  rcases h.2 with h' | ⟨g, cap, cur, e, hB, hg, rest⟩
  · exact .inl h'
  · exact .inr ⟨g, cap, cur, e, hB, (hb.block _ (Array.getElem?_eq_some_iff.1 hg).1).trans hg, rest⟩

set_option maxRecDepth 20000 in
theorem rw_app {B : Nat} {w : World} {v1 : Value} {A : List Int} (h1 : Rw B w v1 A) {a : Addr} {m c : Nat} {C : List Int} (h2 : BI w (some a) m C) (hB : B ≤ w.heap.size) (hl : A.length + m ≤ 140737488355328) (ty : TypeId) :
    ∃ v' w', (Builtin.append_ #[22, 22] ty #[v1, .slice (some a) m c]).run Try.prog w = .ok v' w' ∧ Rw B w' v' (A ++ C) ∧ w.grownBy w' v1.ownBlock := by
  obtain ⟨i0, hi, hz0, hz1, hz2⟩ := info_parts info5
  have hlen := h2.len
  · have hcell : ∀ j u, (C.map (Value.int .u8))[j]? = some u → w.cell? (a.add j) = some u := fun j u hu => by
      have hj : j < m := by have := (List.getElem?_eq_some_iff.1 hu).1; rw [← hlen]; simpa using this
      obtain ⟨b, o, e, hc⟩ := h2.cells (by omega)
      injection e with e
      subst e
      rw [Addr.add_mid, hc j hj]
      rw [List.getElem?_map] at hu
      rw [List.getD_eq_getElem?_getD]
      cases e : C[j]? with
      | none => rw [e] at hu; cases hu
      | some y => rw [e] at hu; simpa using hu
    obtain ⟨v', w', hr, ho, hgr, _, hb⟩ := run_append_own_at (P := Try.prog) w B 22 ty 5 i0 (.int .u8 0) 1 1 Try.underlying22 hi hz0 hz1 hz2 rfl (by decide) v1 A.length (A.map (Value.int .u8)) h1 a m c (C.map (Value.int .u8)) (by simp [hlen]) hcell (fun u hu => by obtain ⟨x, _, rfl⟩ := List.mem_map.1 hu; rfl) (by unfold maxLen; omega) (by omega) hB
    refine ⟨v', w', hr, ?_, hgr⟩
    unfold Rw
    rw [List.length_append, List.map_append, hlen]
    exact ho
theorem grown_bel {w w1 w2 : World} {r : Option Nat} (h : Below w.heap.size w w1) (hg : w1.grownBy w2 r) (hr : ∀ g, r = some g → w.heap.size ≤ g) : Below w.heap.size w w2 :=
  h.trans ⟨hg.os, hg.tape, hg.output, hg.size, fun i hi => hg.block i (Nat.lt_of_lt_of_le hi h.size) (fun e => by have := hr i e.symm; omega)⟩
theorem wp_append {P : Program} {o : Oper} {a : Act} {w w' : World} {K : Act → World → Prop} {Q : Exit → Act → World → Prop} {t u : TypeId} (s x : Operand) (ho : o.op = .call { callee := .builtin .append, args := #[s, x], argTypes := #[t, u] }) {v1 v2 v' : Value}
    (hs : a.eval s = v1) (hx : a.eval x = v2) (hr : (Builtin.append_ #[t, u] o.type #[v1, v2]).run P w = .ok v' w') (h : K (a.put o.dst v') w') : o.wp P a w K Q := by
  unfold Oper.wp execOp
  simp only [ho, resolve, invoke, builtin, Sem.run_bind, Sem.run_pure, Result.andThen_ok, List.map_toArray, List.map_cons, List.map_nil, hs, hx, hr]
  exact h
theorem wpList_append_run {P : Program} {ops : Array Oper} {rest : List Oper} {o : Oper} {a : Act} {Q : Exit → Act → World → Prop} {w w' : World} (hgd : o.guard = none) (s x : Operand) (t u : TypeId) (ho : o.op = .call { callee := .builtin .append, args := #[s, x], argTypes := #[t, u] }) {v1 v2 v' : Value}
    (hs : a.eval s = v1) (hx : a.eval x = v2) (hr : (Builtin.append_ #[t, u] o.type #[v1, v2]).run P w = .ok v' w') (h : wpList P ops Q rest (a.put o.dst v') w') : wpList P ops Q (o :: rest) a w :=
  wpList_plain hgd fun K hK => wp_append s x ho hs hx hr (hK _ _ h)

set_option maxRecDepth 20000 in
set_option maxHeartbeats 1000000 in
theorem pbytes_c {w : World} {b : Nat} {E : List En} (h : Pge w b E) (hm : ∀ e ∈ E, EMay e.n e.s) :
    Calls Try.prog 35 #[.pointer (some ⟨b, 0, none⟩)] w fun r w' => ∃ p c, r = .returned (.slice p 128 c) ∧ BI w' p 128 (encL E) ∧ Below w.heap.size w w' ∧ 128 ≤ c ∧ c ≤ 9223372036854775807 := by
  obtain ⟨i0, hi, hz0, hz1, hz2⟩ := info_parts info5
  obtain ⟨wm, hmk, hown, hgm⟩ := run_makeSlice_owned (P := Try.prog) w w.heap.size 22 5 i0 (.int .u8 0) 1 Try.underlying22 hi hz0 hz1 .i64 .i64 128 (by decide) (by rw [hz2]; decide) (by decide) (Nat.le_refl _)
  have hmk' : (Instr.makeSlice 22 (.int .i64 0) (.int .i64 128)).run Try.prog w = .ok (.slice (some ⟨w.heap.size, 0, none⟩) 0 128) wm := hmk
  clear hmk
  have hbm : Below w.heap.size w wm := grown_bel (Below.refl _ _) hgm (fun g e => by cases e)
  have hR0 : Rw w.heap.size wm (.slice (some ⟨w.heap.size, 0, none⟩) 0 128) [] := hown
  have H0 : Hid _ := And.intro hbm hR0
  clear hown hgm hbm hR0
  have hlw : b < w.heap.size := (Array.getElem?_eq_some_iff.1 h.row).1
  go_enter Try.func35, Try.ntmps35
  go_wp2_with fail
  go_loopw [3, 11] (fun v i wr => ∃ j : Nat, j ≤ 8 ∧ i = .int .i64 (j : Int) ∧ Below w.heap.size w wr ∧ Rw w.heap.size wr v (encL (E.take j))) (fun _ i _ => 8 - (intOf i).toNat)
  case atStart => exact ⟨0, by omega, rfl, H0.out.1, H0.out.2⟩
  case round =>
    clear H0 hmk'
    obtain ⟨j, hj, rfl, hb, hR⟩ := hrel
    by_cases hlt : j < 8
    · obtain ⟨e, he⟩ : ∃ e, E[j]? = some e := ⟨_, List.getElem?_eq_getElem (by have := h.len; omega)⟩
      have hP := h.kept hb
      have c0 := hP.c0 he
      have c1 := hP.c1 he
      have hjI : (j : Int) < 8 := by omega
      have hj0 : (0 : Int) ≤ (j : Int) := by omega
      have hen := encodeEntry_yes e.n e.s (hm e (List.mem_of_getElem? he)) (wr.alloc (entO e.n e.s))
      have hT : E.take (j + 1) = E.take j ++ [e] := by rw [List.take_add_one, he]; rfl
      have hlenT : (encL (E.take j)).length = 16 * j := by rw [encL_len _ (fun x hx => hm x (List.mem_of_mem_take hx)), List.length_take]; have := h.len; omega
      have HR : Hid _ := And.intro hR (And.intro hb (And.intro hT hlenT))
      clear hP hR hb he hT hlenT
      go_wp2_with fail
      refine hen.mono ?_
      rintro _ w1 ⟨p, c, rfl, hB, hb1⟩
      clear hen c0 c1
      obtain ⟨a, rfl⟩ : ∃ a, p = some a := by obtain ⟨b', o', e', _⟩ := hB.cells (by omega); exact ⟨_, e'⟩
      have hbA := grew_trans (grew_alloc wr (entO e.n e.s)) hb1
      obtain ⟨v', w2, hr2, hR2, hg2⟩ := rw_app (c := c) (HR.out.1.kept hbA) hB (by have := hbA.size; have := HR.out.2.1.size; omega) (by rw [HR.out.2.2.2]; omega) 22
      have hb2 : Below w.heap.size w w2 := grown_bel (grew_trans HR.out.2.1 hbA) hg2 (fun g hg => (HR.out.1.lt g hg).1)
      rw [← encL_snoc, ← HR.out.2.2.1] at hR2
      have H2 : Hid _ := And.intro hb2 hR2
      clear hbA hB hb1 hg2 hb2 hR2
      dsimp only
      go_wp2_with (refine wpList_append_run rfl _ _ 22 22 rfl rfl rfl hr2 ?_)
      clear hr2
      go_roundw
      case rel => exact ⟨j + 1, by omega, by go_num, H2.out.1, H2.out.2⟩
      case measure => simp [intOf]; omega
    · obtain rfl : j = 8 := by omega
      rw [List.take_of_length_le (by have := h.len; omega)] at hR
      have hl : (encL E).length = 128 := by rw [encL_len E hm]; have := h.len; omega
      obtain ⟨p, c, hv, hB⟩ := hR.bi (by omega) (encL_byt E)
      rw [hl] at hB hv
      subst hv
      have hcap := hR.cap (by omega)
      rw [hl] at hcap
      have H2 : Hid _ := And.intro hB (And.intro hb hcap)
      clear hB hR hb hl hcap
      go_wp2_with fail
      go_ret
      exact ⟨p, c, rfl, H2.out.1, H2.out.2.1, H2.out.2.2⟩
theorem pbytes_ok {w : World} {b : Nat} {E : List En} (h : Pge w b E) (hm : ∀ e ∈ E, EMay e.n e.s) :
    Calls Try.prog 35 #[.pointer (some ⟨b, 0, none⟩)] w fun r w' => ∃ p c, r = .returned (.slice p 128 c) ∧ BI w' p 128 (encL E) ∧ Below w.heap.size w w' :=
  (pbytes_c h hm).mono fun r w' ⟨p, c, h1, h2, h3, _⟩ => ⟨p, c, h1, h2, h3⟩
end Go.Proofs.Ythfnldclpommlab
