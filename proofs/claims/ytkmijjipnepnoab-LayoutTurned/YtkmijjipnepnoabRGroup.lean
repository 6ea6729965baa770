/- The document's headers as bytes. -/
import Derived.Test.YtkmijjipnepnoabGroup
import Derived.Deep.AppendSrc
namespace Go.Proofs.Ytkmijjipnepnoab
open Go.RowKit
set_option linter.unusedVariables false

theorem wpList_append_run {P : Program} {w : World} {ops : Array Oper} {rest : List Oper} {o : Oper} {a : Act} {Q : Exit → Act → World → Prop} (hgd : o.guard = none) (s x : Operand) (t t' : TypeId)
    (ho : o.op = .call { callee := .builtin .append, args := #[s, x], argTypes := #[t, t'] }) (v u : Value) (hs : a.eval s = v) (hx : a.eval x = u) {v' : Value} {w' : World}
    (hr : (Builtin.append_ #[t, t'] o.type #[v, u]).run P w = .ok v' w') (h : wpList P ops Q rest (a.put o.dst v') w') : wpList P ops Q (o :: rest) a w := by
  refine wpList_plain hgd fun _ hK => ?_
  unfold Oper.wp execOp
  simp only [ho, resolve, invoke, builtin, Sem.run_bind, Sem.run_pure, Result.andThen_ok, List.map_toArray, List.map_cons, List.map_nil, hs, hx, hr]
  exact hK _ _ h

theorem step_append_run {P : Program} {ops : Array Oper} {o : Oper} {a : Act} {w : World} {K : Act → World → Prop} {Q : Exit → Act → World → Prop} {E : Prop}
    (hg : o.guard = none) (s x : Operand) (t t' : TypeId) (hop : o.op = Op.call { callee := Callee.builtin Builtin.append, args := #[s, x], argTypes := #[t, t'] }) (v u : Value) (hs : a.eval s = v) (hx : a.eval x = u) {v' : Value} {w' : World}
    (hr : (Builtin.append_ #[t, t'] o.type #[v, u]).run P w = .ok v' w') (hK : K (a.put o.dst v') w') :
    if Region.wanted o (yielded ops a.tmps) = true then Oper.wp P o a w K Q else E := by
  have hw : Region.wanted o (yielded ops a.tmps) = true := by simp [Region.wanted, hg]
  rw [if_pos hw]
  unfold Oper.wp
  simp [execOp, hop, resolve, invoke, builtin, hs, hx, hr, Result.andThen]
  exact hK

/-- append of bytes to bytes of the call's own. -/
theorem own_append {B : Nat} {w : World} {g n cap : Nat} {xs : List Int} (h : Own B w g n cap xs) (a : Addr) (m c : Nat) (ys : List Int) (hy : BI w (some a) m ys) (hn : n + m ≤ 128) (hB : B ≤ w.heap.size) (ty : TypeId) :
    ∃ g' cap' w', (Builtin.append_ #[29, 29] ty #[.slice (some ⟨g, 0, none⟩) n cap, .slice (some a) m c]).run Try.prog w = .ok (.slice (some ⟨g', 0, none⟩) (n + m) cap') w' ∧ Own B w' g' (n + m) cap' (xs ++ ys) ∧ Below B w w' := by
  obtain ⟨i0, hi, hz0, hz1, hz2⟩ := info_parts info5
  obtain ⟨v', w', hr, ho, hg, hnil⟩ := run_append_own (P := Try.prog) (w := w) B 29 ty 5 i0 (.int .u8 0) 1 1 Try.underlying29 hi hz0 hz1 hz2 rfl (by decide) _ n _ h a m c (ys.map (Value.int .u8)) (by simp [hy.len]) hy.src' (one_cells ys) (by unfold maxLen; omega) (by omega) hB
  rw [← List.map_append] at ho
  obtain ⟨g', cap', rfl, ho'⟩ := own_shape ho (fun e => by have := (hnil.1 e).1; simp at this)
  exact ⟨g', cap', w', hr, ho', (Below.refl B w).grown hg hB (by intro k hk; simp [Value.ownBlock] at hk; have := h.spot; omega)⟩

/-- append of bytes to bytes that have no room. -/
theorem lit_append {w : World} {b n : Nat} {xs : List Int} (h : BI w (some ⟨b, 0, none⟩) n xs) (a : Addr) (m c : Nat) (ys : List Int) (hy : BI w (some a) m ys) (hm : 0 < m) (hn : n + m ≤ 128) (ty : TypeId) :
    ∃ g cap w', (Builtin.append_ #[29, 29] ty #[.slice (some ⟨b, 0, none⟩) n n, .slice (some a) m c]).run Try.prog w = .ok (.slice (some ⟨g, 0, none⟩) (n + m) cap) w' ∧ Own w.heap.size w' g (n + m) cap (xs ++ ys) ∧ Below w.heap.size w w' := by
  obtain ⟨i0, hi, hz0, hz1, hz2⟩ := info_parts info5
  have hxl := h.len
  have hyl := hy.len
  have hold : (Builtin.firstCells i0.size n (.slice (some ⟨b, 0, none⟩) n n)).run Try.prog w.drew = .ok (xs.map (Value.int .u8)).toArray w.drew :=
    run_firstCells_some (P := Try.prog) w.drew i0.size n ⟨b, 0, none⟩ n n _ (by rw [hz1]; simpa using hxl) (h.kept (below_drewN (Below.refl _ _) 1)).src'
  have hsrc : Src Try.prog i0.size 29 (.slice (some a) m c) m (ys.map (Value.int .u8)) w := Src.ofSlice w Try.underlying29 a m c _ (by rw [hz1]; simp [hyl]) hy.src' (one_cells ys)
  have hr := run_append_grow_src (P := Try.prog) w 29 29 ty 5 i0 (.int .u8 0) Try.underlying29 hi hz0 (some ⟨b, 0, none⟩) n n (xs.map (Value.int .u8)) hold _ m _ hsrc (by omega) (by omega) (growslice_fits (by omega) (by rw [hz2]; omega))
  refine ⟨_, _, _, hr, ⟨by simp; omega, .inr ⟨_, _, _, rfl, Nat.le_refl _, heap_alloc_new w.drew _, grownCap_ge _ _ _ _, grownCap_le_maxLen _ _ _ _ (by unfold maxLen; omega), ?_, ?_⟩⟩, ⟨rfl, rfl, rfl, by simp, fun k hk => Below.heap_alloc w.drew _ k hk⟩⟩
  · have := grownCap_ge w (n + m) n 5
    simp [size_zeroCells, Value.cells]; omega
  · rw [List.map_append]
    simp only [Array.toList_append]
    exact List.take_left' (by simp; omega)

end Go.Proofs.Ytkmijjipnepnoab
