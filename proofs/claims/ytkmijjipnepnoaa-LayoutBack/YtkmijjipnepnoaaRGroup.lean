/- The document's headers as bytes. -/
import Derived.Test.YtkmijjipnepnoaaGroup
import Derived.Deep.AppendSrc
namespace Go.Proofs.Ytkmijjipnepnoaa
open Go.RowKit
set_option linter.unusedVariables false

theorem wpList_append_run {P : Program} {w : World} {ops : Array Oper} {rest : List Oper} {o : Oper} {a : Act} {Q : Exit → Act → World → Prop} (hgd : o.guard = none) (s x : Operand) (t t' : TypeId)
    (ho : o.op = .call { callee := .builtin .append, args := #[s, x], argTypes := #[t, t'] }) (v u : Value) (hs : a.eval s = v) (hx : a.eval x = u) {v' : Value} {w' : World}
    (hr : (Builtin.append_ #[t, t'] o.type #[v, u]).run P w = .ok v' w') (h : wpList P ops Q rest (a.put o.dst v') w') : wpList P ops Q (o :: rest) a w := by
  refine wpList_plain hgd fun _ hK => ?_
  unfold Oper.wp execOp
  simp only [ho, resolve, invoke, builtin, Sem.run_bind, Sem.run_pure, Result.andThen_ok, List.map_toArray, List.map_cons, List.map_nil, hs, hx, hr]
  exact hK _ _ h

theorem step_append_run {P : Program} {ops : Array Oper} {o : Oper} {a : Act} {w : World} {K : Act → World → Prop} {Q : Exit → Act → World → Prop} {E : Prop}
    (hg : o.guard = none) (s x : Operand) (t t' : TypeId) (hop : o.op = Op.call { callee := Callee.builtin Builtin.append, args := #[s, x], argTypes := #[t, t'] }) (v u : Value) (hs : a.eval s = v) (hx : a.eval x = u) {v' : Value} {w' : World}
    (hr : (Builtin.append_ #[t, t'] o.type #[v, u]).run P w = .ok v' w') (hK : K (a.put o.dst v') w') :
    if Region.wanted o (yielded ops a.tmps) = true then Oper.wp P o a w K Q else E := by
  have hw : Region.wanted o (yielded ops a.tmps) = true := by simp [Region.wanted, hg]
  rw [if_pos hw]
  unfold Oper.wp
  simp [execOp, hop, resolve, invoke, builtin, hs, hx, hr, Result.andThen]
  exact hK

/-- append of bytes to bytes of the call's own. -/
theorem own_append {B : Nat} {w : World} {g n cap : Nat} {xs : List Int} (h : Own B w g n cap xs) (a : Addr) (m c : Nat) (ys : List Int) (hy : BI w (some a) m ys) (hn : n + m ≤ 128) (hB : B ≤ w.heap.size) (ty : TypeId) :
    ∃ g' cap' w', (Builtin.append_ #[26, 26] ty #[.slice (some ⟨g, 0, none⟩) n cap, .slice (some a) m c]).run Try.prog w = .ok (.slice (some ⟨g', 0, none⟩) (n + m) cap') w' ∧ Own B w' g' (n + m) cap' (xs ++ ys) ∧ Below B w w' := by
  obtain ⟨i0, hi, hz0, hz1, hz2⟩ := info_parts info5
  obtain ⟨v', w', hr, ho, hg, hnil⟩ := run_append_own (P := Try.prog) (w := w) B 26 ty 5 i0 (.int .u8 0) 1 1 Try.underlying26 hi hz0 hz1 hz2 rfl (by decide) _ n _ h a m c (ys.map (Value.int .u8)) (by simp [hy.len]) hy.src' (one_cells ys) (by unfold maxLen; omega) (by omega) hB
  rw [← List.map_append] at ho
  obtain ⟨g', cap', rfl, ho'⟩ := own_shape ho (fun e => by have := (hnil.1 e).1; simp at this)
  exact ⟨g', cap', w', hr, ho', (Below.refl B w).grown hg hB (by intro k hk; simp [Value.ownBlock] at hk; have := h.spot; omega)⟩

/-- append of bytes to bytes that have no room. -/
theorem lit_append {w : World} {b n : Nat} {xs : List Int} (h : BI w (some ⟨b, 0, none⟩) n xs) (a : Addr) (m c : Nat) (ys : List Int) (hy : BI w (some a) m ys) (hm : 0 < m) (hn : n + m ≤ 128) (ty : TypeId) :
    ∃ g cap w', (Builtin.append_ #[26, 26] ty #[.slice (some ⟨b, 0, none⟩) n n, .slice (some a) m c]).run Try.prog w = .ok (.slice (some ⟨g, 0, none⟩) (n + m) cap) w' ∧ Own w.heap.size w' g (n + m) cap (xs ++ ys) ∧ Below w.heap.size w w' := by
  obtain ⟨i0, hi, hz0, hz1, hz2⟩ := info_parts info5
  have hxl := h.len
  have hyl := hy.len
  have hold : (Builtin.firstCells i0.size n (.slice (some ⟨b, 0, none⟩) n n)).run Try.prog w.drew = .ok (xs.map (Value.int .u8)).toArray w.drew :=
    run_firstCells_some (P := Try.prog) w.drew i0.size n ⟨b, 0, none⟩ n n _ (by rw [hz1]; simpa using hxl) (h.kept (below_drewN (Below.refl _ _) 1)).src'
  have hsrc : Src Try.prog i0.size 26 (.slice (some a) m c) m (ys.map (Value.int .u8)) w := Src.ofSlice w Try.underlying26 a m c _ (by rw [hz1]; simp [hyl]) hy.src' (one_cells ys)
  have hr := run_append_grow_src (P := Try.prog) w 26 26 ty 5 i0 (.int .u8 0) Try.underlying26 hi hz0 (some ⟨b, 0, none⟩) n n (xs.map (Value.int .u8)) hold _ m _ hsrc (by omega) (by omega) (growslice_fits (by omega) (by rw [hz2]; omega))
  refine ⟨_, _, _, hr, ⟨by simp; omega, .inr ⟨_, _, _, rfl, Nat.le_refl _, heap_alloc_new w.drew _, grownCap_ge _ _ _ _, grownCap_le_maxLen _ _ _ _ (by unfold maxLen; omega), ?_, ?_⟩⟩, ⟨rfl, rfl, rfl, by simp, fun k hk => Below.heap_alloc w.drew _ k hk⟩⟩
  · have := grownCap_ge w (n + m) n 5
    simp [size_zeroCells, Value.cells]; omega
  · rw [List.map_append]
    simp only [Array.toList_append]
    exact List.take_left' (by simp; omega)

theorem rencodeGroup_no (N : Int) (ys : List Int) (hl : ys.length = 40) (h : ¬ GMay N) (w : World) : Calls Try.prog 16 #[groupV N ys] w fun e w' => e = .returned (.tuple #[.slice none 0 0, .int .i64 1]) ∧ Below w.heap.size w w' := by
  have HB := grew_alloc w (groupO N ys)
  have c0 : (w.alloc (groupO N ys)).cell? ⟨w.heap.size, 0, none⟩ = some (.int .i64 N) := cell_row (heap_new w (groupO N ys)) 0 _ (groupA_zero N ys)
  unfold GMay at h
  go_enter Try.func16, Try.ntmps16
  go_wp2
  all_goals first | omega | skip
  all_goals
    go_ret2
    exact ⟨rfl, HB⟩

set_option maxRecDepth 10000 in
set_option maxHeartbeats 1000000 in
theorem rencodeGroup_yes (N : Int) (ys : List Int) (hl : ys.length = 40) (hy : Num.Byt ys) (h : GMay N) (w : World) : Calls Try.prog 16 #[groupV N ys] w fun e w' => ∃ g cap, e = .returned (.tuple #[.slice (some ⟨g, 0, none⟩) 128 cap, .int .i64 0]) ∧ Own w.heap.size w' g 128 cap (groupL N ys) ∧ Below w.heap.size w w' := by
  have hL := groupL_eq N ys hl h
  have HB := grew_alloc w (groupO N ys)
  have hx0 := heap_new w (groupO N ys)
  have c0 : (w.alloc (groupO N ys)).cell? ⟨w.heap.size, 0, none⟩ = some (.int .i64 N) := cell_row hx0 0 _ (groupA_zero N ys)
  unfold GMay at h
  obtain ⟨wl, hcv, hlit, hbl⟩ := conv_lit (w.alloc (groupO N ys)) [104, 100]
  have hcv' : (convert 26 26 (.slice (some ⟨w.heap.size + 1, 0, none⟩) 2 2)).run Try.prog ((w.alloc (groupO N ys)).alloc (.cells #[.int .u8 104, .int .u8 100] 5)) = .ok (.slice (some ⟨w.heap.size + 1, 0, none⟩) 2 2) wl := by
    have := hcv 2 2
    rw [size_alloc] at this
    exact this
  have c0 := cell_kept c0 hbl
  have hxl : wl.heap[w.heap.size]? = some (groupO N ys) := by rw [hbl.block _ (by rw [size_alloc]; omega)]; exact hx0
  have HBl := grew_trans HB hbl
  have hb2 := hlit.bi (Num.byt_of_wf (by decide)) (by decide)
  rw [size_alloc] at hb2
  have hNw : IntKind.u8.wrap N = N := by rw [IntKind.wrap_u8]; omega
  clear hcv hlit hbl HB
  have hsN : BI (wl.alloc (.cells #[.int .u8 N, .int .u8 0] 5)) (some ⟨wl.heap.size, 0, none⟩) 2 [N, 0] := by
    refine ⟨rfl, by decide, Num.byt_of_wf ?_, fun _ => ⟨wl.heap.size, 0, rfl, fun i hi => ?_⟩⟩
    · intro n hn
      simp [Lit.wf, IntKind.min, IntKind.max, IntKind.signed, IntKind.bits]
      simp at hn
      rcases hn with rfl | rfl <;> omega
    · have hh := heap_new wl (.cells #[.int .u8 N, .int .u8 0] 5)
      rw [Nat.zero_add]
      rcases (by omega : i = 0 ∨ i = 1) with rfl | rfl
      · exact cell_row hh 0 _ rfl
      · exact cell_row hh 1 _ rfl
  have ba := grew_alloc wl (.cells #[.int .u8 N, .int .u8 0] 5)
  obtain ⟨g1, q1, w1, hr1, ho1, hb1⟩ := lit_append (hb2.kept ba) _ 2 2 [N, 0] hsN (by decide) (by decide) 26
  have hbw1 := grew_trans ba hb1
  have hx1 : w1.heap[w.heap.size]? = some (groupO N ys) := by rw [hbw1.block _ (Array.getElem?_eq_some_iff.1 hxl).1]; exact hxl
  have hszl : w.heap.size + 1 ≤ wl.heap.size := (Array.getElem?_eq_some_iff.1 hxl).1
  have ho1 : Own (w.heap.size + 1) w1 g1 4 q1 [104, 100, N, 0] := ho1.base (by rw [size_alloc]; omega)
  have HB1 := grew_trans HBl hbw1
  have hsz1 := hbw1.size
  have hi8 : BI w1.drew (some ⟨w.heap.size, 1, none⟩) 8 (ys.take 8) := group_bi (mk := (0, 0)) (w := w1.drew) hx1 hy 0 8 (by omega) hl
  obtain ⟨g2, q2, w2, hr2, ho2, hb2'⟩ := own_append (w := w1.drew) ho1 _ 8 8 (ys.take 8) hi8 (by decide) (by show w.heap.size + 1 ≤ w1.heap.size; omega) 26
  have hx2 : w2.heap[w.heap.size]? = some (groupO N ys) := by rw [hb2'.block _ (by omega)]; exact hx1
  have hi32 : BI w2 (some ⟨w.heap.size, 9, none⟩) 32 (ys.drop 8) := by
    have := group_bi hx2 hy 8 32 (by omega) hl
    rwa [List.take_of_length_le (by simp; omega)] at this
  have hsz2 : w1.heap.size ≤ w2.heap.size := hb2'.size
  obtain ⟨g3, q3, w3, hr3, ho3, hb3⟩ := own_append ho2 _ 32 32 (ys.drop 8) hi32 (by decide) (by omega) 26
  rw [List.append_assoc, List.take_append_drop] at ho3
  have ho3 : Own (w.heap.size + 1) w3 g3 44 q3 ([104, 100, N, 0] ++ ys) := ho3
  have hsz3 := hb3.size
  obtain ⟨g4, q4, w4, hr4, ho4, hg4⟩ := zeros_own (w.heap.size + 1) w3 _ 44 84 _ ho3 rfl (by omega) 26
  have hb4 := (Below.refl (w.heap.size + 1) w3).grown hg4 (by omega) (by intro k hk; simp [Value.ownBlock] at hk; have := ho3.spot; omega)
  have hr1 : (Builtin.append_ #[26, 26] 26 #[.slice (some ⟨w.heap.size + 1, 0, none⟩) 2 2, .slice (some ⟨wl.heap.size, 0, none⟩) 2 2]).run Try.prog (wl.alloc (.cells #[.int .u8 N, .int .u8 0] 5)) = .ok (.slice (some ⟨g1, 0, none⟩) 4 q1) w1 := hr1
  have hr2 : (Builtin.append_ #[26, 26] 26 #[.slice (some ⟨g1, 0, none⟩) 4 q1, .slice (some ⟨w.heap.size, 1, none⟩) 8 8]).run Try.prog w1.drew = .ok (.slice (some ⟨g2, 0, none⟩) 12 q2) w2 := hr2
  have hr3 : (Builtin.append_ #[26, 26] 26 #[.slice (some ⟨g2, 0, none⟩) 12 q2, .slice (some ⟨w.heap.size, 9, none⟩) 32 32]).run Try.prog w2 = .ok (.slice (some ⟨g3, 0, none⟩) 44 q3) w3 := hr3
  have R1 := (show Hid _ from hr1)
  have R2 := (show Hid _ from hr2)
  have R3 := (show Hid _ from hr3)
  have R4 := (show Hid _ from hr4)
  have hfin : Own w.heap.size w4 g4 128 q4 (groupL N ys) := by
    rw [hL]
    exact ho4.base (by omega)
  have HB4 : Below w.heap.size w w4 := HB1.drew.trans ((hb2'.mono (by omega)).trans ((hb3.mono (by omega)).trans (hb4.mono (by omega))))
  clear hr1 hr2 hr3 hr4 hi8 hi32 ho1 ho2 ho3 ho4 hg4 hb2' hb3 hb4 hbw1 hb1 ba hsN hb2 hL hx0 hx1 hx2 hxl
  go_enter Try.func16, Try.ntmps16
  go_wp2_with (at_builtin; refine wpList_append_run rfl (.tmp 14) (.tmp 18) 26 26 rfl _ _ rfl rfl R1.out ?_)
  go_region_law (first | refine step_append_run rfl (.tmp 20) (.tmp 22) 26 26 rfl _ _ (by simp [Act.eval, Act.put]) (by simp [Act.eval, Act.put]) R2.out ?_ | refine step_append_run rfl (.tmp 23) (.tmp 25) 26 26 rfl _ _ (by simp [Act.eval]) (by simp [Act.eval]) R3.out ?_)
  all_goals
    go_wp2_with (at_builtin; refine wpList_append_run rfl (.tmp 27) (.const (.int .i64 84)) 26 3 rfl _ _ rfl rfl R4.out ?_)
    go_ret2
    exact ⟨g4, q4, rfl, hfin, HB4⟩
end Go.Proofs.Ytkmijjipnepnoaa
