/- KRGroup KDGroup KGForm KGDec KRGDec KEqual KDinode -/
import Derived.Test.YtomkhipdcjnkhaaGreatFb07
import Derived.Deep.AppendSrc
import Derived.DeepKeys2

/- The document's headers as bytes. -/
namespace Go.Proofs.YtomkhipdcjnkhaaGreat.Mk
open Go.RowKit
set_option maxRecDepth 100000
set_option linter.unusedVariables false

theorem wpList_append_run {P : Program} {w : World} {ops : Array Oper} {rest : List Oper} {o : Oper} {a : Act} {Q : Exit → Act → World → Prop} (hgd : o.guard = none) (s x : Operand) (t t' : TypeId)
    (ho : o.op = .call { callee := .builtin .append, args := #[s, x], argTypes := #[t, t'] }) (v u : Value) (hs : a.eval s = v) (hx : a.eval x = u) {v' : Value} {w' : World}
    (hr : (Builtin.append_ #[t, t'] o.type #[v, u]).run P w = .ok v' w') (h : wpList P ops Q rest (a.put o.dst v') w') : wpList P ops Q (o :: rest) a w := by
  refine wpList_plain hgd fun _ hK => ?_
  unfold Oper.wp execOp
  simp only [ho, resolve, invoke, builtin, Sem.run_bind, Sem.run_pure, Result.andThen_ok, List.map_toArray, List.map_cons, List.map_nil, hs, hx, hr]
  exact hK _ _ h

theorem step_append_run {P : Program} {ops : Array Oper} {o : Oper} {a : Act} {w : World} {K : Act → World → Prop} {Q : Exit → Act → World → Prop} {E : Prop}
    (hg : o.guard = none) (s x : Operand) (t t' : TypeId) (hop : o.op = Op.call { callee := Callee.builtin Builtin.append, args := #[s, x], argTypes := #[t, t'] }) (v u : Value) (hs : a.eval s = v) (hx : a.eval x = u) {v' : Value} {w' : World}
    (hr : (Builtin.append_ #[t, t'] o.type #[v, u]).run P w = .ok v' w') (hK : K (a.put o.dst v') w') :
    if Region.wanted o (yielded ops a.tmps) = true then Oper.wp P o a w K Q else E := by
  have hw : Region.wanted o (yielded ops a.tmps) = true := by simp [Region.wanted, hg]
  rw [if_pos hw]
  unfold Oper.wp
  simp [execOp, hop, resolve, invoke, builtin, hs, hx, hr, Result.andThen]
  exact hK

/-- append of bytes to bytes of the call's own. -/
theorem own_append {B : Nat} {w : World} {g n cap : Nat} {xs : List Int} (h : Own B w g n cap xs) (a : Addr) (m c : Nat) (ys : List Int) (hy : BI w (some a) m ys) (hn : n + m ≤ 128) (hB : B ≤ w.heap.size) (ty : TypeId) :
    ∃ g' cap' w', (Builtin.append_ #[38, 38] ty #[.slice (some ⟨g, 0, none⟩) n cap, .slice (some a) m c]).run Tryz.prog w = .ok (.slice (some ⟨g', 0, none⟩) (n + m) cap') w' ∧ Own B w' g' (n + m) cap' (xs ++ ys) ∧ Below B w w' := by
  obtain ⟨i0, hi, hz0, hz1, hz2⟩ := info_parts info5
  obtain ⟨v', w', hr, ho, hg, hnil⟩ := run_append_own (P := Tryz.prog) (w := w) B 38 ty 5 i0 (.int .u8 0) 1 1 Tryz.underlying38 hi hz0 hz1 hz2 rfl (by decide) _ n _ h a m c (ys.map (Value.int .u8)) (by simp [hy.len]) hy.src' (one_cells ys) (by unfold maxLen; omega) (by omega) hB
  rw [← List.map_append] at ho
  obtain ⟨g', cap', rfl, ho'⟩ := own_shape ho (fun e => by have := (hnil.1 e).1; simp at this)
  exact ⟨g', cap', w', hr, ho', (Below.refl B w).grown hg hB (by intro k hk; simp [Value.ownBlock] at hk; have := h.spot; omega)⟩

/-- append of bytes to bytes that have no room. -/
theorem lit_append {w : World} {b n : Nat} {xs : List Int} (h : BI w (some ⟨b, 0, none⟩) n xs) (a : Addr) (m c : Nat) (ys : List Int) (hy : BI w (some a) m ys) (hm : 0 < m) (hn : n + m ≤ 128) (ty : TypeId) :
    ∃ g cap w', (Builtin.append_ #[38, 38] ty #[.slice (some ⟨b, 0, none⟩) n n, .slice (some a) m c]).run Tryz.prog w = .ok (.slice (some ⟨g, 0, none⟩) (n + m) cap) w' ∧ Own w.heap.size w' g (n + m) cap (xs ++ ys) ∧ Below w.heap.size w w' := by
  obtain ⟨i0, hi, hz0, hz1, hz2⟩ := info_parts info5
  have hxl := h.len
  have hyl := hy.len
  have hold : (Builtin.firstCells i0.size n (.slice (some ⟨b, 0, none⟩) n n)).run Tryz.prog w.drew = .ok (xs.map (Value.int .u8)).toArray w.drew :=
    run_firstCells_some (P := Tryz.prog) w.drew i0.size n ⟨b, 0, none⟩ n n _ (by rw [hz1]; simpa using hxl) (h.kept (below_drewN (Below.refl _ _) 1)).src'
  have hsrc : Src Tryz.prog i0.size 38 (.slice (some a) m c) m (ys.map (Value.int .u8)) w := Src.ofSlice w Tryz.underlying38 a m c _ (by rw [hz1]; simp [hyl]) hy.src' (one_cells ys)
  have hr := run_append_grow_src (P := Tryz.prog) w 38 38 ty 5 i0 (.int .u8 0) Tryz.underlying38 hi hz0 (some ⟨b, 0, none⟩) n n (xs.map (Value.int .u8)) hold _ m _ hsrc (by omega) (by omega) (growslice_fits (by omega) (by rw [hz2]; omega))
  refine ⟨_, _, _, hr, ⟨by simp; omega, .inr ⟨_, _, _, rfl, Nat.le_refl _, heap_alloc_new w.drew _, grownCap_ge _ _ _ _, grownCap_le_maxLen _ _ _ _ (by unfold maxLen; omega), ?_, ?_⟩⟩, ⟨rfl, rfl, rfl, by simp, fun k hk => Below.heap_alloc w.drew _ k hk⟩⟩
  · have := grownCap_ge w (n + m) n 5
    simp [size_zeroCells, Value.cells]; omega
  · rw [List.map_append]
    simp only [Array.toList_append]
    exact List.take_left' (by simp; omega)

theorem rencodeGroup_no (N : Int) (ys : List Int) (hl : ys.length = 40) (h : ¬ GMay N) (w : World) : Calls Tryz.prog 208 #[groupV N ys] w fun e w' => e = .returned (.tuple #[.slice none 0 0, .int .i64 1]) ∧ Below w.heap.size w w' := by
  have HB := grew_alloc w (groupO N ys)
  have c0 : (w.alloc (groupO N ys)).cell? ⟨w.heap.size, 0, none⟩ = some (.int .i64 N) := cell_row (heap_new w (groupO N ys)) 0 _ (groupA_zero N ys)
  unfold GMay at h
  go_enter Tryz.func208, Tryz.ntmps208
  go_wp2
  all_goals first | omega | skip
  all_goals
    go_ret2
    exact ⟨rfl, HB⟩

set_option maxRecDepth 10000 in
set_option maxHeartbeats 1000000 in
theorem rencodeGroup_yes (N : Int) (ys : List Int) (hl : ys.length = 40) (hy : Num.Byt ys) (h : GMay N) (w : World) : Calls Tryz.prog 208 #[groupV N ys] w fun e w' => ∃ g cap, e = .returned (.tuple #[.slice (some ⟨g, 0, none⟩) 128 cap, .int .i64 0]) ∧ Own w.heap.size w' g 128 cap (groupL N ys) ∧ Below w.heap.size w w' := by
  have hL := groupL_eq N ys hl h
  have HB := grew_alloc w (groupO N ys)
  have hx0 := heap_new w (groupO N ys)
  have c0 : (w.alloc (groupO N ys)).cell? ⟨w.heap.size, 0, none⟩ = some (.int .i64 N) := cell_row hx0 0 _ (groupA_zero N ys)
  unfold GMay at h
  obtain ⟨wl, hcv, hlit, hbl⟩ := conv_lit (w.alloc (groupO N ys)) [104, 100]
  have hcv' : (convert 38 38 (.slice (some ⟨w.heap.size + 1, 0, none⟩) 2 2)).run Tryz.prog ((w.alloc (groupO N ys)).alloc (.cells #[.int .u8 104, .int .u8 100] 5)) = .ok (.slice (some ⟨w.heap.size + 1, 0, none⟩) 2 2) wl := by
    have := hcv 2 2
    rw [size_alloc] at this
    exact this
  have c0 := cell_kept c0 hbl
  have hxl : wl.heap[w.heap.size]? = some (groupO N ys) := by rw [hbl.block _ (by rw [size_alloc]; omega)]; exact hx0
  have HBl := grew_trans HB hbl
  have hb2 := hlit.bi (Num.byt_of_wf (by decide)) (by decide)
  rw [size_alloc] at hb2
  have hNw : IntKind.u8.wrap N = N := by rw [IntKind.wrap_u8]; omega
  clear hcv hlit hbl HB
  have hsN : BI (wl.alloc (.cells #[.int .u8 N, .int .u8 0] 5)) (some ⟨wl.heap.size, 0, none⟩) 2 [N, 0] := by
    refine ⟨rfl, by decide, Num.byt_of_wf ?_, fun _ => ⟨wl.heap.size, 0, rfl, fun i hi => ?_⟩⟩
    · intro n hn
      simp [Lit.wf, IntKind.min, IntKind.max, IntKind.signed, IntKind.bits]
      simp at hn
      rcases hn with rfl | rfl <;> omega
    · have hh := heap_new wl (.cells #[.int .u8 N, .int .u8 0] 5)
      rw [Nat.zero_add]
      rcases (by omega : i = 0 ∨ i = 1) with rfl | rfl
      · exact cell_row hh 0 _ rfl
      · exact cell_row hh 1 _ rfl
  have ba := grew_alloc wl (.cells #[.int .u8 N, .int .u8 0] 5)
  obtain ⟨g1, q1, w1, hr1, ho1, hb1⟩ := lit_append (hb2.kept ba) _ 2 2 [N, 0] hsN (by decide) (by decide) 38
  have hbw1 := grew_trans ba hb1
  have hx1 : w1.heap[w.heap.size]? = some (groupO N ys) := by rw [hbw1.block _ (Array.getElem?_eq_some_iff.1 hxl).1]; exact hxl
  have hszl : w.heap.size + 1 ≤ wl.heap.size := (Array.getElem?_eq_some_iff.1 hxl).1
  have ho1 : Own (w.heap.size + 1) w1 g1 4 q1 [104, 100, N, 0] := ho1.base (by rw [size_alloc]; omega)
  have HB1 := grew_trans HBl hbw1
  have hsz1 := hbw1.size
  have hi8 : BI w1.drew (some ⟨w.heap.size, 1, none⟩) 8 (ys.take 8) := group_bi (mk := (0, 0)) (w := w1.drew) hx1 hy 0 8 (by omega) hl
  obtain ⟨g2, q2, w2, hr2, ho2, hb2'⟩ := own_append (w := w1.drew) ho1 _ 8 8 (ys.take 8) hi8 (by decide) (by show w.heap.size + 1 ≤ w1.heap.size; omega) 38
  have hx2 : w2.heap[w.heap.size]? = some (groupO N ys) := by rw [hb2'.block _ (by omega)]; exact hx1
  have hi32 : BI w2 (some ⟨w.heap.size, 9, none⟩) 32 (ys.drop 8) := by
    have := group_bi hx2 hy 8 32 (by omega) hl
    rwa [List.take_of_length_le (by simp; omega)] at this
  have hsz2 : w1.heap.size ≤ w2.heap.size := hb2'.size
  obtain ⟨g3, q3, w3, hr3, ho3, hb3⟩ := own_append ho2 _ 32 32 (ys.drop 8) hi32 (by decide) (by omega) 38
  rw [List.append_assoc, List.take_append_drop] at ho3
  have ho3 : Own (w.heap.size + 1) w3 g3 44 q3 ([104, 100, N, 0] ++ ys) := ho3
  have hsz3 := hb3.size
  obtain ⟨g4, q4, w4, hr4, ho4, hg4⟩ := zeros_own (w.heap.size + 1) w3 _ 44 84 _ ho3 rfl (by omega) 38
  have hb4 := (Below.refl (w.heap.size + 1) w3).grown hg4 (by omega) (by intro k hk; simp [Value.ownBlock] at hk; have := ho3.spot; omega)
  have hr1 : (Builtin.append_ #[38, 38] 38 #[.slice (some ⟨w.heap.size + 1, 0, none⟩) 2 2, .slice (some ⟨wl.heap.size, 0, none⟩) 2 2]).run Tryz.prog (wl.alloc (.cells #[.int .u8 N, .int .u8 0] 5)) = .ok (.slice (some ⟨g1, 0, none⟩) 4 q1) w1 := hr1
  have hr2 : (Builtin.append_ #[38, 38] 38 #[.slice (some ⟨g1, 0, none⟩) 4 q1, .slice (some ⟨w.heap.size, 1, none⟩) 8 8]).run Tryz.prog w1.drew = .ok (.slice (some ⟨g2, 0, none⟩) 12 q2) w2 := hr2
  have hr3 : (Builtin.append_ #[38, 38] 38 #[.slice (some ⟨g2, 0, none⟩) 12 q2, .slice (some ⟨w.heap.size, 9, none⟩) 32 32]).run Tryz.prog w2 = .ok (.slice (some ⟨g3, 0, none⟩) 44 q3) w3 := hr3
  have R1 := (show Hid _ from hr1)
  have R2 := (show Hid _ from hr2)
  have R3 := (show Hid _ from hr3)
  have R4 := (show Hid _ from hr4)
  have hfin : Own w.heap.size w4 g4 128 q4 (groupL N ys) := by
    rw [hL]
    exact ho4.base (by omega)
  have HB4 : Below w.heap.size w w4 := HB1.drew.trans ((hb2'.mono (by omega)).trans ((hb3.mono (by omega)).trans (hb4.mono (by omega))))
  clear hr1 hr2 hr3 hr4 hi8 hi32 ho1 ho2 ho3 ho4 hg4 hb2' hb3 hb4 hbw1 hb1 ba hsN hb2 hL hx0 hx1 hx2 hxl
  go_enter Tryz.func208, Tryz.ntmps208
  go_wp2_with (at_builtin; refine wpList_append_run rfl (.tmp 14) (.tmp 18) 38 38 rfl _ _ rfl rfl R1.out ?_)
  go_region_law (first | refine step_append_run rfl (.tmp 20) (.tmp 22) 38 38 rfl _ _ (by simp [Act.eval, Act.put]) (by simp [Act.eval, Act.put]) R2.out ?_ | refine step_append_run rfl (.tmp 23) (.tmp 25) 38 38 rfl _ _ (by simp [Act.eval]) (by simp [Act.eval]) R3.out ?_)
  all_goals
    go_wp2_with (at_builtin; refine wpList_append_run rfl (.tmp 27) (.const (.int .i64 84)) 38 3 rfl _ _ rfl rfl R4.out ?_)
    go_ret2
    exact ⟨g4, q4, rfl, hfin, HB4⟩
end Go.Proofs.YtomkhipdcjnkhaaGreat.Mk

/- Headers out of bytes, by the program. -/
namespace Go.Proofs.YtomkhipdcjnkhaaGreat.Mk
open Go.RowKit
set_option maxRecDepth 100000
set_option linter.unusedVariables false

theorem zero38 : groupA 0 (zers 40) = #[.int .i64 0, .int .u8 0, .int .u8 0, .int .u8 0, .int .u8 0, .int .u8 0, .int .u8 0, .int .u8 0, .int .u8 0, .int .u8 0, .int .u8 0, .int .u8 0, .int .u8 0, .int .u8 0, .int .u8 0, .int .u8 0, .int .u8 0, .int .u8 0, .int .u8 0, .int .u8 0, .int .u8 0, .int .u8 0, .int .u8 0, .int .u8 0, .int .u8 0, .int .u8 0, .int .u8 0, .int .u8 0, .int .u8 0, .int .u8 0, .int .u8 0, .int .u8 0, .int .u8 0, .int .u8 0, .int .u8 0, .int .u8 0, .int .u8 0, .int .u8 0, .int .u8 0, .int .u8 0, .int .u8 0] := rfl

theorem info38 (N : Int) (ys : List Int) (hl : ys.length = 40) : (Tryz.prog.info? 70).map (·.size) = some (groupA N ys).size := by
  rw [groupA_size N ys hl]; kernel_rfl
theorem group_one (N : Int) (ys : List Int) : (groupA N ys).all (·.oneCell') = true := by
  simp [groupA, Value.oneCell']

theorem byteCells_nums {zs : List Int} (h : Num.Byt zs) : Lib.byteCells (strOfNums zs).data.toList = zs.map (Value.int .u8) := by
  rw [strOfNums_data]
  unfold Lib.byteCells
  rw [List.map_map]
  apply List.map_congr_left
  intro x hx
  have := byt_mem h x hx
  simp
  omega

/-- The cells of a header with some of its bytes turned. -/
theorem groupA_splice (N : Int) (ys zs : List Int) (i : Nat) (hf : i + zs.length ≤ ys.length) : (((groupA N ys).toList.take (i + 1)) ++ zs.map (Value.int .u8) ++ (groupA N ys).toList.drop (i + 1 + zs.length)).toArray = groupA N (splice ys i zs) := by
  unfold groupA splice
  rw [show i + 1 + zs.length = (i + zs.length) + 1 by omega]
  simp [List.map_take, List.map_drop]

theorem group_copy {w : World} {b : Nat} {N : Int} {ys zs : List Int} (h : w.heap[b]? = some (groupO N ys)) (hl : ys.length = 40) (hz : Num.Byt zs) (i : Nat) (hf : i + zs.length ≤ 40) (ty : TypeId) :
    (Builtin.copy_ #[38, 9] ty #[.slice (some ⟨b, i + 1, none⟩) zs.length zs.length, .string (strOfNums zs)]).run Tryz.prog w = .ok (goInt zs.length) (w.setRow b (groupA N (splice ys i zs))) := by
  have hs := strOfNums_size zs
  have hr := Lib.run_copy_row_string (P := Tryz.prog) w 38 9 ty 5 b (i + 1) zs.length zs.length (strOfNums zs) _ 70 Tryz.underlying38 size5 h (by omega) (by rw [groupA_size N ys hl]; omega)
  rw [hr, byteCells_nums hz, hs, groupA_splice N ys zs i (by omega)]

theorem groupA_set (N M : Int) (ys : List Int) : (groupA N ys).setIfInBounds 0 (.int .i64 M) = groupA M ys := by
  simp [groupA]

theorem read_bytes (xs : List Int) (hl : xs.length = 128) : splice (splice (zers 40) 0 ((xs.drop 4).take 8)) 8 ((xs.drop 12).take 32) = (xs.drop 4).take 40 := by
  have h8 : ((xs.drop 4).take 8).length = 8 := by simp; omega
  have h32 : ((xs.drop 12).take 32).length = 32 := by simp; omega
  have h1 : (splice (zers 40) 0 ((xs.drop 4).take 8)).length = 40 := by rw [splice_len _ _ _ (by rw [h8, zers_len]; decide), zers_len]
  apply ext_getD
  · rw [splice_len _ _ _ (by omega), h1]; simp; omega
  intro i hi
  rw [splice_len _ _ _ (by omega), h1] at hi
  rw [getD_splice _ _ _ (by omega), getD_splice _ _ _ (by rw [h8, zers_len]; decide), h8, h32, getD_take _ 40 _ hi, getD_drop']
  by_cases c : i < 8
  · rw [if_pos c, if_neg (by omega), if_pos (by omega), getD_take _ _ _ (by omega), getD_drop']
    congr 1
  · rw [if_neg c, if_pos (by omega), getD_take _ _ _ (by omega), getD_drop']
    congr 1
    omega

end Go.Proofs.YtomkhipdcjnkhaaGreat.Mk

/- Headers out of bytes: whether they are in form. -/
namespace Go.Proofs.YtomkhipdcjnkhaaGreat.Mk
open Go.RowKit
set_option maxRecDepth 100000
set_option linter.unusedVariables false

theorem encodeGroup_yes1 (N : Int) (ys : List Int) (hl : ys.length = 40) (hy : Num.Byt ys) (h : GMay N) (w : World) : Calls Tryz.prog 129 #[groupV N ys] w fun e w' => ∃ g cap, e = .returned (.tuple #[.slice (some ⟨g, 0, none⟩) 128 cap, .int .i64 0]) ∧ Own w.heap.size w' g 128 cap (groupL N ys) ∧ Below w.heap.size w w' :=
  (encodeGroup_yes N ys hl hy h w).mono fun e w' ⟨g, he, ho, hb⟩ => ⟨g, 128, he, ho, hb⟩
theorem call15 (args : Array Value) (w : World) : (callFunc 129 args).run Tryz.prog w = .ok (.enter 129 args) w := by kernel_rfl
/-- The bytes are those that are written for what they say. -/
def GGood (xs : List Int) (N : Int) (ys : List Int) : Prop := GMay N ∧ groupL N ys = xs
instance (xs : List Int) (N : Int) (ys : List Int) : Decidable (GGood xs N ys) := by unfold GGood; infer_instance

end Go.Proofs.YtomkhipdcjnkhaaGreat.Mk

/- Headers out of bytes, by the program. -/
namespace Go.Proofs.YtomkhipdcjnkhaaGreat.Mk
open Go.RowKit
set_option maxRecDepth 100000
set_option linter.unusedVariables false

/-- What the bytes of a header say. -/
def rN (xs : List Int) : Int := Num.numD xs 2 1
def rY (xs : List Int) : List Int := (xs.drop 4).take 40
/-- The error that bytes tell, read as a header. -/
def gdE (n : Nat) (xs : List Int) : Int := if n ≠ 128 then 6 else if ¬ xs.take 2 = [104, 100] then 31 else if GGood xs (rN xs) (rY xs) then 0 else 6
def gdN (n : Nat) (xs : List Int) : Int := if gdE n xs = 0 then rN xs else 0
def gdY (n : Nat) (xs : List Int) : List Int := if gdE n xs = 0 then rY xs else zers 40

end Go.Proofs.YtomkhipdcjnkhaaGreat.Mk

/- The document's headers out of bytes. -/
namespace Go.Proofs.YtomkhipdcjnkhaaGreat.Mk
open Go.RowKit
set_option maxRecDepth 100000
set_option linter.unusedVariables false

theorem zeroN (v : Int) : groupA v (zers 40) = #[.int .i64 v, .int .u8 0, .int .u8 0, .int .u8 0, .int .u8 0, .int .u8 0, .int .u8 0, .int .u8 0, .int .u8 0, .int .u8 0, .int .u8 0, .int .u8 0, .int .u8 0, .int .u8 0, .int .u8 0, .int .u8 0, .int .u8 0, .int .u8 0, .int .u8 0, .int .u8 0, .int .u8 0, .int .u8 0, .int .u8 0, .int .u8 0, .int .u8 0, .int .u8 0, .int .u8 0, .int .u8 0, .int .u8 0, .int .u8 0, .int .u8 0, .int .u8 0, .int .u8 0, .int .u8 0, .int .u8 0, .int .u8 0, .int .u8 0, .int .u8 0, .int .u8 0, .int .u8 0, .int .u8 0] := rfl

theorem hd_str {xs : List Int} (h : Num.Byt xs) : ((strOfNums xs).toList == [104, 100]) = (xs == [104, 100]) := by
  have := str_beq h (ys := [104, 100]) (Num.byt_of_wf (by decide))
  rw [show (strOfNums [104, 100]).toList = [104, 100] from Lib.strOfNums_toList _] at this
  exact this

/-- Bytes copied into a header. -/
theorem group_copyB {w : World} {b : Nat} {N : Int} {ys zs : List Int} (h : w.heap[b]? = some (groupO N ys)) (hl : ys.length = 40) (a : Addr) (c : Nat) (hz : BI w (some a) zs.length zs) (i : Nat) (hf : i + zs.length ≤ 40) (ty : TypeId) :
    (Builtin.copy_ #[38, 38] ty #[.slice (some ⟨b, i + 1, none⟩) zs.length zs.length, .slice (some a) zs.length c]).run Tryz.prog w = .ok (goInt zs.length) (w.setRow b (groupA N (splice ys i zs))) := by
  have hr := run_copy_row (P := Tryz.prog) w 38 38 ty 5 b (i + 1) zs.length zs.length a zs.length c _ 70 (zs.map (Value.int .u8)) Tryz.underlying38 size5 h (by simp) hz.src' (by rw [groupA_size N ys hl]; simp; omega) (one_cells zs)
  rw [hr, ← groupA_splice N ys zs i (by omega)]
  simp

end Go.Proofs.YtomkhipdcjnkhaaGreat.Mk

/- Arrays of bytes, and headers, compared. -/
namespace Go.Proofs.YtomkhipdcjnkhaaGreat.Mk
open Go.RowKit
set_option maxRecDepth 100000
set_option linter.unusedVariables false

theorem cells5' : Tryz.prog.cellsOf 5 = 1 := by kernel_rfl
theorem cells3' : Tryz.prog.cellsOf 3 = 1 := by kernel_rfl

theorem lit_byte (d : Nat) (v : Int) (h : 0 ≤ v ∧ v < 256) : Tryz.prog.keyLits (d + 1) 5 [.int .u8 v] = some [Lit.int .u8 v] := by
  unfold Program.keyLits
  simp only [Tryz.underlying5]
  rw [if_pos ⟨trivial, by simp [Lit.wf, IntKind.min, IntKind.max, IntKind.signed, IntKind.bits]; omega⟩]
theorem lit_int (d : Nat) (v : Int) (h : -9223372036854775808 ≤ v ∧ v < 9223372036854775808) : Tryz.prog.keyLits (d + 1) 3 [.int .i64 v] = some [Lit.int .i64 v] := by
  unfold Program.keyLits
  simp only [Tryz.underlying3]
  rw [if_pos ⟨trivial, by simp [Lit.wf, IntKind.min, IntKind.max, IntKind.signed, IntKind.bits]; omega⟩]

theorem mapM_some {α β : Type} (f : α → Option β) : ∀ l : List α, (∀ x ∈ l, ∃ y, f x = some y) → ∃ ys, l.mapM f = some ys
  | [], _ => ⟨[], rfl⟩
  | x :: l, h => by
    obtain ⟨y, hy⟩ := h x (by simp)
    obtain ⟨ys, hys⟩ := mapM_some f l (fun z hz => h z (by simp [hz]))
    exact ⟨y :: ys, by rw [List.mapM_cons, hy, hys]; rfl⟩

/-- Bytes of an array are a key's parts. -/
theorem lits_bytes {t : TypeId} {n : Nat} (ht : Tryz.prog.underlying t = some (.array n 5)) (hc : Tryz.prog.cellsOf t = n) (d : Nat) (ys : List Int) (hl : ys.length = n) (hy : Num.Byt ys) : ∃ l, Tryz.prog.keyLits (d + 2) t (ys.map (Value.int .u8)) = some l := by
  rw [show d + 2 = (d + 1) + 1 from rfl]
  unfold Program.keyLits
  simp only [ht]
  rw [if_pos (by rw [hc, List.length_map, hl])]
  obtain ⟨ls, hls⟩ := mapM_some (fun i => Tryz.prog.keyLits (d + 1) 5 (((ys.map (Value.int .u8)).drop (i * Tryz.prog.cellsOf 5)).take (Tryz.prog.cellsOf 5))) (List.range n) (by
    intro i hi
    have hi := List.mem_range.1 hi
    rw [cells5', Nat.mul_one]
    have e : ((ys.map (Value.int .u8)).drop i).take 1 = [Value.int .u8 (ys.getD i 0)] := by
      rw [List.drop_eq_getElem_cons (by simp; omega)]
      simp [List.getD_eq_getElem?_getD, List.getElem?_eq_getElem (show i < ys.length by omega)]
    rw [e]
    exact ⟨_, lit_byte d _ (hy i)⟩)
  rw [hls]
  exact ⟨_, rfl⟩

theorem cells35 : Tryz.prog.cellsOf 67 = 8 := by kernel_rfl
theorem cells36 : Tryz.prog.cellsOf 68 = 32 := by kernel_rfl
theorem cells38 : Tryz.prog.cellsOf 70 = 41 := by kernel_rfl

theorem lits_group (d : Nat) (N : Int) (hN : -9223372036854775808 ≤ N ∧ N < 9223372036854775808) (ys : List Int) (hl : ys.length = 40) (hy : Num.Byt ys) : ∃ l, Tryz.prog.keyLits (d + 3) 70 (groupA N ys).toList = some l := by
  rw [show d + 3 = (d + 2) + 1 from rfl]
  unfold Program.keyLits
  simp only [Tryz.underlying70]
  rw [if_pos ⟨by rw [cells38]; simpa using groupA_size N ys hl, by simp⟩]
  obtain ⟨l8, h8⟩ := lits_bytes Tryz.underlying67 cells35 d (ys.take 8) (by simp; omega) (byt_take hy _)
  obtain ⟨l32, h32⟩ := lits_bytes Tryz.underlying68 cells36 d (ys.drop 8) (by simp; omega) (byt_drop hy _)
  have e1 : ((groupA N ys).toList.drop 0).take 1 = [.int .i64 N] := by simp [groupA]
  have e2 : ((groupA N ys).toList.drop 1).take 8 = (ys.take 8).map (Value.int .u8) := by simp [groupA, List.map_take]
  have e3 : ((groupA N ys).toList.drop 9).take 32 = (ys.drop 8).map (Value.int .u8) := by
    simp [groupA, List.map_drop]
    rw [List.take_of_length_le (by simp; omega)]
  simp only [List.mapM_cons, List.mapM_nil, cells3', cells35, cells36, e1, e2, e3, lit_int (d + 1) N hN, h8, h32]
  exact ⟨_, rfl⟩

theorem eq_group (N : Int) (hN : -9223372036854775808 ≤ N ∧ N < 9223372036854775808) (ys : List Int) (hl : ys.length = 40) (hy : Num.Byt ys) (w : World) : (Op.equalIn 10000 70 (.agg (groupA N ys)) (.agg (groupA N ys))).run Tryz.prog w = .ok true w := by
  obtain ⟨l, h⟩ := lits_group 0 N hN ys hl hy
  have hf : (Value.agg (groupA N ys)).formed Tryz.prog 70 = true := by
    have := groupA_size N ys hl
    simp [Value.formed, Tryz.underlying70, cells38, this]
  obtain ⟨r, hr, he⟩ := run_equalIn_deep (P := Tryz.prog) 9997 3 70 (by kernel_rfl) w _ _ _ _ l l hf hf h h
  rw [hr, he.2 rfl]

theorem wpList_eql_wanted {P : Program} {ops : Array Oper} {rest : List Oper} {o : Oper} {a : Act} {w : World} {Q : Exit → Act → World → Prop} (hwant : Region.wanted o (yielded ops a.tmps) = true) (t : TypeId) (x y : Operand) (ho : o.op = .binOp .eql t x y t)
    (A B : Array Value) (hx : a.eval x = .agg A) (hy : a.eval y = .agg B) (hg : P.eqGuardType P.depth t = false) (r : Bool) (hr : (Op.equalIn 10000 t (.agg A) (.agg B)).run P w = .ok r w)
    (h : wpList P ops Q rest (a.put o.dst (.bool r)) w) : wpList P ops Q (o :: rest) a w :=
  wpList_step fun K hK => by
    rw [if_pos hwant]
    unfold Oper.wp
    have h1 := run_eqGuard_agg (P := P) (w := w) BinOp.eql t x y A B hg
    have h2 := run_eql_struct (P := P) (w := w) t A B
    rw [hr] at h2
    simp [execOp, ho, hx, hy, h1, h2, Result.andThen]
    exact hK _ _ h
theorem guard38 : Tryz.prog.eqGuardType Tryz.prog.depth 70 = false := by kernel_rfl
end Go.Proofs.YtomkhipdcjnkhaaGreat.Mk

/- Inodes as bytes, by the program. -/
namespace Go.Proofs.YtomkhipdcjnkhaaGreat.Mk
open Go.RowKit
set_option maxRecDepth 100000
set_option linter.unusedVariables false

def Ads (zs : List Int) : Prop := ∀ z ∈ zs, 0 ≤ z ∧ z ≤ 2047
instance (zs : List Int) : Decidable (Ads zs) := by unfold Ads; infer_instance

set_option maxHeartbeats 400000 in
theorem areAd_ok (p : Option Addr) (n c : Nat) (zs : List Int) (w : World) (h : II w p n zs) : Calls Tryz.prog 344 #[.slice p n c] w fun e w' => e = .returned (.bool (decide (Ads zs))) ∧ w' = w := by
  have hbig := h.big
  have hlen := h.len
  go_enter Tryz.func344, Tryz.ntmps344
  go_wp2_with fail
  go_loopw [7] (fun i wr => ∃ j : Nat, j ≤ n ∧ i = .int .i64 (j : Int) ∧ Ads (zs.take j) ∧ wr = w) (fun i _ => n - (intOf i).toNat)
  case atStart => exact ⟨0, by omega, rfl, by simp [Ads], rfl⟩
  case round =>
    obtain ⟨j, hj, rfl, hA, rfl⟩ := hrel
    by_cases hlt : j < n
    · obtain ⟨b, o, rfl, hc⟩ := h.cells (by omega)
      have hcell := hc j hlt
      have hjI : (j : Int) < (n : Int) := by omega
      have hz : zs[j]? = some (zs.getD j 0) := by rw [List.getD_eq_getElem?_getD, List.getElem?_eq_getElem (by omega)]; rfl
      generalize zs.getD j 0 = z at *
      have HZ : Hid (zs[j]? = some z) := hz
      clear hz hc
      have hw := within_ok z 0 2047 wr
      by_cases hok : 0 ≤ z ∧ z ≤ 2047
      · rw [decide_eq_true hok] at hw
        have hA2 : Ads (zs.take (j + 1)) := by
          intro y hy
          rw [List.take_add_one, HZ.out] at hy
          rcases List.mem_append.1 hy with h' | h'
          · exact hA y h'
          · simp at h'
            subst h'
            exact hok
        clear hok
        go_wp2_with (first | (go_at_call 229; refine same_at hw ?_))
        go_roundw
        case rel =>
          exact ⟨j + 1, by omega, by go_num, hA2, by first | rfl | trivial⟩
        case measure => simp [intOf]; omega
      · rw [decide_eq_false hok] at hw
        have hno : ¬ Ads zs := fun k => hok (k z (List.mem_of_getElem? HZ.out))
        clear hok
        go_wp2_with (first | (go_at_call 229; refine same_at hw ?_))
        go_ret
        rw [decide_eq_false hno]
        exact ⟨rfl, rfl⟩
    · obtain rfl : j = n := by omega
      rw [List.take_of_length_le (by omega)] at hA
      go_wp2
      go_ret
      rw [decide_eq_true hA]
      exact ⟨rfl, rfl⟩

abbrev dinV (m l s a b c d i j : Int) : Value := .agg #[.int .i64 m, .int .i64 l, .int .i64 s, .int .i64 a, .int .i64 b, .int .i64 c, .int .i64 d, .int .i64 i, .int .i64 j]
abbrev dinO (m l s a b c d i j : Int) : Obj := .cells #[.int .i64 m, .int .i64 l, .int .i64 s, .int .i64 a, .int .i64 b, .int .i64 c, .int .i64 d, .int .i64 i, .int .i64 j] 146

/-- Four addresses that lie in an inode's block. -/
theorem din_ii {w : World} {x : Nat} {m l s a b c d i j : Int} (h : w.heap[x]? = some (dinO m l s a b c d i j)) : II w (some ⟨x, 3, none⟩) 4 [a, b, c, d] := by
  refine ⟨rfl, by decide, fun _ => ⟨x, 3, rfl, fun k hk => ?_⟩⟩
  rcases (by omega : k = 0 ∨ k = 1 ∨ k = 2 ∨ k = 3) with rfl | rfl | rfl | rfl <;> exact cell_row h _ _ rfl

/-- What files and directories have in common. -/
def UMay (l s a b c d i j : Int) : Prop := (0 ≤ l ∧ l ≤ 1000) ∧ (0 ≤ s ∧ s ≤ 532992) ∧ Ads [a, b, c, d] ∧ Ads [i, j]
instance (l s a b c d i j : Int) : Decidable (UMay l s a b c d i j) := by unfold UMay; infer_instance

theorem two_ii (w : World) (i j : Int) : II (w.alloc (.cells #[.int .i64 i, .int .i64 j] 3)) (some ⟨w.heap.size, 0, none⟩) 2 [i, j] := by
  refine ⟨rfl, by decide, fun _ => ⟨w.heap.size, 0, rfl, fun k hk => ?_⟩⟩
  rw [Nat.zero_add]
  rcases (by omega : k = 0 ∨ k = 1) with rfl | rfl
  · exact cell_row (heap_new w _) 0 _ rfl
  · exact cell_row (heap_new w _) 1 _ rfl

set_option maxHeartbeats 1000000 in
theorem usedMay_ok (m l s a b c d i j : Int) (w : World) : Calls Tryz.prog 377 #[dinV m l s a b c d i j] w fun e w' => e = .returned (.bool (decide (UMay l s a b c d i j))) ∧ Below w.heap.size w w' := by
  have HB := grew_alloc w (dinO m l s a b c d i j)
  have hx := heap_new w (dinO m l s a b c d i j)
  have q4 := areAd_ok _ 4 4 _ _ (din_ii hx)
  have hb2 := grew_alloc (w.alloc (dinO m l s a b c d i j)) (.cells #[.int .i64 i, .int .i64 j] 3)
  have q2 := areAd_ok _ 2 2 _ _ (two_ii (w.alloc (dinO m l s a b c d i j)) i j)
  rw [size_alloc] at q2
  by_cases h1 : 0 ≤ l ∧ l ≤ 1000
  · by_cases h2 : 0 ≤ s ∧ s ≤ 532992
    · by_cases h3 : Ads [a, b, c, d]
      · rw [decide_eq_true h3] at q4
        rw [show decide (UMay l s a b c d i j) = decide (Ads [i, j]) from decide_eq_decide.2 ⟨fun k => k.2.2.2, fun k => ⟨h1, h2, h3, k⟩⟩]
        clear h3
        go_enter Tryz.func377, Tryz.ntmps377
        go_wp2_with (first | (go_at_call 229; refine same_at (within_ok _ _ _ _) ?_))
        refine same_at q4 ?_
        go_wp2_with fail
        refine same_at q2 ?_
        go_wp2
        go_ret
        exact ⟨rfl, grew_trans HB hb2⟩
      · rw [decide_eq_false h3] at q4
        rw [show decide (UMay l s a b c d i j) = false from decide_eq_false (fun k => h3 k.2.2.1)]
        clear h3
        go_enter Tryz.func377, Tryz.ntmps377
        go_wp2_with (first | (go_at_call 229; refine same_at (within_ok _ _ _ _) ?_))
        refine same_at q4 ?_
        go_wp2
        go_ret
        exact ⟨rfl, HB⟩
    · rw [show decide (UMay l s a b c d i j) = false from decide_eq_false (fun k => h2 k.2.1)]
      go_enter Tryz.func377, Tryz.ntmps377
      go_wp2_with (first | (go_at_call 229; refine same_at (within_ok _ _ _ _) ?_))
      go_ret
      exact ⟨rfl, HB⟩
  · rw [show decide (UMay l s a b c d i j) = false from decide_eq_false (fun k => h1 k.1)]
    go_enter Tryz.func377, Tryz.ntmps377
    go_wp2_with (first | (go_at_call 229; refine same_at (within_ok _ _ _ _) ?_))
    go_ret
    exact ⟨rfl, HB⟩

set_option maxRecDepth 10000 in
set_option maxHeartbeats 1000000 in
theorem eq43 (a b c d e f g h : Int) (w : World) : (Op.equalIn 9999 144 (.agg #[.int .i64 a, .int .i64 b, .int .i64 c, .int .i64 d]) (.agg #[.int .i64 e, .int .i64 f, .int .i64 g, .int .i64 h])).run Tryz.prog w = .ok (a == e && b == f && c == g && d == h) w := by
  have u3 := Tryz.underlying3
  have a3 := Tryz.isAgg3
  have z3 := Tryz.sizeOf3
  rw [show (9999 : Nat) = 9998 + 1 from rfl, Op.equalIn]
  simp only [Sem.run_bind, run_underlying Tryz.underlying144, Result.andThen_ok]
  simp only [Std.Legacy.Range.forIn_eq_forIn_range', Std.Legacy.Range.size, Nat.sub_zero, Nat.add_sub_cancel, Nat.div_one, List.range'_succ, List.range'_zero, List.forIn_cons, List.forIn_nil]
  go_simp
  by_cases h1 : a = e <;> by_cases h2 : b = f <;> by_cases h3 : c = g <;> by_cases h4 : d = h <;> simp [h1, h2, h3, h4]

/-- Inodes compared. -/
theorem eq45 (m l s a b c d i j m' l' s' a' b' c' d' i' j' : Int) (w : World) : (Op.equalIn 10000 146 (.agg #[.int .i64 m, .int .i64 l, .int .i64 s, .int .i64 a, .int .i64 b, .int .i64 c, .int .i64 d, .int .i64 i, .int .i64 j]) (.agg #[.int .i64 m', .int .i64 l', .int .i64 s', .int .i64 a', .int .i64 b', .int .i64 c', .int .i64 d', .int .i64 i', .int .i64 j'])).run Tryz.prog w = .ok (decide (m = m' ∧ l = l' ∧ s = s' ∧ (a = a' ∧ b = b' ∧ c = c' ∧ d = d') ∧ i = i' ∧ j = j')) w := by
  have u3 := Tryz.underlying3
  have a3 := Tryz.isAgg3
  have z3 := Tryz.sizeOf3
  have q := eq43 a b c d a' b' c' d'
  have hS : Tryz.prog.underlying 146 = some (.struct (Tryz.prog.fieldsOf 146)) := by kernel_rfl
  have hp : Tryz.prog.stoodInHeld 146 = false := by kernel_rfl
  have hq : (a == a' && b == b' && c == c' && d == d') = decide (a = a' ∧ b = b' ∧ c = c' ∧ d = d') := by
    rw [Bool.eq_iff_iff]; simp; constructor
    · rintro ⟨⟨⟨h1, h2⟩, h3⟩, h4⟩; exact ⟨h1, h2, h3, h4⟩
    · rintro ⟨h1, h2, h3, h4⟩; exact ⟨⟨⟨h1, h2⟩, h3⟩, h4⟩
  rw [hq] at q
  clear hq
  rw [show (10000 : Nat) = 9999 + 1 from rfl, run_equalIn_agg w 9999 146 _ _ hS hp]
  simp only [Program.fieldsOf, Tryz.underlying146]
  by_cases hX : (a = a' ∧ b = b' ∧ c = c' ∧ d = d')
  · rw [decide_eq_true hX] at q
    rw [show decide (m = m' ∧ l = l' ∧ s = s' ∧ (a = a' ∧ b = b' ∧ c = c' ∧ d = d') ∧ i = i' ∧ j = j') = decide (m = m' ∧ l = l' ∧ s = s' ∧ i = i' ∧ j = j') from decide_eq_decide.2 ⟨fun k => ⟨k.1, k.2.1, k.2.2.1, k.2.2.2.2⟩, fun k => ⟨k.1, k.2.1, k.2.2.1, hX, k.2.2.2⟩⟩]
    clear hX
    go_simp
    by_cases h1 : m = m' <;> by_cases h2 : l = l' <;> by_cases h3 : s = s' <;> by_cases h4 : i = i' <;> by_cases h5 : j = j' <;> simp [h1, h2, h3, h4, h5]
  · rw [decide_eq_false hX] at q
    rw [show decide (m = m' ∧ l = l' ∧ s = s' ∧ (a = a' ∧ b = b' ∧ c = c' ∧ d = d') ∧ i = i' ∧ j = j') = false from decide_eq_false (fun k => hX k.2.2.2.1)]
    clear hX
    go_simp
theorem guard45 : Tryz.prog.eqGuardType Tryz.prog.depth 146 = false := by kernel_rfl

/-- Whether an inode may be. -/
def DMay (m l s a b c d i j : Int) : Prop := (m = 0 ∧ l = 0 ∧ s = 0 ∧ a = 0 ∧ b = 0 ∧ c = 0 ∧ d = 0 ∧ i = 0 ∧ j = 0) ∨ (m = 1 ∧ UMay l s a b c d i j) ∨ (m = 2 ∧ UMay l s a b c d i j ∧ s % 128 = 0)
instance (m l s a b c d i j : Int) : Decidable (DMay m l s a b c d i j) := by unfold DMay; infer_instance

theorem din_cells (w : World) (m l s a b c d i j : Int) : (w.alloc (dinO m l s a b c d i j)).cell? ⟨w.heap.size, 2, none⟩ = some (.int .i64 s) := cell_row (heap_new w _) 2 _ rfl

set_option maxRecDepth 10000 in
set_option maxHeartbeats 1000000 in
theorem dinodeMay_ok (m l s a b c d i j : Int) (w : World) : Calls Tryz.prog 339 #[dinV m l s a b c d i j] w fun e w' => e = .returned (.bool (decide (DMay m l s a b c d i j))) ∧ Below w.heap.size w w' := by
  have HB := grew_alloc w (dinO m l s a b c d i j)
  have c2 := din_cells w m l s a b c d i j
  have hu := fun w => usedMay_ok m l s a b c d i j w
  by_cases h0 : m = 0
  · subst h0
    rw [show decide (DMay 0 l s a b c d i j) = decide ((0 : Int) = 0 ∧ l = 0 ∧ s = 0 ∧ (a = 0 ∧ b = 0 ∧ c = 0 ∧ d = 0) ∧ i = 0 ∧ j = 0) from decide_eq_decide.2 (by unfold DMay; omega)]
    have hq := eq45 0 l s a b c d i j 0 0 0 0 0 0 0 0 0 (w.alloc (dinO 0 l s a b c d i j))
    go_enter Tryz.func339, Tryz.ntmps339
    go_wp2_with (refine wpList_eql_wanted (by rfl) 146 (.tmp 7) (.tmp 8) rfl _ _ rfl rfl guard45 _ hq ?_)
    go_ret
    exact ⟨rfl, HB⟩
  · by_cases h1 : m = 1
    · subst h1
      rw [show decide (DMay 1 l s a b c d i j) = decide (UMay l s a b c d i j) from decide_eq_decide.2 (by unfold DMay; constructor; rintro (h | h | h); omega; exact h.2; omega; exact fun h => .inr (.inl ⟨rfl, h⟩))]
      go_enter Tryz.func339, Tryz.ntmps339
      go_wp2_with (first | (go_at_call 377; refine grew_at (hu _) ?_; intro wn hbn; have HB := grew_trans HB hbn))
      go_ret
      exact ⟨rfl, HB⟩
    · by_cases h2 : m = 2
      · subst h2
        by_cases hU : UMay l s a b c d i j
        · rw [decide_eq_true hU] at hu
          have hs := hU.2.1
          rw [show decide (DMay 2 l s a b c d i j) = decide (s % 128 = 0) from decide_eq_decide.2 (by unfold DMay; constructor; rintro (h | h | h); omega; omega; exact h.2.2; exact fun h => .inr (.inr ⟨rfl, hU, h⟩))]
          clear hU
          go_enter Tryz.func339, Tryz.ntmps339
          go_wp2_with (first | (go_at_call 377; refine grew_at (hu _) ?_; intro wn hbn; have HB := grew_trans HB hbn; have c2 := cell_kept c2 hbn))
          go_ret
          refine ⟨?_, HB⟩
          rw [show decide (s % 128 = 0) = (s % 128 == 0) from rfl]
          rfl
        · rw [decide_eq_false hU] at hu
          rw [show decide (DMay 2 l s a b c d i j) = false from decide_eq_false (by unfold DMay; rintro (h | h | h); omega; omega; exact hU h.2.1)]
          clear hU
          go_enter Tryz.func339, Tryz.ntmps339
          go_wp2_with (first | (go_at_call 377; refine grew_at (hu _) ?_; intro wn hbn; have HB := grew_trans HB hbn; have c2 := cell_kept c2 hbn))
          go_ret
          exact ⟨rfl, HB⟩
      · rw [show decide (DMay m l s a b c d i j) = false from decide_eq_false (by unfold DMay; rintro (h | h | h) <;> omega)]
        go_enter Tryz.func339, Tryz.ntmps339
        go_wp2
        go_ret
        exact ⟨rfl, HB⟩
end Go.Proofs.YtomkhipdcjnkhaaGreat.Mk
