/- KDGroup KGForm KGDec A0 -/
import Derived.Test.YthdlpeejmmobmaaGreatYG19
import Derived.Test.YthdlpeejmmobmaaGreatYG18

namespace Go.Proofs.YthdlpeejmmobmaaGreat.Mk
open Go.RowKit
set_option maxRecDepth 100000
set_option linter.unusedVariables false
theorem zero38 : groupA 0 (zers 40) = #[.int .i64 0, .int .u8 0, .int .u8 0, .int .u8 0, .int .u8 0, .int .u8 0, .int .u8 0, .int .u8 0, .int .u8 0, .int .u8 0, .int .u8 0, .int .u8 0, .int .u8 0, .int .u8 0, .int .u8 0, .int .u8 0, .int .u8 0, .int .u8 0, .int .u8 0, .int .u8 0, .int .u8 0, .int .u8 0, .int .u8 0, .int .u8 0, .int .u8 0, .int .u8 0, .int .u8 0, .int .u8 0, .int .u8 0, .int .u8 0, .int .u8 0, .int .u8 0, .int .u8 0, .int .u8 0, .int .u8 0, .int .u8 0, .int .u8 0, .int .u8 0, .int .u8 0, .int .u8 0, .int .u8 0] := rfl
theorem info38 (N : Int) (ys : List Int) (hl : ys.length = 40) : (Tryz.prog.info? 64).map (·.size) = some (groupA N ys).size := by
 rw [groupA_size N ys hl]; kernel_rfl
theorem group_one (N : Int) (ys : List Int) : (groupA N ys).all (·.oneCell') = true := by
 simp [groupA, Value.oneCell']
theorem byteCells_nums {zs : List Int} (h : Num.Byt zs) : Lib.byteCells (strOfNums zs).data.toList = zs.map (Value.int .u8) := by
 rw [strOfNums_data]
 unfold Lib.byteCells
 rw [List.map_map]
 apply List.map_congr_left
 intro x hx
 have := byt_mem h x hx
 simp
 omega
theorem groupA_splice (N : Int) (ys zs : List Int) (i : Nat) (hf : i + zs.length ≤ ys.length) : (((groupA N ys).toList.take (i + 1)) ++ zs.map (Value.int .u8) ++ (groupA N ys).toList.drop (i + 1 + zs.length)).toArray = groupA N (splice ys i zs) := by
 unfold groupA splice
 rw [show i + 1 + zs.length = (i + zs.length) + 1 by omega]
 simp [List.map_take, List.map_drop]
theorem group_copy {w : World} {b : Nat} {N : Int} {ys zs : List Int} (h : w.heap[b]? = some (groupO N ys)) (hl : ys.length = 40) (hz : Num.Byt zs) (i : Nat) (hf : i + zs.length ≤ 40) (ty : TypeId) :
  (Builtin.copy_ #[42, 9] ty #[.slice (some ⟨b, i + 1, none⟩) zs.length zs.length, .string (strOfNums zs)]).run Tryz.prog w = .ok (goInt zs.length) (w.setRow b (groupA N (splice ys i zs))) := by
 have hs := strOfNums_size zs
 have hr := Lib.run_copy_row_string (P := Tryz.prog) w 42 9 ty 5 b (i + 1) zs.length zs.length (strOfNums zs) _ 64 Tryz.underlying42 size5 h (by omega) (by rw [groupA_size N ys hl]; omega)
 rw [hr, byteCells_nums hz, hs, groupA_splice N ys zs i (by omega)]
theorem groupA_set (N M : Int) (ys : List Int) : (groupA N ys).setIfInBounds 0 (.int .i64 M) = groupA M ys := by
 simp [groupA]
theorem read_bytes (xs : List Int) (hl : xs.length = 128) : splice (splice (zers 40) 0 ((xs.drop 4).take 8)) 8 ((xs.drop 12).take 32) = (xs.drop 4).take 40 := by
 have h8 : ((xs.drop 4).take 8).length = 8 := by simp; omega
 have h32 : ((xs.drop 12).take 32).length = 32 := by simp; omega
 have h1 : (splice (zers 40) 0 ((xs.drop 4).take 8)).length = 40 := by rw [splice_len _ _ _ (by rw [h8, zers_len]; decide), zers_len]
 apply ext_getD
 ·rw [splice_len _ _ _ (by omega), h1]; simp; omega
 intro i hi
 rw [splice_len _ _ _ (by omega), h1] at hi
 rw [getD_splice _ _ _ (by omega), getD_splice _ _ _ (by rw [h8, zers_len]; decide), h8, h32, getD_take _ 40 _ hi, getD_drop']
 by_cases c : i < 8
 ·rw [if_pos c, if_neg (by omega), if_pos (by omega), getD_take _ _ _ (by omega), getD_drop']
  congr 1
 ·rw [if_neg c, if_pos (by omega), getD_take _ _ _ (by omega), getD_drop']
  congr 1
  omega
structure GR (w w' : World) (rb n : Nat) (xs : List Int) (N : Int) (ys : List Int) : Prop where
 r : Rest w' rb n xs 0
 s : w'.heap[w.heap.size + 1]? = some (groupO N ys)
 z : w'.heap[w.heap.size]? = some (groupO 0 (zers 40))
 lo : w.heap.size + 2 ≤ rb
 bw : Below w.heap.size w w'
 yl : ys.length = 40
theorem GR.grown {w w' w2 : World} {rb n m : Nat} {xs zs ys : List Int} {N : Int} (h : GR w w' rb n xs N ys) (hg : w'.grownBy w2 (some rb)) (hr : Rest w2 rb m zs 0) : GR w w2 rb m zs N ys := by
 have hl := h.lo
 exact ⟨hr, grown_cells hg h.s (by omega), grown_cells hg h.z (by omega), h.lo, h.bw.grown hg h.bw.size (by intro k hk; cases hk; omega), h.yl⟩
theorem GR.turn {w w' w2 : World} {rb n : Nat} {xs ys ys' : List Int} {N N' : Int} (h : GR w w' rb n xs N ys) (hn : 41 < n) (hs : w2.heap[w.heap.size + 1]? = some (groupO N' ys')) (ho : ∀ k, k ≠ w.heap.size + 1 → w2.heap[k]? = w'.heap[k]?) (hb : Below w.heap.size w w2) (hl : ys'.length = 40) : GR w w2 rb n xs N' ys' := by
 have hlo := h.lo
 exact ⟨rest_at h.r (ho _ (by omega)) (fun b o hb hn' => ho _ (bi_ne_size hb h.s (by rw [groupA_size _ _ h.yl]; exact hn))), hs, (ho _ (by omega)).trans h.z, h.lo, hb, hl⟩
theorem GR.num {w w' : World} {rb n : Nat} {xs ys : List Int} {N : Int} (h : GR w w' rb n xs N ys) (hn : 41 < n) (M : Int) : GR w (w'.setCell ⟨w.heap.size + 1, 0, none⟩ (.int .i64 M)) rb n xs M ys :=
 h.turn hn (by rw [heap_set h.s, groupA_set]) (fun k hk => Below.heap_setCell _ _ _ _ hk) (h.bw.setCell (by show w.heap.size ≤ w.heap.size + 1; omega) _) h.yl
theorem GR.row {w w' : World} {rb n : Nat} {xs ys : List Int} {N : Int} (h : GR w w' rb n xs N ys) (hn : 41 < n) (ys' : List Int) (hl : ys'.length = 40) : GR w (w'.setRow (w.heap.size + 1) (groupA N ys')) rb n xs N ys' :=
 h.turn hn (setRow_heap _ _ _ _ _ _ h.s) (fun k hk => setRow_other _ _ _ _ hk) (below_setRow h.bw (by omega) _) hl
set_option maxRecDepth 10000 in
set_option maxHeartbeats 1000000 in
theorem readGroup_ok (p : Option Addr) (c : Nat) (xs : List Int) (w : World) (h : BI w p 128 xs) :
  Calls Tryz.prog 142 #[.slice p 128 c] w fun e w' => e = .returned (groupV (Num.numD xs 2 1) ((xs.drop 4).take 40)) ∧ Below w.heap.size w w' := by
 have hxl := h.len
 have hxb := h.byt
 generalize hv : Num.numD xs 2 1 = v
 have HV : Hid (Num.numD xs 2 1 = v) := hv
 clear hv
 go_enter Tryz.func142, Tryz.ntmps142
 go_wp2_with fail
 rw [← zero38]
 have hb0 := (grew_alloc w (groupO 0 (zers 40))).trans ((grew_alloc (w.alloc (groupO 0 (zers 40))) (groupO 0 (zers 40))).mono (by rw [size_alloc]; omega))
 refine Calls.mono (over_ok _ p 128 c xs (h.kept hb0)) ?_
 rintro e w1 ⟨rb, rfl, hlo, hr, hb1⟩
 have h1 : GR w w1 rb 128 xs 0 (zers 40) := by
  simp only [size_alloc] at hlo hb1
  refine ⟨hr, ?_, ?_, by omega, hb0.trans (hb1.mono (by omega)), zers_len 40⟩
  ·rw [hb1.block _ (by omega)]
   have := heap_new (w.alloc (groupO 0 (zers 40))) (groupO 0 (zers 40))
   rwa [size_alloc] at this
  ·rw [hb1.block _ (by omega), Below.heap_alloc _ _ _ (by rw [size_alloc]; omega)]
   exact heap_new _ _
 clear hr hb1 hlo hb0
 go_wp2_with fail
 refine Calls.mono (skip_yes _ rb 128 2 _ h1.r (by omega)) ?_
 rintro e w2 ⟨rfl, hg, hr⟩
 have h2 := h1.grown hg hr
 clear h1 hg hr
 have t2 := take_yes _ rb _ 1 _ h2.r (by omega) (by omega) (by omega)
 rw [show Num.numD (xs.drop 2) 0 1 = v from (numD_drop xs 2 1 0).trans HV.out] at t2
 go_wp2_with fail
 refine Calls.mono t2 ?_
 rintro e w3 ⟨rfl, hg, hr⟩
 have h3 := h2.grown hg hr
 clear h2 hg hr t2
 have f3 := frozen_of_row _ _ 0 _ _ h3.s
 have c3 := cell_row h3.s 0 _ (groupA_zero 0 (zers 40))
 have h4 := h3.num (by decide) v
 go_wp2_with fail
 generalize w3.setCell ⟨w.heap.size + 1, 0, none⟩ (.int .i64 v) = w4 at *
 refine Calls.mono (skip_yes _ rb _ 1 _ h4.r (by omega)) ?_
 rintro e w5 ⟨rfl, hg, hr⟩
 have h5 := h4.grown hg hr
 clear h3 h4 hg hr f3 c3
 simp only [List.drop_drop] at h5
 have h5 : GR w w5 rb 124 (xs.drop 4) v (zers 40) := h5
 have h5 := h5.grown (w2 := w5.drew) ⟨rfl, rfl, rfl, Nat.le_refl _, fun _ _ _ => rfl⟩ (rest_at h5.r rfl (fun _ _ _ _ => rfl))
 have t5 := text_yes _ rb 124 8 _ h5.r (by omega)
 go_wp2_with fail
 go_region_held3 (fun _ => True) (trivial)
  (first
   | (go_at_call 229; refine Calls.mono t5 ?_; rintro e w6 ⟨rfl, hg, hr⟩; have h6 := h5.grown hg hr; have hz8 : ((xs.drop 4).take 8).length = 8 := (by simp; omega); have hr6 := group_copy h6.s h6.yl (byt_take (byt_drop hxb 4) 8) 0 (by omega) 3; rw [hz8] at hr6))
 have h7 := h6.row (by decide) (splice (zers 40) 0 ((xs.drop 4).take 8)) (by rw [splice_len _ _ _ (by rw [hz8, zers_len]; decide), zers_len])
 clear t5 hg hr hr6 h6 h5
 generalize w6.setRow (w.heap.size + 1) (groupA v (splice (zers 40) 0 ((xs.drop 4).take 8))) = w7 at *
 have h7 : GR w w7 rb 116 (xs.drop 12) v (splice (zers 40) 0 ((xs.drop 4).take 8)) := by
  rw [List.drop_drop] at h7
  exact h7
 have h7 := h7.grown (w2 := w7.drew) ⟨rfl, rfl, rfl, Nat.le_refl _, fun _ _ _ => rfl⟩ (rest_at h7.r rfl (fun _ _ _ _ => rfl))
 have t7 := text_yes _ rb 116 32 _ h7.r (by omega)
 go_wp2_with fail
 go_region_held3 (fun _ => True) (trivial)
  (first
   | (go_at_call 229; refine Calls.mono t7 ?_; rintro e w8 ⟨rfl, hg, hr⟩; have h8 := h7.grown hg hr; have hz32 : ((xs.drop 12).take 32).length = 32 := (by simp; omega); have hr8 := group_copy h8.s h8.yl (byt_take (byt_drop hxb 12) 32) 8 (by omega) 3; rw [hz32] at hr8))
 have h9 := h8.row (by decide) (splice (splice (zers 40) 0 ((xs.drop 4).take 8)) 8 ((xs.drop 12).take 32)) (by rw [splice_len _ _ _ (by rw [hz32, h8.yl]; decide), h8.yl])
 clear t7 hg hr hr8 h8 h7
 rw [read_bytes xs hxl] at h9 ⊢
 generalize w8.setRow (w.heap.size + 1) (groupA v ((xs.drop 4).take 40)) = w9 at *
 have hs9 := h9.s
 have hz9 := h9.z
 have hi9 := info38 v ((xs.drop 4).take 40) h9.yl
 have hsz := (groupA_size 0 (zers 40) (zers_len 40)).trans (groupA_size v ((xs.drop 4).take 40) h9.yl).symm
 have hbw := h9.bw
 clear h9
 go_wp2_with (first
  | (refine wpList_load_row rfl 64 _ rfl (w.heap.size + 1) rfl 64 _ (0, 0) _ hs9 Tryz.underlying64 rfl hi9 ?_)
  | (refine wpList_store_row rfl 64 _ _ rfl w.heap.size _ rfl rfl 64 _ hz9 hi9 hsz (group_one _ _) ?_))
 refine bodyPost_ret (v := groupV v ((xs.drop 4).take 40)) (results_cell_row (p := 2) (ty := 64) Tryz.results142 _ _ w.heap.size 64 _ (0, 0) _ rfl (setRow_heap _ _ _ _ _ _ hz9) Tryz.underlying64 rfl hi9) rfl ?_
 exact ⟨rfl, below_setRow hbw (by omega) _⟩
end Go.Proofs.YthdlpeejmmobmaaGreat.Mk

namespace Go.Proofs.YthdlpeejmmobmaaGreat.Mk
open Go.RowKit
set_option maxRecDepth 100000
set_option linter.unusedVariables false
theorem encodeGroup_yes1 (N : Int) (ys : List Int) (hl : ys.length = 40) (hy : Num.Byt ys) (h : GMay N) (w : World) : Calls Tryz.prog 143 #[groupV N ys] w fun e w' => ∃ g cap, e = .returned (.tuple #[.slice (some ⟨g, 0, none⟩) 128 cap, .int .i64 0]) ∧ Own w.heap.size w' g 128 cap (groupL N ys) ∧ Below w.heap.size w w' :=
 (encodeGroup_yes N ys hl hy h w).mono fun e w' ⟨g, he, ho, hb⟩ => ⟨g, 128, he, ho, hb⟩
theorem call15 (args : Array Value) (w : World) : (callFunc 143 args).run Tryz.prog w = .ok (.enter 143 args) w := by kernel_rfl
def GGood (xs : List Int) (N : Int) (ys : List Int) : Prop := GMay N ∧ groupL N ys = xs
instance (xs : List Int) (N : Int) (ys : List Int) : Decidable (GGood xs N ys) := by unfold GGood; infer_instance
set_option maxRecDepth 10000 in
set_option maxHeartbeats 1000000 in
theorem gform_yes (N : Int) (ys : List Int) (hl : ys.length = 40) (hy : Num.Byt ys) (p : Option Addr) (n cc : Nat) (xs : List Int) (w : World) (h : BI w p n xs) (hm : GMay N) (he : groupL N ys = xs) :
  Calls Tryz.prog 141 #[groupV N ys, .slice p n cc, .func (.func 143) #[] #[]] w fun e w' => e = .returned (.tuple #[groupV N ys, .int .i64 0]) ∧ Below w.heap.size w w' := by
 have hc9 := call15
 have HB := (grew_alloc w (groupO N ys)).trans ((grew_alloc (w.alloc (groupO N ys)) (groupO 0 (zers 40))).mono (by rw [size_alloc]; omega))
 have hx0 : ((w.alloc (groupO N ys)).alloc (groupO 0 (zers 40))).heap[w.heap.size]? = some (groupO N ys) := by rw [Below.heap_alloc _ _ _ (by rw [size_alloc]; omega)]; exact heap_new _ _
 have hr0 : ((w.alloc (groupO N ys)).alloc (groupO 0 (zers 40))).heap[w.heap.size + 1]? = some (groupO 0 (zers 40)) := by
  have := heap_new (w.alloc (groupO N ys)) (groupO 0 (zers 40))
  rwa [size_alloc] at this
 have hsz : ((w.alloc (groupO N ys)).alloc (groupO 0 (zers 40))).heap.size = w.heap.size + 2 := by rw [size_alloc, size_alloc]
 have h0 : BI ((w.alloc (groupO N ys)).alloc (groupO 0 (zers 40))) p n xs := h.kept HB
 have hx0' := hx0
 dsimp only [groupO] at hx0'
 rw [zero38] at hx0'
 go_enter Tryz.func141, Tryz.ntmps141
 go_wp2_with (refine wpList_load_row rfl 64 _ rfl w.heap.size rfl 64 _ (0, 0) _ hx0' Tryz.underlying64 rfl (info38 N ys hl) ?_)
 rw [← zero38]
 clear hx0'
 generalize (w.alloc (groupO N ys)).alloc (groupO 0 (zers 40)) = w0 at *
 refine Calls.mono (encodeGroup_yes1 N ys hl hy hm _) ?_
 rintro e w1 ⟨g, cap, rfl, ho, hb1⟩
 have hx1 : w1.heap[w.heap.size]? = some (groupO N ys) := by rw [hb1.block _ (by omega)]; exact hx0
 have hr1 : w1.heap[w.heap.size + 1]? = some (groupO 0 (zers 40)) := by rw [hb1.block _ (by omega)]; exact hr0
 have hq := equal_any _ p 128 cap n cc _ xs w1 (ho.bi (by omega) (groupL_byt N ys hy)) (h0.kept hb1)
 have HB1 := grew_trans HB hb1
 have heq : (groupL N ys == xs) = true := by rw [beq_iff_eq]; exact he
 rw [heq] at hq
 clear hx0 hr0 hsz ho h0 heq he h
 go_wp2_with (first
  | (go_at_call 86; refine same_at hq ?_)
  | (refine wpList_load_row rfl 64 _ rfl w.heap.size rfl 64 _ (0, 0) _ hx1 Tryz.underlying64 rfl (info38 N ys hl) ?_)
  | (refine wpList_store_row rfl 64 _ _ rfl (w.heap.size + 1) _ rfl rfl 64 _ hr1 (info38 N ys hl) ((groupA_size 0 (zers 40) (zers_len 40)).trans (groupA_size N ys hl).symm) (group_one N ys) ?_))
 refine bodyPost_ret (v := .tuple #[groupV N ys, .int .i64 0]) (results_cell_tmp_row (p := 6) (u := 7) (ty := 64) Tryz.results141 _ _ (w.heap.size + 1) 64 _ (0, 0) _ rfl (setRow_heap _ _ _ _ _ _ hr1) Tryz.underlying64 rfl (info38 N ys hl)) rfl ?_
 exact ⟨rfl, below_setRow HB1 (by omega) _⟩
set_option maxRecDepth 10000 in
set_option maxHeartbeats 1000000 in
theorem gform_bad (N : Int) (ys : List Int) (hl : ys.length = 40) (hy : Num.Byt ys) (p : Option Addr) (n cc : Nat) (xs : List Int) (w : World) (h : BI w p n xs) (hm : GMay N) (he : ¬ groupL N ys = xs) :
  Calls Tryz.prog 141 #[groupV N ys, .slice p n cc, .func (.func 143) #[] #[]] w fun e w' => e = .returned (.tuple #[groupV 0 (zers 40), .int .i64 6]) ∧ Below w.heap.size w w' := by
 have hc9 := call15
 have HB := (grew_alloc w (groupO N ys)).trans ((grew_alloc (w.alloc (groupO N ys)) (groupO 0 (zers 40))).mono (by rw [size_alloc]; omega))
 have hx0 : ((w.alloc (groupO N ys)).alloc (groupO 0 (zers 40))).heap[w.heap.size]? = some (groupO N ys) := by rw [Below.heap_alloc _ _ _ (by rw [size_alloc]; omega)]; exact heap_new _ _
 have hr0 : ((w.alloc (groupO N ys)).alloc (groupO 0 (zers 40))).heap[w.heap.size + 1]? = some (groupO 0 (zers 40)) := by
  have := heap_new (w.alloc (groupO N ys)) (groupO 0 (zers 40))
  rwa [size_alloc] at this
 have hsz : ((w.alloc (groupO N ys)).alloc (groupO 0 (zers 40))).heap.size = w.heap.size + 2 := by rw [size_alloc, size_alloc]
 have h0 : BI ((w.alloc (groupO N ys)).alloc (groupO 0 (zers 40))) p n xs := h.kept HB
 have hx0' := hx0
 dsimp only [groupO] at hx0'
 rw [zero38] at hx0'
 go_enter Tryz.func141, Tryz.ntmps141
 go_wp2_with (refine wpList_load_row rfl 64 _ rfl w.heap.size rfl 64 _ (0, 0) _ hx0' Tryz.underlying64 rfl (info38 N ys hl) ?_)
 rw [← zero38]
 clear hx0'
 generalize (w.alloc (groupO N ys)).alloc (groupO 0 (zers 40)) = w0 at *
 refine Calls.mono (encodeGroup_yes1 N ys hl hy hm _) ?_
 rintro e w1 ⟨g, cap, rfl, ho, hb1⟩
 have hx1 : w1.heap[w.heap.size]? = some (groupO N ys) := by rw [hb1.block _ (by omega)]; exact hx0
 have hr1 : w1.heap[w.heap.size + 1]? = some (groupO 0 (zers 40)) := by rw [hb1.block _ (by omega)]; exact hr0
 have hq := equal_any _ p 128 cap n cc _ xs w1 (ho.bi (by omega) (groupL_byt N ys hy)) (h0.kept hb1)
 have HB1 := grew_trans HB hb1
 have heq : (groupL N ys == xs) = false := by rw [beq_eq_false_iff_ne]; exact he
 rw [heq] at hq
 have hr2 : (w1.alloc (groupO 0 (zers 40))).heap[w.heap.size + 1]? = some (groupO 0 (zers 40)) := at_old hr1
 have hr3 := hr2
 dsimp only [groupO] at hr3
 rw [zero38] at hr3
 clear hx0 hr0 hsz ho h0 heq he h
 go_wp2_with (first
  | (go_at_call 86; refine same_at hq ?_)
  | (refine wpList_load_row rfl 64 _ rfl w1.heap.size rfl 64 _ (0, 0) _ (heap_new w1 _) Tryz.underlying64 rfl (by rw [← zero38]; exact info38 0 (zers 40) (zers_len 40)) ?_)
  | (refine wpList_store_row rfl 64 _ _ rfl (w.heap.size + 1) _ rfl rfl 64 _ hr3 (by rw [← zero38]; exact info38 0 (zers 40) (zers_len 40)) rfl (by rw [← zero38]; exact group_one 0 (zers 40)) ?_))
 rw [← zero38]
 refine bodyPost_ret (v := .tuple #[groupV 0 (zers 40), .int .i64 6]) (results_cell_tmp_row (p := 6) (u := 7) (ty := 64) Tryz.results141 _ _ (w.heap.size + 1) 64 _ (0, 0) _ rfl (setRow_heap _ _ _ _ _ _ hr2) Tryz.underlying64 rfl (info38 0 (zers 40) (zers_len 40))) rfl ?_
 exact ⟨rfl, below_setRow (HB1.alloc HB1.size _) (by omega) _⟩
set_option maxRecDepth 10000 in
set_option maxHeartbeats 1000000 in
theorem gform_no (N : Int) (ys : List Int) (hl : ys.length = 40) (hy : Num.Byt ys) (p : Option Addr) (n cc : Nat) (xs : List Int) (w : World) (h : BI w p n xs) (hm : ¬ GMay N) :
  Calls Tryz.prog 141 #[groupV N ys, .slice p n cc, .func (.func 143) #[] #[]] w fun e w' => e = .returned (.tuple #[groupV 0 (zers 40), .int .i64 6]) ∧ Below w.heap.size w w' := by
 have hc9 := call15
 have HB := (grew_alloc w (groupO N ys)).trans ((grew_alloc (w.alloc (groupO N ys)) (groupO 0 (zers 40))).mono (by rw [size_alloc]; omega))
 have hx0 : ((w.alloc (groupO N ys)).alloc (groupO 0 (zers 40))).heap[w.heap.size]? = some (groupO N ys) := by rw [Below.heap_alloc _ _ _ (by rw [size_alloc]; omega)]; exact heap_new _ _
 have hr0 : ((w.alloc (groupO N ys)).alloc (groupO 0 (zers 40))).heap[w.heap.size + 1]? = some (groupO 0 (zers 40)) := by
  have := heap_new (w.alloc (groupO N ys)) (groupO 0 (zers 40))
  rwa [size_alloc] at this
 have hsz : ((w.alloc (groupO N ys)).alloc (groupO 0 (zers 40))).heap.size = w.heap.size + 2 := by rw [size_alloc, size_alloc]
 have hx0' := hx0
 dsimp only [groupO] at hx0'
 rw [zero38] at hx0'
 go_enter Tryz.func141, Tryz.ntmps141
 go_wp2_with (refine wpList_load_row rfl 64 _ rfl w.heap.size rfl 64 _ (0, 0) _ hx0' Tryz.underlying64 rfl (info38 N ys hl) ?_)
 rw [← zero38]
 clear hx0'
 generalize (w.alloc (groupO N ys)).alloc (groupO 0 (zers 40)) = w0 at *
 refine grew_at (encodeGroup_no N ys hl hm _) ?_
 intro w1 hb1
 have hr1 : w1.heap[w.heap.size + 1]? = some (groupO 0 (zers 40)) := by rw [hb1.block _ (by omega)]; exact hr0
 have HB1 := grew_trans HB hb1
 have hr2 : (w1.alloc (groupO 0 (zers 40))).heap[w.heap.size + 1]? = some (groupO 0 (zers 40)) := at_old hr1
 have hr3 := hr2
 dsimp only [groupO] at hr3
 rw [zero38] at hr3
 clear hx0 hr0 hsz h
 go_wp2_with (first
  | (refine wpList_load_row rfl 64 _ rfl w1.heap.size rfl 64 _ (0, 0) _ (heap_new w1 _) Tryz.underlying64 rfl (by rw [← zero38]; exact info38 0 (zers 40) (zers_len 40)) ?_)
  | (refine wpList_store_row rfl 64 _ _ rfl (w.heap.size + 1) _ rfl rfl 64 _ hr3 (by rw [← zero38]; exact info38 0 (zers 40) (zers_len 40)) rfl (by rw [← zero38]; exact group_one 0 (zers 40)) ?_))
 rw [← zero38]
 refine bodyPost_ret (v := .tuple #[groupV 0 (zers 40), .int .i64 6]) (results_cell_tmp_row (p := 6) (u := 7) (ty := 64) Tryz.results141 _ _ (w.heap.size + 1) 64 _ (0, 0) _ rfl (setRow_heap _ _ _ _ _ _ hr2) Tryz.underlying64 rfl (info38 0 (zers 40) (zers_len 40))) rfl ?_
 exact ⟨rfl, below_setRow (HB1.alloc HB1.size _) (by omega) _⟩
theorem gform_ok (N : Int) (ys : List Int) (hl : ys.length = 40) (hy : Num.Byt ys) (p : Option Addr) (n cc : Nat) (xs : List Int) (w : World) (h : BI w p n xs) :
  Calls Tryz.prog 141 #[groupV N ys, .slice p n cc, .func (.func 143) #[] #[]] w fun e w' => e = .returned (if GGood xs N ys then .tuple #[groupV N ys, .int .i64 0] else .tuple #[groupV 0 (zers 40), .int .i64 6]) ∧ Below w.heap.size w w' := by
 by_cases hm : GMay N
 ·by_cases he : groupL N ys = xs
  ·rw [if_pos ⟨hm, he⟩]
   exact gform_yes N ys hl hy p n cc xs w h hm he
  ·rw [if_neg (fun k => he k.2)]
   exact gform_bad N ys hl hy p n cc xs w h hm he
 ·rw [if_neg (fun k => hm k.1)]
  exact gform_no N ys hl hy p n cc xs w h hm
end Go.Proofs.YthdlpeejmmobmaaGreat.Mk

namespace Go.Proofs.YthdlpeejmmobmaaGreat.Mk
open Go.RowKit
set_option maxRecDepth 100000
set_option linter.unusedVariables false
def rN (xs : List Int) : Int := Num.numD xs 2 1
def rY (xs : List Int) : List Int := (xs.drop 4).take 40
def gdE (n : Nat) (xs : List Int) : Int := if n ≠ 128 then 6 else if ¬ xs.take 2 = [104, 100] then 31 else if GGood xs (rN xs) (rY xs) then 0 else 6
def gdN (n : Nat) (xs : List Int) : Int := if gdE n xs = 0 then rN xs else 0
def gdY (n : Nat) (xs : List Int) : List Int := if gdE n xs = 0 then rY xs else zers 40
set_option maxRecDepth 10000 in
set_option maxHeartbeats 1000000 in
theorem decodeGroup_len (p : Option Addr) (n c : Nat) (w : World) (hn : n ≤ 140737488355328) (h1 : ¬ n = 128) :
  Calls Tryz.prog 74 #[.slice p n c] w fun e w' => e = .returned (.tuple #[groupV 0 (zers 40), .int .i64 6]) ∧ Below w.heap.size w w' := by
 have HB := grew_alloc w (groupO 0 (zers 40))
 have hr0 := heap_new w (groupO 0 (zers 40))
 have hr1 := hr0
 dsimp only [groupO] at hr1
 rw [zero38] at hr1
 have hI : ¬ (n : Int) = 128 := by omega
 go_enter Tryz.func74, Tryz.ntmps74
 go_wp2_with (refine wpList_store_row rfl 64 _ _ rfl w.heap.size _ rfl rfl 64 _ hr1 (by rw [← zero38]; exact info38 0 (zers 40) (zers_len 40)) (by rw [← zero38]) (by rw [← zero38]; exact group_one 0 (zers 40)) ?_)
 rw [← zero38]
 refine bodyPost_ret (v := .tuple #[groupV 0 (zers 40), .int .i64 6]) (results_cell_tmp_row (p := 2) (u := 3) (ty := 64) Tryz.results74 _ _ w.heap.size 64 _ (0, 0) _ rfl (setRow_heap _ _ _ _ _ _ hr0) Tryz.underlying64 rfl (info38 0 (zers 40) (zers_len 40))) rfl ?_
 exact ⟨rfl, below_setRow HB (by omega) _⟩
set_option maxRecDepth 10000 in
set_option maxHeartbeats 1000000 in
theorem decodeGroup_magic (p : Option Addr) (c : Nat) (xs : List Int) (w : World) (h : BI w p 128 xs) (hnc : 128 ≤ c) (h2 : ¬ xs.take 2 = [104, 100]) :
  Calls Tryz.prog 74 #[.slice p 128 c] w fun e w' => e = .returned (.tuple #[groupV 0 (zers 40), .int .i64 31]) ∧ Below w.heap.size w w' := by
 have HB := grew_alloc w (groupO 0 (zers 40))
 have hr0 := heap_new w (groupO 0 (zers 40))
 have h0 : BI (w.alloc (groupO 0 (zers 40))) p 128 xs := h.kept HB
 obtain ⟨wl, hcv, hl, hbl⟩ := conv_lit (w.alloc (groupO 0 (zers 40))) [104, 100]
 have hrl : wl.heap[w.heap.size]? = some (groupO 0 (zers 40)) := by rw [hbl.block _ (by rw [size_alloc]; omega)]; exact hr0
 have hrl' := hrl
 dsimp only [groupO] at hrl'
 rw [zero38] at hrl'
 have hbi := hl.bi (Num.byt_of_wf (by decide)) (by decide)
 have hxl := h0.kept hbl
 have HBl := grew_trans HB hbl
 have hcv' : (convert 42 42 (.slice (some ⟨w.heap.size + 1, 0, none⟩) 2 2)).run Tryz.prog ((w.alloc (groupO 0 (zers 40))).alloc (.cells #[.int .u8 104, .int .u8 100] 5)) = .ok (.slice (some ⟨w.heap.size + 1, 0, none⟩) 2 2) wl := by
  have := hcv 2 2
  rw [size_alloc] at this
  exact this
 dsimp only [groupO] at hcv'
 rw [zero38] at hcv'
 rw [size_alloc] at hbi
 have hpre := hasPrefix_ok p _ 128 c 2 2 xs _ wl hxl hbi hnc
 clear hcv hl hbl h0 hr0
 rw [show decide (2 ≤ 128 ∧ xs.take 2 = [104, 100]) = false from decide_eq_false (fun k => h2 k.2)] at hpre
 go_enter Tryz.func74, Tryz.ntmps74
 go_wp2_with (first
  | (go_at_call 140; refine same_at hpre ?_)
  | (refine wpList_store_row rfl 64 _ _ rfl w.heap.size _ rfl rfl 64 _ hrl' (by rw [← zero38]; exact info38 0 (zers 40) (zers_len 40)) (by rw [← zero38]) (by rw [← zero38]; exact group_one 0 (zers 40)) ?_))
 rw [← zero38]
 refine bodyPost_ret (v := .tuple #[groupV 0 (zers 40), .int .i64 31]) (results_cell_tmp_row (p := 2) (u := 3) (ty := 64) Tryz.results74 _ _ w.heap.size 64 _ (0, 0) _ rfl (setRow_heap _ _ _ _ _ _ hrl) Tryz.underlying64 rfl (info38 0 (zers 40) (zers_len 40))) rfl ?_
 exact ⟨rfl, below_setRow HBl (by omega) _⟩
set_option maxRecDepth 10000 in
set_option maxHeartbeats 1000000 in
theorem decodeGroup_in (p : Option Addr) (c : Nat) (xs : List Int) (w : World) (h : BI w p 128 xs) (hnc : 128 ≤ c) (h2 : xs.take 2 = [104, 100]) :
  Calls Tryz.prog 74 #[.slice p 128 c] w fun e w' => e = .returned (if GGood xs (rN xs) (rY xs) then .tuple #[groupV (rN xs) (rY xs), .int .i64 0] else .tuple #[groupV 0 (zers 40), .int .i64 6]) ∧ Below w.heap.size w w' := by
 have HB := grew_alloc w (groupO 0 (zers 40))
 have hr0 := heap_new w (groupO 0 (zers 40))
 have h0 : BI (w.alloc (groupO 0 (zers 40))) p 128 xs := h.kept HB
 obtain ⟨wl, hcv, hl, hbl⟩ := conv_lit (w.alloc (groupO 0 (zers 40))) [104, 100]
 have hrl : wl.heap[w.heap.size]? = some (groupO 0 (zers 40)) := by rw [hbl.block _ (by rw [size_alloc]; omega)]; exact hr0
 have hrl' := hrl
 dsimp only [groupO] at hrl'
 rw [zero38] at hrl'
 have hbi := hl.bi (Num.byt_of_wf (by decide)) (by decide)
 have hxl := h0.kept hbl
 have HBl := grew_trans HB hbl
 have hcv' : (convert 42 42 (.slice (some ⟨w.heap.size + 1, 0, none⟩) 2 2)).run Tryz.prog ((w.alloc (groupO 0 (zers 40))).alloc (.cells #[.int .u8 104, .int .u8 100] 5)) = .ok (.slice (some ⟨w.heap.size + 1, 0, none⟩) 2 2) wl := by
  have := hcv 2 2
  rw [size_alloc] at this
  exact this
 dsimp only [groupO] at hcv'
 rw [zero38] at hcv'
 rw [size_alloc] at hbi
 have hpre := hasPrefix_ok p _ 128 c 2 2 xs _ wl hxl hbi hnc
 clear hcv hl hbl h0 hr0
 rw [show decide (2 ≤ 128 ∧ xs.take 2 = [104, 100]) = true from decide_eq_true ⟨by decide, h2⟩] at hpre
 have hrd := readGroup_ok p c xs wl hxl
 have hyl : ((xs.drop 4).take 40).length = 40 := by have := h.len; simp; omega
 have hyb : Num.Byt ((xs.drop 4).take 40) := byt_take (byt_drop h.byt _) _
 have hfo := fun w' (hb : Below wl.heap.size wl w') => gform_ok (rN xs) (rY xs) hyl hyb p 128 c xs w' (hxl.kept hb)
 have hyl : (rY xs).length = 40 := hyl
 have hrd : Calls Tryz.prog 142 #[.slice p 128 c] wl fun e w' => e = .returned (groupV (rN xs) (rY xs)) ∧ Below wl.heap.size wl w' := hrd
 generalize rN xs = a at *
 generalize rY xs = ys at *
 by_cases hg : GGood xs a ys
 ·simp only [if_pos hg] at hfo ⊢
  go_enter Tryz.func74, Tryz.ntmps74
  go_wp2_with (first
   | (go_at_call 140; refine same_at hpre ?_)
   | (go_at_call 142; refine grew_at hrd ?_; intro w1 hb1; have hr1 : w1.heap[w.heap.size]? = some (groupO 0 (zers 40)) := by rw [hb1.block _ (Array.getElem?_eq_some_iff.1 hrl).1]; exact hrl)
   | (go_at_call 141; refine grew_at (hfo _ hb1) ?_; intro w2 hb2; have hr2 : w2.heap[w.heap.size]? = some (groupO 0 (zers 40)) := by rw [hb2.block _ (Array.getElem?_eq_some_iff.1 hr1).1]; exact hr1)
   | (refine wpList_store_row rfl 64 _ _ rfl w.heap.size _ rfl rfl 64 _ hr2 (info38 a ys hyl) ((groupA_size 0 (zers 40) (zers_len 40)).trans (groupA_size a ys hyl).symm) (group_one a ys) ?_))
  refine bodyPost_ret (v := .tuple #[groupV a ys, .int .i64 0]) (results_cell_tmp_row (p := 2) (u := 3) (ty := 64) Tryz.results74 _ _ w.heap.size 64 _ (0, 0) _ rfl (setRow_heap _ _ _ _ _ _ hr2) Tryz.underlying64 rfl (info38 a ys hyl)) rfl ?_
  exact ⟨rfl, below_setRow (grew_trans (grew_trans HBl hb1) hb2) (by omega) _⟩
 ·simp only [if_neg hg] at hfo ⊢
  go_enter Tryz.func74, Tryz.ntmps74
  go_wp2_with (first
   | (go_at_call 140; refine same_at hpre ?_)
   | (go_at_call 142; refine grew_at hrd ?_; intro w1 hb1; have hr1 : w1.heap[w.heap.size]? = some (groupO 0 (zers 40)) := by rw [hb1.block _ (Array.getElem?_eq_some_iff.1 hrl).1]; exact hrl)
   | (go_at_call 141; refine grew_at (hfo _ hb1) ?_; intro w2 hb2; have hr2 : w2.heap[w.heap.size]? = some (groupO 0 (zers 40)) := by rw [hb2.block _ (Array.getElem?_eq_some_iff.1 hr1).1]; exact hr1)
   | (refine wpList_store_row rfl 64 _ _ rfl w.heap.size _ rfl rfl 64 _ hr2 (info38 0 (zers 40) (zers_len 40)) rfl (group_one 0 (zers 40)) ?_))
  refine bodyPost_ret (v := .tuple #[groupV 0 (zers 40), .int .i64 6]) (results_cell_tmp_row (p := 2) (u := 3) (ty := 64) Tryz.results74 _ _ w.heap.size 64 _ (0, 0) _ rfl (setRow_heap _ _ _ _ _ _ hr2) Tryz.underlying64 rfl (info38 0 (zers 40) (zers_len 40))) rfl ?_
  exact ⟨rfl, below_setRow (grew_trans (grew_trans HBl hb1) hb2) (by omega) _⟩
theorem decodeGroup_ok (p : Option Addr) (n c : Nat) (xs : List Int) (w : World) (h : BI w p n xs) (hnc : n ≤ c) :
  Calls Tryz.prog 74 #[.slice p n c] w fun e w' => e = .returned (.tuple #[groupV (gdN n xs) (gdY n xs), .int .i64 (gdE n xs)]) ∧ Below w.heap.size w w' := by
 by_cases h1 : n = 128
 ·subst h1
  by_cases h2 : xs.take 2 = [104, 100]
  ·refine (decodeGroup_in p c xs w h hnc h2).mono ?_
   rintro e w' ⟨rfl, hb⟩
   refine ⟨?_, hb⟩
   unfold gdN gdY
   by_cases hg : GGood xs (rN xs) (rY xs)
   ·have e1 : gdE 128 xs = 0 := by unfold gdE; rw [if_neg (by simp), if_neg (by simp [h2]), if_pos hg]
    rw [e1, if_pos hg, if_pos rfl, if_pos rfl]
   ·have e1 : gdE 128 xs = 6 := by unfold gdE; rw [if_neg (by simp), if_neg (by simp [h2]), if_neg hg]
    rw [e1, if_neg hg, if_neg (by decide), if_neg (by decide)]
  ·have e1 : gdE 128 xs = 31 := by unfold gdE; rw [if_neg (by simp), if_pos h2]
   unfold gdN gdY
   rw [e1, if_neg (by decide), if_neg (by decide)]
   exact decodeGroup_magic p c xs w h hnc h2
 ·have e1 : gdE n xs = 6 := by unfold gdE; rw [if_pos h1]
  unfold gdN gdY
  rw [e1, if_neg (by decide), if_neg (by decide)]
  exact decodeGroup_len p n c w h.big h1
end Go.Proofs.YthdlpeejmmobmaaGreat.Mk

namespace Go.Proofs.YthdlpeejmmobmaaGreat.Mk.Al
open Go.RowKit
set_option maxRecDepth 100000
set_option linter.unusedVariables false
def rI (r : Bool) : Int := if r then 1 else 0
def rAt (r : Bool) : Nat := if r then 0 else 8
def rLen (r : Bool) : Nat := if r then 8 else 32
def rowOf (r : Bool) (ys : List Int) : List Int := (ys.drop (rAt r)).take (rLen r)
set_option maxHeartbeats 400000 in
theorem of_ok (r : Bool) (b o : Nat) (w : World) :
  Calls Tryz.prog 132 #[.int .i64 (rI r), .pointer (some ⟨b, o, none⟩)] w fun e w' => e = .returned (.slice (some ⟨b, o + (rAt r + 1), none⟩) (rLen r) (rLen r)) ∧ w' = w := by
 cases r
 ·show Calls Tryz.prog 132 #[.int .i64 0, _] w _
  go_enter Tryz.func132, Tryz.ntmps132
  go_wp2
  go_ret
  exact ⟨rfl, rfl⟩
 ·show Calls Tryz.prog 132 #[.int .i64 1, _] w _
  go_enter Tryz.func132, Tryz.ntmps132
  go_wp2
  go_ret
  exact ⟨rfl, rfl⟩
def spF (r : Bool) (I n : Int) : Int := if r then (if n = 0 then 2 else 0) else 2 + I / 4
def spE (r : Bool) (B I : Int) : Int := if r then I else B
set_option maxHeartbeats 1000000 in
theorem span_ok {G B I n : Int} (r : Bool) (h : Gm.In G B I n) (w : World) :
  Calls Tryz.prog 130 #[.int .i64 (rI r), geomV G B I, .int .i64 n] w fun e w' => e = .returned (.tuple #[.int .i64 (spF r I n), .int .i64 (spE r B I)]) ∧ Below w.heap.size w w' := by
 have HB : Below w.heap.size w (w.alloc (geomO G B I)) := (Below.refl _ _).alloc (Nat.le_refl _) _
 obtain ⟨c0, c1, c2⟩ := box_cells w G B I
 have hm := h.1.all
 have h1 := h.bd
 cases r
 ·have hof : Gm.Of G B I B (n * B + (2 + I / 4)) := ⟨h.1, by omega, by
   have e : G * B = (G - 1) * B + B := by rw [Int.sub_mul]; omega
   have : n * B ≤ (G - 1) * B := Int.mul_le_mul_of_nonneg_right (by have := h.2; omega) (by omega)
   omega⟩
  have hmod : (n * B + (2 + I / 4)) % B = 2 + I / 4 := by
   rw [Int.add_comm, Int.add_mul_emod_self_right]
   exact Int.emod_eq_of_lt (by omega) (by omega)
  have hg := fun w => group_in hof w
  rw [hmod] at hg
  have hda := fun w => data_in h w
  generalize hx : n * B + (2 + I / 4) = x at *
  generalize hy : (x / B) = y at *
  clear hmod hof h1 hx hy hm
  show Calls Tryz.prog 130 #[.int .i64 0, _, _] w _
  go_enter Tryz.func130, Tryz.ntmps130
  go_wp2_with (first | (go_at_call 218; refine grew_at (hda _) ?_; intro wn hbn; have HB := grew_trans HB hbn; have c0 := cell_kept c0 hbn; have c1 := cell_kept c1 hbn; have c2 := cell_kept c2 hbn) | (go_at_call 219; refine grew_at (hg _) ?_; intro wm hbm; have HB := grew_trans HB hbm; have c0 := cell_kept c0 hbm; have c1 := cell_kept c1 hbm; have c2 := cell_kept c2 hbm))
  go_quiet (fail)
  go_wp2_with fail
  go_ret2
  exact ⟨rfl, below_drewN HB _⟩
 ·clear h1 hm
  by_cases hn : n = 0
  ·subst hn
   show Calls Tryz.prog 130 #[.int .i64 1, _, _] w _
   go_enter Tryz.func130, Tryz.ntmps130
   go_wp2_with fail
   go_quiet (fail)
   go_wp2_with fail
   go_ret2
   exact ⟨rfl, below_drewN HB _⟩
  ·have hn2 : (n == 0) = false := by rw [beq_eq_false_iff_ne]; exact hn
   have he : spF true I n = 0 := by unfold spF; rw [if_pos rfl, if_neg hn]
   show Calls Tryz.prog 130 #[.int .i64 1, _, _] w _
   rw [he]
   clear he
   go_enter Tryz.func130, Tryz.ntmps130
   go_wp2_with fail
   go_quiet (fail)
   go_wp2_with fail
   go_ret2
   exact ⟨rfl, below_drewN HB _⟩
theorem number_ok {G B I : Int} (r : Bool) (g b : Int) (h : 0 ≤ g * spE r B I ∧ g * spE r B I ≤ 1000000) (hb : 0 ≤ b ∧ b ≤ 1000000) (w : World) :
  Calls Tryz.prog 135 #[.int .i64 (rI r), geomV G B I, .int .i64 g, .int .i64 b] w fun e w' => e = .returned (.int .i64 (g * spE r B I + b)) ∧ Below w.heap.size w w' := by
 have HB : Below w.heap.size w (w.alloc (geomO G B I)) := (Below.refl _ _).alloc (Nat.le_refl _) _
 obtain ⟨c0, c1, c2⟩ := box_cells w G B I
 cases r
 ·have h' : 0 ≤ g * B ∧ g * B ≤ 1000000 := h
  show Calls Tryz.prog 135 #[.int .i64 0, _, _, _] w fun e w' => e = .returned (.int .i64 (g * B + b)) ∧ _
  clear h
  go_enter Tryz.func135, Tryz.ntmps135
  go_wp2
  go_ret
  exact ⟨rfl, HB⟩
 ·have h' : 0 ≤ g * I ∧ g * I ≤ 1000000 := h
  show Calls Tryz.prog 135 #[.int .i64 1, _, _, _] w fun e w' => e = .returned (.int .i64 (g * I + b)) ∧ _
  clear h
  go_enter Tryz.func135, Tryz.ntmps135
  go_wp2
  go_ret
  exact ⟨rfl, HB⟩
end Go.Proofs.YthdlpeejmmobmaaGreat.Mk.Al
