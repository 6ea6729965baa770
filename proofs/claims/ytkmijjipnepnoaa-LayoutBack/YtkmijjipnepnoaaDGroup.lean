/- Headers out of bytes, by the program. -/
import Derived.Test.YtkmijjipnepnoaaRGroup
namespace Go.Proofs.Ytkmijjipnepnoaa
open Go.RowKit
set_option linter.unusedVariables false

theorem zero38 : groupA 0 (zers 40) = #[.int .i64 0, .int .u8 0, .int .u8 0, .int .u8 0, .int .u8 0, .int .u8 0, .int .u8 0, .int .u8 0, .int .u8 0, .int .u8 0, .int .u8 0, .int .u8 0, .int .u8 0, .int .u8 0, .int .u8 0, .int .u8 0, .int .u8 0, .int .u8 0, .int .u8 0, .int .u8 0, .int .u8 0, .int .u8 0, .int .u8 0, .int .u8 0, .int .u8 0, .int .u8 0, .int .u8 0, .int .u8 0, .int .u8 0, .int .u8 0, .int .u8 0, .int .u8 0, .int .u8 0, .int .u8 0, .int .u8 0, .int .u8 0, .int .u8 0, .int .u8 0, .int .u8 0, .int .u8 0, .int .u8 0] := rfl

theorem info38 (N : Int) (ys : List Int) (hl : ys.length = 40) : (Try.prog.info? 38).map (·.size) = some (groupA N ys).size := by
  rw [groupA_size N ys hl]; kernel_rfl
theorem group_one (N : Int) (ys : List Int) : (groupA N ys).all (·.oneCell') = true := by
  simp [groupA, Value.oneCell']

theorem byteCells_nums {zs : List Int} (h : Num.Byt zs) : Lib.byteCells (strOfNums zs).data.toList = zs.map (Value.int .u8) := by
  rw [strOfNums_data]
  unfold Lib.byteCells
  rw [List.map_map]
  apply List.map_congr_left
  intro x hx
  have := byt_mem h x hx
  simp
  omega

/-- The cells of a header with some of its bytes turned. -/
theorem groupA_splice (N : Int) (ys zs : List Int) (i : Nat) (hf : i + zs.length ≤ ys.length) : (((groupA N ys).toList.take (i + 1)) ++ zs.map (Value.int .u8) ++ (groupA N ys).toList.drop (i + 1 + zs.length)).toArray = groupA N (splice ys i zs) := by
  unfold groupA splice
  rw [show i + 1 + zs.length = (i + zs.length) + 1 by omega]
  simp [List.map_take, List.map_drop]

theorem group_copy {w : World} {b : Nat} {N : Int} {ys zs : List Int} (h : w.heap[b]? = some (groupO N ys)) (hl : ys.length = 40) (hz : Num.Byt zs) (i : Nat) (hf : i + zs.length ≤ 40) (ty : TypeId) :
    (Builtin.copy_ #[26, 9] ty #[.slice (some ⟨b, i + 1, none⟩) zs.length zs.length, .string (strOfNums zs)]).run Try.prog w = .ok (goInt zs.length) (w.setRow b (groupA N (splice ys i zs))) := by
  have hs := strOfNums_size zs
  have hr := Lib.run_copy_row_string (P := Try.prog) w 26 9 ty 5 b (i + 1) zs.length zs.length (strOfNums zs) _ 38 Try.underlying26 size5 h (by omega) (by rw [groupA_size N ys hl]; omega)
  rw [hr, byteCells_nums hz, hs, groupA_splice N ys zs i (by omega)]

theorem groupA_set (N M : Int) (ys : List Int) : (groupA N ys).setIfInBounds 0 (.int .i64 M) = groupA M ys := by
  simp [groupA]

/-- What stands while a header is read. -/
structure GR (w w' : World) (rb n : Nat) (xs : List Int) (N : Int) (ys : List Int) : Prop where
  r : Rest w' rb n xs 0
  s : w'.heap[w.heap.size + 1]? = some (groupO N ys)
  z : w'.heap[w.heap.size]? = some (groupO 0 (zers 40))
  lo : w.heap.size + 2 ≤ rb
  bw : Below w.heap.size w w'
  yl : ys.length = 40

theorem GR.grown {w w' w2 : World} {rb n m : Nat} {xs zs ys : List Int} {N : Int} (h : GR w w' rb n xs N ys) (hg : w'.grownBy w2 (some rb)) (hr : Rest w2 rb m zs 0) : GR w w2 rb m zs N ys := by
  have hl := h.lo
  exact ⟨hr, grown_cells hg h.s (by omega), grown_cells hg h.z (by omega), h.lo, h.bw.grown hg h.bw.size (by intro k hk; cases hk; omega), h.yl⟩

theorem GR.turn {w w' w2 : World} {rb n : Nat} {xs ys ys' : List Int} {N N' : Int} (h : GR w w' rb n xs N ys) (hn : 41 < n) (hs : w2.heap[w.heap.size + 1]? = some (groupO N' ys')) (ho : ∀ k, k ≠ w.heap.size + 1 → w2.heap[k]? = w'.heap[k]?) (hb : Below w.heap.size w w2) (hl : ys'.length = 40) : GR w w2 rb n xs N' ys' := by
  have hlo := h.lo
  exact ⟨rest_at h.r (ho _ (by omega)) (fun b o hb hn' => ho _ (bi_ne_size hb h.s (by rw [groupA_size _ _ h.yl]; exact hn))), hs, (ho _ (by omega)).trans h.z, h.lo, hb, hl⟩

theorem GR.num {w w' : World} {rb n : Nat} {xs ys : List Int} {N : Int} (h : GR w w' rb n xs N ys) (hn : 41 < n) (M : Int) : GR w (w'.setCell ⟨w.heap.size + 1, 0, none⟩ (.int .i64 M)) rb n xs M ys :=
  h.turn hn (by rw [heap_set h.s, groupA_set]) (fun k hk => Below.heap_setCell _ _ _ _ hk) (h.bw.setCell (by show w.heap.size ≤ w.heap.size + 1; omega) _) h.yl

theorem GR.row {w w' : World} {rb n : Nat} {xs ys : List Int} {N : Int} (h : GR w w' rb n xs N ys) (hn : 41 < n) (ys' : List Int) (hl : ys'.length = 40) : GR w (w'.setRow (w.heap.size + 1) (groupA N ys')) rb n xs N ys' :=
  h.turn hn (setRow_heap _ _ _ _ _ _ h.s) (fun k hk => setRow_other _ _ _ _ hk) (below_setRow h.bw (by omega) _) hl

theorem read_bytes (xs : List Int) (hl : xs.length = 128) : splice (splice (zers 40) 0 ((xs.drop 4).take 8)) 8 ((xs.drop 12).take 32) = (xs.drop 4).take 40 := by
  have h8 : ((xs.drop 4).take 8).length = 8 := by simp; omega
  have h32 : ((xs.drop 12).take 32).length = 32 := by simp; omega
  have h1 : (splice (zers 40) 0 ((xs.drop 4).take 8)).length = 40 := by rw [splice_len _ _ _ (by rw [h8, zers_len]; decide), zers_len]
  apply ext_getD
  · rw [splice_len _ _ _ (by omega), h1]; simp; omega
  intro i hi
  rw [splice_len _ _ _ (by omega), h1] at hi
  rw [getD_splice _ _ _ (by omega), getD_splice _ _ _ (by rw [h8, zers_len]; decide), h8, h32, getD_take _ 40 _ hi, getD_drop']
  by_cases c : i < 8
  · rw [if_pos c, if_neg (by omega), if_pos (by omega), getD_take _ _ _ (by omega), getD_drop']
    congr 1
  · rw [if_neg c, if_pos (by omega), getD_take _ _ _ (by omega), getD_drop']
    congr 1
    omega

set_option maxRecDepth 10000 in
set_option maxHeartbeats 1000000 in
theorem readGroup_ok (p : Option Addr) (c : Nat) (xs : List Int) (w : World) (h : BI w p 128 xs) :
    Calls Try.prog 54 #[.slice p 128 c] w fun e w' => e = .returned (groupV (Num.numD xs 2 1) ((xs.drop 4).take 40)) ∧ Below w.heap.size w w' := by
  have hxl := h.len
  have hxb := h.byt
  generalize hv : Num.numD xs 2 1 = v
  have HV : Hid (Num.numD xs 2 1 = v) := hv
  clear hv
  go_enter Try.func54, Try.ntmps54
  go_wp2_with fail
  rw [← zero38]
  have hb0 := (grew_alloc w (groupO 0 (zers 40))).trans ((grew_alloc (w.alloc (groupO 0 (zers 40))) (groupO 0 (zers 40))).mono (by rw [size_alloc]; omega))
  refine Calls.mono (over_ok _ p 128 c xs (h.kept hb0)) ?_
  rintro e w1 ⟨rb, rfl, hlo, hr, hb1⟩
  have h1 : GR w w1 rb 128 xs 0 (zers 40) := by
    simp only [size_alloc] at hlo hb1
    refine ⟨hr, ?_, ?_, by omega, hb0.trans (hb1.mono (by omega)), zers_len 40⟩
    · rw [hb1.block _ (by omega)]
      have := heap_new (w.alloc (groupO 0 (zers 40))) (groupO 0 (zers 40))
      rwa [size_alloc] at this
    · rw [hb1.block _ (by omega), Below.heap_alloc _ _ _ (by rw [size_alloc]; omega)]
      exact heap_new _ _
  clear hr hb1 hlo hb0
  go_wp2_with fail
  refine Calls.mono (skip_yes _ rb 128 2 _ h1.r (by omega)) ?_
  rintro e w2 ⟨rfl, hg, hr⟩
  have h2 := h1.grown hg hr
  clear h1 hg hr
  have t2 := take_yes _ rb _ 1 _ h2.r (by omega) (by omega) (by omega)
  rw [show Num.numD (xs.drop 2) 0 1 = v from (numD_drop xs 2 1 0).trans HV.out] at t2
  go_wp2_with fail
  refine Calls.mono t2 ?_
  rintro e w3 ⟨rfl, hg, hr⟩
  have h3 := h2.grown hg hr
  clear h2 hg hr t2
  have f3 := frozen_of_row _ _ 0 _ _ h3.s
  have c3 := cell_row h3.s 0 _ (groupA_zero 0 (zers 40))
  have h4 := h3.num (by decide) v
  go_wp2_with fail
  generalize w3.setCell ⟨w.heap.size + 1, 0, none⟩ (.int .i64 v) = w4 at *
  refine Calls.mono (skip_yes _ rb _ 1 _ h4.r (by omega)) ?_
  rintro e w5 ⟨rfl, hg, hr⟩
  have h5 := h4.grown hg hr
  clear h3 h4 hg hr f3 c3
  simp only [List.drop_drop] at h5
  have h5 : GR w w5 rb 124 (xs.drop 4) v (zers 40) := h5
  have h5 := h5.grown (w2 := w5.drew) ⟨rfl, rfl, rfl, Nat.le_refl _, fun _ _ _ => rfl⟩ (rest_at h5.r rfl (fun _ _ _ _ => rfl))
  have t5 := text_yes _ rb 124 8 _ h5.r (by omega)
  go_wp2_with fail
  go_region_held3 (fun _ => True) (trivial)
    (first
      | (go_at_call 79; refine Calls.mono t5 ?_; rintro e w6 ⟨rfl, hg, hr⟩; have h6 := h5.grown hg hr; have hz8 : ((xs.drop 4).take 8).length = 8 := (by simp; omega); have hr6 := group_copy h6.s h6.yl (byt_take (byt_drop hxb 4) 8) 0 (by omega) 3; rw [hz8] at hr6))
  have h7 := h6.row (by decide) (splice (zers 40) 0 ((xs.drop 4).take 8)) (by rw [splice_len _ _ _ (by rw [hz8, zers_len]; decide), zers_len])
  clear t5 hg hr hr6 h6 h5
  generalize w6.setRow (w.heap.size + 1) (groupA v (splice (zers 40) 0 ((xs.drop 4).take 8))) = w7 at *
  have h7 : GR w w7 rb 116 (xs.drop 12) v (splice (zers 40) 0 ((xs.drop 4).take 8)) := by
    rw [List.drop_drop] at h7
    exact h7
  have h7 := h7.grown (w2 := w7.drew) ⟨rfl, rfl, rfl, Nat.le_refl _, fun _ _ _ => rfl⟩ (rest_at h7.r rfl (fun _ _ _ _ => rfl))
  have t7 := text_yes _ rb 116 32 _ h7.r (by omega)
  go_wp2_with fail
  go_region_held3 (fun _ => True) (trivial)
    (first
      | (go_at_call 79; refine Calls.mono t7 ?_; rintro e w8 ⟨rfl, hg, hr⟩; have h8 := h7.grown hg hr; have hz32 : ((xs.drop 12).take 32).length = 32 := (by simp; omega); have hr8 := group_copy h8.s h8.yl (byt_take (byt_drop hxb 12) 32) 8 (by omega) 3; rw [hz32] at hr8))
  have h9 := h8.row (by decide) (splice (splice (zers 40) 0 ((xs.drop 4).take 8)) 8 ((xs.drop 12).take 32)) (by rw [splice_len _ _ _ (by rw [hz32, h8.yl]; decide), h8.yl])
  clear t7 hg hr hr8 h8 h7
  rw [read_bytes xs hxl] at h9 ⊢
  generalize w8.setRow (w.heap.size + 1) (groupA v ((xs.drop 4).take 40)) = w9 at *
  have hs9 := h9.s
  have hz9 := h9.z
  have hi9 := info38 v ((xs.drop 4).take 40) h9.yl
  have hsz := (groupA_size 0 (zers 40) (zers_len 40)).trans (groupA_size v ((xs.drop 4).take 40) h9.yl).symm
  have hbw := h9.bw
  clear h9
  go_wp2_with (first
    | (refine wpList_load_row rfl 38 _ rfl (w.heap.size + 1) rfl 38 _ (0, 0) _ hs9 Try.underlying38 rfl hi9 ?_)
    | (refine wpList_store_row rfl 38 _ _ rfl w.heap.size _ rfl rfl 38 _ hz9 hi9 hsz (group_one _ _) ?_))
  refine bodyPost_ret (v := groupV v ((xs.drop 4).take 40)) (results_cell_row (p := 2) (ty := 38) Try.results54 _ _ w.heap.size 38 _ (0, 0) _ rfl (setRow_heap _ _ _ _ _ _ hz9) Try.underlying38 rfl hi9) rfl ?_
  exact ⟨rfl, below_setRow hbw (by omega) _⟩
end Go.Proofs.Ytkmijjipnepnoaa
