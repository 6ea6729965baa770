/- KDDin KDForm KDZ KDDec KInts -/
import Derived.Test.YthdlpeejmmobmaaGreatYG22
import Derived.Deep.MidRow

namespace Go.Proofs.YthdlpeejmmobmaaGreat.Mk
open Go.RowKit
set_option maxRecDepth 100000
set_option linter.unusedVariables false
theorem din_no (m l s a b c d i j : Int) : ∀ (x : Int) (k : Nat), (#[.int .i64 m, .int .i64 l, .int .i64 s, .int .i64 a, .int .i64 b, .int .i64 c, .int .i64 d, .int .i64 i, .int .i64 j] : Array Value)[k]? ≠ some (Value.int .u8 x) := by
 intro x k
 rcases k with _ | _ | _ | _ | _ | _ | _ | _ | _ | k <;> simp
theorem din_one (m l s a b c d i j : Int) : (#[.int .i64 m, .int .i64 l, .int .i64 s, .int .i64 a, .int .i64 b, .int .i64 c, .int .i64 d, .int .i64 i, .int .i64 j] : Array Value).all (·.oneCell') = true := by
 simp [Value.oneCell']
structure DR (w w' : World) (rb n : Nat) (xs : List Int) (m l s a b c d i j : Int) : Prop where
 r : Rest w' rb n xs 0
 s : w'.heap[w.heap.size + 1]? = some (dinO m l s a b c d i j)
 z : w'.heap[w.heap.size]? = some (dinO 0 0 0 0 0 0 0 0 0)
 lo : w.heap.size + 2 ≤ rb
 bw : Below w.heap.size w w'
theorem DR.grown {w w' w2 : World} {rb n n2 : Nat} {xs zs : List Int} {m l s a b c d i j : Int} (h : DR w w' rb n xs m l s a b c d i j) (hg : w'.grownBy w2 (some rb)) (hr : Rest w2 rb n2 zs 0) : DR w w2 rb n2 zs m l s a b c d i j := by
 have hl := h.lo
 exact ⟨hr, grown_cells hg h.s (by omega), grown_cells hg h.z (by omega), h.lo, h.bw.grown hg h.bw.size (by intro k hk; cases hk; omega)⟩
theorem DR.turn {w w' w2 : World} {rb n : Nat} {xs : List Int} {m l s a b c d i j m' l' s' a' b' c' d' i' j' : Int} (h : DR w w' rb n xs m l s a b c d i j) (hs : w2.heap[w.heap.size + 1]? = some (dinO m' l' s' a' b' c' d' i' j')) (ho : ∀ k, k ≠ w.heap.size + 1 → w2.heap[k]? = w'.heap[k]?) (hb : Below w.heap.size w w2) : DR w w2 rb n xs m' l' s' a' b' c' d' i' j' := by
 have hlo := h.lo
 exact ⟨rest_at h.r (ho _ (by omega)) (fun b o hb hn' => ho _ (bi_ne hb hn' h.s (din_no _ _ _ _ _ _ _ _ _))), hs, (ho _ (by omega)).trans h.z, h.lo, hb⟩
theorem DR.set {w w' : World} {rb n : Nat} {xs : List Int} {m l s a b c d i j m' l' s' a' b' c' d' i' j' : Int} (h : DR w w' rb n xs m l s a b c d i j) (k : Nat) (v : Int)
  (e : (#[.int .i64 m, .int .i64 l, .int .i64 s, .int .i64 a, .int .i64 b, .int .i64 c, .int .i64 d, .int .i64 i, .int .i64 j] : Array Value).setIfInBounds k (.int .i64 v) = #[.int .i64 m', .int .i64 l', .int .i64 s', .int .i64 a', .int .i64 b', .int .i64 c', .int .i64 d', .int .i64 i', .int .i64 j']) :
  DR w (w'.setCell ⟨w.heap.size + 1, k, none⟩ (.int .i64 v)) rb n xs m' l' s' a' b' c' d' i' j' :=
 h.turn (by rw [heap_set h.s, e]) (fun k hk => Below.heap_setCell _ _ _ _ hk) (h.bw.setCell (by show w.heap.size ≤ w.heap.size + 1; omega) _)
set_option maxRecDepth 10000 in
set_option maxHeartbeats 1000000 in
theorem readDinode_ok (p : Option Addr) (c : Nat) (xs : List Int) (w : World) (h : BI w p 32 xs) :
  Calls Tryz.prog 147 #[.slice p 32 c] w fun e w' => e = .returned (dinV (Num.numD xs 0 1) (Num.numD xs 2 2) (Num.numD xs 4 4) (Num.numD xs 8 2) (Num.numD xs 10 2) (Num.numD xs 12 2) (Num.numD xs 14 2) (Num.numD xs 16 2) (Num.numD xs 18 2)) ∧ Below w.heap.size w w' := by
 have hxl := h.len
 have hxb := h.byt
 generalize hm : Num.numD xs 0 1 = vm
 generalize hl : Num.numD xs 2 2 = vl
 generalize hs : Num.numD xs 4 4 = vs
 generalize h8 : Num.numD xs 8 2 = va
 generalize h10 : Num.numD xs 10 2 = vb
 generalize h12 : Num.numD xs 12 2 = vc
 generalize h14 : Num.numD xs 14 2 = vd
 generalize h16 : Num.numD xs 16 2 = vi
 generalize h18 : Num.numD xs 18 2 = vj
 have HM := (show Hid _ from hm)
 have HL := (show Hid _ from hl)
 have HS := (show Hid _ from hs)
 have HA := (show Hid _ from h8)
 have HB := (show Hid _ from h10)
 have HC := (show Hid _ from h12)
 have HD := (show Hid _ from h14)
 have HI := (show Hid _ from h16)
 have HJ := (show Hid _ from h18)
 clear hm hl hs h8 h10 h12 h14 h16 h18
 go_enter Tryz.func147, Tryz.ntmps147
 go_wp2_with fail
 have hb0 := (grew_alloc w (dinO 0 0 0 0 0 0 0 0 0)).trans ((grew_alloc (w.alloc (dinO 0 0 0 0 0 0 0 0 0)) (dinO 0 0 0 0 0 0 0 0 0)).mono (by rw [size_alloc]; omega))
 refine Calls.mono (over_ok _ p 32 c xs (h.kept hb0)) ?_
 rintro e w1 ⟨rb, rfl, hlo, hr, hb1⟩
 have h1 : DR w w1 rb 32 xs 0 0 0 0 0 0 0 0 0 := by
  simp only [size_alloc] at hlo hb1
  refine ⟨hr, ?_, ?_, by omega, hb0.trans (hb1.mono (by omega))⟩
  ·rw [hb1.block _ (by omega)]
   have := heap_new (w.alloc (dinO 0 0 0 0 0 0 0 0 0)) (dinO 0 0 0 0 0 0 0 0 0)
   rwa [size_alloc] at this
  ·rw [hb1.block _ (by omega), Below.heap_alloc _ _ _ (by rw [size_alloc]; omega)]
   exact heap_new _ _
 clear hr hb1 hlo hb0
 -- the mode
 have t1 := take_yes _ rb _ 1 _ h1.r (by omega) (by omega) (by omega)
 rw [show Num.numD xs 0 1 = vm from HM.out] at t1
 go_wp2_with fail
 refine Calls.mono t1 ?_
 rintro e w2 ⟨rfl, hg, hr⟩
 have h2 := h1.grown hg hr
 clear h1 hg hr t1
 have f2 := frozen_of_row _ _ 0 _ _ h2.s
 have c2 := cell_row h2.s 0 _ rfl
 have h3 := h2.set 0 vm rfl
 go_wp2_with fail
 generalize w2.setCell ⟨w.heap.size + 1, 0, none⟩ (.int .i64 vm) = w3 at *
 refine Calls.mono (skip_yes _ rb _ 1 _ h3.r (by omega)) ?_
 rintro e w4 ⟨rfl, hg, hr⟩
 have h4 := h3.grown hg hr
 clear h2 h3 hg hr f2 c2
 simp only [List.drop_drop] at h4
 -- the links
 have t4 := take_yes _ rb _ 2 _ h4.r (by omega) (by omega) (by omega)
 rw [show Num.numD (xs.drop (1 + 1)) 0 2 = vl from (numD_drop xs 2 2 0).trans HL.out] at t4
 go_wp2_with fail
 refine Calls.mono t4 ?_
 rintro e w5 ⟨rfl, hg, hr⟩
 have h5 := h4.grown hg hr
 clear h4 hg hr t4
 have f5 := frozen_of_row _ _ 1 _ _ h5.s
 have c5 := cell_row h5.s 1 _ rfl
 have h6 := h5.set 1 vl rfl
 go_wp2_with fail
 generalize w5.setCell ⟨w.heap.size + 1, 1, none⟩ (.int .i64 vl) = w6 at *
 clear h5 f5 c5
 simp only [List.drop_drop] at h6
 -- the size
 have t6 := take_yes _ rb _ 4 _ h6.r (by omega) (by omega) (by omega)
 rw [show Num.numD (xs.drop (1 + 1 + 2)) 0 4 = vs from (numD_drop xs 4 4 0).trans HS.out] at t6
 refine Calls.mono t6 ?_
 rintro e w7 ⟨rfl, hg, hr⟩
 have h7 := h6.grown hg hr
 clear h6 hg hr t6
 have f7 := frozen_of_row _ _ 2 _ _ h7.s
 have c7 := cell_row h7.s 2 _ rfl
 have h8 := h7.set 2 vs rfl
 go_wp2_with fail
 generalize w7.setCell ⟨w.heap.size + 1, 2, none⟩ (.int .i64 vs) = w8 at *
 clear h7 f7 c7
 simp only [List.drop_drop] at h8
 -- the addresses
 have hlo := h8.lo
 have hd := fun j => numD_drop xs 8 2 (2 * j)
 have t8 := takeAll_ok _ rb (w.heap.size + 1) 3 4 2 _ 4 _ _ _ h8.r h8.s (din_no _ _ _ _ _ _ _ _ _) (by omega) (by omega) (by omega) (by omega) (by omega)
  (by intro k hk; rcases (by omega : k = 0 ∨ k = 1 ∨ k = 2 ∨ k = 3) with rfl | rfl | rfl | rfl <;> exact ⟨_, rfl⟩)
 refine Calls.mono t8 ?_
 rintro e w9 ⟨rfl, hs9, hr9, ht9⟩
 have e9 : fill #[.int .i64 vm, .int .i64 vl, .int .i64 vs, .int .i64 0, .int .i64 0, .int .i64 0, .int .i64 0, .int .i64 0, .int .i64 0] 3 (fun j => Num.numD (xs.drop (1 + 1 + 2 + 4)) (2 * j) 2) 4 = #[.int .i64 vm, .int .i64 vl, .int .i64 vs, .int .i64 va, .int .i64 vb, .int .i64 vc, .int .i64 vd, .int .i64 0, .int .i64 0] := by
  have q0 : Num.numD (xs.drop (1 + 1 + 2 + 4)) (2 * 0) 2 = va := (hd 0).trans HA.out
  have q1 : Num.numD (xs.drop (1 + 1 + 2 + 4)) (2 * 1) 2 = vb := (hd 1).trans HB.out
  have q2 : Num.numD (xs.drop (1 + 1 + 2 + 4)) (2 * 2) 2 = vc := (hd 2).trans HC.out
  have q3 : Num.numD (xs.drop (1 + 1 + 2 + 4)) (2 * 3) 2 = vd := (hd 3).trans HD.out
  unfold fill fill fill fill fill
  simp only [q0, q1, q2, q3]
  rfl
 rw [e9] at hs9
 have h10 : DR w w9 rb _ _ vm vl vs va vb vc vd 0 0 := ⟨hr9, hs9, (ht9.block _ (Array.getElem?_eq_some_iff.1 h8.z).1 (by omega) (by omega)).trans h8.z, h8.lo, h8.bw.trans (ht9.below (by omega) (by omega) h8.bw.size)⟩
 clear h8 t8 hs9 hr9 ht9 e9 hd
 simp only [List.drop_drop] at h10
 -- the two trees
 have t10 := take_yes _ rb _ 2 _ h10.r (by omega) (by omega) (by omega)
 rw [show Num.numD (xs.drop (1 + 1 + 2 + 4 + 2 * 4)) 0 2 = vi from (numD_drop xs 16 2 0).trans HI.out] at t10
 go_wp2_with fail
 refine Calls.mono t10 ?_
 rintro e w11 ⟨rfl, hg, hr⟩
 have h11 := h10.grown hg hr
 clear h10 hg hr t10
 have f11 := frozen_of_row _ _ 7 _ _ h11.s
 have c11 := cell_row h11.s 7 _ rfl
 have h12 := h11.set 7 vi rfl
 go_wp2_with fail
 generalize w11.setCell ⟨w.heap.size + 1, 7, none⟩ (.int .i64 vi) = w12 at *
 clear h11 f11 c11
 simp only [List.drop_drop] at h12
 have t12 := take_yes _ rb _ 2 _ h12.r (by omega) (by omega) (by omega)
 rw [show Num.numD (xs.drop (1 + 1 + 2 + 4 + 2 * 4 + 2)) 0 2 = vj from (numD_drop xs 18 2 0).trans HJ.out] at t12
 refine Calls.mono t12 ?_
 rintro e w13 ⟨rfl, hg, hr⟩
 have h13 := h12.grown hg hr
 clear h12 hg hr t12
 have f13 := frozen_of_row _ _ 8 _ _ h13.s
 have c13 := cell_row h13.s 8 _ rfl
 have h14 := h13.set 8 vj rfl
 have hs14 := h14.s
 have hz14 := h14.z
 have hbw := h14.bw
 clear h14
 go_wp2_with (first
  | (refine wpList_load_row rfl 75 _ rfl (w.heap.size + 1) rfl 75 _ (0, 0) _ hs14 Tryz.underlying75 rfl info45 ?_)
  | (refine wpList_store_row rfl 75 _ _ rfl w.heap.size _ rfl rfl 75 _ hz14 info45 rfl (din_one _ _ _ _ _ _ _ _ _) ?_))
 refine bodyPost_ret (v := dinV vm vl vs va vb vc vd vi vj) (results_cell_row (p := 2) (ty := 75) Tryz.results147 _ _ w.heap.size 75 _ (0, 0) _ rfl (setRow_heap _ _ _ _ _ _ hz14) Tryz.underlying75 rfl info45) rfl ?_
 exact ⟨rfl, below_setRow hbw (by omega) _⟩
end Go.Proofs.YthdlpeejmmobmaaGreat.Mk

namespace Go.Proofs.YthdlpeejmmobmaaGreat.Mk
open Go.RowKit
set_option maxRecDepth 100000
set_option linter.unusedVariables false
theorem dmay_zero {l s a b c d i j : Int} (h : DMay 0 l s a b c d i j) : l = 0 ∧ s = 0 ∧ a = 0 ∧ b = 0 ∧ c = 0 ∧ d = 0 ∧ i = 0 ∧ j = 0 := by
 unfold DMay at h
 omega
theorem encodeDinode_yes (m l s a b c d i j : Int) (h : DMay m l s a b c d i j) (w : World) : Calls Tryz.prog 87 #[dinV m l s a b c d i j] w fun e w' => ∃ g cap, e = .returned (.tuple #[.slice (some ⟨g, 0, none⟩) 32 cap, .int .i64 0]) ∧ Own w.heap.size w' g 32 cap (dinB m l s a b c d i j) ∧ Below w.heap.size w w' := by
 by_cases h0 : m = 0
 ·subst h0
  obtain ⟨rfl, rfl, rfl, rfl, rfl, rfl, rfl, rfl⟩ := dmay_zero h
  exact encodeDinode_free w
 ·rw [dinB, if_neg h0]
  exact encodeDinode_used m l s a b c d i j h h0 w
theorem call19 (args : Array Value) (w : World) : (callFunc 87 args).run Tryz.prog w = .ok (.enter 87 args) w := by kernel_rfl
def DGood (xs : List Int) (m l s a b c d i j : Int) : Prop := DMay m l s a b c d i j ∧ dinB m l s a b c d i j = xs
instance (xs : List Int) (m l s a b c d i j : Int) : Decidable (DGood xs m l s a b c d i j) := by unfold DGood; infer_instance
theorem bi_range {w : World} {b o n : Nat} {xs : List Int} (h : BI w (some ⟨b, o, none⟩) n xs) : w.rangeAt b o (xs.map (Value.int .u8)) := by
 intro j v hv
 have hj : j < n := by have := (List.getElem?_eq_some_iff.1 hv).1; simpa [h.len] using this
 obtain ⟨b', o', e, hc⟩ := h.cells (by omega)
 cases e
 rw [hc j hj]
 rw [List.getElem?_map] at hv
 rw [List.getD_eq_getElem?_getD]
 cases hx : xs[j]? with
 | none => rw [hx] at hv; cases hv
 | some x => rw [hx] at hv; simpa using hv
set_option maxHeartbeats 1000000 in
theorem dform_yes (m l s a b c d i j : Int) (p : Option Addr) (n cc : Nat) (xs : List Int) (w : World) (h : BI w p n xs) (hm : DMay m l s a b c d i j) (he : dinB m l s a b c d i j = xs) :
  Calls Tryz.prog 146 #[dinV m l s a b c d i j, .slice p n cc, .func (.func 87) #[] #[]] w fun e w' => e = .returned (.tuple #[dinV m l s a b c d i j, .int .i64 0]) ∧ Below w.heap.size w w' := by
 have hc9 := call19
 have HB := (grew_alloc w (dinO m l s a b c d i j)).trans ((grew_alloc (w.alloc (dinO m l s a b c d i j)) (dinO 0 0 0 0 0 0 0 0 0)).mono (by rw [size_alloc]; omega))
 have hx0 : ((w.alloc (dinO m l s a b c d i j)).alloc (dinO 0 0 0 0 0 0 0 0 0)).heap[w.heap.size]? = some (dinO m l s a b c d i j) := by rw [Below.heap_alloc _ _ _ (by rw [size_alloc]; omega)]; exact heap_new _ _
 have hr0 : ((w.alloc (dinO m l s a b c d i j)).alloc (dinO 0 0 0 0 0 0 0 0 0)).heap[w.heap.size + 1]? = some (dinO 0 0 0 0 0 0 0 0 0) := by
  have := heap_new (w.alloc (dinO m l s a b c d i j)) (dinO 0 0 0 0 0 0 0 0 0)
  rwa [size_alloc] at this
 have hsz : ((w.alloc (dinO m l s a b c d i j)).alloc (dinO 0 0 0 0 0 0 0 0 0)).heap.size = w.heap.size + 2 := by rw [size_alloc, size_alloc]
 have h0 : BI ((w.alloc (dinO m l s a b c d i j)).alloc (dinO 0 0 0 0 0 0 0 0 0)) p n xs := h.kept HB
 go_enter Tryz.func146, Tryz.ntmps146
 go_wp2_with fail
 generalize (w.alloc (dinO m l s a b c d i j)).alloc (dinO 0 0 0 0 0 0 0 0 0) = w0 at *
 refine Calls.mono (encodeDinode_yes m l s a b c d i j hm _) ?_
 rintro e w1 ⟨g, cap, rfl, ho, hb1⟩
 have hx1 : w1.heap[w.heap.size]? = some (dinO m l s a b c d i j) := by rw [hb1.block _ (by omega)]; exact hx0
 have hr1 : w1.heap[w.heap.size + 1]? = some (dinO 0 0 0 0 0 0 0 0 0) := by rw [hb1.block _ (by omega)]; exact hr0
 have hq := equal_any _ p 32 cap n cc _ xs w1 (ho.bi (by omega) (dinB_byt m l s a b c d i j)) (h0.kept hb1)
 have HB1 := grew_trans HB hb1
 have heq : (dinB m l s a b c d i j == xs) = true := by rw [beq_iff_eq]; exact he
 rw [heq] at hq
 clear hx0 hr0 hsz ho h0 heq he h
 go_wp2_with (first
  | (go_at_call 86; refine same_at hq ?_)
  | (refine wpList_load_row rfl 75 _ rfl w.heap.size rfl 75 _ (0, 0) _ hx1 Tryz.underlying75 rfl info45 ?_)
  | (refine wpList_store_row rfl 75 _ _ rfl (w.heap.size + 1) _ rfl rfl 75 _ hr1 info45 rfl (din_one m l s a b c d i j) ?_))
 refine bodyPost_ret (v := .tuple #[dinV m l s a b c d i j, .int .i64 0]) (results_cell_tmp_row (p := 6) (u := 7) (ty := 75) Tryz.results146 _ _ (w.heap.size + 1) 75 _ (0, 0) _ rfl (setRow_heap _ _ _ _ _ _ hr1) Tryz.underlying75 rfl info45) rfl ?_
 exact ⟨rfl, below_setRow HB1 (by omega) _⟩
set_option maxHeartbeats 1000000 in
theorem dform_bad (m l s a b c d i j : Int) (p : Option Addr) (n cc : Nat) (xs : List Int) (w : World) (h : BI w p n xs) (hm : DMay m l s a b c d i j) (he : ¬ dinB m l s a b c d i j = xs) :
  Calls Tryz.prog 146 #[dinV m l s a b c d i j, .slice p n cc, .func (.func 87) #[] #[]] w fun e w' => e = .returned (.tuple #[dinV 0 0 0 0 0 0 0 0 0, .int .i64 6]) ∧ Below w.heap.size w w' := by
 have hc9 := call19
 have HB := (grew_alloc w (dinO m l s a b c d i j)).trans ((grew_alloc (w.alloc (dinO m l s a b c d i j)) (dinO 0 0 0 0 0 0 0 0 0)).mono (by rw [size_alloc]; omega))
 have hx0 : ((w.alloc (dinO m l s a b c d i j)).alloc (dinO 0 0 0 0 0 0 0 0 0)).heap[w.heap.size]? = some (dinO m l s a b c d i j) := by rw [Below.heap_alloc _ _ _ (by rw [size_alloc]; omega)]; exact heap_new _ _
 have hr0 : ((w.alloc (dinO m l s a b c d i j)).alloc (dinO 0 0 0 0 0 0 0 0 0)).heap[w.heap.size + 1]? = some (dinO 0 0 0 0 0 0 0 0 0) := by
  have := heap_new (w.alloc (dinO m l s a b c d i j)) (dinO 0 0 0 0 0 0 0 0 0)
  rwa [size_alloc] at this
 have hsz : ((w.alloc (dinO m l s a b c d i j)).alloc (dinO 0 0 0 0 0 0 0 0 0)).heap.size = w.heap.size + 2 := by rw [size_alloc, size_alloc]
 have h0 : BI ((w.alloc (dinO m l s a b c d i j)).alloc (dinO 0 0 0 0 0 0 0 0 0)) p n xs := h.kept HB
 go_enter Tryz.func146, Tryz.ntmps146
 go_wp2_with fail
 generalize (w.alloc (dinO m l s a b c d i j)).alloc (dinO 0 0 0 0 0 0 0 0 0) = w0 at *
 refine Calls.mono (encodeDinode_yes m l s a b c d i j hm _) ?_
 rintro e w1 ⟨g, cap, rfl, ho, hb1⟩
 have hx1 : w1.heap[w.heap.size]? = some (dinO m l s a b c d i j) := by rw [hb1.block _ (by omega)]; exact hx0
 have hr1 : w1.heap[w.heap.size + 1]? = some (dinO 0 0 0 0 0 0 0 0 0) := by rw [hb1.block _ (by omega)]; exact hr0
 have hq := equal_any _ p 32 cap n cc _ xs w1 (ho.bi (by omega) (dinB_byt m l s a b c d i j)) (h0.kept hb1)
 have HB1 := grew_trans HB hb1
 have heq : (dinB m l s a b c d i j == xs) = false := by rw [beq_eq_false_iff_ne]; exact he
 rw [heq] at hq
 have hr2 : (w1.alloc (dinO 0 0 0 0 0 0 0 0 0)).heap[w.heap.size + 1]? = some (dinO 0 0 0 0 0 0 0 0 0) := at_old hr1
 clear hx0 hr0 hsz ho h0 heq he h
 go_wp2_with (first
  | (go_at_call 86; refine same_at hq ?_)
  | (refine wpList_store_row rfl 75 _ _ rfl (w.heap.size + 1) _ rfl rfl 75 _ hr2 info45 rfl (din_one 0 0 0 0 0 0 0 0 0) ?_))
 refine bodyPost_ret (v := .tuple #[dinV 0 0 0 0 0 0 0 0 0, .int .i64 6]) (results_cell_tmp_row (p := 6) (u := 7) (ty := 75) Tryz.results146 _ _ (w.heap.size + 1) 75 _ (0, 0) _ rfl (setRow_heap _ _ _ _ _ _ hr2) Tryz.underlying75 rfl info45) rfl ?_
 exact ⟨rfl, below_setRow (HB1.alloc HB1.size _) (by omega) _⟩
set_option maxHeartbeats 1000000 in
theorem dform_no (m l s a b c d i j : Int) (p : Option Addr) (n cc : Nat) (xs : List Int) (w : World) (h : BI w p n xs) (hm : ¬ DMay m l s a b c d i j) :
  Calls Tryz.prog 146 #[dinV m l s a b c d i j, .slice p n cc, .func (.func 87) #[] #[]] w fun e w' => e = .returned (.tuple #[dinV 0 0 0 0 0 0 0 0 0, .int .i64 6]) ∧ Below w.heap.size w w' := by
 have hc9 := call19
 have HB := (grew_alloc w (dinO m l s a b c d i j)).trans ((grew_alloc (w.alloc (dinO m l s a b c d i j)) (dinO 0 0 0 0 0 0 0 0 0)).mono (by rw [size_alloc]; omega))
 have hx0 : ((w.alloc (dinO m l s a b c d i j)).alloc (dinO 0 0 0 0 0 0 0 0 0)).heap[w.heap.size]? = some (dinO m l s a b c d i j) := by rw [Below.heap_alloc _ _ _ (by rw [size_alloc]; omega)]; exact heap_new _ _
 have hr0 : ((w.alloc (dinO m l s a b c d i j)).alloc (dinO 0 0 0 0 0 0 0 0 0)).heap[w.heap.size + 1]? = some (dinO 0 0 0 0 0 0 0 0 0) := by
  have := heap_new (w.alloc (dinO m l s a b c d i j)) (dinO 0 0 0 0 0 0 0 0 0)
  rwa [size_alloc] at this
 have hsz : ((w.alloc (dinO m l s a b c d i j)).alloc (dinO 0 0 0 0 0 0 0 0 0)).heap.size = w.heap.size + 2 := by rw [size_alloc, size_alloc]
 go_enter Tryz.func146, Tryz.ntmps146
 go_wp2_with fail
 generalize (w.alloc (dinO m l s a b c d i j)).alloc (dinO 0 0 0 0 0 0 0 0 0) = w0 at *
 refine grew_at (encodeDinode_no m l s a b c d i j hm _) ?_
 intro w1 hb1
 have hr1 : w1.heap[w.heap.size + 1]? = some (dinO 0 0 0 0 0 0 0 0 0) := by rw [hb1.block _ (by omega)]; exact hr0
 have HB1 := grew_trans HB hb1
 have hr2 : (w1.alloc (dinO 0 0 0 0 0 0 0 0 0)).heap[w.heap.size + 1]? = some (dinO 0 0 0 0 0 0 0 0 0) := at_old hr1
 clear hx0 hr0 hsz h
 go_wp2_with (first
  | (refine wpList_store_row rfl 75 _ _ rfl (w.heap.size + 1) _ rfl rfl 75 _ hr2 info45 rfl (din_one 0 0 0 0 0 0 0 0 0) ?_))
 refine bodyPost_ret (v := .tuple #[dinV 0 0 0 0 0 0 0 0 0, .int .i64 6]) (results_cell_tmp_row (p := 6) (u := 7) (ty := 75) Tryz.results146 _ _ (w.heap.size + 1) 75 _ (0, 0) _ rfl (setRow_heap _ _ _ _ _ _ hr2) Tryz.underlying75 rfl info45) rfl ?_
 exact ⟨rfl, below_setRow (HB1.alloc HB1.size _) (by omega) _⟩
theorem dform_ok (m l s a b c d i j : Int) (p : Option Addr) (n cc : Nat) (xs : List Int) (w : World) (h : BI w p n xs) :
  Calls Tryz.prog 146 #[dinV m l s a b c d i j, .slice p n cc, .func (.func 87) #[] #[]] w fun e w' => e = .returned (if DGood xs m l s a b c d i j then .tuple #[dinV m l s a b c d i j, .int .i64 0] else .tuple #[dinV 0 0 0 0 0 0 0 0 0, .int .i64 6]) ∧ Below w.heap.size w w' := by
 by_cases hm : DMay m l s a b c d i j
 ·by_cases he : dinB m l s a b c d i j = xs
  ·rw [if_pos ⟨hm, he⟩]
   exact dform_yes m l s a b c d i j p n cc xs w h hm he
  ·rw [if_neg (fun k => he k.2)]
   exact dform_bad m l s a b c d i j p n cc xs w h hm he
 ·rw [if_neg (fun k => hm k.1)]
  exact dform_no m l s a b c d i j p n cc xs w h hm
end Go.Proofs.YthdlpeejmmobmaaGreat.Mk

namespace Go.Proofs.YthdlpeejmmobmaaGreat.Mk
open Go.RowKit
set_option linter.unusedVariables false
theorem map_byte_inj : ∀ {xs ys : List Int}, xs.map (Value.int .u8) = ys.map (Value.int .u8) → xs = ys
 | [], [], _ => rfl
 | [], _ :: _, h => by simp at h
 | _ :: _, [], h => by simp at h
 | x :: xs, y :: ys, h => by
  simp only [List.map_cons, List.cons.injEq] at h
  rw [map_byte_inj h.2]
  have := h.1
  injection this with _ e
  rw [e]
theorem eq36 (xs ys : List Int) (hx : xs.length = 32) (hy : ys.length = 32) (bx : Num.Byt xs) (by_ : Num.Byt ys) (w : World) : (Op.equalIn 10000 62 (.agg (xs.map (Value.int .u8)).toArray) (.agg (ys.map (Value.int .u8)).toArray)).run Tryz.prog w = .ok (decide (xs = ys)) w := by
 obtain ⟨l, h⟩ := lits_bytes Tryz.underlying62 cells36 0 xs hx bx
 obtain ⟨l', h'⟩ := lits_bytes Tryz.underlying62 cells36 0 ys hy by_
 have hf : ∀ zs : List Int, zs.length = 32 → (Value.agg (zs.map (Value.int .u8)).toArray).formed Tryz.prog 62 = true := by
  intro zs hz
  simp [Value.formed, Tryz.underlying62, cells36, hz]
 obtain ⟨r, hr, he⟩ := run_equalIn_deep (P := Tryz.prog) 9998 2 62 (by kernel_rfl) w _ _ _ _ l l' (hf xs hx) (hf ys hy) h h'
 suffices hrr : r = decide (xs = ys) by rw [hr, hrr]
 rw [Bool.eq_iff_iff, he, decide_eq_true_iff]
 constructor
 ·rintro rfl
  have t : Tryz.prog.tiled 2 62 = true := by kernel_rfl
  exact map_byte_inj ((cells_of_lits 2 62 t _ _ _ h).trans (cells_of_lits 2 62 t _ _ _ h').symm)
 ·rintro rfl
  rw [h] at h'
  exact Option.some.inj h'
theorem guard36 : Tryz.prog.eqGuardType Tryz.prog.depth 62 = false := by kernel_rfl
theorem info36 : (Tryz.prog.info? 62).map (·.size) = some 32 := by kernel_rfl
theorem zero36 : (#[.int .u8 0, .int .u8 0, .int .u8 0, .int .u8 0, .int .u8 0, .int .u8 0, .int .u8 0, .int .u8 0, .int .u8 0, .int .u8 0, .int .u8 0, .int .u8 0, .int .u8 0, .int .u8 0, .int .u8 0, .int .u8 0, .int .u8 0, .int .u8 0, .int .u8 0, .int .u8 0, .int .u8 0, .int .u8 0, .int .u8 0, .int .u8 0, .int .u8 0, .int .u8 0, .int .u8 0, .int .u8 0, .int .u8 0, .int .u8 0, .int .u8 0, .int .u8 0] : Array Value) = ((zers 32).map (Value.int .u8)).toArray := by rfl
theorem array36 (p : Option Addr) (c : Nat) (w : World) : (Instr.arrayAt 62 (.slice p 32 c)).run Tryz.prog w = .ok (.pointer p) w := by
 simp [Instr.arrayAt, Sem.run_bind, run_underlying Tryz.underlying62]
abbrev rdV (xs : List Int) : Value := dinV (Num.numD xs 0 1) (Num.numD xs 2 2) (Num.numD xs 4 4) (Num.numD xs 8 2) (Num.numD xs 10 2) (Num.numD xs 12 2) (Num.numD xs 14 2) (Num.numD xs 16 2) (Num.numD xs 18 2)
def RGood (xs : List Int) : Prop := DGood xs (Num.numD xs 0 1) (Num.numD xs 2 2) (Num.numD xs 4 4) (Num.numD xs 8 2) (Num.numD xs 10 2) (Num.numD xs 12 2) (Num.numD xs 14 2) (Num.numD xs 16 2) (Num.numD xs 18 2)
instance (xs : List Int) : Decidable (RGood xs) := by unfold RGood; infer_instance
def ddE (n : Nat) (xs : List Int) : Int := if n ≠ 32 then 6 else if xs = zers 32 then 0 else if ¬ (Num.numD xs 28 4 == Num.sum xs 28) = true then 30 else if RGood xs then 0 else 6
def ddV (n : Nat) (xs : List Int) : Value := if ddE n xs = 0 then rdV xs else dinV 0 0 0 0 0 0 0 0 0
set_option maxHeartbeats 1000000 in
theorem decodeDinode_len (p : Option Addr) (n c : Nat) (w : World) (hn : n ≤ 140737488355328) (h1 : ¬ n = 32) :
  Calls Tryz.prog 77 #[.slice p n c] w fun e w' => e = .returned (.tuple #[dinV 0 0 0 0 0 0 0 0 0, .int .i64 6]) ∧ Below w.heap.size w w' := by
 have HB := grew_alloc w (dinO 0 0 0 0 0 0 0 0 0)
 have hr0 := heap_new w (dinO 0 0 0 0 0 0 0 0 0)
 have hI : ¬ (n : Int) = 32 := by omega
 go_enter Tryz.func77, Tryz.ntmps77
 go_wp2_with (refine wpList_store_row rfl 75 _ _ rfl w.heap.size _ rfl rfl 75 _ hr0 info45 rfl (din_one 0 0 0 0 0 0 0 0 0) ?_)
 refine bodyPost_ret (v := .tuple #[dinV 0 0 0 0 0 0 0 0 0, .int .i64 6]) (results_cell_tmp_row (p := 2) (u := 3) (ty := 75) Tryz.results77 _ _ w.heap.size 75 _ (0, 0) _ rfl (setRow_heap _ _ _ _ _ _ hr0) Tryz.underlying75 rfl info45) rfl ?_
 exact ⟨rfl, below_setRow HB (by omega) _⟩
set_option maxRecDepth 10000 in
set_option maxHeartbeats 1000000 in
theorem decodeDinode_zero (p : Option Addr) (c : Nat) (xs : List Int) (w : World) (h : BI w p 32 xs) (hz : xs = zers 32) :
  Calls Tryz.prog 77 #[.slice p 32 c] w fun e w' => e = .returned (.tuple #[dinV 0 0 0 0 0 0 0 0 0, .int .i64 0]) ∧ Below w.heap.size w w' := by
 have HB := grew_alloc w (dinO 0 0 0 0 0 0 0 0 0)
 have hr0 := heap_new w (dinO 0 0 0 0 0 0 0 0 0)
 have h0 : BI (w.alloc (dinO 0 0 0 0 0 0 0 0 0)) p 32 xs := h.kept HB
 obtain ⟨b, o, rfl, hc⟩ := h0.cells (by omega)
 have hrg := bi_range h0
 have hq := eq36 xs (zers 32) h.len (zers_len 32) h.byt (zers_byt 32) (w.alloc (dinO 0 0 0 0 0 0 0 0 0))
 rw [decide_eq_true hz] at hq
 have hi36 : (Tryz.prog.info? 62).map (·.size) = some (xs.map (Value.int .u8)).length := by rw [List.length_map, h.len]; exact info36
 rw [← zero36] at hq
 have hat := array36
 clear hc h0 hz
 go_enter Tryz.func77, Tryz.ntmps77
 go_wp2_with (first
  | (refine wpList_load_mid rfl 62 _ rfl b o rfl _ _ hrg Tryz.underlying62 rfl hi36 ?_)
  | (refine wpList_eql_wanted (by rfl) 62 (.tmp 12) (.tmp 13) rfl _ _ rfl rfl guard36 _ hq ?_)
  | (refine wpList_store_row rfl 75 _ _ rfl w.heap.size _ rfl rfl 75 _ hr0 info45 rfl (din_one 0 0 0 0 0 0 0 0 0) ?_))
 refine bodyPost_ret (v := .tuple #[dinV 0 0 0 0 0 0 0 0 0, .int .i64 0]) (results_cell_tmp_row (p := 2) (u := 3) (ty := 75) Tryz.results77 _ _ w.heap.size 75 _ (0, 0) _ rfl (setRow_heap _ _ _ _ _ _ hr0) Tryz.underlying75 rfl info45) rfl ?_
 exact ⟨rfl, below_setRow HB (by omega) _⟩
end Go.Proofs.YthdlpeejmmobmaaGreat.Mk

namespace Go.Proofs.YthdlpeejmmobmaaGreat.Mk
open Go.RowKit
set_option maxRecDepth 100000
set_option linter.unusedVariables false
instance (xs : List Int) : Decidable (RGood xs) := by unfold RGood; infer_instance
set_option maxRecDepth 10000 in
set_option maxHeartbeats 1000000 in
theorem decodeDinode_sum (p : Option Addr) (c : Nat) (xs : List Int) (w : World) (h : BI w p 32 xs) (hnc : 32 ≤ c) (hz : ¬ xs = zers 32) (hs : ¬ (Num.numD xs 28 4 == Num.sum xs 28) = true) :
  Calls Tryz.prog 77 #[.slice p 32 c] w fun e w' => e = .returned (.tuple #[dinV 0 0 0 0 0 0 0 0 0, .int .i64 30]) ∧ Below w.heap.size w w' := by
 have HB := grew_alloc w (dinO 0 0 0 0 0 0 0 0 0)
 have hr0 := heap_new w (dinO 0 0 0 0 0 0 0 0 0)
 have h0 : BI (w.alloc (dinO 0 0 0 0 0 0 0 0 0)) p 32 xs := h.kept HB
 have hse := sealed_ok p 32 c xs _ h0 hnc (by omega)
 rw [show (Num.numD xs (32 - 4) 4 == Num.sum xs (32 - 4)) = false from Bool.eq_false_iff.2 hs] at hse
 clear hs
 obtain ⟨b, o, rfl, hc⟩ := h0.cells (by omega)
 have hrg := bi_range h0
 have hq := eq36 xs (zers 32) h.len (zers_len 32) h.byt (zers_byt 32) (w.alloc (dinO 0 0 0 0 0 0 0 0 0))
 rw [decide_eq_false hz] at hq
 have hi36 : (Tryz.prog.info? 62).map (·.size) = some (xs.map (Value.int .u8)).length := by rw [List.length_map, h.len]; exact info36
 rw [← zero36] at hq
 have hat := array36
 clear hc hz
 go_enter Tryz.func77, Tryz.ntmps77
 go_wp2_with (first
  | (refine wpList_load_mid rfl 62 _ rfl b o rfl _ _ hrg Tryz.underlying62 rfl hi36 ?_)
  | (refine wpList_eql_wanted (by rfl) 62 (.tmp 12) (.tmp 13) rfl _ _ rfl rfl guard36 _ hq ?_)
  | (go_at_call 145; refine same_at hse ?_)
  | (refine wpList_store_row rfl 75 _ _ rfl w.heap.size _ rfl rfl 75 _ hr0 info45 rfl (din_one 0 0 0 0 0 0 0 0 0) ?_))
 refine bodyPost_ret (v := .tuple #[dinV 0 0 0 0 0 0 0 0 0, .int .i64 30]) (results_cell_tmp_row (p := 2) (u := 3) (ty := 75) Tryz.results77 _ _ w.heap.size 75 _ (0, 0) _ rfl (setRow_heap _ _ _ _ _ _ hr0) Tryz.underlying75 rfl info45) rfl ?_
 exact ⟨rfl, below_setRow HB (by omega) _⟩
set_option maxRecDepth 10000 in
set_option maxHeartbeats 1000000 in
theorem decodeDinode_good (p : Option Addr) (c : Nat) (xs : List Int) (w : World) (h : BI w p 32 xs) (hnc : 32 ≤ c) (hz : ¬ xs = zers 32) (hs : (Num.numD xs 28 4 == Num.sum xs 28) = true) (hg : RGood xs) :
  Calls Tryz.prog 77 #[.slice p 32 c] w fun e w' => e = .returned (.tuple #[rdV xs, .int .i64 0]) ∧ Below w.heap.size w w' := by
 have HB := grew_alloc w (dinO 0 0 0 0 0 0 0 0 0)
 have hr0 := heap_new w (dinO 0 0 0 0 0 0 0 0 0)
 have h0 : BI (w.alloc (dinO 0 0 0 0 0 0 0 0 0)) p 32 xs := h.kept HB
 have hse := sealed_ok p 32 c xs _ h0 hnc (by omega)
 rw [show (Num.numD xs (32 - 4) 4 == Num.sum xs (32 - 4)) = true from hs] at hse
 clear hs
 have hrd := readDinode_ok p c xs _ h0
 have HG := (show Hid _ from hg)
 clear hg
 unfold RGood at HG
 obtain ⟨b, o, rfl, hc⟩ := h0.cells (by omega)
 have hrg := bi_range h0
 have hq := eq36 xs (zers 32) h.len (zers_len 32) h.byt (zers_byt 32) (w.alloc (dinO 0 0 0 0 0 0 0 0 0))
 rw [decide_eq_false hz] at hq
 have hi36 : (Tryz.prog.info? 62).map (·.size) = some (xs.map (Value.int .u8)).length := by rw [List.length_map, h.len]; exact info36
 rw [← zero36] at hq
 have hat := array36
 clear hc hz
 go_enter Tryz.func77, Tryz.ntmps77
 go_wp2_with (first
  | (refine wpList_load_mid rfl 62 _ rfl b o rfl _ _ hrg Tryz.underlying62 rfl hi36 ?_)
  | (refine wpList_eql_wanted (by rfl) 62 (.tmp 12) (.tmp 13) rfl _ _ rfl rfl guard36 _ hq ?_)
  | (go_at_call 145; refine same_at hse ?_)
  | (go_at_call 147; refine grew_at hrd ?_; intro w1 hb1; have HB1 := grew_trans HB hb1; have hr1 : w1.heap[w.heap.size]? = some (dinO 0 0 0 0 0 0 0 0 0) := (by rw [hb1.block _ (by rw [size_alloc]; omega)]; exact hr0); have hfo := dform_ok (Num.numD xs 0 1) (Num.numD xs 2 2) (Num.numD xs 4 4) (Num.numD xs 8 2) (Num.numD xs 10 2) (Num.numD xs 12 2) (Num.numD xs 14 2) (Num.numD xs 16 2) (Num.numD xs 18 2) _ 32 c xs w1 (h0.kept hb1); rw [if_pos HG.out] at hfo)
  | (go_at_call 146; refine grew_at hfo ?_; intro w2 hb2; have HB2 := grew_trans HB1 hb2; have hr2 : w2.heap[w.heap.size]? = some (dinO 0 0 0 0 0 0 0 0 0) := (by rw [hb2.block _ (Array.getElem?_eq_some_iff.1 hr1).1]; exact hr1))
  | (refine wpList_store_row rfl 75 _ _ rfl w.heap.size _ rfl rfl 75 _ hr2 info45 rfl (din_one _ _ _ _ _ _ _ _ _) ?_))
 refine bodyPost_ret (v := .tuple #[rdV xs, .int .i64 0]) (results_cell_tmp_row (p := 2) (u := 3) (ty := 75) Tryz.results77 _ _ w.heap.size 75 _ (0, 0) _ rfl (setRow_heap _ _ _ _ _ _ hr2) Tryz.underlying75 rfl info45) rfl ?_
 exact ⟨rfl, below_setRow HB2 (by omega) _⟩
set_option maxRecDepth 10000 in
set_option maxHeartbeats 1000000 in
theorem decodeDinode_bad (p : Option Addr) (c : Nat) (xs : List Int) (w : World) (h : BI w p 32 xs) (hnc : 32 ≤ c) (hz : ¬ xs = zers 32) (hs : (Num.numD xs 28 4 == Num.sum xs 28) = true) (hg : ¬ RGood xs) :
  Calls Tryz.prog 77 #[.slice p 32 c] w fun e w' => e = .returned (.tuple #[dinV 0 0 0 0 0 0 0 0 0, .int .i64 6]) ∧ Below w.heap.size w w' := by
 have HB := grew_alloc w (dinO 0 0 0 0 0 0 0 0 0)
 have hr0 := heap_new w (dinO 0 0 0 0 0 0 0 0 0)
 have h0 : BI (w.alloc (dinO 0 0 0 0 0 0 0 0 0)) p 32 xs := h.kept HB
 have hse := sealed_ok p 32 c xs _ h0 hnc (by omega)
 rw [show (Num.numD xs (32 - 4) 4 == Num.sum xs (32 - 4)) = true from hs] at hse
 clear hs
 have hrd := readDinode_ok p c xs _ h0
 have HG := (show Hid _ from hg)
 clear hg
 unfold RGood at HG
 obtain ⟨b, o, rfl, hc⟩ := h0.cells (by omega)
 have hrg := bi_range h0
 have hq := eq36 xs (zers 32) h.len (zers_len 32) h.byt (zers_byt 32) (w.alloc (dinO 0 0 0 0 0 0 0 0 0))
 rw [decide_eq_false hz] at hq
 have hi36 : (Tryz.prog.info? 62).map (·.size) = some (xs.map (Value.int .u8)).length := by rw [List.length_map, h.len]; exact info36
 rw [← zero36] at hq
 have hat := array36
 clear hc hz
 go_enter Tryz.func77, Tryz.ntmps77
 go_wp2_with (first
  | (refine wpList_load_mid rfl 62 _ rfl b o rfl _ _ hrg Tryz.underlying62 rfl hi36 ?_)
  | (refine wpList_eql_wanted (by rfl) 62 (.tmp 12) (.tmp 13) rfl _ _ rfl rfl guard36 _ hq ?_)
  | (go_at_call 145; refine same_at hse ?_)
  | (go_at_call 147; refine grew_at hrd ?_; intro w1 hb1; have HB1 := grew_trans HB hb1; have hr1 : w1.heap[w.heap.size]? = some (dinO 0 0 0 0 0 0 0 0 0) := (by rw [hb1.block _ (by rw [size_alloc]; omega)]; exact hr0); have hfo := dform_ok (Num.numD xs 0 1) (Num.numD xs 2 2) (Num.numD xs 4 4) (Num.numD xs 8 2) (Num.numD xs 10 2) (Num.numD xs 12 2) (Num.numD xs 14 2) (Num.numD xs 16 2) (Num.numD xs 18 2) _ 32 c xs w1 (h0.kept hb1); rw [if_neg HG.out] at hfo)
  | (go_at_call 146; refine grew_at hfo ?_; intro w2 hb2; have HB2 := grew_trans HB1 hb2; have hr2 : w2.heap[w.heap.size]? = some (dinO 0 0 0 0 0 0 0 0 0) := (by rw [hb2.block _ (Array.getElem?_eq_some_iff.1 hr1).1]; exact hr1))
  | (refine wpList_store_row rfl 75 _ _ rfl w.heap.size _ rfl rfl 75 _ hr2 info45 rfl (din_one _ _ _ _ _ _ _ _ _) ?_))
 refine bodyPost_ret (v := .tuple #[dinV 0 0 0 0 0 0 0 0 0, .int .i64 6]) (results_cell_tmp_row (p := 2) (u := 3) (ty := 75) Tryz.results77 _ _ w.heap.size 75 _ (0, 0) _ rfl (setRow_heap _ _ _ _ _ _ hr2) Tryz.underlying75 rfl info45) rfl ?_
 exact ⟨rfl, below_setRow HB2 (by omega) _⟩
theorem numD_zers : ∀ (k n a : Nat), Num.numD (zers n) a k = 0
 | 0, _, _ => rfl
 | k + 1, n, a => by
  show (zers n).getD a 0 + 256 * Num.numD (zers n) (a + 1) k = 0
  rw [numD_zers k n (a + 1)]
  unfold zers
  rw [List.getD_eq_getElem?_getD]
  by_cases h : a < n
  ·rw [List.getElem?_replicate_of_lt h]; rfl
  ·rw [List.getElem?_eq_none (by simp; omega)]; rfl
theorem decodeDinode_ok (p : Option Addr) (n c : Nat) (xs : List Int) (w : World) (h : BI w p n xs) (hnc : n ≤ c) :
  Calls Tryz.prog 77 #[.slice p n c] w fun e w' => e = .returned (.tuple #[ddV n xs, .int .i64 (ddE n xs)]) ∧ Below w.heap.size w w' := by
 by_cases h1 : n = 32
 ·subst h1
  by_cases hz : xs = zers 32
  ·have e : ddE 32 xs = 0 := by unfold ddE; rw [if_neg (by omega), if_pos hz]
   have v : ddV 32 xs = dinV 0 0 0 0 0 0 0 0 0 := by unfold ddV; rw [if_pos e, hz]; unfold rdV; simp only [numD_zers]
   rw [e, v]
   exact decodeDinode_zero p c xs w h hz
  ·by_cases hs : (Num.numD xs 28 4 == Num.sum xs 28) = true
   ·by_cases hg : RGood xs
    ·have e : ddE 32 xs = 0 := by unfold ddE; rw [if_neg (by omega), if_neg hz, if_neg (by simpa using hs), if_pos hg]
     have v : ddV 32 xs = rdV xs := by unfold ddV; rw [if_pos e]
     rw [e, v]
     exact decodeDinode_good p c xs w h hnc hz hs hg
    ·have e : ddE 32 xs = 6 := by unfold ddE; rw [if_neg (by omega), if_neg hz, if_neg (by simpa using hs), if_neg hg]
     have v : ddV 32 xs = dinV 0 0 0 0 0 0 0 0 0 := by unfold ddV; rw [if_neg (by rw [e]; decide)]
     rw [e, v]
     exact decodeDinode_bad p c xs w h hnc hz hs hg
   ·have e : ddE 32 xs = 30 := by unfold ddE; rw [if_neg (by omega), if_neg hz, if_pos hs]
    have v : ddV 32 xs = dinV 0 0 0 0 0 0 0 0 0 := by unfold ddV; rw [if_neg (by rw [e]; decide)]
    rw [e, v]
    exact decodeDinode_sum p c xs w h hnc hz hs
 ·have e : ddE n xs = 6 := by unfold ddE; rw [if_pos h1]
  have v : ddV n xs = dinV 0 0 0 0 0 0 0 0 0 := by unfold ddV; rw [if_neg (by rw [e]; decide)]
  rw [e, v]
  exact decodeDinode_len p n c w h.big h1
end Go.Proofs.YthdlpeejmmobmaaGreat.Mk

namespace Go.Proofs.YthdlpeejmmobmaaGreat.Mk
open Go.RowKit
set_option maxRecDepth 100000
set_option linter.unusedVariables false
theorem info3 : (Tryz.prog.info? 3).map (fun i => (i.zero, i.size, i.bytes)) = some (some (.int .i64 0), 1, 8) := by kernel_rfl
theorem bytes3 : Tryz.prog.bytesOf 3 = 8 := by kernel_rfl
theorem row_ii {w : World} {H n : Nat} {v : Value} {xs : List Int} (h : w.ownsRow H 3 1 v n (xs.map (Value.int .i64))) (hn : n ≤ 140737488355328) : ∃ p c, v = .slice p n c ∧ II w p n xs ∧ (∀ b o, p = some ⟨b, o, .none⟩ → H ≤ b) := by
 have hl : xs.length = n := by have := h.1; simpa using this
 rcases h.2 with ⟨e, e0⟩ | ⟨g, cap, cur, e, k⟩
 ·subst e0
  exact ⟨_, _, e, ⟨hl, by omega, fun h => by omega⟩, by simp⟩
 ·refine ⟨_, _, e, ⟨hl, hn, fun h0 => ⟨g, 0, rfl, fun i hi => ?_⟩⟩, ?_⟩
  ·subst e
   rw [Nat.zero_add, h.cellAt i (by omega), List.getElem?_map, List.getD_eq_getElem?_getD, List.getElem?_eq_getElem (by omega)]
   rfl
  ·intro b o e2
   cases e2
   subst e
   exact (h.lt _ rfl).1
end Go.Proofs.YthdlpeejmmobmaaGreat.Mk
