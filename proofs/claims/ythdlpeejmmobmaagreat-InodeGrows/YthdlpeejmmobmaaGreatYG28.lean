/- KM7 -/
import Derived.Test.YthdlpeejmmobmaaGreatYG27

namespace Go.Proofs.YthdlpeejmmobmaaGreat.Mk
open Go.RowKit
set_option maxRecDepth 100000
set_option linter.unusedVariables false
set_option maxRecDepth 100000
theorem ownsRow_kept1 {w w' : World} {B g n cap : Nat} {xs : List Int} (h : Own B w g n cap xs) (hb : ∀ k, (Value.slice (some ⟨g, 0, none⟩) n cap).ownBlock = some k → w'.heap[k]? = w.heap[k]?) : Own B w' g n cap xs := by
 refine ⟨h.1, ?_⟩
 rcases h.2 with h' | ⟨g', cap', cur, e, hB, hg, rest⟩
 ·exact .inl h'
 ·exact .inr ⟨g', cap', cur, e, hB, (hb g' (by rw [e]; rfl)).trans hg, rest⟩
structure Els (B : Nat) (w : World) (vs : List Value) (g2 : Nat) (F : Nat → List Int) : Prop where
 el : ∀ (k : Nat) (v : Value), vs[k]? = some v → ∃ g c, v = .slice (some ⟨g, 0, none⟩) 128 c ∧ B ≤ g ∧ (∃ cs, w.heap[g]? = some (Obj.cells cs 5 (0, 0))) ∧ BI w (some ⟨g, 0, none⟩) 128 (F k) ∧ (k ≠ 2 → g ≠ g2)
 two : 2 < vs.length → vs[2]? = some (.slice (some ⟨g2, 0, none⟩) 128 128) ∧ w.heap[g2]? = some (.cells aZ 5 (0, 0))
theorem Els.kept {B : Nat} {w w' : World} {vs : List Value} {g2 : Nat} {F : Nat → List Int} (h : Els B w vs g2 F) (hb : ∀ k, k < w.heap.size → (∃ cs, w.heap[k]? = some (Obj.cells cs 5 (0, 0))) → w'.heap[k]? = w.heap[k]?) : Els B w' vs g2 F := by
 have key : ∀ k, (∃ cs, w.heap[k]? = some (Obj.cells cs 5 (0, 0))) → w'.heap[k]? = w.heap[k]? := fun k hk => hb k (by obtain ⟨cs, h1⟩ := hk; exact (Array.getElem?_eq_some_iff.1 h1).1) hk
 refine ⟨fun k v hv => ?_, fun h2 => ?_⟩
 ·obtain ⟨g, c, e, h1, h2, h3, h4⟩ := h.el k v hv
  refine ⟨g, c, e, h1, ?_, bi_same h3 (fun b o e' _ => by cases e'; exact key g h2), h4⟩
  rw [key g h2]; exact h2
 ·obtain ⟨h1, h3⟩ := h.two h2
  exact ⟨h1, (key g2 ⟨aZ, h3⟩).trans h3⟩
def grF (g b i n k : Nat) : List Int := if k = 1 then groupL (n : Int) (hdY i n) else if k = 0 then superS g b i 0 else zers 128
theorem Els.app {B : Nat} {w w' : World} {vs : List Value} {g2 l m0 : Nat} {F : Nat → List Int} (h : Els B w vs g2 F) (hl : l = vs.length) (h2 : 2 ≤ l) (hB : B ≤ m0) (hm : m0 = w.heap.size) (hnew : l = 2 → w.heap.size ≤ g2)
  (hb : ∀ k, k < w.heap.size → (∃ cs, w.heap[k]? = some (Obj.cells cs 5 (0, 0))) → w'.heap[k]? = w.heap[k]?) (hz : w'.heap[m0]? = some (.cells aZ 5 (0, 0))) (hF : F l = zers 128) :
  Els B w' (vs ++ [.slice (some ⟨m0, 0, none⟩) 128 128]) (if l = 2 then m0 else g2) F := by
 have hk := h.kept hb
 have lt : ∀ g, (∃ cs, w.heap[g]? = some (Obj.cells cs 5 (0, 0))) → g < w.heap.size := fun g ⟨cs, h1⟩ => (Array.getElem?_eq_some_iff.1 h1).1
 refine ⟨fun k v hv => ?_, fun h3 => ?_⟩
 ·by_cases hkl : k < l
  ·rw [List.getElem?_append_left (by omega)] at hv
   obtain ⟨g, c, e, h1, _, h5, h4⟩ := hk.el k v hv
   obtain ⟨g', c', e', _, h6, _, _⟩ := h.el k v hv
   have eg : g = g' := by rw [e] at e'; cases e'; rfl
   subst eg
   refine ⟨g, c, e, h1, (by rw [hb g (lt g h6) h6]; exact h6), h5, fun hk2 => ?_⟩
   split
   ·have := lt g h6; omega
   ·exact h4 hk2
  ·rw [List.getElem?_append_right (by omega)] at hv
   have hkl' : k = l := by
    have := (List.getElem?_eq_some_iff.1 hv).1
    simp at this
    omega
   subst hkl'
   rw [hl, Nat.sub_self] at hv
   cases hv
   refine ⟨m0, 128, rfl, hB, ⟨aZ, hz⟩, ?_, fun hk2 => ?_⟩
   ·rw [hF]
    exact (own_of_row (B := 0) (Nat.zero_le _) (by decide) (zers_len 128) hz).bi (by decide) (zers_byt 128)
   ·rw [if_neg hk2]
    have := lt g2 ⟨aZ, (h.two (by omega)).2⟩
    omega
 ·by_cases hl2 : l = 2
  ·rw [if_pos hl2]
   refine ⟨?_, hz⟩
   rw [List.getElem?_append_right (by omega), show 2 - vs.length = 0 by omega]
   rfl
  ·rw [if_neg hl2]
   obtain ⟨e1, e2⟩ := hk.two (by omega)
   exact ⟨by rw [List.getElem?_append_left (by omega)]; exact e1, e2⟩
structure GrI (w wr : World) (g b i n : Nat) (v : Value) (vs : List Value) (g2 : Nat) : Prop where
 lo : 2 ≤ vs.length
 hi : vs.length ≤ b
 row : wr.ownsRow w.heap.size 42 1 v vs.length vs
 els : Els w.heap.size wr vs g2 (grF g b i n)
 geo : wr.heap[w.heap.size]? = some (geomO g b i)
 bel : Below w.heap.size w wr
 new : vs.length = 2 → wr.heap.size ≤ g2
theorem owns_shape {w : World} {B n : Nat} {v : Value} {vs : List Value} (h : w.ownsRow B 42 1 v n vs) (hn : 0 < n) : ∃ (A cap : Nat) (cur : Array Value), v = .slice (some ⟨A, 0, none⟩) n cap ∧ B ≤ A ∧ w.heap[A]? = some (.cells cur 42 (0, 0)) ∧ n ≤ cur.size ∧ (∀ (k : Nat) (u : Value), vs[k]? = some u → cur[k]? = some u) ∧ n ≤ cap ∧ cap ≤ maxLen := by
 rcases h.2 with ⟨e, e0⟩ | ⟨A, cap, cur, e, hB, hg, h1, h2, h3, h4⟩
 ·omega
 ·have hl := h.1
  refine ⟨A, cap, cur, e, hB, hg, by omega, fun k u hu => ?_, h1, h2⟩
  rw [← h4, List.getElem?_take] at hu
  split at hu
  ·rwa [Array.getElem?_toList] at hu
  ·cases hu
theorem newsS (w1 : World) (q : Nat) : ∀ j u, [Value.slice (some ⟨q, 0, none⟩) 128 128][j]? = some u → (w1.alloc (.cells #[.slice (some ⟨q, 0, none⟩) 128 128] 42)).cell? ((⟨w1.heap.size, 0, none⟩ : Addr).add j) = some u := by
 intro j u hu
 rcases j with _ | j
 ·simp at hu
  subst hu
  have e : (⟨w1.heap.size, 0, none⟩ : Addr).add 0 = ⟨w1.heap.size, 0, none⟩ := by unfold Addr.add; split <;> simp_all
  rw [e]
  exact cell_row (at_new rfl) 0 _ rfl
 ·simp at hu
theorem oneS (q : Nat) : ∀ u ∈ [Value.slice (some ⟨q, 0, none⟩) 128 128], u.oneCell' = true := by
 intro u hu
 rw [List.mem_singleton.1 hu]
 rfl
theorem fb_seven : fb (zers 8) 3 = [7, 0, 0, 0, 0, 0, 0, 0] := by decide
theorem hdI_zero : hdI 0 = [7, 0, 0, 0, 0, 0, 0, 0] := by unfold hdI; rw [if_pos rfl, fb_seven]
theorem seven_row (N : Int) (ys : List Int) : (mid (.int .i64 N :: (zers 8).map (Value.int .u8)) [] ys).setIfInBounds 1 (.int .u8 7) = groupA N ([7, 0, 0, 0, 0, 0, 0, 0] ++ ys) := by
 unfold mid groupA
 rw [List.setIfInBounds_toArray]
 simp [zers, List.replicate]
def HdI (w wx : World) (Hh : Nat) (i n : Nat) : Prop := wx.heap[Hh]? = some (.cells (groupA (n : Int) (hdY i n)) 64 (0, 0)) ∧ Fr (fun k => k = Hh) w wx
def RgP (w : World) (g b i n : Nat) (e : Ending) (w' : World) : Prop := ∃ v vs g2, e = .returned v ∧ vs.length = b ∧ w'.ownsRow w.heap.size 42 1 v b vs ∧ Els w.heap.size w' vs g2 (grF g b i n) ∧ Below w.heap.size w w'
set_option maxHeartbeats 4000000 in
theorem rgrp_ok (g b i n : Nat) (hin : Gm.In (g : Int) (b : Int) (i : Int) (n : Int)) (w : World) :
  Calls Tryz.prog 104 #[geomV g b i, .int .i64 (n : Int)] w fun e w' => RgP w g b i n e w' := by
 have hm := hin.1.all
 have h2 := hin.2
 obtain ⟨W1, hW1⟩ : ∃ W1, w.alloc (geomO g b i) = W1 := ⟨_, rfl⟩
 have hb1 : Below w.heap.size w W1 := by rw [← hW1]; exact grew_alloc _ _
 have hg1 : W1.heap[w.heap.size]? = some (geomO g b i) := by rw [← hW1]; exact at_new rfl
 have hsm : SMay (g : Int) (b : Int) (i : Int) 0 := ⟨hin.1, by omega, by omega⟩
 have hgma : GMay (n : Int) := by unfold GMay; omega
 have hes := rencodeSuper_yes g b i 0 hsm W1
 unfold superV at hes
 go_enter Tryz.func104, Tryz.ntmps104
 go_wp2_with (first
  | (refine wpList_load_row rfl 23 (.tmp 2) rfl w.heap.size rfl 23 _ (0, 0) _ hg1 Tryz.underlying23 rfl info23 ?_))
 refine Calls.mono hes ?_
 rintro e w2 ⟨x1, c1, rfl, hO1, hb2⟩
 have hg2 := (hb2.block _ (Array.getElem?_eq_some_iff.1 hg1).1).trans hg1
 have hB2 := grew_trans hb1 hb2
 obtain ⟨W3, hW3⟩ : ∃ W3, (w2.alloc (.cells (groupA 0 (zers 40)) 64)).setRow w2.heap.size (groupA (n : Int) (zers 40)) = W3 := ⟨_, rfl⟩
 have hb3 : Below w2.heap.size w2 W3 := by rw [← hW3]; exact below_setRow (grew_alloc w2 _) (Nat.le_refl _) _
 have hh3 : W3.heap[w2.heap.size]? = some (.cells (groupA (n : Int) (zers 40)) 64 (0, 0)) := by rw [← hW3]; exact setRow_heap _ _ _ _ 64 _ (at_new rfl)
 rw [zers_cut, group_midB] at hh3
 have hg3 := (hb3.block _ (Array.getElem?_eq_some_iff.1 hg2).1).trans hg2
 have hB3 := grew_trans hB2 hb3
 rw [zero38] at hW3
 have hi59 := info38 (n : Int) (zers 40) (zers_len 40)
 have hone := group_one (n : Int) (zers 40)
 have G2 : W3.cell? ⟨w.heap.size, 2, none⟩ = some (.int .i64 (i : Int)) := cell_row hg3 2 _ rfl
 obtain ⟨s, hs⟩ : ∃ s, s = 2 + i / 4 := ⟨_, rfl⟩
 have hq1 : (i : Int).tdiv 4 = ((i / 4 : Nat) : Int) := by rw [Int.tdiv_eq_ediv_of_nonneg (by omega)]; omega
 have HW0 : Hid (w.heap.size ≤ W1.heap.size) := hb1.size
 have HW1 : Hid (w.heap.size < w2.heap.size) := (Array.getElem?_eq_some_iff.1 hg2).1
 have HS : Hid (s = 2 + i / 4 ∧ s ≤ 18 ∧ W3.heap.size ≤ W3.heap.size) := ⟨hs, by omega, Nat.le_refl _⟩
 have HO1 : Hid (Own W1.heap.size w2 x1 128 c1 (superS g b i 0) ∧ Below w.heap.size w w2 ∧ Below w2.heap.size w2 W3 ∧ W3.heap[w.heap.size]? = some (geomO g b i) ∧ Below w.heap.size w W3) := ⟨hO1, hB2, hb3, hg3, hB3⟩
 clear hes hg1 hb1 hW1 hg2 hB2 hb2 hO1 hb3 hB3 hg3 hs
 dsimp only
 go_wp2_with (first
  | (refine wpList_store_row rfl 64 (.tmp 7) _ rfl w2.heap.size (groupA (n : Int) (zers 40)) rfl rfl 64 _ (at_new rfl) hi59 rfl hone ?_; rw [hW3]))
 go_loopw [28] (fun iv wr => ∃ j : Nat, j ≤ 2 + i / 4 ∧ iv = .int .i64 (j : Int) ∧ wr.heap[w2.heap.size]? = some (.cells (mid (.int .i64 (n : Int) :: (zers 8).map (Value.int .u8)) [] (fb (zers 32) j)) 64 (0, 0)) ∧ Fr (fun k => k = w2.heap.size) W3 wr) (fun iv _ => 2 + i / 4 - (intOf iv).toNat)
 case atStart => exact ⟨0, by omega, rfl, hh3, Fr.refl _ _⟩
 case round =>
  obtain ⟨j, hj, rfl, hr, hF⟩ := hrel
  by_cases hlt : j < 2 + i / 4
  ·have hjI : (j : Int) < 2 + (i : Int) / 4 := by omega
   have hfl := fb_len (zers 32) j
   rw [zers_len] at hfl
   have hB := mid_bi hr (fb_byt (zers_byt 32) j) (by omega)
   rw [hfl] at hB
   have hw := rwith_ok ⟨w2.heap.size, 9, none⟩ 32 32 (fb (zers 32) j) j true wr hB (by omega) (by omega)
   have HH : Hid (wr.heap[w2.heap.size]? = some (.cells (mid (.int .i64 (n : Int) :: (zers 8).map (Value.int .u8)) [] (fb (zers 32) j)) 64 (0, 0)) ∧ Fr (fun k => k = w2.heap.size) W3 wr) := ⟨hr, hF⟩
   clear hfl hB hr hF
   go_wp2_with fail
   refine Calls.mono hw ?_
   rintro e w4 ⟨g4, c4, rfl, hO4, hb4⟩
   have hr4 := (hb4.block _ (Array.getElem?_eq_some_iff.1 HH.out.1).1).trans HH.out.1
   have hcd : ∀ ty, (Builtin.copy_ #[42, 42] ty #[.slice (some ⟨w2.heap.size, 9, none⟩) 32 32, .slice (some ⟨g4, 0, none⟩) 32 c4]).run Tryz.prog w4 = _ := mid_copy (c1 := 32) (c2 := c4) hr4 (hO4.bi (by decide) (Bit.put_byt (fb_byt (zers_byt 32) j) _ _)) (by rw [fb_len]; rfl)
   obtain ⟨W5, hW5⟩ : ∃ W5, w4.setRow w2.heap.size (mid (.int .i64 (n : Int) :: (zers 8).map (Value.int .u8)) [] (Bit.put (fb (zers 32) j) j true)) = W5 := ⟨_, rfl⟩
   rw [hW5] at hcd
   have H5 : Hid (W5.heap[w2.heap.size]? = some (.cells (mid (.int .i64 (n : Int) :: (zers 8).map (Value.int .u8)) [] (fb (zers 32) (j + 1))) 64 (0, 0)) ∧ Fr (fun k => k = w2.heap.size) W3 W5) := by
    refine ⟨?_, ?_⟩
    ·rw [← hW5]; exact setRow_heap _ _ _ _ 64 _ hr4
    ·rw [← hW5]; exact (HH.out.2.trans (Fr.below hb4)).trans (Fr.setRow _ _ _)
   clear hw hO4 hb4 hr4 hW5
   dsimp only
   go_wp2_with fail
   go_roundw
   case rel => exact ⟨j + 1, by omega, by go_num, H5.out⟩
   case measure => simp [intOf]; omega
  ·obtain rfl : j = 2 + i / 4 := by omega
   have hjI : ¬ ((2 + i / 4 : Nat) : Int) < 2 + (i : Int) / 4 := by omega
   have HH : Hid (wr.heap[w2.heap.size]? = some (.cells (mid (.int .i64 (n : Int) :: (zers 8).map (Value.int .u8)) [] (fb (zers 32) (2 + i / 4))) 64 (0, 0)) ∧ Fr (fun k => k = w2.heap.size) W3 wr) := ⟨hr, hF⟩
   clear hr hF hh3
   go_upto_if 44 with fail
   go_cut [] (fun wx => HdI W3 wx w2.heap.size i n)
   case first =>
    by_cases hn0 : n = 0
    ·have hn2 : ((n : Int) == 0) = true := by simp [hn0]
     have HN : Hid (n = 0) := hn0
     clear hn0
     obtain ⟨hr, hF⟩ := HH.out
     have hfl := fb_len (zers 32) (2 + i / 4)
     rw [zers_len] at hfl
     have hB := mid_bi hr (fb_byt (zers_byt 32) (2 + i / 4)) (by omega)
     rw [hfl] at hB
     have hw := rwith_ok ⟨w2.heap.size, 9, none⟩ 32 32 (fb (zers 32) (2 + i / 4)) (2 + i / 4) true wr.drew (hB.kept (Below.refl _ _).drew) (by omega) (by omega)
     rw [show ((2 + i / 4 : Nat) : Int) = 2 + (i : Int) / 4 by omega] at hw
     have G3 : wr.drew.cell? ⟨w.heap.size, 2, none⟩ = some (.int .i64 (i : Int)) := cell_row ((hF.block w.heap.size (by have := HO1.out.2.2.2.2.size; have := (Array.getElem?_eq_some_iff.1 HO1.out.2.2.2.1).1; omega) (fun e => by have := HO1.out.2.1.size; have := HW1.out; omega)).trans HO1.out.2.2.2.1) 2 _ rfl
     have hww : IntKind.i64.wrap (2 + (i : Int) / 4) = 2 + (i : Int) / 4 := IntWalk.i64_in _ (by omega)
     have hw4 : IntKind.i64.wrap ((i : Int) / 4) = (i : Int) / 4 := IntWalk.i64_in _ (by omega)
     clear hfl hB hr hF
     go_wp2_with fail
     go_region_held3 (fun w' => w'.cell? ⟨w.heap.size, 2, none⟩ = some (.int .i64 (i : Int))) (first | exact G3 | exact G4) (first
      | (go_at_call 181; refine Calls.mono hw ?_; rintro e w4 ⟨g4, c4, rfl, hO4, hb4⟩; have G4 := (hb4.cell (p := ⟨w.heap.size, 2, none⟩) (lt_of_cell G3)).trans G3))
     have hr4 := (hb4.block _ (Array.getElem?_eq_some_iff.1 HH.out.1).1).trans (show wr.drew.heap[w2.heap.size]? = _ from HH.out.1)
     have hcd : ∀ ty, (Builtin.copy_ #[42, 42] ty #[.slice (some ⟨w2.heap.size, 9, none⟩) 32 32, .slice (some ⟨g4, 0, none⟩) 32 c4]).run Tryz.prog w4 = _ := mid_copy (c1 := 32) (c2 := c4) hr4 (hO4.bi (by decide) (Bit.put_byt (fb_byt (zers_byt 32) _) _ _)) (by rw [fb_len]; rfl)
     obtain ⟨W5, hW5⟩ : ∃ W5, w4.setRow w2.heap.size (mid (.int .i64 (n : Int) :: (zers 8).map (Value.int .u8)) [] (Bit.put (fb (zers 32) (2 + i / 4)) (2 + i / 4) true)) = W5 := ⟨_, rfl⟩
     rw [hW5] at hcd
     have hr5 : W5.heap[w2.heap.size]? = some (.cells (mid (.int .i64 (n : Int) :: (zers 8).map (Value.int .u8)) [] (Bit.put (fb (zers 32) (2 + i / 4)) (2 + i / 4) true)) 64 (0, 0)) := by rw [← hW5]; exact setRow_heap _ _ _ _ 64 _ hr4
     have k5 : W5.cell? ⟨w2.heap.size, 1, none⟩ = some (.int .u8 0) := cell_row hr5 1 _ rfl
     have f5 : W5.frozen? ⟨w2.heap.size, 1, none⟩ = false := by simp [World.frozen?, hr5]
     have H5 : Hid (HdI W3 (W5.setCell ⟨w2.heap.size, 1, none⟩ (.int .u8 7)) w2.heap.size i n) := by
      refine ⟨?_, ?_⟩
      ·rw [heap_setCell_same W5 w2.heap.size 1 _ 64 _ hr5, seven_row]
       unfold hdY hdB
       rw [HN.out, hdI_zero, if_pos rfl]
       rfl
      ·have f1 : Fr (fun k => k = w2.heap.size) W3 w4 := HH.out.2.trans (Fr.trans (b := wr.drew) (Fr.below (Below.refl _ _).drew) (Fr.below hb4))
       have f2 : Fr (fun k => k = w2.heap.size) w4 W5 := by rw [← hW5]; exact Fr.setRow _ _ _
       have f3 : Fr (fun k => k = w2.heap.size) W5 (W5.setCell ⟨w2.heap.size, 1, none⟩ (.int .u8 7)) := ⟨rfl, rfl, rfl, by simp, fun k _ hk => Below.heap_setCell _ _ _ _ hk⟩
       exact (f1.trans f2).trans f3
     clear hw hO4 hb4 hr4 hW5 hr5
     go_wp2_with fail
     go_meet
     exact H5.out
    ·have hn2 : ((n : Int) == 0) = false := by simp [hn0]
     have HN : Hid (n ≠ 0) := hn0
     clear hn0
     go_wp2_with fail
     go_meet
     refine ⟨?_, HH.out.2⟩
     rw [HH.out.1, ← group_midB]
     unfold hdY hdI hdB
     rw [if_neg HN.out, if_neg HN.out, Nat.add_zero]
   case rest =>
   obtain ⟨hh6, hF6⟩ := hcut
   rename World => w6
   have hyl := hdY_len i n
   have hiY := info38 (n : Int) (hdY i n) hyl
   have heg := rencodeGroup_yes (n : Int) (hdY i n) hyl (hdY_byt i n) hgma w6
   have h3w6 : Fr (fun k => k = w2.heap.size) w2 w6 := (Fr.below HO1.out.2.2.1).trans hF6
   have hB6 : Below w.heap.size w w6 := h3w6.bel HO1.out.2.1 HO1.out.2.1.size (fun k e => by have := HW1.out; omega)
   have hO1 : Own w.heap.size w6 x1 128 c1 (superS g b i 0) := by
    have h0 := HO1.out.1
    refine (ownsRow_kept1 h0 (fun k hk => ?_)).base (by have := HW0.out; omega)
    simp only [Value.ownBlock, Option.some.injEq] at hk
    subst hk
    exact h3w6.block _ h0.spot.2 (fun e => by have := h0.spot; omega)
   have hg6 : w6.heap[w.heap.size]? = some (geomO g b i) := (hF6.block _ (Array.getElem?_eq_some_iff.1 HO1.out.2.2.2.1).1 (fun e => by have := HW1.out; omega)).trans HO1.out.2.2.2.1
   have H6 : Hid (Below w.heap.size w w6 ∧ Own w.heap.size w6 x1 128 c1 (superS g b i 0) ∧ w6.heap[w.heap.size]? = some (geomO g b i)) := ⟨hB6, hO1, hg6⟩
   clear HH hF6 h3w6 hB6 hO1 hg6 HO1 G2
   go_wp2_with (first
    | (refine wpList_load_row rfl 64 (.tmp 7) rfl w2.heap.size rfl 64 _ (0, 0) _ hh6 Tryz.underlying64 rfl hiY ?_))
   refine Calls.mono heg ?_
   rintro e w7 ⟨x2, c2, rfl, hO2, hb7⟩
   have hO1 := H6.out.2.1.kept hb7
   have hO2' := hO2.base H6.out.1.size
   have hg7 := (hb7.block _ (Array.getElem?_eq_some_iff.1 H6.out.2.2).1).trans H6.out.2.2
   have hB7 := grew_trans H6.out.1 hb7
   obtain ⟨W8, hW8⟩ : ∃ W8, w7.alloc (.cells #[.slice (some ⟨x1, 0, none⟩) 128 c1, .slice (some ⟨x2, 0, none⟩) 128 c2] 42) = W8 := ⟨_, rfl⟩
   have hb8 : Below w7.heap.size w7 W8 := by rw [← hW8]; exact grew_alloc _ _
   have hr8 : W8.heap[w7.heap.size]? = some (.cells #[.slice (some ⟨x1, 0, none⟩) 128 c1, .slice (some ⟨x2, 0, none⟩) 128 c2] 42 (0, 0)) := by rw [← hW8]; exact at_new rfl
   have hs8 : W8.heap.size = w7.heap.size + 1 := by rw [← hW8]; simp
   have ty : ∀ {x c : Nat} {xs : List Int}, Own w.heap.size W8 x 128 c xs → ∃ cs, W8.heap[x]? = some (Obj.cells cs 5 (0, 0)) := fun {x c xs} h => by
    rcases h.2 with ⟨e, _⟩ | ⟨g', cap', cur, e, _, hg, _⟩
    ·cases e
    ·cases e; exact ⟨cur, hg⟩
   have hI8 : GrI w W8 g b i n (.slice (some ⟨w7.heap.size, 0, none⟩) 2 2) [.slice (some ⟨x1, 0, none⟩) 128 c1, .slice (some ⟨x2, 0, none⟩) 128 c2] W8.heap.size := by
    refine ⟨Nat.le_refl 2, by simp; omega, ⟨rfl, .inr ⟨w7.heap.size, 2, _, rfl, hB7.size, hr8, Nat.le_refl 2, by decide, rfl, rfl⟩⟩, ⟨fun k v hv => ?_, fun h => ?_⟩, (hb8.block _ (Array.getElem?_eq_some_iff.1 hg7).1).trans hg7, grew_trans hB7 hb8, fun _ => Nat.le_refl _⟩
    ·have hk : k < 2 := (List.getElem?_eq_some_iff.1 hv).1
     rcases (by omega : k = 0 ∨ k = 1) with rfl | rfl
     ·cases hv
      have ho := hO1.kept hb8
      exact ⟨x1, c1, rfl, ho.spot.1, ty ho, ho.bi (by decide) (superS_byt g b i 0), fun _ => by have := ho.spot; omega⟩
     ·cases hv
      have ho := hO2'.kept hb8
      exact ⟨x2, c2, rfl, ho.spot.1, ty ho, ho.bi (by decide) (groupL_byt _ _ (hdY_byt i n)), fun _ => by have := ho.spot; omega⟩
    ·simp at h
   have HI8 : Hid _ := hI8
   obtain ⟨i5, hi5, hy0, hy1, hy2⟩ := info_partsS info5
   obtain ⟨i6, hi6, hz0, hz1, hz2⟩ := info_partsS info36S
   have hbI : 8 ≤ b ∧ b ≤ 256 := by omega
   clear heg hO2 hb7 hO1 hO2' hg7 hB7 hb8 hr8 hs8 ty hI8 hh6 hiY hyl
   dsimp only
   go_wp2_with fail
   go_loopw [15] (fun v wr => ∃ vs g2, GrI w wr g b i n v vs g2) (fun v _ => b - (match v with | .slice _ l _ => l | _ => 0))
   case atStart => exact ⟨_, _, HI8.out⟩
   case round =>
    rename World => wr0
    clear HI8
    obtain ⟨vs, g2, hI⟩ := hrel
    obtain ⟨A, cap, cur, hv, hBA, hrA, hcs, hcur, hcp, hcm⟩ := owns_shape hI.row (by have := hI.lo; omega)
    subst hv
    have G1 : wr0.cell? ⟨w.heap.size, 1, none⟩ = some (.int .i64 (b : Int)) := cell_row hI.geo 1 _ rfl
    have HI : Hid (GrI w wr0 g b i n (.slice (some ⟨A, 0, none⟩) vs.length cap) vs g2) := hI
    obtain ⟨l, hl⟩ : ∃ l, l = vs.length := ⟨_, rfl⟩
    have HL : Hid (l = vs.length ∧ l ≤ b) := ⟨hl, by have := hI.hi; omega⟩
    rw [← hl]
    clear hI hl
    by_cases hlt : l < b
    ·have hlI : (l : Int) < (b : Int) := by omega
     go_wp2_with (first
      | (at_make; refine wpList_make_full _ rfl _ _ 42 rfl wr0.heap.size 5 i5 (.int .u8 0) 1 Tryz.underlying42 hi5 hy0 hy1 .i64 .i64 _ _ 128 rfl rfl rfl rfl (by rw [hy2]; decide) (by decide) (Nat.le_refl _) ?_; intro w9 hown9 hgrow9
         have hb9 : Below wr0.heap.size wr0 w9 := (Below.refl _ _).grown hgrow9 (Nat.le_refl _) (by intro k hk; cases hk)
         have hbA : Below wr0.heap.size wr0 (w9.alloc (.cells #[.slice (some ⟨wr0.heap.size, 0, none⟩) 128 128] 42)) := hb9.alloc hb9.size _
         have hrow9 : (w9.alloc (.cells #[.slice (some ⟨wr0.heap.size, 0, none⟩) 128 128] 42)).ownsRow w.heap.size 42 1 (.slice (some ⟨A, 0, none⟩) l cap) l vs := by
          have h0 := HI.out.row
          rw [← HL.out.1] at h0
          refine ⟨h0.1, ?_⟩
          rcases h0.2 with h' | ⟨g', cap', cur', e, hB', hg', rest⟩
          · exact .inl h'
          · exact .inr ⟨g', cap', cur', e, hB', (hbA.block _ (Array.getElem?_eq_some_iff.1 hg').1).trans hg', rest⟩)
      | (at_builtin; refine wpList_append_own_at _ rfl _ _ 67 rfl w.heap.size 42 i6 (.slice none 0 0) 1 24 Tryz.underlying67 hi6 hz0 hz1 hz2 rfl (by decide) _ _ _ rfl hrow9 ⟨w9.heap.size, 0, none⟩ 1 1 [.slice (some ⟨wr0.heap.size, 0, none⟩) 128 128] rfl rfl (newsS w9 wr0.heap.size) (oneS wr0.heap.size) (by unfold maxLen; omega) (by omega) (Nat.le_trans HI.out.bel.size hbA.size) ?_; intro v3 w3 ho3 hg3 hx1 hx2))
     have hg3' : (w9.alloc (.cells #[.slice (some ⟨wr0.heap.size, 0, none⟩) 128 128] 42)).grownBy w3 (some A) := hg3
     have ho3' : w3.ownsRow w.heap.size 42 1 v3 (l + 1) (vs ++ [.slice (some ⟨wr0.heap.size, 0, none⟩) 128 128]) := ho3
     have hsz : (w9.alloc (.cells #[.slice (some ⟨wr0.heap.size, 0, none⟩) 128 128] 42)).heap.size = w9.heap.size + 1 := by simp
     have hAl : A < wr0.heap.size := (Array.getElem?_eq_some_iff.1 hrA).1
     rw [made_zeroB] at hown9
     have hz9 : w9.heap[wr0.heap.size]? = some (.cells aZ 5 (0, 0)) := own_row hown9
     have hl9 : wr0.heap.size < w9.heap.size := (Array.getElem?_eq_some_iff.1 hz9).1
     have keep : ∀ k, k < wr0.heap.size → k ≠ A → w3.heap[k]? = wr0.heap[k]? := fun k hk hne => (hg3'.block k (by omega) (fun e => hne (Option.some.inj e))).trans (hbA.block k hk)
     have hz3 : w3.heap[wr0.heap.size]? = some (.cells aZ 5 (0, 0)) := (hg3'.block _ (by omega) (fun e => by have := Option.some.inj e; omega)).trans (at_old hz9)
     have nA : ∀ k, (∃ cs, wr0.heap[k]? = some (Obj.cells cs 5 (0, 0))) → k ≠ A := fun k ⟨cs, h1⟩ e => by
      rw [e, hrA] at h1
      simp at h1
     have hI := HI.out
     obtain ⟨A', cap', cur', hv3, _⟩ := owns_shape ho3' (by omega)
     subst hv3
     refine ⟨⟨vs ++ [.slice (some ⟨wr0.heap.size, 0, none⟩) 128 128], (if l = 2 then wr0.heap.size else g2), ⟨?_, ?_, ?_, ?_, ?_, ?_, ?_⟩⟩, by dsimp only; omega⟩
     ·have := hI.lo; simp; omega
     ·have := HL.out; simp; omega
     ·have := HL.out.1
      simp only [List.length_append, List.length_singleton, ← this]
      exact ho3'
     ·refine hI.els.app HL.out.1 (by have := hI.lo; have := HL.out; omega) hI.bel.size rfl (fun e => hI.new (by have := HL.out; omega)) (fun k hk ht => keep k hk (nA k ht)) hz3 ?_
      have := hI.lo
      have := HL.out
      unfold grF
      rw [if_neg (by omega), if_neg (by omega)]
     ·refine (keep w.heap.size (Array.getElem?_eq_some_iff.1 hI.geo).1 (fun e => ?_)).trans hI.geo
      have := hI.geo
      rw [e, hrA] at this
      simp at this
     ·exact hI.bel.trans ⟨hg3'.os.trans hbA.os, hg3'.tape.trans hbA.tape, hg3'.output.trans hbA.output, Nat.le_trans hbA.size hg3'.size, fun k hk => keep k (Nat.lt_of_lt_of_le hk hI.bel.size) (fun e => by omega)⟩
     ·intro h2
      have := hI.lo
      simp at h2
      omega
    ·have hlI : ¬ (l : Int) < (b : Int) := by omega
     go_wp2_with fail
     go_ret
     have hI := HI.out
     have hlb : l = b := by have := HL.out.2; omega
     have hvl : vs.length = b := by have := HL.out.1; omega
     refine ⟨_, vs, g2, rfl, hvl, ?_, hI.els, hI.bel⟩
     have := hI.row
     rw [hvl] at this
     rw [hlb]
     exact this
end Go.Proofs.YthdlpeejmmobmaaGreat.Mk
