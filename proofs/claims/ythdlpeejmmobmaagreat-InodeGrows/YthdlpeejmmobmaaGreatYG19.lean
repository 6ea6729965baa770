/- KRSuper KDSuper KForm KGroup KRGroup -/
import Derived.Test.YthdlpeejmmobmaaGreatYG18
import Derived.Laws.ResultCell
import Derived.Deep.AppendSrc

namespace Go.Proofs.YthdlpeejmmobmaaGreat.Mk
open Go.RowKit
set_option maxRecDepth 100000
theorem bollZ : ([98, 111, 108, 108] : List Int) ++ zers 124 = splice (zers 128) 0 [98, 111, 108, 108] := by decide
set_option maxRecDepth 10000 in
set_option maxHeartbeats 1000000 in
theorem rencodeSuper_yes (G B I M : Int) (h : SMay G B I M) (w : World) : Calls Tryz.prog 180 #[superV G B I M] w fun e w' => ∃ g cap, e = .returned (.tuple #[.slice (some ⟨g, 0, none⟩) 128 cap, .int .i64 0]) ∧ Own w.heap.size w' g 128 cap (superS G B I M) ∧ Below w.heap.size w w' := by
 have HB := grew_alloc w (superO G B I M)
 have hm := rmay_ok G B I
 rw [decide_eq_true h.1] at hm
 have hh := h
 unfold SMay Gm.May at hh
 obtain ⟨c0, c1, c2, c3⟩ := super_cells w G B I M
 go_enter Tryz.func180, Tryz.ntmps180
 go_wp2_with (first
  | (go_at_call 254; refine grew_at (hm _) ?_; intro wn hbn; have HB := grew_trans HB hbn; have c0 := cell_kept c0 hbn; have c1 := cell_kept c1 hbn; have c2 := cell_kept c2 hbn; have c3 := cell_kept c3 hbn; obtain ⟨wl, hcv, hl, hbn⟩ := conv_lit wn [98, 111, 108, 108]; have hcv : (convert 42 42 (.slice (some ⟨wn.heap.size, 0, none⟩) 4 4)).run Tryz.prog (wn.alloc (.cells #[.int .u8 98, .int .u8 111, .int .u8 108, .int .u8 108] 5)) = .ok (.slice (some ⟨wn.heap.size, 0, none⟩) 4 4) wl := hcv 4 4; have HB := grew_trans HB hbn; have c0 := cell_kept c0 hbn; have c1 := cell_kept c1 hbn; have c2 := cell_kept c2 hbn; have c3 := cell_kept c3 hbn; have hbl := hl.bi (Num.byt_of_wf (by decide)) (by decide))
  | (at_builtin; refine wpList_append_grow rfl _ _ rfl wn.heap.size 4 124 [98, 111, 108, 108] rfl rfl hbl rfl (by decide) ?_))
 intro g cap w1 ho hbn
 have HB := grew_trans HB hbn; have c0 := cell_kept c0 hbn; have c1 := cell_kept c1 hbn; have c2 := cell_kept c2 hbn; have c3 := cell_kept c3 hbn
 rw [show (98 :: 111 :: 108 :: 108 :: zers 124 : List Int) = splice (zers 128) 0 [98, 111, 108, 108] from bollZ] at ho
 have hy : Num.Byt (splice (zers 128) 0 [98, 111, 108, 108]) := splice_byt (zers_byt _) (Num.byt_of_wf (by decide)) 0
 go_wp2_with (first
  | (go_at_call_of 184 G; refine Calls.mono (rnumber_ok _ 128 _ _ 4 1 G _ (ho.bi (by omega) hy) (by omega) (by omega) (by omega) (by omega) (by omega)) ?_; rintro e wm ⟨g, cap, rfl, ho, hbn⟩; have hy := Num.putTo_byt hy 4 G 1; have HB := grew_trans HB hbn; have c0 := cell_kept c0 hbn; have c1 := cell_kept c1 hbn; have c2 := cell_kept c2 hbn; have c3 := cell_kept c3 hbn)
  | (go_at_call_of 184 I; refine Calls.mono (rnumber_ok _ 128 _ _ 6 1 I _ (ho.bi (by omega) hy) (by omega) (by omega) (by omega) (by omega) (by omega)) ?_; rintro e wm ⟨g, cap, rfl, ho, hbn⟩; have hy := Num.putTo_byt hy 6 I 1; have HB := grew_trans HB hbn; have c0 := cell_kept c0 hbn; have c1 := cell_kept c1 hbn; have c2 := cell_kept c2 hbn; have c3 := cell_kept c3 hbn)
  | (go_at_call_of 184 M; refine Calls.mono (rnumber_ok _ 128 _ _ 8 4 M _ (ho.bi (by omega) hy) (by omega) (by omega) (by omega) (by omega) (by omega)) ?_; rintro e wm ⟨g, cap, rfl, ho, hbn⟩; have hy := Num.putTo_byt hy 8 M 4; have HB := grew_trans HB hbn; have c0 := cell_kept c0 hbn; have c1 := cell_kept c1 hbn; have c2 := cell_kept c2 hbn; have c3 := cell_kept c3 hbn)
  | (go_at_call 184; refine Calls.mono (rnumber_ok _ 128 _ _ 5 1 (B - 1) _ (ho.bi (by omega) hy) (by omega) (by omega) (by omega) (by omega) (by omega)) ?_; rintro e wm ⟨g, cap, rfl, ho, hbn⟩; have hy := Num.putTo_byt hy 5 (B - 1) 1; have HB := grew_trans HB hbn; have c0 := cell_kept c0 hbn; have c1 := cell_kept c1 hbn; have c2 := cell_kept c2 hbn; have c3 := cell_kept c3 hbn)
  | (go_at_call 185; refine Calls.mono (rseal_ok _ 128 _ _ _ (ho.bi (by omega) hy) ho.room.1 (by omega)) ?_; rintro e wz ⟨g2, cap2, rfl, ho2, hb⟩))
 go_ret2
 refine ⟨g2, cap2, rfl, ?_, HB.trans (hb.mono HB.size)⟩
 have ho2 := ho2.base HB.size
 unfold superS sealL superL
 simp only [Num.putTo_length, splice_len128]
 exact ho2
end Go.Proofs.YthdlpeejmmobmaaGreat.Mk

namespace Go.Proofs.YthdlpeejmmobmaaGreat.Mk
open Go.RowKit
set_option maxRecDepth 100000
theorem numD_drop (xs : List Int) (a : Nat) (k : Nat) : ∀ i, Num.numD (xs.drop a) i k = Num.numD xs (a + i) k := by
 induction k with
 | zero => intro i; rfl
 | succ k ih =>
  intro i
  show (xs.drop a).getD i 0 + 256 * Num.numD (xs.drop a) (i + 1) k = xs.getD (a + i) 0 + 256 * Num.numD xs (a + i + 1) k
  rw [ih, getD_drop', Nat.add_assoc]
theorem bi_ne_size {w : World} {b o n : Nat} {xs : List Int} (h : BI w (some ⟨b, o, none⟩) n xs) {g : Nat} {cs : Array Value} {t : TypeId} {mk : Nat × Nat} (hg : w.heap[g]? = some (.cells cs t mk)) (hn : cs.size < n) : b ≠ g := by
 rintro rfl
 obtain ⟨b', o', e, hc⟩ := h.cells (by omega)
 cases e
 have := hc (n - 1) (by omega)
 simp only [World.cell?, hg] at this
 rw [Array.getElem?_eq_none (by omega)] at this
 cases this
theorem grown_cells {w w' : World} {rb g : Nat} {o : Obj} (hb : w.grownBy w' (some rb)) (hg : w.heap[g]? = some o) (hne : g ≠ rb) : w'.heap[g]? = some o := by
 rw [hb.block g (Array.getElem?_eq_some_iff.1 hg).1 (by simpa using hne)]; exact hg
def rI (xs : List Int) : Int := Num.numD xs 6 1
theorem rest_at {w w' : World} {rb n : Nat} {xs : List Int} {E : Int} (h : Rest w rb n xs E) (hr : w'.heap[rb]? = w.heap[rb]?) (hs : ∀ b o, BI w (some ⟨b, o, none⟩) n xs → 0 < n → w'.heap[b]? = w.heap[b]?) : Rest w' rb n xs E := by
 obtain ⟨b, o, c, h1, h2, h3⟩ := h
 refine ⟨b, o, c, hr.trans h1, h2, bi_same h3 (fun b' o' e hn => ?_)⟩
 cases e
 exact hs b o h3 hn
theorem rest_set {w : World} {rb n : Nat} {xs : List Int} {E : Int} (h : Rest w rb n xs E) {g : Nat} {cs : Array Value} {t : TypeId} {mk : Nat × Nat} (hg : w.heap[g]? = some (.cells cs t mk)) (hno : ∀ (x : Int) (j : Nat), cs[j]? ≠ some (Value.int .u8 x)) (hne : rb ≠ g) (i : Nat) (v : Value) : Rest (w.setCell ⟨g, i, none⟩ v) rb n xs E :=
 rest_at h (Below.heap_setCell _ _ _ _ hne) (fun _ _ hb hn => Below.heap_setCell _ _ _ _ (bi_ne hb hn hg hno))
structure SR (w w' : World) (rb n : Nat) (xs : List Int) (a b c d : Int) : Prop where
 r : Rest w' rb n xs 0
 s : w'.heap[w.heap.size + 1]? = some (superO a b c d)
 z : w'.heap[w.heap.size]? = some (superO 0 0 0 0)
 lo : w.heap.size + 2 ≤ rb
 bw : Below w.heap.size w w'
theorem SR.cell {w w' : World} {rb n : Nat} {xs : List Int} {a b c d : Int} (h : SR w w' rb n xs a b c d) (i : Nat) (v : Value) (hv : (#[.int .i64 a, .int .i64 b, .int .i64 c, .int .i64 d] : Array Value)[i]? = some v) : w'.cell? ⟨w.heap.size + 1, i, none⟩ = some v := cell_row h.s i v hv
end Go.Proofs.YthdlpeejmmobmaaGreat.Mk

namespace Go.Proofs.YthdlpeejmmobmaaGreat.Mk
open Go.RowKit
set_option maxRecDepth 100000
set_option linter.unusedVariables false
theorem results_cell_tmp_row {P : Program} {fn : Func} {p u : Tmp} {ty : TypeId} (h : fn.results = #[.cell p ty, .tmp u]) (tmps : Array Value) (w : World) (g : Nat) (t : TypeId) (cs : Array Value) (fr : Nat × Nat) (d : TypeDesc)
  (hp : tmps.getD p undef = .pointer (some ⟨g, 0, none⟩)) (hg : w.heap[g]? = some (.cells cs t fr))
  (hu : P.underlying ty = some d) (hd : (match d with | .struct _ | .array _ _ => true | _ => false) = true) (hi : (P.info? ty).map (·.size) = some cs.size) :
  (results fn tmps).run P w = .ok (.tuple #[.agg cs, tmps.getD u undef]) w := by
 rw [results_cell_tmp h, hp]
 simp [asAddr, run_loadVar_row w g t ty cs fr d hg hu hd hi]
def SGood (xs : List Int) (a b c d : Int) : Prop := SMay a b c d ∧ superS a b c d = xs
instance (xs : List Int) (a b c d : Int) : Decidable (SGood xs a b c d) := by unfold SGood; infer_instance
theorem superS_len (a b c d : Int) : (superS a b c d).length = 128 := by
 unfold superS sealL superL
 simp only [Num.putTo_length, splice_len128]
theorem boll_byt : Num.Byt (splice (zers 128) 0 [98, 111, 108, 108]) := splice_byt (zers_byt _) (Num.byt_of_wf (by decide)) 0
theorem superS_byt (a b c d : Int) : Num.Byt (superS a b c d) := by
 unfold superS sealL superL
 exact Num.putTo_byt (Num.putTo_byt (Num.putTo_byt (Num.putTo_byt (Num.putTo_byt boll_byt _ _ _) _ _ _) _ _ _) _ _ _) _ _ _
theorem hasPrefix_ok (p q : Option Addr) (n c m d : Nat) (xs ys : List Int) (w : World) (h : BI w p n xs) (k : BI w q m ys) (hnc : n ≤ c) :
  Calls Tryz.prog 140 #[.slice p n c, .slice q m d] w fun e w' => e = .returned (.bool (decide (m ≤ n ∧ xs.take m = ys))) ∧ w' = w := by
 have hn := h.big
 have hm := k.big
 by_cases hle : m ≤ n
 ·have hI : (m : Int) ≤ (n : Int) := by omega
  have hq := equal_any p q m c m d (xs.take m) ys w (h.take m hle) k
  go_enter Tryz.func140, Tryz.ntmps140
  go_wp2_with fail
  refine same_at hq ?_
  go_wp2
  go_ret
  refine ⟨ret_bool ?_, rfl⟩
  rw [Bool.eq_iff_iff]
  simp [hle]
 ·have hI : ¬ (m : Int) ≤ (n : Int) := by omega
  go_enter Tryz.func140, Tryz.ntmps140
  go_wp2_with fail
  go_ret
  exact ⟨by simp, rfl⟩
end Go.Proofs.YthdlpeejmmobmaaGreat.Mk

namespace Go.Proofs.YthdlpeejmmobmaaGreat.Mk
open Go.RowKit
set_option maxRecDepth 100000
set_option linter.unusedVariables false
def groupA (N : Int) (ys : List Int) : Array Value := (Value.int .i64 N :: ys.map (Value.int .u8)).toArray
abbrev groupV (N : Int) (ys : List Int) : Value := .agg (groupA N ys)
abbrev groupO (N : Int) (ys : List Int) : Obj := .cells (groupA N ys) 64
theorem groupA_size (N : Int) (ys : List Int) (h : ys.length = 40) : (groupA N ys).size = 41 := by simp [groupA, h]
theorem groupA_zero (N : Int) (ys : List Int) : (groupA N ys)[0]? = some (.int .i64 N) := by simp [groupA]
theorem groupA_succ (N : Int) (ys : List Int) (i : Nat) (h : i < ys.length) : (groupA N ys)[i + 1]? = some (.int .u8 (ys.getD i 0)) := by
 simp [groupA, List.getD_eq_getElem?_getD, List.getElem?_eq_getElem h]
theorem group_bi {w : World} {b : Nat} {N : Int} {ys : List Int} {mk : Nat × Nat} (h : w.heap[b]? = some (.cells (groupA N ys) 64 mk)) (hy : Num.Byt ys) (i k : Nat) (hk : i + k ≤ ys.length) (hl : ys.length = 40) : BI w (some ⟨b, i + 1, none⟩) k ((ys.drop i).take k) := by
 refine ⟨by simp; omega, by omega, byt_take (byt_drop hy _) _, fun _ => ⟨b, i + 1, rfl, fun j hj => ?_⟩⟩
 rw [getD_take _ _ _ hj, getD_drop']
 have := groupA_succ N ys (i + j) (by omega)
 simp [World.cell?, h, show i + 1 + j = i + j + 1 by omega, this]
def GMay (N : Int) : Prop := 0 ≤ N ∧ N ≤ 7
instance (N : Int) : Decidable (GMay N) := by unfold GMay; infer_instance
def groupL (N : Int) (ys : List Int) : List Int := splice (splice (Num.putTo (splice (zers 128) 0 [104, 100]) 2 N 1) 4 (ys.take 8)) 12 (ys.drop 8)
theorem encodeGroup_no (N : Int) (ys : List Int) (hl : ys.length = 40) (h : ¬ GMay N) (w : World) : Calls Tryz.prog 143 #[groupV N ys] w fun e w' => e = .returned (.tuple #[.slice none 0 0, .int .i64 1]) ∧ Below w.heap.size w w' := by
 have HB := grew_alloc w (groupO N ys)
 have c0 : (w.alloc (groupO N ys)).cell? ⟨w.heap.size, 0, none⟩ = some (.int .i64 N) := cell_row (heap_new w (groupO N ys)) 0 _ (groupA_zero N ys)
 have hw := fun w => within_ok N 0 7 w
 rw [show decide (0 ≤ N ∧ N ≤ 7) = false from decide_eq_false h] at hw
 unfold GMay at h
 go_enter Tryz.func143, Tryz.ntmps143
 go_wp2_with (first | (go_at_call 230; refine same_at (hw _) ?_))
 go_ret2
 exact ⟨rfl, HB⟩
set_option maxHeartbeats 1000000 in
theorem encodeGroup_yes (N : Int) (ys : List Int) (hl : ys.length = 40) (hy : Num.Byt ys) (h : GMay N) (w : World) : Calls Tryz.prog 143 #[groupV N ys] w fun e w' => ∃ g, e = .returned (.tuple #[.slice (some ⟨g, 0, none⟩) 128 128, .int .i64 0]) ∧ Own w.heap.size w' g 128 128 (groupL N ys) ∧ Below w.heap.size w w' := by
 have HB := grew_alloc w (groupO N ys)
 have hx0 := heap_new w (groupO N ys)
 have c0 : (w.alloc (groupO N ys)).cell? ⟨w.heap.size, 0, none⟩ = some (.int .i64 N) := cell_row hx0 0 _ (groupA_zero N ys)
 have hw := fun w => within_ok N 0 7 w
 rw [show decide (0 ≤ N ∧ N ≤ 7) = true from decide_eq_true h] at hw
 unfold GMay at h
 have hsz : w.heap.size + 1 ≤ (w.alloc (groupO N ys)).heap.size := by rw [size_alloc]; omega
 go_enter Tryz.func143, Tryz.ntmps143
 go_wp2_with (first | (go_at_call 230; refine same_at (hw _) ?_))
 generalize w.alloc (groupO N ys) = w0 at *
 refine Calls.mono (newPage_ok 128 (by omega) (w.heap.size + 1) _ hsz) ?_
 rintro e w1 ⟨pb, g, rfl, pg, bn⟩
 have c0 := cell_under c0 bn (by omega)
 have hx0 : w1.heap[w.heap.size]? = some (groupO N ys) := by rw [bn.block _ (by omega)]; exact hx0
 have HB := HB.trans (bn.mono (by omega))
 clear bn
 go_wp2_with (first
  | (go_at_call 231; refine Calls.mono (ptext_ok pg _ (by decide) (by decide)) ?_; rintro e wm ⟨rfl, pg, bn⟩; have c0 := cell_under c0 bn (by omega); have hx0 : wm.heap[w.heap.size]? = some (groupO N ys) := (by rw [bn.block _ (by omega)]; exact hx0); have HB := HB.trans (bn.mono (by omega)); clear bn; have pg : Pg (w.heap.size + 1) wm pb g 128 2 (splice (zers 128) 0 [104, 100]) := pg)
  | (go_at_call 157; refine Calls.mono (pnum_ok pg 1 N (by omega) (by omega) (by decide) (by omega) (by omega)) ?_; rintro e wm ⟨rfl, pg, bn⟩; have hx0 : wm.heap[w.heap.size]? = some (groupO N ys) := (by rw [bn.block _ (by omega)]; exact hx0); have HB := HB.trans (bn.mono (by omega)); clear bn)
  | (go_at_call 158; refine Calls.mono (pskip_ok pg 1 (by omega) (by decide)) ?_; rintro e wm ⟨rfl, pg, bn⟩; have hx0 : wm.heap[w.heap.size]? = some (groupO N ys) := (by rw [bn.block _ (by omega)]; exact hx0); have HB := HB.trans (bn.mono (by omega)); clear bn))
 have hb1 : BI wm (some ⟨w.heap.size, 1, none⟩) 8 (ys.take 8) := group_bi hx0 hy 0 8 (by omega) hl
 refine Calls.mono (prow_ok pg 8 8 _ _ hb1 (by omega) (by decide) (by intro b o e; cases e; omega)) ?_
 rintro e wm ⟨rfl, pg, bn⟩
 have hx0 : wm.heap[w.heap.size]? = some (groupO N ys) := (by rw [bn.block _ (by omega)]; exact hx0); have HB := HB.trans (bn.mono (by omega)); clear bn
 go_wp2_with fail
 have hb2 : BI wm (some ⟨w.heap.size, 9, none⟩) 32 (ys.drop 8) := by
  have := group_bi hx0 hy 8 32 (by omega) hl
  rwa [List.take_of_length_le (by simp; omega)] at this
 refine Calls.mono (prow_ok pg 32 32 _ _ hb2 (by omega) (by decide) (by intro b o e; cases e; omega)) ?_
 rintro e wm ⟨rfl, pg, bn⟩
 have hx0 : wm.heap[w.heap.size]? = some (groupO N ys) := (by rw [bn.block _ (by omega)]; exact hx0); have HB := HB.trans (bn.mono (by omega)); clear bn
 have d0 := pg.c0
 go_wp2
 go_ret2
 exact ⟨g, rfl, own_of_row (Nat.le_trans (Nat.le_succ _) pg.log) (by decide) pg.len pg.row, HB⟩
theorem groupL_len (N : Int) (ys : List Int) (hl : ys.length = 40) : (groupL N ys).length = 128 := by
 unfold groupL
 have h1 : (Num.putTo (splice (zers 128) 0 [104, 100]) 2 N 1).length = 128 := by rw [Num.putTo_length, splice_len _ _ _ (by rw [zers_len]; decide), zers_len]
 have h2 : (splice (Num.putTo (splice (zers 128) 0 [104, 100]) 2 N 1) 4 (ys.take 8)).length = 128 := by rw [splice_len _ _ _ (by simp [h1]; omega), h1]
 rw [splice_len _ _ _ (by simp [h2]; omega), h2]
theorem groupL_byt (N : Int) (ys : List Int) (hy : Num.Byt ys) : Num.Byt (groupL N ys) :=
 splice_byt (splice_byt (Num.putTo_byt (splice_byt (zers_byt _) (Num.byt_of_wf (by decide)) 0) _ _ _) (byt_take hy _) 4) (byt_drop hy _) 12
theorem getD_append (a b : List Int) (i : Nat) : (a ++ b).getD i 0 = if i < a.length then a.getD i 0 else b.getD (i - a.length) 0 := by
 simp only [List.getD_eq_getElem?_getD]
 split
 ·rename_i h; rw [List.getElem?_append_left h]
 ·rename_i h; rw [List.getElem?_append_right (by omega)]
theorem zers_getD (n i : Nat) : (zers n).getD i 0 = 0 := by
 unfold zers
 rw [List.getD_eq_getElem?_getD, List.getElem?_replicate]
 split <;> rfl
theorem groupL_eq (N : Int) (ys : List Int) (hl : ys.length = 40) (h : GMay N) : groupL N ys = [104, 100, N, 0] ++ ys ++ zers 84 := by
 unfold GMay at h
 have h0 : (splice (zers 128) 0 [104, 100]).length = 128 := by rw [splice_len _ _ _ (by rw [zers_len]; decide), zers_len]
 have h1 : (Num.putTo (splice (zers 128) 0 [104, 100]) 2 N 1).length = 128 := by rw [Num.putTo_length, h0]
 have h8 : (ys.take 8).length = 8 := by simp; omega
 have h32 : (ys.drop 8).length = 32 := by simp; omega
 have h2 : (splice (Num.putTo (splice (zers 128) 0 [104, 100]) 2 N 1) 4 (ys.take 8)).length = 128 := by rw [splice_len _ _ _ (by omega), h1]
 apply ext_getD
 ·rw [groupL_len N ys hl]; simp [zers_len]; omega
 intro i _
 unfold groupL
 rw [getD_splice _ _ _ (by omega), getD_splice _ _ _ (by omega), getD_append, getD_append, h8, h32]
 simp only [List.length_append, List.length_cons, List.length_nil, hl]
 by_cases c1 : i < 4
 ·rw [if_pos (by omega), if_pos c1, if_pos (by omega), if_pos (by omega)]
  by_cases c2 : i = 2
  ·subst c2
   have := Num.putTo_in (splice (zers 128) 0 [104, 100]) 2 N 1 (by omega) 0 (by omega)
   rw [Nat.add_zero] at this
   rw [this]
   simp
   omega
  ·rw [Num.putTo_out _ _ _ _ _ (by omega), getD_splice _ _ _ (by rw [zers_len]; decide), if_neg (by omega), zers_getD]
   rcases (by omega : i = 0 ∨ i = 1 ∨ i = 3) with rfl | rfl | rfl <;> rfl
 ·by_cases c2 : i < 12
  ·rw [if_pos c2, if_neg c1, if_pos (by omega), if_pos (by omega), if_neg (by omega), getD_take _ _ _ (by omega)]
  ·rw [if_neg c2]
   by_cases c3 : i < 44
   ·rw [if_pos (by omega), if_pos (by omega), if_neg (by omega), getD_drop']
    congr 1
    omega
   ·rw [if_neg (by omega), if_neg (by omega), if_neg (by omega), if_neg (by omega), zers_getD, Num.putTo_out _ _ _ _ _ (by omega), getD_splice _ _ _ (by rw [zers_len]; decide), if_neg (by omega), if_neg (by simp; omega), zers_getD]
end Go.Proofs.YthdlpeejmmobmaaGreat.Mk

namespace Go.Proofs.YthdlpeejmmobmaaGreat.Mk
open Go.RowKit
set_option maxRecDepth 100000
set_option linter.unusedVariables false
theorem wpList_append_run {P : Program} {w : World} {ops : Array Oper} {rest : List Oper} {o : Oper} {a : Act} {Q : Exit → Act → World → Prop} (hgd : o.guard = none) (s x : Operand) (t t' : TypeId)
  (ho : o.op = .call { callee := .builtin .append, args := #[s, x], argTypes := #[t, t'] }) (v u : Value) (hs : a.eval s = v) (hx : a.eval x = u) {v' : Value} {w' : World}
  (hr : (Builtin.append_ #[t, t'] o.type #[v, u]).run P w = .ok v' w') (h : wpList P ops Q rest (a.put o.dst v') w') : wpList P ops Q (o :: rest) a w := by
 refine wpList_plain hgd fun _ hK => ?_
 unfold Oper.wp execOp
 simp only [ho, resolve, invoke, builtin, Sem.run_bind, Sem.run_pure, Result.andThen_ok, List.map_toArray, List.map_cons, List.map_nil, hs, hx, hr]
 exact hK _ _ h
theorem step_append_run {P : Program} {ops : Array Oper} {o : Oper} {a : Act} {w : World} {K : Act → World → Prop} {Q : Exit → Act → World → Prop} {E : Prop}
  (hg : o.guard = none) (s x : Operand) (t t' : TypeId) (hop : o.op = Op.call { callee := Callee.builtin Builtin.append, args := #[s, x], argTypes := #[t, t'] }) (v u : Value) (hs : a.eval s = v) (hx : a.eval x = u) {v' : Value} {w' : World}
  (hr : (Builtin.append_ #[t, t'] o.type #[v, u]).run P w = .ok v' w') (hK : K (a.put o.dst v') w') :
  if Region.wanted o (yielded ops a.tmps) = true then Oper.wp P o a w K Q else E := by
 have hw : Region.wanted o (yielded ops a.tmps) = true := by simp [Region.wanted, hg]
 rw [if_pos hw]
 unfold Oper.wp
 simp [execOp, hop, resolve, invoke, builtin, hs, hx, hr, Result.andThen]
 exact hK
theorem own_append {B : Nat} {w : World} {g n cap : Nat} {xs : List Int} (h : Own B w g n cap xs) (a : Addr) (m c : Nat) (ys : List Int) (hy : BI w (some a) m ys) (hn : n + m ≤ 128) (hB : B ≤ w.heap.size) (ty : TypeId) :
  ∃ g' cap' w', (Builtin.append_ #[42, 42] ty #[.slice (some ⟨g, 0, none⟩) n cap, .slice (some a) m c]).run Tryz.prog w = .ok (.slice (some ⟨g', 0, none⟩) (n + m) cap') w' ∧ Own B w' g' (n + m) cap' (xs ++ ys) ∧ Below B w w' := by
 obtain ⟨i0, hi, hz0, hz1, hz2⟩ := info_parts info5
 obtain ⟨v', w', hr, ho, hg, hnil⟩ := run_append_own (P := Tryz.prog) (w := w) B 42 ty 5 i0 (.int .u8 0) 1 1 Tryz.underlying42 hi hz0 hz1 hz2 rfl (by decide) _ n _ h a m c (ys.map (Value.int .u8)) (by simp [hy.len]) hy.src' (one_cells ys) (by unfold maxLen; omega) (by omega) hB
 rw [← List.map_append] at ho
 obtain ⟨g', cap', rfl, ho'⟩ := own_shape ho (fun e => by have := (hnil.1 e).1; simp at this)
 exact ⟨g', cap', w', hr, ho', (Below.refl B w).grown hg hB (by intro k hk; simp [Value.ownBlock] at hk; have := h.spot; omega)⟩
theorem lit_append {w : World} {b n : Nat} {xs : List Int} (h : BI w (some ⟨b, 0, none⟩) n xs) (a : Addr) (m c : Nat) (ys : List Int) (hy : BI w (some a) m ys) (hm : 0 < m) (hn : n + m ≤ 128) (ty : TypeId) :
  ∃ g cap w', (Builtin.append_ #[42, 42] ty #[.slice (some ⟨b, 0, none⟩) n n, .slice (some a) m c]).run Tryz.prog w = .ok (.slice (some ⟨g, 0, none⟩) (n + m) cap) w' ∧ Own w.heap.size w' g (n + m) cap (xs ++ ys) ∧ Below w.heap.size w w' := by
 obtain ⟨i0, hi, hz0, hz1, hz2⟩ := info_parts info5
 have hxl := h.len
 have hyl := hy.len
 have hold : (Builtin.firstCells i0.size n (.slice (some ⟨b, 0, none⟩) n n)).run Tryz.prog w.drew = .ok (xs.map (Value.int .u8)).toArray w.drew :=
  run_firstCells_some (P := Tryz.prog) w.drew i0.size n ⟨b, 0, none⟩ n n _ (by rw [hz1]; simpa using hxl) (h.kept (below_drewN (Below.refl _ _) 1)).src'
 have hsrc : Src Tryz.prog i0.size 42 (.slice (some a) m c) m (ys.map (Value.int .u8)) w := Src.ofSlice w Tryz.underlying42 a m c _ (by rw [hz1]; simp [hyl]) hy.src' (one_cells ys)
 have hr := run_append_grow_src (P := Tryz.prog) w 42 42 ty 5 i0 (.int .u8 0) Tryz.underlying42 hi hz0 (some ⟨b, 0, none⟩) n n (xs.map (Value.int .u8)) hold _ m _ hsrc (by omega) (by omega) (growslice_fits (by omega) (by rw [hz2]; omega))
 refine ⟨_, _, _, hr, ⟨by simp; omega, .inr ⟨_, _, _, rfl, Nat.le_refl _, heap_alloc_new w.drew _, grownCap_ge _ _ _ _, grownCap_le_maxLen _ _ _ _ (by unfold maxLen; omega), ?_, ?_⟩⟩, ⟨rfl, rfl, rfl, by simp, fun k hk => Below.heap_alloc w.drew _ k hk⟩⟩
 ·have := grownCap_ge w (n + m) n 5
  simp [size_zeroCells, Value.cells]; omega
 ·rw [List.map_append]
  simp only [Array.toList_append]
  exact List.take_left' (by simp; omega)
set_option maxRecDepth 10000 in
set_option maxHeartbeats 1000000 in
theorem rencodeGroup_yes (N : Int) (ys : List Int) (hl : ys.length = 40) (hy : Num.Byt ys) (h : GMay N) (w : World) : Calls Tryz.prog 182 #[groupV N ys] w fun e w' => ∃ g cap, e = .returned (.tuple #[.slice (some ⟨g, 0, none⟩) 128 cap, .int .i64 0]) ∧ Own w.heap.size w' g 128 cap (groupL N ys) ∧ Below w.heap.size w w' := by
 have hL := groupL_eq N ys hl h
 have HB := grew_alloc w (groupO N ys)
 have hx0 := heap_new w (groupO N ys)
 have c0 : (w.alloc (groupO N ys)).cell? ⟨w.heap.size, 0, none⟩ = some (.int .i64 N) := cell_row hx0 0 _ (groupA_zero N ys)
 unfold GMay at h
 obtain ⟨wl, hcv, hlit, hbl⟩ := conv_lit (w.alloc (groupO N ys)) [104, 100]
 have hcv' : (convert 42 42 (.slice (some ⟨w.heap.size + 1, 0, none⟩) 2 2)).run Tryz.prog ((w.alloc (groupO N ys)).alloc (.cells #[.int .u8 104, .int .u8 100] 5)) = .ok (.slice (some ⟨w.heap.size + 1, 0, none⟩) 2 2) wl := by
  have := hcv 2 2
  rw [size_alloc] at this
  exact this
 have c0 := cell_kept c0 hbl
 have hxl : wl.heap[w.heap.size]? = some (groupO N ys) := by rw [hbl.block _ (by rw [size_alloc]; omega)]; exact hx0
 have HBl := grew_trans HB hbl
 have hb2 := hlit.bi (Num.byt_of_wf (by decide)) (by decide)
 rw [size_alloc] at hb2
 have hNw : IntKind.u8.wrap N = N := by rw [IntKind.wrap_u8]; omega
 clear hcv hlit hbl HB
 have hsN : BI (wl.alloc (.cells #[.int .u8 N, .int .u8 0] 5)) (some ⟨wl.heap.size, 0, none⟩) 2 [N, 0] := by
  refine ⟨rfl, by decide, Num.byt_of_wf ?_, fun _ => ⟨wl.heap.size, 0, rfl, fun i hi => ?_⟩⟩
  ·intro n hn
   simp [Lit.wf, IntKind.min, IntKind.max, IntKind.signed, IntKind.bits]
   simp at hn
   rcases hn with rfl | rfl <;> omega
  ·have hh := heap_new wl (.cells #[.int .u8 N, .int .u8 0] 5)
   rw [Nat.zero_add]
   rcases (by omega : i = 0 ∨ i = 1) with rfl | rfl
   ·exact cell_row hh 0 _ rfl
   ·exact cell_row hh 1 _ rfl
 have ba := grew_alloc wl (.cells #[.int .u8 N, .int .u8 0] 5)
 obtain ⟨g1, q1, w1, hr1, ho1, hb1⟩ := lit_append (hb2.kept ba) _ 2 2 [N, 0] hsN (by decide) (by decide) 42
 have hbw1 := grew_trans ba hb1
 have hx1 : w1.heap[w.heap.size]? = some (groupO N ys) := by rw [hbw1.block _ (Array.getElem?_eq_some_iff.1 hxl).1]; exact hxl
 have hszl : w.heap.size + 1 ≤ wl.heap.size := (Array.getElem?_eq_some_iff.1 hxl).1
 have ho1 : Own (w.heap.size + 1) w1 g1 4 q1 [104, 100, N, 0] := ho1.base (by rw [size_alloc]; omega)
 have HB1 := grew_trans HBl hbw1
 have hsz1 := hbw1.size
 have hi8 : BI w1.drew (some ⟨w.heap.size, 1, none⟩) 8 (ys.take 8) := group_bi (mk := (0, 0)) (w := w1.drew) hx1 hy 0 8 (by omega) hl
 obtain ⟨g2, q2, w2, hr2, ho2, hb2'⟩ := own_append (w := w1.drew) ho1 _ 8 8 (ys.take 8) hi8 (by decide) (by show w.heap.size + 1 ≤ w1.heap.size; omega) 42
 have hx2 : w2.heap[w.heap.size]? = some (groupO N ys) := by rw [hb2'.block _ (by omega)]; exact hx1
 have hi32 : BI w2 (some ⟨w.heap.size, 9, none⟩) 32 (ys.drop 8) := by
  have := group_bi hx2 hy 8 32 (by omega) hl
  rwa [List.take_of_length_le (by simp; omega)] at this
 have hsz2 : w1.heap.size ≤ w2.heap.size := hb2'.size
 obtain ⟨g3, q3, w3, hr3, ho3, hb3⟩ := own_append ho2 _ 32 32 (ys.drop 8) hi32 (by decide) (by omega) 42
 rw [List.append_assoc, List.take_append_drop] at ho3
 have ho3 : Own (w.heap.size + 1) w3 g3 44 q3 ([104, 100, N, 0] ++ ys) := ho3
 have hsz3 := hb3.size
 obtain ⟨g4, q4, w4, hr4, ho4, hg4⟩ := zeros_own (w.heap.size + 1) w3 _ 44 84 _ ho3 rfl (by omega) 42
 have hb4 := (Below.refl (w.heap.size + 1) w3).grown hg4 (by omega) (by intro k hk; simp [Value.ownBlock] at hk; have := ho3.spot; omega)
 have hr1 : (Builtin.append_ #[42, 42] 42 #[.slice (some ⟨w.heap.size + 1, 0, none⟩) 2 2, .slice (some ⟨wl.heap.size, 0, none⟩) 2 2]).run Tryz.prog (wl.alloc (.cells #[.int .u8 N, .int .u8 0] 5)) = .ok (.slice (some ⟨g1, 0, none⟩) 4 q1) w1 := hr1
 have hr2 : (Builtin.append_ #[42, 42] 42 #[.slice (some ⟨g1, 0, none⟩) 4 q1, .slice (some ⟨w.heap.size, 1, none⟩) 8 8]).run Tryz.prog w1.drew = .ok (.slice (some ⟨g2, 0, none⟩) 12 q2) w2 := hr2
 have hr3 : (Builtin.append_ #[42, 42] 42 #[.slice (some ⟨g2, 0, none⟩) 12 q2, .slice (some ⟨w.heap.size, 9, none⟩) 32 32]).run Tryz.prog w2 = .ok (.slice (some ⟨g3, 0, none⟩) 44 q3) w3 := hr3
 have R1 := (show Hid _ from hr1)
 have R2 := (show Hid _ from hr2)
 have R3 := (show Hid _ from hr3)
 have R4 := (show Hid _ from hr4)
 have hfin : Own w.heap.size w4 g4 128 q4 (groupL N ys) := by
  rw [hL]
  exact ho4.base (by omega)
 have HB4 : Below w.heap.size w w4 := HB1.drew.trans ((hb2'.mono (by omega)).trans ((hb3.mono (by omega)).trans (hb4.mono (by omega))))
 clear hr1 hr2 hr3 hr4 hi8 hi32 ho1 ho2 ho3 ho4 hg4 hb2' hb3 hb4 hbw1 hb1 ba hsN hb2 hL hx0 hx1 hx2 hxl
 go_enter Tryz.func182, Tryz.ntmps182
 go_wp2_with (at_builtin; refine wpList_append_run rfl (.tmp 14) (.tmp 18) 42 42 rfl _ _ rfl rfl R1.out ?_)
 go_region_law (first | refine step_append_run rfl (.tmp 20) (.tmp 22) 42 42 rfl _ _ (by simp [Act.eval, Act.put]) (by simp [Act.eval, Act.put]) R2.out ?_ | refine step_append_run rfl (.tmp 23) (.tmp 25) 42 42 rfl _ _ (by simp [Act.eval]) (by simp [Act.eval]) R3.out ?_)
 all_goals
  go_wp2_with (at_builtin; refine wpList_append_run rfl (.tmp 27) (.const (.int .i64 84)) 42 3 rfl _ _ rfl rfl R4.out ?_)
  go_ret2
  exact ⟨g4, q4, rfl, hfin, HB4⟩
end Go.Proofs.YthdlpeejmmobmaaGreat.Mk
