/- PPlan PPlan2 PAsk PEach -/
import Derived.Test.YthdlpeejmmobmaaGreatYG09

namespace Go.Proofs.YthdlpeejmmobmaaGreat.Pt
open Go.RowKit Go.Maps
set_option maxRecDepth 100000
set_option linter.unusedVariables false
def ofB (P : List Pv) (b : Int) : List Pv := P.filter (fun p => decide ((p.blk : Int) = b))
theorem idsOf_eq (P : List Pv) (b : Int) : idsOf P b = (ofB P b).map (fun p => (p.id : Int)) := rfl
theorem fP_mem {P : List Pv} (hs : P.Pairwise (fun p q => p.id < q.id)) {p : Pv} (hp : p ∈ P) : fP P (p.id : Int) = some p := by
 induction P with
 | nil => cases hp
 | cons q P ih =>
  unfold fP at *
  rw [List.find?_cons]
  rcases List.mem_cons.1 hp with rfl | h
  ·simp
  ·have := (List.pairwise_cons.1 hs).1 p h
   have hne : decide ((q.id : Int) = (p.id : Int)) = false := decide_eq_false (by omega)
   rw [hne]
   exact ih (List.pairwise_cons.1 hs).2 h
theorem fP_some {P : List Pv} {k : Int} {p : Pv} (h : fP P k = some p) : p ∈ P ∧ (p.id : Int) = k := by
 unfold fP at h
 exact ⟨List.mem_of_find?_eq_some h, by simpa using List.find?_some h⟩
theorem len_ids : ∀ {P : List Pv} {m last : Nat}, P.Pairwise (fun p q => p.id < q.id) → (∀ p ∈ P, m < p.id ∧ p.id ≤ last) → P.length ≤ last - m
 | [], _, _, _, _ => Nat.zero_le _
 | p :: P, m, last, hs, h => by
  have h1 := h p (List.mem_cons.2 (.inl rfl))
  have := len_ids (P := P) (m := p.id) (last := last) (List.pairwise_cons.1 hs).2 (fun q hq => ⟨(List.pairwise_cons.1 hs).1 q hq, (h q (List.mem_cons.2 (.inr hq))).2⟩)
  simp only [List.length_cons]
  omega
theorem PS.len {B : Nat} {w : World} {a mp mb last : Nat} {P : List Pv} {K : Int → Option Value} (h : PS B w a mp mb last P K) : P.length ≤ last := by
 have := len_ids (m := 0) (last := last) h.srt (fun p hp => by have := h.ids p hp; omega)
 omega
theorem PS.row_ii {B : Nat} {w : World} {a mp mb last : Nat} {P : List Pv} {K : Int → Option Value} (h : PS B w a mp mb last P K) (b : Int) (hb : I64 b) : ∃ p c, (K b).getD (.slice none 0 0) = .slice p (idsOf P b).length c ∧ II w p (idsOf P b).length (idsOf P b) ∧ Plain p := by
 have hf : ∀ x ∈ idsOf P b, I64 x := by
  intro x hx
  rw [idsOf_eq] at hx
  obtain ⟨p, hp, rfl⟩ := List.mem_map.1 hx
  have := h.ids p (List.mem_filter.1 hp).1
  have := h.sml
  exact ⟨by omega, by omega⟩
 have hlen : (idsOf P b).length ≤ 10000 := by
  have h1 := h.len
  have h2 := h.sml
  have h3 : (ofB P b).length ≤ P.length := List.length_filter_le _ _
  rw [idsOf_eq, List.length_map]
  omega
 cases e : K b with
 | none =>
  rw [h.away b hb e]
  exact ⟨none, 0, rfl, ⟨rfl, by simp, fun x hx => (by cases hx), fun h => (by simp at h)⟩, .inl rfl⟩
 | some v =>
  obtain ⟨_, hr, _⟩ := h.rows b v e
  exact Nums.ii hr (by omega) hf
theorem getD_map_ids (l : List Pv) (j : Nat) (h : j < l.length) : (l.map (fun p => (p.id : Int))).getD j 0 = (l[j].id : Int) := by
 rw [List.getD_eq_getElem?_getD, List.getElem?_map, List.getElem?_eq_getElem h]; rfl
end Go.Proofs.YthdlpeejmmobmaaGreat.Pt

namespace Go.Proofs.YthdlpeejmmobmaaGreat.Pt
open Go.RowKit Go.Maps
set_option maxRecDepth 100000
set_option linter.unusedVariables false
set_option maxHeartbeats 400000 in
theorem bclone_ok (p : Option Addr) (n c : Nat) (xs : List Int) (w : World) (h : BI w p n xs) (h1 : 1 ≤ n) :
  Calls Tryz.prog 124 #[.slice p n c] w fun e w' => ∃ g cap, e = .returned (.slice (some ⟨g, 0, none⟩) n cap) ∧ Own w.heap.size w' g n cap xs ∧ Below w.heap.size w w' := by
 obtain ⟨i0, hi, hz0, hz1, hz2⟩ := info_parts info5
 have hbig := h.big
 have hlen := h.len
 have q22 := eqlNil
 cases p with
 | none =>
  obtain ⟨b, o, e, _⟩ := h.cells (by omega)
  cases e
 | some a =>
  have hb0 := (Below.refl w.heap.size w).alloc (Nat.le_refl _) (Obj.cells #[] 5)
  have hsrc := (h.kept hb0).src'
  have hone := one_cells xs
  have hll : (xs.map (Value.int .u8)).length = n * 1 := by simp [hlen]
  obtain ⟨LL, HLL⟩ : ∃ LL, Hid (xs.map (Value.int .u8) = LL) := ⟨_, rfl⟩
  rw [HLL.out] at hsrc hone hll
  go_enter Tryz.func124, Tryz.ntmps124
  go_wp2_with (at_builtin; refine wpList_append_own _ rfl _ _ 42 rfl w.heap.size 5 i0 (.int .u8 0) 1 1 Tryz.underlying42 hi hz0 hz1 hz2 rfl (by decide) _ _ _ rfl (World.ownsRow_made w #[] 0 (Nat.le_refl _) (Nat.zero_le _) rfl) a n c LL rfl hll hsrc hone (by unfold maxLen; omega) (by omega) (by simp) ?_)
  intro v' w1 hown hgrow _
  have hb1 := hb0.grown hgrow (by simp) (by intro k hk; simp [Value.ownBlock] at hk; omega)
  have hown : w1.ownsRow w.heap.size 5 1 v' n LL := by simpa using hown
  rw [← HLL.out] at hown
  have hv : v' ≠ .slice none 0 0 := by
   intro e
   rcases hown.2 with ⟨_, e0⟩ | ⟨g, cap, cur, e', _⟩
   ·omega
   ·rw [e] at e'; cases e'
  obtain ⟨g, cap, rfl, ho⟩ := own_shape hown hv
  clear hown hgrow hv
  go_wp2
  go_ret
  exact ⟨g, cap, rfl, ho, hb1⟩
theorem refusal_ok {B : Nat} {w : World} {a mp mb last : Nat} {P : List Pv} {K : Int → Option Value} (h : PS B w a mp mb last P K) (p : Option Addr) (n c : Nat) :
  Calls Tryz.prog 207 #[.pointer (some ⟨a, 0, none⟩), .slice p n c] w fun e w' => e = .returned (.int .i64 (if n = 128 then 0 else 1)) ∧ w' = w := by
 have hm := made_ok h
 clear h
 by_cases hn : n = 128
 ·subst hn
  go_enter Tryz.func207, Tryz.ntmps207
  go_wp2_with (first | (go_at_call 122; refine same_at hm ?_))
  go_ret
  exact ⟨rfl, rfl⟩
 ·have hnI : ¬ (n : Int) = 128 := by omega
  rw [if_neg hn]
  go_enter Tryz.func207, Tryz.ntmps207
  go_wp2_with (first | (go_at_call 122; refine same_at hm ?_))
  go_ret
  exact ⟨rfl, rfl⟩
end Go.Proofs.YthdlpeejmmobmaaGreat.Pt

namespace Go.Proofs.YthdlpeejmmobmaaGreat.Pt
open Go.RowKit Go.Maps
set_option maxRecDepth 100000
set_option linter.unusedVariables false
theorem ps_none (w : World) (a mp mb : Nat) (hr : w.heap[a]? = some (.cells #[.int .i64 0, .map (some mp), .map (some mb)] 215 (0, 0))) (hp : Mf w mp 0 (fun _ => none)) (hb : Mf w mb 0 (fun _ => none)) (B : Nat) (hB : (B ≤ a ∧ B ≤ mp ∧ B ≤ mb) ∧ mp ≠ mb) :
  PS B w a mp mb 0 [] (fun _ => none) :=
 ⟨hr, hp.congr (fun k _ => rfl), hb, (fun p hp => by cases hp), (fun p hp => by cases hp), (fun b v h => by cases h), fun b _ _ => rfl, (fun b b' v v' h => by cases h), (fun p hp => by cases hp), (fun p hp => by cases hp), List.Pairwise.nil, (fun p hp => by cases hp), by omega, hB⟩
set_option maxHeartbeats 1000000 in
theorem new_ok (w : World) : Calls Tryz.prog 193 #[] w fun e w' => ∃ a mp mb, e = .returned (.pointer (some ⟨a, 0, none⟩)) ∧ PS w.heap.size w' a mp mb 0 [] (fun _ => none) ∧ Below w.heap.size w w' := by
 have hmm := @run_makeMap Tryz.prog
 go_enter Tryz.func193, Tryz.ntmps193
 go_wp2_with fail
 go_ret
 refine ⟨w.heap.size + 1 + 1, w.heap.size, w.heap.size + 1, rfl, ps_none _ _ _ _ (at_new (by simp)) ?_ ?_ _ ⟨⟨by omega, by omega, by omega⟩, by omega⟩, ?_⟩
 ·refine Mf.kept (mf_made w 0) ?_
  exact (at_old (at_old (at_new rfl))).trans (at_new (w := w) rfl).symm
 ·have h2 : Mf ((w.alloc (Obj.map #[] 0)).alloc (Obj.map #[] 0)) (w.heap.size + 1) 0 (fun _ => none) := by
   have := mf_made (w.alloc (Obj.map #[] 0)) 0
   simpa using this
  refine Mf.kept h2 ?_
  exact (at_old (at_new (by simp))).trans (at_new (w := w.alloc (Obj.map #[] 0)) (by simp)).symm
 ·exact (((Below.refl _ w).alloc (Nat.le_refl _) _).alloc (by simp) _).alloc (by simp; omega) _
theorem last_ok {B : Nat} {w : World} {a mp mb last : Nat} {P : List Pv} {K : Int → Option Value} (h : PS B w a mp mb last P K) : Calls Tryz.prog 150 #[.pointer (some ⟨a, 0, none⟩)] w fun e w' => e = .returned (.int .i64 (last : Int)) ∧ w' = w := by
 have c0 := h.c0
 have hm := made_ok h
 clear h
 go_enter Tryz.func150, Tryz.ntmps150
 go_wp2_with (first | (go_at_call 122; refine same_at hm ?_))
 go_ret
 exact ⟨rfl, rfl⟩
end Go.Proofs.YthdlpeejmmobmaaGreat.Pt

namespace Go.Proofs.YthdlpeejmmobmaaGreat.Pt
open Go.RowKit Go.Maps
set_option maxRecDepth 100000
set_option linter.unusedVariables false
set_option maxRecDepth 100000 in
set_option maxHeartbeats 2000000 in
theorem each52_ok {B : Nat} {w0 w : World} {a mp mb last : Nat} {P : List Pv} {K : Int → Option Value} (h0 : PS B w0 a mp mb last P K) (g : Nat) (J : List Pv → World → Prop) (b : Int) (hb : I64 b)
  (hJ : ∀ pre w', J pre w' → Below w0.heap.size w0 w')
  (hS : ∀ pre p w', J pre w' → p ∈ P → Calls Tryz.prog 209 #[p.v, .pointer (some ⟨g, 0, none⟩)] w' fun e w2 => e = .returned (.tuple #[]) ∧ J (pre ++ [p]) w2)
  (h : J [] w) :
  Calls Tryz.prog 208 #[.pointer (some ⟨a, 0, none⟩), .int .i64 b, .func (.func 209) #[] #[.pointer (some ⟨g, 0, none⟩)]] w
   fun e w' => e = .returned (.tuple #[]) ∧ J (ofB P b) w' := by
 have hps := h0.kept (hJ _ _ h)
 have c2 := hps.c2
 have hl := hps.list b hb
 obtain ⟨q, c, e, hii, hpl⟩ := h0.row_ii b hb
 rw [e] at hl
 have hsml := hps.sml
 have hlen : (idsOf P b).length ≤ 10000 := by
  have h1 := hps.len
  have h3 : (ofB P b).length ≤ P.length := List.length_filter_le _ _
  rw [idsOf_eq, List.length_map]
  omega
 obtain ⟨L, hL⟩ : ∃ L, L = ofB P b := ⟨_, rfl⟩
 have hn : (idsOf P b).length = L.length := by rw [hL, idsOf_eq, List.length_map]
 have hmem : ∀ p ∈ L, p ∈ P := fun p hp => by rw [hL] at hp; exact (List.mem_filter.1 hp).1
 rw [idsOf_eq, ← hL] at hii
 rw [hn] at hl hlen
 rw [List.length_map] at hii
 rw [← hL]
 obtain ⟨n, hnL⟩ : ∃ n, n = L.length := ⟨_, rfl⟩
 rw [← hnL] at hl hlen hii
 have HNL : Hid _ := hnL
 have HII := fun pre w' (hj : J pre w') => hii.kept (hJ pre w' hj)
 clear e hn hnL hL
 go_enter Tryz.func208, Tryz.ntmps208
 go_wp2_with fail
 go_loopw [15] (fun i wr => ∃ (j : Nat), j ≤ n ∧ i = .int .i64 (j : Int) ∧ J (L.take j) wr) (fun i _ => n - (intOf i).toNat)
 case atStart => exact ⟨0, by omega, rfl, h⟩
 case round =>
  clear h hps c2 hl hii
  obtain ⟨j, hj, rfl, hI⟩ := hrel
  have hps := h0.kept (hJ _ _ hI)
  by_cases hlt : j < n
  ·have hjL : j < L.length := by rw [← HNL.out]; exact hlt
   obtain ⟨b1, o1, rfl, hc1⟩ := (HII _ _ hI).cells (by omega)
   have e1 := hc1 j hlt
   rw [getD_map_ids L j hjL] at e1
   obtain ⟨p, hp⟩ : ∃ p, p = L[j] := ⟨_, rfl⟩
   rw [← hp] at e1
   have hpP : p ∈ P := hmem p (by rw [hp]; exact List.getElem_mem hjL)
   have hid := hps.ids p hpP
   have c1 := hps.c1
   have hg := hps.get (p.id : Int) ⟨by omega, by omega⟩
   rw [fP_mem hps.srt hpP] at hg
   have hg' : (Instr.lookup 212 (.map (some mp)) (.int .i64 (p.id : Int)) false).run Tryz.prog wr = .ok p.v wr := hg
   have hplan := hS _ p wr hI hpP
   have HT : Hid (L.take (j + 1) = L.take j ++ [p]) := by show _ = _; rw [List.take_add_one, List.getElem?_eq_getElem hjL, hp]; rfl
   have hjI : (j : Int) < (n : Int) := by omega
   have hj0 : (0 : Int) ≤ (j : Int) := by omega
   clear hc1 hg hp hps hI hid HII hS hJ h0
   generalize p.v = pv at *
   go_wp2_with (first | (go_at_call 209; refine hplan.mono ?_; rintro e w2 ⟨rfl, hI3⟩))
   go_roundw
   case rel =>
    refine ⟨j + 1, by omega, by go_num, ?_⟩
    rw [HT.out]
    exact hI3
   case measure => simp [intOf]; omega
  ·obtain rfl : j = n := by omega
   rw [List.take_of_length_le (by rw [← HNL.out]; exact Nat.le_refl _)] at hI
   clear HII hS hJ h0 hps
   go_wp2
   go_end0
   exact ⟨rfl, hI⟩
structure NI (B T : Nat) (w0 w : World) (a mp mb last : Nat) (P : List Pv) (K : Int → Option Value) (go ob cap : Nat) (out : List Int) : Prop where
 ps : PS B w0 a mp mb last P K
 bel : Below T w0 w
 sz : w0.heap.size = T
 ro : w.heap[go]? = some (.cells #[.slice (some ⟨ob, 0, none⟩) 128 cap] 42 (0, 0))
 own : Own T w ob 128 cap out
 byt : Num.Byt out
theorem NI.hT {B T : Nat} {w0 w : World} {a mp mb last : Nat} {P : List Pv} {K : Int → Option Value} {go ob cap : Nat} {out : List Int} (h : NI B T w0 w a mp mb last P K go ob cap out) : T ≤ w.heap.size := by have := h.bel.size; rw [h.sz] at this; exact this
def ovrs : List Pv → List Int → List Int
 | [], xs => xs
 | p :: l, xs => ovrs l (ovr xs p)
theorem ovrs_snoc : ∀ (l : List Pv) (p : Pv) (xs : List Int), ovrs (l ++ [p]) xs = ovr (ovrs l xs) p
 | [], _, _ => rfl
 | q :: l, p, xs => by rw [List.cons_append]; exact ovrs_snoc l p _
theorem NI.kept {B T : Nat} {w0 w w' : World} {a mp mb last : Nat} {P : List Pv} {K : Int → Option Value} {go ob cap : Nat} {out : List Int} (h : NI B T w0 w a mp mb last P K go ob cap out) (hb : Below w.heap.size w w') : NI B T w0 w' a mp mb last P K go ob cap out :=
 ⟨h.ps, h.bel.trans (hb.mono h.hT), h.sz, by rw [hb.block _ ((Array.getElem?_eq_some_iff.1 h.ro).1)]; exact h.ro, h.own.kept hb, h.byt⟩
theorem now1_ok {B T : Nat} {w0 w : World} {a mp mb last : Nat} {P : List Pv} {K : Int → Option Value} {go ob cap : Nat} {out : List Int} (h : NI B T w0 w a mp mb last P K go ob cap out) (p : Pv) (hp : p ∈ P) :
  Calls Tryz.prog 209 #[p.v, .pointer (some ⟨go, 0, none⟩)] w fun e w' => e = .returned (.tuple #[]) ∧ NI B T w0 w' a mp mb last P K go ob cap (ovr out p) := by
 obtain ⟨W, hW⟩ : ∃ W, w.alloc (.cells p.cells 218) = W := ⟨_, rfl⟩
 have hbW : Below w.heap.size w W := by rw [← hW]; exact (Below.refl _ w).alloc (Nat.le_refl _) _
 have hI := h.kept hbW
 have hb := hI.bel
 rw [← h.sz] at hb
 have hps := h.ps.kept hb
 have hid := hps.ids p hp
 have hlay := lay_ok hI.own p (hps.byt p hp).1 hid.2.2.2.1 hid.2.2.2.2
 have co : W.cell? ⟨go, 0, none⟩ = some (.slice (some ⟨ob, 0, none⟩) 128 cap) := by rw [cell_of_row _ _ 0 _ 42 _ hI.ro]; rfl
 have hrow : W.heap[w.heap.size]? = some (.cells p.cells 218 (0, 0)) := by rw [← hW]; exact at_new rfl
 have HB : Hid (Num.Byt p.bs) := (hps.byt p hp).1.byt
 have hv : p.v = .agg p.cells := rfl
 clear hid hps hb
 go_enter Tryz.func209, Tryz.ntmps209
 go_wp2_with (first
  | (refine wpList_load_row rfl 218 (.tmp 2) rfl w.heap.size rfl 218 p.cells (0, 0) _ hrow Tryz.underlying218 rfl info44 ?_)
  | (go_at_call 210; refine hlay.mono ?_; rintro e w2 ⟨rfl, ho, hF⟩))
 go_end0
 obtain ⟨cs, h5⟩ := own_row5 hI.own
 exact ⟨rfl, h.ps, frame_below hI.bel hI.hT hF hI.own.spot.1, h.sz, by rw [hF.block go ((Array.getElem?_eq_some_iff.1 hI.ro).1) (own_ne hI.ro h5 (by decide))]; exact hI.ro, ho, ovr_byt h.byt HB.out⟩
set_option maxRecDepth 100000 in
set_option maxHeartbeats 2000000 in
theorem now_ok {B : Nat} {w : World} {a mp mb last : Nat} {P : List Pv} {K : Int → Option Value} (h : PS B w a mp mb last P K) (b : Int) (hb : I64 b) (p : Option Addr) (c : Nat) (xs : List Int) (hx : BI w p 128 xs) :
  Calls Tryz.prog 121 #[.pointer (some ⟨a, 0, none⟩), .int .i64 b, .slice p 128 c] w fun e w' => ∃ g cap, e = .returned (.tuple #[.slice (some ⟨g, 0, none⟩) 128 cap, .int .i64 0]) ∧ Own w.heap.size w' g 128 cap (ovrs (ofB P b) xs) ∧ Below w.heap.size w w' := by
 have hr := refusal_ok h p 128 c
 rw [if_pos rfl] at hr
 have hcl := bclone_ok p 128 c xs w hx (by omega)
 go_enter Tryz.func121, Tryz.ntmps121
 go_wp2_with (first | (go_at_call 207; refine same_at hr ?_))
 refine hcl.mono ?_
 rintro e w1 ⟨ob, cap, rfl, hown, hb1⟩
 obtain ⟨W2, hW2⟩ : ∃ W2, w1.alloc (Obj.cells #[.slice (some ⟨ob, 0, none⟩) 128 cap] 42) = W2 := ⟨_, rfl⟩
 have hs1 := hb1.size
 have hb2 : Below w1.heap.size w1 W2 := by rw [← hW2]; exact (Below.refl _ w1).alloc (Nat.le_refl _) _
 have hNI : NI B w.heap.size w W2 a mp mb last P K w1.heap.size ob cap xs := ⟨h, hb1.trans (hb2.mono hs1), rfl, by rw [← hW2]; exact at_new rfl, hown.kept hb2, hx.byt⟩
 have hea := each52_ok h w1.heap.size (fun pre w' => NI B w.heap.size w w' a mp mb last P K w1.heap.size ob cap (ovrs pre xs)) b hb (fun pre w' hj => hj.bel) (fun pre p w' hj hp => (now1_ok hj p hp).mono (fun e w2 hh => by rw [ovrs_snoc]; exact hh)) hNI
 clear hNI hb2 hown hb1 hcl hr hx h
 go_wp2_with fail
 refine hea.mono ?_
 rintro e w3 ⟨rfl, hI⟩
 have co : w3.cell? ⟨w1.heap.size, 0, none⟩ = some (.slice (some ⟨ob, 0, none⟩) 128 cap) := by rw [cell_of_row _ _ 0 _ 42 _ hI.ro]; rfl
 have HI : Hid _ := hI
 clear hI hea
 go_wp2_with fail
 go_ret2
 have hI := HI.out
 exact ⟨ob, cap, rfl, hI.own, hI.bel⟩
end Go.Proofs.YthdlpeejmmobmaaGreat.Pt
