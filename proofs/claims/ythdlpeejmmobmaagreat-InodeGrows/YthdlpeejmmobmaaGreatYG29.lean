/- KM8 A3 A4 -/
import Derived.Test.YthdlpeejmmobmaaGreatYG28
import Derived.Test.YthdlpeejmmobmaaGreatYG18
import Derived.Test.YthdlpeejmmobmaaGreatYG25

namespace Go.Proofs.YthdlpeejmmobmaaGreat.Mk
open Go.RowKit
set_option maxRecDepth 100000
set_option linter.unusedVariables false
set_option maxRecDepth 100000
theorem Els.join {B B' : Nat} {w0 w : World} {vs vs' : List Value} {g2 g2' : Nat} {F F' G : Nat → List Int} (h : Els B w0 vs g2 F) (h' : Els B' w vs' g2' F') (hb : Below w0.heap.size w0 w) (hB' : B' = w0.heap.size) (hBB : B ≤ B')
  (hl : vs = [] ∨ 2 < vs.length) (hF : ∀ k, k < vs.length → G k = F k) (hF' : ∀ k, k < vs'.length → G (vs.length + k) = F' k) : Els B w (vs ++ vs') (if vs = [] then g2' else g2) G := by
 have hk := h.kept (w' := w) (fun k hk _ => hb.block k hk)
 have lt : ∀ g, (∃ cs, w0.heap[g]? = some (Obj.cells cs 5 (0, 0))) → g < w0.heap.size := fun g ⟨cs, h1⟩ => (Array.getElem?_eq_some_iff.1 h1).1
 refine ⟨fun k v hv => ?_, fun h3 => ?_⟩
 ·by_cases hkl : k < vs.length
  ·rw [List.getElem?_append_left hkl] at hv
   obtain ⟨g, c, e, h1, h2, h5, h4⟩ := hk.el k v hv
   have hne : vs ≠ [] := fun e => by rw [e] at hkl; simp at hkl
   rw [if_neg hne, hF k hkl]
   exact ⟨g, c, e, h1, h2, h5, h4⟩
  ·rw [List.getElem?_append_right (by omega)] at hv
   have hk2 := (List.getElem?_eq_some_iff.1 hv).1
   obtain ⟨g, c, e, h1, h2, h5, h4⟩ := h'.el (k - vs.length) v hv
   have hG := hF' (k - vs.length) hk2
   rw [show vs.length + (k - vs.length) = k by omega] at hG
   rw [hG]
   refine ⟨g, c, e, by omega, h2, h5, fun hn2 => ?_⟩
   rcases hl with hl | hl
   ·rw [if_pos hl]
    subst hl
    exact h4 (by simpa using hn2)
   ·have hne : vs ≠ [] := fun e => by rw [e] at hl; simp at hl
    rw [if_neg hne]
    have := lt g2 ⟨aZ, (h.two hl).2⟩
    omega
 ·rcases hl with hl | hl
  ·subst hl
   rw [if_pos rfl]
   exact h'.two (by simpa using h3)
  ·have hne : vs ≠ [] := fun e => by rw [e] at hl; simp at hl
   rw [if_neg hne, List.getElem?_append_left (by omega)]
   exact hk.two hl
theorem Els.one {B : Nat} {w : World} {vs : List Value} {g2 : Nat} {F : Nat → List Int} (h : Els B w vs g2 F) : ∀ u ∈ vs, u.oneCell' = true := by
 intro u hu
 obtain ⟨k, hk, e⟩ := List.mem_iff_getElem.1 hu
 obtain ⟨g, c, e', _⟩ := h.el k u (by rw [List.getElem?_eq_getElem hk, e])
 rw [e']
 rfl
theorem Els.pim {B : Nat} {w : World} {vs : List Value} {g2 n A cap : Nat} {cur : Array Value} {F : Nat → List Int} (h : Els B w vs g2 F) (hn : vs.length = n) (h3 : 2 < n) (hA : B ≤ A) (hr : w.heap[A]? = some (.cells cur 42 (0, 0))) (hs : n ≤ cur.size) (hc : ∀ (k : Nat) (u : Value), vs[k]? = some u → cur[k]? = some u) (hg : B ≤ g2) : PIm B w A n g2 F := by
 have nA : ∀ g, (∃ cs, w.heap[g]? = some (Obj.cells cs 5 (0, 0))) → g ≠ A := fun g ⟨cs, h1⟩ e => by
  rw [e, hr] at h1
  simp at h1
 obtain ⟨e1, e2⟩ := h.two (by omega)
 refine ⟨hA, ⟨cur, hr, hs, fun k hk => ?_, hc 2 _ e1⟩, e2, hg, nA g2 ⟨aZ, e2⟩⟩
 have hv := List.getElem?_eq_getElem (l := vs) (i := k) (by omega)
 obtain ⟨g, c, e, h1, h2, h5, h4⟩ := h.el k _ hv
 exact ⟨g, 0, c, by rw [hc k _ hv, e], h1, nA g h2, h4, h5⟩
def Rd2 (w : World) (A n : Nat) (L : Nat → List Int) : Prop := (∃ cs, w.heap[A]? = some (Obj.cells cs 42 (0, 0)) ∧ n ≤ cs.size) ∧ ∀ k, k < n → ∃ g o m c, w.cell? ⟨A, k, none⟩ = some (.slice (some ⟨g, o, none⟩) m c) ∧ BI w (some ⟨g, o, none⟩) m (L k) ∧ g ≠ A
theorem Rd2.kept {w w' : World} {A n : Nat} {L : Nat → List Int} (h : Rd2 w A n L) (hb : Below w.heap.size w w') : Rd2 w' A n L := by
 obtain ⟨⟨cs, h1, h2⟩, h3⟩ := h
 refine ⟨⟨cs, (hb.block A (Array.getElem?_eq_some_iff.1 h1).1).trans h1, h2⟩, fun k hk => ?_⟩
 obtain ⟨g, o, m, c, e1, e2, e3⟩ := h3 k hk
 exact ⟨g, o, m, c, cell_kept e1 hb, e2.kept hb, e3⟩
theorem Rd2.set {w : World} {A n : Nat} {L : Nat → List Int} (h : Rd2 w A n L) {d : Nat} (hd : d < n) {g o m c : Nat} {xs : List Int} (hb : BI w (some ⟨g, o, none⟩) m xs) (hg : g ≠ A) : Rd (w.setCell ⟨A, d, none⟩ (.slice (some ⟨g, o, none⟩) m c)) A n (fun x => if x = d then xs else L x) := by
 obtain ⟨⟨cs, h1, h2⟩, h3⟩ := h
 have so : ∀ b, b ≠ A → (w.setCell ⟨A, d, none⟩ (.slice (some ⟨g, o, none⟩) m c)).heap[b]? = w.heap[b]? := fun b hb => Below.heap_setCell _ _ _ _ hb
 have hr := heap_setCell_same w A d cs 42 (.slice (some ⟨g, o, none⟩) m c) h1
 intro k hk
 dsimp only
 by_cases hkd : k = d
 ·subst hkd
  rw [if_pos rfl]
  exact ⟨_, m, c, cell_row hr k _ (by rw [Array.getElem?_setIfInBounds_self_of_lt (by omega)]), bi_same hb (fun b o e _ => by cases e; exact so _ hg)⟩
 ·rw [if_neg hkd]
  obtain ⟨g', o', m', c', e1, e2, e3⟩ := h3 k hk
  refine ⟨_, m', c', cell_row hr k _ ?_, bi_same e2 (fun b o e _ => by cases e; exact so _ e3)⟩
  rw [Array.getElem?_setIfInBounds_ne (by omega)]
  have e4 := e1
  simp only [World.cell?, h1] at e4
  exact e4
theorem rt_read2 {B : Nat} {w : World} {A n g2 : Nat} {L : Nat → List Int} (h : PIm B w A n g2 L) (i : Nat) : Rd2 (w.setRow g2 ((rtB i).map (Value.int .u8)).toArray) A n (fun x => if x = 2 then rtB i else L x) := by
 obtain ⟨cs, h1, hn, h3, h4⟩ := h.row
 have so : ∀ b, b ≠ g2 → (w.setRow g2 ((rtB i).map (Value.int .u8)).toArray).heap[b]? = w.heap[b]? := fun b hb => setRow_other _ _ _ _ hb
 have hr : (w.setRow g2 ((rtB i).map (Value.int .u8)).toArray).heap[A]? = some (.cells cs 42 (0, 0)) := (so A (fun e => h.two.2.2 e.symm)).trans h1
 refine ⟨⟨cs, hr, hn⟩, fun k hk => ?_⟩
 dsimp only
 by_cases h2 : k = 2
 ·subst h2
  refine ⟨g2, 0, 128, 128, cell_row hr 2 _ h4, ?_, h.two.2.2⟩
  rw [if_pos rfl]
  exact (own_of_row (B := 0) (Nat.zero_le _) (by decide) (rtB_len i) (setRow_heap _ _ _ _ 5 _ h.two.1)).bi (by decide) (rtB_byt i)
 ·obtain ⟨g, o, c, e1, e2, e3, e4, e5⟩ := h3 k hk
  refine ⟨g, o, 128, c, cell_row hr k _ e1, ?_, e3⟩
  rw [if_neg h2]
  exact bi_same e5 (fun b o e _ => by cases e; exact so _ (e4 h2))
theorem blF_gr {g b i j r : Nat} (hr : r < b) : blF g b i (j * b + r) = grF g b i j r := by
 have e1 : (j * b + r) / b = j := by rw [Nat.add_comm, Nat.add_mul_div_right _ _ (by omega), Nat.div_eq_of_lt hr]; omega
 have e2 : (j * b + r) % b = r := by rw [Nat.add_comm, Nat.add_mul_mod_self_right, Nat.mod_eq_of_lt hr]
 unfold blF grF
 rw [e1, e2]
theorem owns_ty {w : World} {B n : Nat} {v : Value} {vs : List Value} (h : w.ownsRow B 42 1 v n vs) {k : Nat} (hk : v.ownBlock = some k) : (∃ cs, w.heap[k]? = some (Obj.cells cs 42 (0, 0))) ∧ B ≤ k := by
 rcases h.2 with ⟨e, e0⟩ | ⟨A, cap, cur, e, hB, hg, _⟩
 ·rw [e] at hk; cases hk
 ·rw [e] at hk
  cases hk
  exact ⟨⟨cur, hg⟩, hB⟩
theorem owns_kept {w w' : World} {B n : Nat} {v : Value} {vs : List Value} (h : w.ownsRow B 42 1 v n vs) (hb : Below w.heap.size w w') : w'.ownsRow B 42 1 v n vs := by
 refine ⟨h.1, ?_⟩
 rcases h.2 with h' | ⟨A, cap, cur, e, hB, hg, rest⟩
 ·exact .inl h'
 ·exact .inr ⟨A, cap, cur, e, hB, (hb.block _ (Array.getElem?_eq_some_iff.1 hg).1).trans hg, rest⟩
structure MkI (w wr : World) (g b i j : Nat) (v : Value) (vs : List Value) (g2 : Nat) : Prop where
 len : vs.length = j * b
 row : wr.ownsRow w.heap.size 42 1 v vs.length vs
 els : Els w.heap.size wr vs g2 (blF g b i)
 geo : wr.heap[w.heap.size]? = some (geomO g b i)
 bel : Below w.heap.size w wr
def MkP (w : World) (g b i : Nat) (e : Ending) (w' : World) : Prop := ∃ A cap, e = .returned (.tuple #[.slice (some ⟨A, 0, none⟩) (g * b) cap, .int .i64 0]) ∧ Rd w' A (g * b) (img g b i) ∧ Below w.heap.size w w'
set_option maxHeartbeats 4000000 in
theorem rmake_ok (g b i : Nat) (hmay : Gm.May (g : Int) (b : Int) (i : Int)) (w : World) :
  Calls Tryz.prog 44 #[geomV g b i] w fun e w' => MkP w g b i e w' := by
 have hm := hmay.all
 have hbn : 1 * b ≤ g * b := Nat.mul_le_mul_right b (by omega)
 have hb2 : g * b ≤ 8 * 256 := Nat.mul_le_mul (by omega) (by omega)
 obtain ⟨W1, hW1⟩ : ∃ W1, w.alloc (geomO g b i) = W1 := ⟨_, rfl⟩
 have hb1 : Below w.heap.size w W1 := by rw [← hW1]; exact grew_alloc _ _
 have hg1 : W1.heap[w.heap.size]? = some (geomO g b i) := by rw [← hW1]; exact at_new rfl
 have hca := rcan_may hmay W1
 have HN : Hid (b ≤ g * b ∧ g * b ≤ 2048) := by show _ ∧ _; omega
 clear hbn hb2
 obtain ⟨i6, hi6, hz0, hz1, hz2⟩ := info_partsS info36S
 go_enter Tryz.func44, Tryz.ntmps44
 go_wp2_with (first
  | (refine wpList_load_row rfl 23 (.tmp 1) rfl w.heap.size rfl 23 _ (0, 0) _ hg1 Tryz.underlying23 rfl info23 ?_))
 refine grew_at hca ?_
 intro w2 hbb2
 have hg2 := (hbb2.block _ (Array.getElem?_eq_some_iff.1 hg1).1).trans hg1
 have hB2 := grew_trans hb1 hbb2
 have G0 : w2.cell? ⟨w.heap.size, 0, none⟩ = some (.int .i64 (g : Int)) := cell_row hg2 0 _ rfl
 have HI : Hid (MkI w w2 g b i 0 (.slice none 0 0) [] 0) := ⟨by simp, ⟨rfl, .inl ⟨rfl, rfl⟩⟩, ⟨fun k v hv => by simp at hv, fun h => by simp at h⟩, hg2, hB2⟩
 clear hca hg1 hb1 hbb2 hW1 hg2 hB2
 dsimp only
 go_wp2_with fail
 go_loopw [16, 4] (fun iv v wr => ∃ (j : Nat) (vs : List Value) (g2 : Nat), j ≤ g ∧ iv = .int .i64 (j : Int) ∧ MkI w wr g b i j v vs g2) (fun iv _ _ => g - (intOf iv).toNat)
 case atStart => exact ⟨0, _, _, by omega, rfl, HI.out⟩
 case round =>
  clear HI G0
  obtain ⟨j, vs, g2, hj, rfl, hI⟩ := hrel
  by_cases hlt : j < g
  ·have hjI : (j : Int) < (g : Int) := by omega
   have hgr := rgrp_ok g b i j ⟨hmay, by omega, hjI⟩ wr
   have hgeo := hI.geo
   have HJ : Hid (MkI w wr g b i j u4 vs g2) := hI
   clear hI
   go_wp2_with (first
    | (refine wpList_load_row rfl 23 (.tmp 1) rfl w.heap.size rfl 23 _ (0, 0) _ hgeo Tryz.underlying23 rfl info23 ?_))
   refine Calls.mono hgr ?_
   rintro e w3 ⟨v', vs', g2', rfl, hvl, hrow', hels', hb3⟩
   obtain ⟨A', cap', cur', hv', hBA', hrA', hcs', hcur', hcp', hcm'⟩ := owns_shape hrow' (by omega)
   subst hv'
   have hrow3 := owns_kept HJ.out.row hb3
   have news : ∀ (k : Nat) (u : Value), vs'[k]? = some u → w3.cell? ((⟨A', 0, none⟩ : Addr).add k) = some u := fun k u hu => by
    rw [Addr.add_mid, Nat.zero_add]
    exact cell_row hrA' k u (hcur' k u hu)
   have hone := hels'.one
   have hlen := HJ.out.len
   have hjb : (j + 1) * b ≤ g * b := Nat.mul_le_mul_right b (by omega)
   have HLL : Hid (vs.length + b ≤ 2048 ∧ vs.length + b = (j + 1) * b ∧ w.heap.size ≤ w3.heap.size) := by
    show _ ∧ _
    have h1 := HN.out
    have h2 := HJ.out.bel.size
    have h3 := hb3.size
    rw [hlen, Nat.add_mul] at *
    refine ⟨?_, ?_, ?_⟩ <;> omega
   clear hjb hlen
   dsimp only
   go_wp2_with (at_builtin; refine wpList_append_own_at _ rfl _ _ 67 rfl w.heap.size 42 i6 (.slice none 0 0) 1 24 Tryz.underlying67 hi6 hz0 hz1 hz2 rfl (by decide) _ _ _ rfl hrow3 ⟨A', 0, none⟩ b cap' vs' rfl ?c2 news hone ?c4 ?c5 HLL.out.2.2 ?_; (case c2 => simp [hvl]); (case c4 => have := HLL.out; unfold maxLen; omega); (case c5 => have := HLL.out; omega); intro v3 w4 ho4 hg4 hx1 hx2)
   have hg4' : w3.grownBy w4 u4.ownBlock := hg4
   have ho4' : w4.ownsRow w.heap.size 42 1 v3 (vs.length + b) (vs ++ vs') := ho4
   have hJ := HJ.out
   have nA : ∀ k, u4.ownBlock = some k → (∃ cs, w3.heap[k]? = some (Obj.cells cs 42 (0, 0))) ∧ w.heap.size ≤ k := fun k hk => owns_ty hrow3 hk
   have keep : ∀ k t, t ≠ 42 → k < w3.heap.size → (∃ cs, w3.heap[k]? = some (Obj.cells cs t (0, 0))) → w4.heap[k]? = w3.heap[k]? := fun k t ht hk ⟨cs, h1⟩ => hg4'.block k hk (fun e => by
    obtain ⟨⟨cs', h2⟩, _⟩ := nA k e.symm
    rw [h1] at h2
    simp at h2
    exact ht h2.2)
   have hgeo3 := (hb3.block _ (Array.getElem?_eq_some_iff.1 hJ.geo).1).trans hJ.geo
   refine ⟨⟨j + 1, vs ++ vs', (if vs = [] then g2' else g2), by omega, by go_num, ⟨?_, ?_, ?_, ?_, ?_⟩⟩, by simp [intOf]; omega⟩
   ·rw [List.length_append, hvl]; exact HLL.out.2.1
   ·rw [List.length_append, hvl]; exact ho4'
   ·refine (hJ.els.join (G := blF g b i) hels' hb3 rfl hJ.bel.size ?_ (fun k hk => rfl) (fun k hk => ?_)).kept (fun k hk ht => keep k 5 (by decide) hk ht)
    ·rcases Nat.eq_zero_or_pos j with h0 | h0
     ·left
      have := hJ.len
      rw [h0, Nat.zero_mul] at this
      exact List.length_eq_zero_iff.1 this
     ·right
      have h1 : 1 * b ≤ j * b := Nat.mul_le_mul_right b h0
      rw [hJ.len]
      omega
    ·rw [hJ.len]
     exact blF_gr (by omega)
   ·exact (keep w.heap.size 23 (by decide) (Array.getElem?_eq_some_iff.1 hgeo3).1 ⟨_, hgeo3⟩).trans hgeo3
   ·exact (grew_trans hJ.bel hb3).grown hg4' HLL.out.2.2 (fun k hk => (nA k hk).2)
  ·obtain rfl : j = g := by omega
   have hjI : ¬ (j : Int) < (j : Int) := by omega
   obtain ⟨N, hN⟩ : ∃ N, N = j * b := ⟨_, rfl⟩
   have hrow := hI.row
   rw [hI.len, ← hN] at hrow
   have HNN : Hid (N = j * b ∧ b ≤ N ∧ N ≤ 2048) := by show _ ∧ _; rw [hN]; exact ⟨rfl, HN.out⟩
   obtain ⟨A, cap, cur, hv, hBA, hrA, hcs, hcur, hcp, hcm⟩ := owns_shape hrow (by have := HNN.out; omega)
   subst hv
   have hlen := hI.len
   have hg2 : w.heap.size ≤ g2 := by
    obtain ⟨e1, e2⟩ := hI.els.two (by have := HNN.out; omega)
    obtain ⟨g, c, e3, e4, _⟩ := hI.els.el 2 _ e1
    cases e3
    exact e4
   have hP := hI.els.pim (cap := cap) (n := N) (by omega) (by have := HNN.out; omega) hBA hrA hcs hcur hg2
   have G2 : wr.cell? ⟨w.heap.size, 2, none⟩ = some (.int .i64 (i : Int)) := cell_row hI.geo 2 _ rfl
   have hrm := rt_may (i := i) (by omega)
   have hde := rencodeDinode_used 2 2 128 ((2 + i / 4 : Nat) : Int) 0 0 0 0 0 hrm (by decide) wr
   rw [show ((2 + i / 4 : Nat) : Int) = 2 + (i : Int) / 4 by omega] at hde
   have HP : Hid (PIm w.heap.size wr A N g2 (blF j b i) ∧ Below w.heap.size w wr) := ⟨hP, hI.bel⟩
   clear hP hI hrow hlen hN hcur hrA hg2 hcs hcp hcm
   go_wp2_with fail
   refine Calls.mono hde ?_
   rintro e w5 ⟨x6, c6, rfl, hO6, hb5⟩
   have hP5 := HP.out.1.kept hb5
   have k2 := hP5.third
   have h2n : (2 : Int) < (N : Int) := by have := HNN.out; omega
   have hO6' : Own wr.heap.size w5 x6 32 c6 (rtD i) := by
    unfold rtD
    rw [show ((2 + i / 4 : Nat) : Int) = 2 + (i : Int) / 4 by omega]
    exact hO6
   have hcd := fun ty => rt_copy (c := c6) i hP5.two.1 (hO6'.bi (by decide) (rtD_byt i)) ty
   obtain ⟨W6, hW6⟩ : ∃ W6, w5.setRow g2 ((rtB i).map (Value.int .u8)).toArray = W6 := ⟨_, rfl⟩
   rw [hW6] at hcd
   have H6 : Hid (Rd2 W6 A N (fun x => if x = 2 then rtB i else blF j b i x) ∧ Below w.heap.size w W6 ∧ A < W6.heap.size) := by
    refine ⟨by rw [← hW6]; exact rt_read2 hP5 i, ?_, ?_⟩
    ·rw [← hW6]
     exact below_setRow (grew_trans HP.out.2 hb5) hP5.two.2.1 _
    ·rw [← hW6]; simpa using hP5.lt.1
   have hen := rEncode_ok (some ⟨W6.heap.size, 0, none⟩) 2 2 dd _ (dd_ei W6) (Nat.le_refl 2) (by omega) dd_small
   unfold P2 at hen
   rw [dd_err] at hen
   clear hde hO6 hO6' hb5 hP5 hW6 G2
   dsimp only
   go_wp2_with fail
   refine Calls.mono hen ?_
   rintro e w7 ⟨q, m, c7, rfl, hBI, hb7, hfr⟩
   obtain rfl : m = 128 := by have := hBI.len; rw [dd_len] at this; omega
   obtain ⟨x, xo, rfl, _⟩ := hBI.cells (by omega)
   have hx : W6.heap.size < x := by have := hfr x xo rfl; rw [size_alloc] at this; omega
   have hbA := grew_trans (grew_alloc W6 (.cells #[.int .i64 2, .string ⟨#[46]⟩, .int .i64 2, .string ⟨#[46, 46]⟩] 107)) hb7
   have hR7 := H6.out.1.kept hbA
   have hdN : 2 + i / 4 < N := by have := HNN.out; omega
   obtain ⟨y, yo, ym, yc, kc, _, _⟩ := hR7.2 (2 + i / 4) hdN
   have kf : w7.frozen? ⟨A, 2 + i / 4, none⟩ = false := by
    obtain ⟨⟨cs, h1, _⟩, _⟩ := hR7
    simp [World.frozen?, h1]
   have hd0 : (0 : Int) ≤ 2 + (i : Int) / 4 := by omega
   have hdn : 2 + (i : Int) / 4 < (N : Int) := by omega
   have hR8 := hR7.set (c := c7) hdN hBI (by have := H6.out.2.2; omega)
   have H8 : Hid (Rd (w7.setCell ⟨A, 2 + i / 4, none⟩ (.slice (some ⟨x, xo, none⟩) 128 c7)) A N (img j b i) ∧ Below w.heap.size w (w7.setCell ⟨A, 2 + i / 4, none⟩ (.slice (some ⟨x, xo, none⟩) 128 c7))) := by
    refine ⟨fun k hk => ?_, (grew_trans H6.out.2.1 hbA).setCell hBA _⟩
    obtain ⟨q, m, c, h1, h2⟩ := hR8 k hk
    refine ⟨q, m, c, h1, ?_⟩
    have e : img j b i k = if k = 2 + i / 4 then enB dd else if k = 2 then rtB i else blF j b i k := by
     unfold img rtL
     by_cases e1 : k = 2
     ·rw [if_pos e1, if_neg (by omega), if_pos e1]
     ·rw [if_neg e1, if_neg e1]
    rw [e]
    exact h2
   clear hen hb7 hfr hBI hbA hR7 hR8
   dsimp only
   go_wp2_with fail
   go_ret2
   refine ⟨A, cap, ?_, ?_, H8.out.2⟩
   ·rw [← HNN.out.1]; rfl
   ·rw [← HNN.out.1]; exact H8.out.1
end Go.Proofs.YthdlpeejmmobmaaGreat.Mk

namespace Go.Proofs.YthdlpeejmmobmaaGreat
open Go.RowKit Go.Maps Go.MuLone
set_option linter.unusedVariables false
set_option maxRecDepth 100000
def VHas (w : World) (v : Nat) (k : Int) : Prop := ∃ d, w.cell? ⟨v, 2, none⟩ = some (.pointer (some ⟨d, 0, none⟩)) ∧ w.cell? ⟨d, 0, none⟩ = some (.int .i64 k)
theorem VHas.kept {w w' : World} {v : Nat} {k : Int} (h : VHas w v k) (hb : Below w.heap.size w w') : VHas w' v k := by
 obtain ⟨d, h1, h2⟩ := h
 exact ⟨d, (hb.cell (p := ⟨v, 2, none⟩) (lt_of_cell h1)).trans h1, (hb.cell (p := ⟨d, 0, none⟩) (lt_of_cell h2)).trans h2⟩
theorem VHas.blocks {w : World} {v : Nat} {k : Int} (h : VHas w v k) : Calls Tryz.prog 13 #[.pointer (some ⟨v, 0, none⟩)] w fun e w' => e = .returned (.int .i64 k) ∧ w' = w := by
 obtain ⟨d, h1, h2⟩ := h
 exact vblocks_ok h1 h2
structure G3 (w : World) (b : Nat) (G B I : Int) : Prop where
 c0 : w.cell? ⟨b, 0, none⟩ = some (.int .i64 G)
 c1 : w.cell? ⟨b, 1, none⟩ = some (.int .i64 B)
 c2 : w.cell? ⟨b, 2, none⟩ = some (.int .i64 I)
theorem g3_of {w : World} {b : Nat} {G B I : Int} (h : w.heap[b]? = some (Mk.geomO G B I)) : G3 w b G B I := ⟨cell_of_row _ _ 0 _ _ _ h, cell_of_row _ _ 1 _ _ _ h, cell_of_row _ _ 2 _ _ _ h⟩
theorem G3.kept {w w' : World} {b : Nat} {G B I : Int} (h : G3 w b G B I) (hb : Below w.heap.size w w') : G3 w' b G B I :=
 ⟨(hb.cell (p := ⟨b, 0, none⟩) (lt_of_cell h.c0)).trans h.c0, (hb.cell (p := ⟨b, 1, none⟩) (lt_of_cell h.c1)).trans h.c1, (hb.cell (p := ⟨b, 2, none⟩) (lt_of_cell h.c2)).trans h.c2⟩
set_option maxHeartbeats 2000000 in
theorem refusal_fit {w : World} {v : Nat} {k G B I N : Int} (h : VHas w v k) (hk : ¬ k = 0) (hm : Mk.Gm.May G B I) (hN : G * B = N) (hlt : ¬ k < N) : Calls Tryz.prog 63 #[.pointer (some ⟨v, 0, none⟩), Mk.geomV G B I] w fun e w' => e = .returned (.int .i64 0) ∧ Below w.heap.size w w' := by
 have hb1 : Below w.heap.size w (w.alloc (Mk.geomO G B I)) := Mk.grew_alloc _ _
 have hg1 : (w.alloc (Mk.geomO G B I)).heap[w.heap.size]? = some (Mk.geomO G B I) := at_new rfl
 obtain ⟨W1, hW1⟩ : ∃ W1, w.alloc (Mk.geomO G B I) = W1 := ⟨_, rfl⟩
 rw [hW1] at hb1 hg1
 have hv1 := h.kept hb1
 have c1 := hv1.blocks
 have hkb : (k == 0) = false := by rw [beq_eq_false_iff_ne]; exact hk
 have hd : Below W1.heap.size W1 W1.drew := (Below.refl _ _).drew
 have hv2 := hv1.kept hd
 have g2 := (g3_of hg1).kept hd
 have q0 := g2.c0
 have q1 := g2.c1
 have q2 := g2.c2
 have hca := Mk.can_ok G B I W1.drew
 rw [Mk.Gm.can, if_pos hm] at hca
 have HB : Hid (Below w.heap.size w W1.drew) := hb1.drew
 have HN : Hid (G * B = N) := hN
 have HM : Hid (Mk.Gm.May G B I) := hm
 clear hm hN hb1 hd
 go_enter Tryz.func63, Tryz.ntmps63
 go_wp2_with (first | (go_at_call 13; refine same_at c1 ?_))
 go_region_with (first
  | (go_at_call 48; refine Mk.grew_at hca ?_; intro w2 hb2; have hv3 := hv2.kept hb2; have g3 := g2.kept hb2; have q0' := g3.c0; have q1' := g3.c1; have q2' := g3.c2; have hb3 := Mk.blocks_ok G B I w2; rw [Mk.Gm.num, if_pos HM.out, HN.out] at hb3; have cb := hv3.blocks)
  | (go_at_call 13; first | refine same_at cb ?_ | refine same_at cb' ?_)
  | (go_at_call 49; refine Mk.grew_at hb3 ?_; intro w4 hb4; have cb' := (hv3.kept hb4).blocks))
 all_goals go_wp2_with fail
 all_goals go_ret
 all_goals exact ⟨rfl, Mk.grew_trans (Mk.grew_trans HB.out hb2) hb4⟩
theorem mk_bi {w : World} {p : Option Addr} {n : Nat} {xs : List Int} (h : Mk.BI w p n xs) : BI w p n xs := ⟨h.len, h.big, h.byt, h.cells⟩
theorem bi_mk {w : World} {p : Option Addr} {n : Nat} {xs : List Int} (h : BI w p n xs) : Mk.BI w p n xs := ⟨h.len, h.big, h.byt, h.cells⟩
theorem Vol.has [Inhabited Past] {w : World} {v : Nat} {F : Nat → Prop} {N : Nat} {I : Nat → List Int} {l c : Nat} (h : Vol w v F N I l c) : VHas w v (N : Int) := by
 obtain ⟨B, A, T, hv, rfl, _, rfl, _⟩ := h.ex
 exact ⟨A.d, hv.c2, hv.cd.di.c0⟩
theorem stp_grown {D D' : Nat → Prop} {w w1 w2 : World} (h : Pt.Stp D D' w w1) (hb : Below w1.heap.size w1 w2) : Pt.Stp D D' w w2 := stp_below h hb
theorem stp_after {D D' : Nat → Prop} {w w1 w2 : World} (hb : Below w.heap.size w w1) (h : Pt.Stp D D' w1 w2) : Pt.Stp D D' w w2 := stp_trans (below_stp hb) h
structure Geo (G B I N : Nat) : Prop where
 may : Mk.Gm.May (G : Int) B I
 N : G * B = N
theorem Geo.fit {G B I N : Nat} (h : Geo G B I N) : (1 ≤ G ∧ G ≤ 8) ∧ (8 ≤ B ∧ B ≤ 256) ∧ (4 ≤ I ∧ I ≤ 64) ∧ I % 4 = 0 ∧ 3 + I / 4 ≤ B ∧ N ≤ 2048 := by
 have := h.may.all
 have hN := h.N
 have : G * B ≤ 8 * 256 := Nat.mul_le_mul (by omega) (by omega)
 omega
theorem Geo.hd {G B I N : Nat} (h : Geo G B I N) {n k : Nat} (hn : n < G) (hk : k < B) : n * B + k < N := by
 rw [← h.N]
 have : n * B ≤ (G - 1) * B := Nat.mul_le_mul_right _ (by omega)
 have : (G - 1) * B + B = G * B := by rw [Nat.sub_mul]; have : 1 * B ≤ G * B := Nat.mul_le_mul_right _ (by omega); omega
 omega
theorem Geo.inn {G B I N : Nat} (h : Geo G B I N) {n : Nat} (hn : n < G) : Mk.Gm.In (G : Int) B I n := ⟨h.may, by omega, by omega⟩
section
variable [Inhabited Past] {w w' : World} {v : Nat} {F : Nat → Prop} {N : Nat} {I : Nat → List Int} {l c G B Q : Nat}
theorem refusal_ok2 (h : Vol w v F N I l c) (hg : Geo G B Q N) : Calls Tryz.prog 63 #[.pointer (some ⟨v, 0, none⟩), Mk.geomV G B Q] w fun e w' => e = .returned (.int .i64 0) ∧ Below w.heap.size w w' := by
 have hN := h.N1
 exact refusal_fit h.has (by omega) hg.may (N := (N : Int)) (by have := hg.N; rw [← this]; simp) (by omega)
set_option maxHeartbeats 1000000 in
theorem near_ok (h : Vol w v F N I l c) (hg : Geo G B Q N) {n : Nat} (hn : n < G) : Calls Tryz.prog 66 #[.pointer (some ⟨v, 0, none⟩), Mk.geomV G B Q, .int .i64 (n : Int)] w fun e w' => e = .returned (.int .i64 0) ∧ Below w.heap.size w w' := by
 obtain ⟨W, hW⟩ : ∃ W, w.alloc (Mk.geomO G B Q) = W := ⟨_, rfl⟩
 have hb : Below w.heap.size w W := by rw [← hW]; exact Mk.grew_alloc _ _
 have hx : W.heap[w.heap.size]? = some (Mk.geomO G B Q) := by rw [← hW]; exact at_new rfl
 have c0 := (g3_of hx).c0
 have c1 := (g3_of hx).c1
 have c2 := (g3_of hx).c2
 have hr := refusal_ok2 (h.later hb) hg
 have hn1 : ¬ (n : Int) < 0 := by omega
 have hn2 : ¬ (G : Int) ≤ n := by omega
 clear hx
 go_enter Tryz.func66, Tryz.ntmps66
 go_wp2_with fail
 refine Mk.grew_at hr ?_
 intro w1 hb1
 have c0' := Mk.cell_kept c0 hb1
 dsimp only
 go_wp2_with fail
 go_ret
 exact ⟨rfl, hb.trans (hb1.mono hb.size)⟩
end
end Go.Proofs.YthdlpeejmmobmaaGreat

namespace Go.Proofs.YthdlpeejmmobmaaGreat.Mk.Al
open Go.RowKit
set_option maxRecDepth 100000
set_option linter.unusedVariables false
theorem group_back {N : Int} {ys : List Int} (hl : ys.length = 40) (h : GMay N) : gdE 128 (groupL N ys) = 0 ∧ gdN 128 (groupL N ys) = N ∧ gdY 128 (groupL N ys) = ys := by
 obtain ⟨n1, n2⟩ := id h
 have l0 : (splice (zers 128) 0 [104, 100]).length = 128 := by rw [splice_len _ _ _ (by rw [zers_len]; decide), zers_len]
 have l1 : (Num.putTo (splice (zers 128) 0 [104, 100]) 2 N 1).length = 128 := by rw [Num.putTo_length, l0]
 have l2 : (splice (Num.putTo (splice (zers 128) 0 [104, 100]) 2 N 1) 4 (ys.take 8)).length = 128 := by rw [splice_len _ _ _ (by rw [l1]; simp; omega), l1]
 have l3 : (groupL N ys).length = 128 := by unfold groupL; rw [splice_len _ _ _ (by rw [l2]; simp; omega), l2]
 have hget : ∀ i, (groupL N ys).getD i 0 = if i < 4 then (Num.putTo (splice (zers 128) 0 [104, 100]) 2 N 1).getD i 0 else if i < 44 then ys.getD (i - 4) 0 else (Num.putTo (splice (zers 128) 0 [104, 100]) 2 N 1).getD i 0 := by
  intro i
  unfold groupL
  rw [getD_splice _ _ _ (by rw [l2]; simp; omega), getD_splice _ _ _ (by rw [l1]; simp; omega), List.length_drop, List.length_take, hl]
  simp only [show min 8 40 = 8 from rfl]
  by_cases h1 : i < 4
  ·rw [if_pos (by omega), if_pos h1, if_pos h1]
  ·by_cases h2 : i < 12
   ·rw [if_pos h2, if_neg h1, if_pos (by omega), if_neg h1, if_pos (by omega), getD_take _ _ _ (by omega)]
   ·by_cases h3 : i < 44
    ·rw [if_neg h2, if_pos (by omega), if_neg h1, if_pos h3, getD_drop']
     congr 1
     omega
    ·rw [if_neg h2, if_neg (by omega), if_neg h1, if_neg (by omega), if_neg h1, if_neg h3]
 have hN : rN (groupL N ys) = N := by
  unfold rN
  have : Num.numD (groupL N ys) 2 1 = Num.numD (Num.putTo (splice (zers 128) 0 [104, 100]) 2 N 1) 2 1 := Num.numD_congr 1 2 fun i hi => by rw [hget, if_pos (by omega)]
  rw [this]
  exact Num.num_put _ _ _ _ (by omega) (by omega) (by omega)
 have hY : rY (groupL N ys) = ys := by
  unfold rY
  apply ext_getD
  ·simp; omega
  ·intro i hi
   have hi : i < 40 := by simp at hi; omega
   rw [getD_take _ _ _ hi, getD_drop', hget, if_neg (by omega), if_pos (by omega)]
   congr 1
   omega
 have ht : (groupL N ys).take 2 = [104, 100] := by
  have e : [104, 100] = (splice (zers 128) 0 [104, 100]).take 2 := by decide
  rw [e]
  apply ext_getD
  ·simp only [List.length_take, l3, l0]
  ·intro i hi
   have hi : i < 2 := by simp at hi; omega
   rw [getD_take _ _ _ hi, getD_take _ _ _ hi, hget, if_pos (by omega), Num.putTo_out _ _ _ _ _ (by omega)]
 have hE : gdE 128 (groupL N ys) = 0 := by
  unfold gdE
  rw [if_neg (by omega), if_neg (by rw [ht]; simp), hN, hY, if_pos ⟨h, rfl⟩]
 refine ⟨hE, ?_, ?_⟩
 ·unfold gdN; rw [if_pos hE, hN]
 ·unfold gdY; rw [if_pos hE, hY]
end Go.Proofs.YthdlpeejmmobmaaGreat.Mk.Al
namespace Go.Proofs.YthdlpeejmmobmaaGreat
open Go.RowKit Go.Maps
set_option maxRecDepth 100000
set_option linter.unusedVariables false
structure Hds (I : Nat → List Int) (G B : Nat) (H : Nat → List Int) : Prop where
 at_ : ∀ n, n < G → I (n * B + 1) = Mk.groupL (n : Int) (H n)
 len : ∀ n, n < G → (H n).length = 40
 byt : ∀ n, n < G → Mk.Num.Byt (H n)
theorem stp_low {D D' : Nat → Prop} {w w1 w2 : World} (h : Pt.Stp D D' w w1) (hb : Below w.heap.size w1 w2) : Pt.Stp D D' w w2 :=
 ⟨⟨hb.os.trans h.fr.os, hb.tape.trans h.fr.tape, hb.output.trans h.fr.output, Nat.le_trans h.fr.size hb.size, fun k hk hn => (hb.block k hk).trans (h.fr.block k hk hn)⟩, h.new⟩
section
variable [Inhabited Past] {w w' : World} {v : Nat} {F : Nat → Prop} {N : Nat} {I : Nat → List Int} {l c G B Q : Nat}
set_option maxHeartbeats 2000000 in
theorem header_ok (h : Vol w v F N I l c) (hg : Geo G B Q N) {n : Nat} (hn : n < G) {ys : List Int} (hI : I (n * B + 1) = Mk.groupL (n : Int) ys) (hl : ys.length = 40) (hc : c < 4611686018427387904) :
  Calls Tryz.prog 26 #[.pointer (some ⟨v, 0, none⟩), Mk.geomV G B Q, .int .i64 (n : Int)] w fun e w' => e = .returned (.tuple #[Mk.groupV n ys, .int .i64 0]) ∧ ∃ F', Vol w' v F' N I l (c + 1) ∧ Pt.Stp F F' w w' := by
 have hfit := hg.fit
 have hhd := hg.hd hn (show 1 < B by omega)
 have hback := Mk.Al.group_back (N := (n : Int)) hl ⟨by omega, by omega⟩
 obtain ⟨W, hW⟩ : ∃ W, (w.alloc (Mk.geomO G B Q)).alloc (Mk.groupO 0 (Mk.zers 40)) = W := ⟨_, rfl⟩
 have hb : Below w.heap.size w W := by rw [← hW]; exact ((Below.refl _ _).alloc (Nat.le_refl _) _).alloc (by simp) _
 have hx : W.heap[w.heap.size]? = some (Mk.geomO G B Q) := by rw [← hW]; exact at_old (at_new rfl)
 have hr : W.heap[w.heap.size + 1]? = some (Mk.groupO 0 (Mk.zers 40)) := by rw [← hW]; exact at_new (by simp)
 have c0 := (g3_of hx).c0
 have c1 := (g3_of hx).c1
 have c2 := (g3_of hx).c2
 have hv := h.later hb
 have h1 := near_ok hv hg hn
 have h2 := fun w => Mk.header_in (hg.inn hn) w
 have e2 : (n : Int) * B + 1 = ((n * B + 1 : Nat) : Int) := by simp
 rw [e2] at h2
 obtain ⟨x, hxe⟩ : ∃ x, n * B + 1 = x := ⟨_, rfl⟩
 rw [hxe] at h2 hI hhd
 have HW : Hid ((w.alloc (Mk.geomO G B Q)).alloc (Mk.groupO 0 (Mk.zers 40)) = W) := hW
 dsimp only [Mk.groupO] at hW
 rw [Mk.zero38] at hW
 have HF : Hid (Vol w v F N I l c) := h
 have hlt := h.lt
 clear h hxe e2
 go_enter Tryz.func26, Tryz.ntmps26
 go_wp2_with fail
 refine Mk.grew_at h1 ?_
 intro w1 hb1
 have c0 := Mk.cell_kept c0 hb1
 have c1 := Mk.cell_kept c1 hb1
 have c2 := Mk.cell_kept c2 hb1
 have hv1 := hv.later hb1
 dsimp only
 go_wp2_with fail
 refine Mk.grew_at (h2 _) ?_
 intro w2 hb2
 have hv2 := hv1.later hb2
 have h3 := vol_read hv2 x hhd hc
 dsimp only
 go_wp2_with fail
 refine Calls.mono h3 ?_
 rintro e w3 ⟨q, cap, F', rfl, hO, hq, hv3, hst⟩
 have hs := hv3.sect x
 have hroom := hO.room
 have hbi := hO.bi (by omega) hs.2
 have h4 := Mk.decodeGroup_ok (some ⟨q, 0, none⟩) 128 cap (I x) w3 (bi_mk hbi) hroom.1
 rw [hI, hback.1, hback.2.1, hback.2.2] at h4
 have HS : Hid (Vol w3 v F' N I l (c + 1) ∧ Pt.Stp F F' w2 w3 ∧ Below w.heap.size w w2) := ⟨hv3, hst, (hb.trans (hb1.mono hb.size)).trans (hb2.mono (hb.trans (hb1.mono hb.size)).size)⟩
 have hr2 : w2.heap[w.heap.size + 1]? = some (Mk.groupO 0 (Mk.zers 40)) := by
  have k1 := (hb1.block _ (Array.getElem?_eq_some_iff.1 hr).1).trans hr
  exact (hb2.block _ (Array.getElem?_eq_some_iff.1 k1).1).trans k1
 have hr3 : w3.heap[w.heap.size + 1]? = some (Mk.groupO 0 (Mk.zers 40)) := by
  refine (hst.fr.block _ (Array.getElem?_eq_some_iff.1 hr2).1 (fun hf => ?_)).trans hr2
  have := hlt _ hf
  omega
 clear hr hs hroom hbi h1 h2 h3 hv hv1 hv2 hv3 hst hb hb1 hb2 hO hI hback hx
 dsimp only
 go_wp2_with fail
 refine Mk.grew_at h4 ?_
 intro w4 hb4
 have hr4 := (hb4.block _ (Array.getElem?_eq_some_iff.1 hr3).1).trans hr3
 obtain ⟨W5, hW5⟩ : ∃ W5, w4.alloc (Mk.groupO 0 (Mk.zers 40)) = W5 := ⟨_, rfl⟩
 have hb5 : Below w4.heap.size w4 W5 := by rw [← hW5]; exact Mk.grew_alloc _ _
 have hn5 : W5.heap[w4.heap.size]? = some (Mk.groupO 0 (Mk.zers 40)) := by rw [← hW5]; exact at_new rfl
 have hr5 := (hb5.block _ (Array.getElem?_eq_some_iff.1 hr4).1).trans hr4
 obtain ⟨W6, hW6⟩ : ∃ W6, W5.setRow w4.heap.size (Mk.groupA n ys) = W6 := ⟨_, rfl⟩
 have hn6 : W6.heap[w4.heap.size]? = some (Mk.groupO n ys) := by rw [← hW6]; exact setRow_heap _ _ _ _ _ _ hn5
 have hne : w.heap.size + 1 ≠ w4.heap.size := by have := (Array.getElem?_eq_some_iff.1 hr4).1; omega
 have hr6 : W6.heap[w.heap.size + 1]? = some (Mk.groupO 0 (Mk.zers 40)) := by rw [← hW6, setRow_other _ _ _ _ hne]; exact hr5
 have hb6 : Below w3.heap.size w3 W6 := by
  have e := hb4.trans (hb5.mono hb4.size)
  rw [← hW6]
  exact below_setRow e hb4.size _
 have q0 : W6.cell? ⟨w4.heap.size, 0, none⟩ = some (.int .i64 (n : Int)) := (cell_of_row _ _ 0 _ _ _ hn6).trans (Mk.groupA_zero _ _)
 have hb7 : Below w3.heap.size w3 (W6.setRow (w.heap.size + 1) (Mk.groupA n ys)) ∨ True := .inr trivial
 have HS6 : Hid (Below w3.heap.size w3 W6 ∧ Below w4.heap.size w4 W5 ∧ w.heap.size + 1 ≠ w4.heap.size) := ⟨hb6, hb5, hne⟩
 have HW5 : Hid (w4.alloc (Mk.groupO 0 (Mk.zers 40)) = W5) := hW5
 dsimp only [Mk.groupO] at hW5
 rw [Mk.zero38] at hW5
 have hsz := Mk.groupA_size (n : Int) ys hl
 have hsz0 := Mk.groupA_size 0 (Mk.zers 40) (Mk.zers_len 40)
 clear hb5 hb6 hb7 hr4 hr5 hne
 dsimp only
 go_wp2_with (first
  | (refine wpList_store_row rfl 64 _ _ rfl w4.heap.size (Mk.groupA n ys) rfl rfl 64 _ hn5 (Mk.info38 n ys hl) (hsz0.trans hsz.symm) (Mk.group_one n ys) ?_; rw [hW6])
  | (refine wpList_load_row rfl 64 _ rfl w4.heap.size rfl 64 _ (0, 0) _ hn6 Tryz.underlying64 rfl (Mk.info38 n ys hl) ?_)
  | (refine wpList_store_row rfl 64 _ _ rfl (w.heap.size + 1) (Mk.groupA n ys) rfl rfl 64 _ hr6 (Mk.info38 n ys hl) (hsz0.trans hsz.symm) (Mk.group_one n ys) ?_))
 refine bodyPost_ret (v := .tuple #[Mk.groupV n ys, .int .i64 0]) (Mk.results_cell_tmp_row (p := 6) (u := 7) (ty := 64) Tryz.results26 _ _ (w.heap.size + 1) 64 _ (0, 0) _ rfl (setRow_heap _ _ _ _ _ _ hr6) Tryz.underlying64 rfl (Mk.info38 n ys hl)) rfl ?_
 obtain ⟨hv3, hst, hbw⟩ := HS.out
 obtain ⟨hb6, _, _⟩ := HS6.out
 have hs2 := (Array.getElem?_eq_some_iff.1 hr2).1
 have hs3 : w2.heap.size ≤ w3.heap.size := hst.fr.size
 have hlow : Below w.heap.size w3 (W6.setRow (w.heap.size + 1) (Mk.groupA n ys)) := below_setRow (hb6.mono (by omega)) (by omega) _
 refine ⟨rfl, F', hv3.else hlow.size (fun k hk => ?_), stp_low (stp_after hbw hst) hlow⟩
 have hk1 : k ≠ w.heap.size + 1 := by
  rcases hst.new k hk with h1 | h1
  ·have := hlt k h1; omega
  ·omega
 rw [setRow_other _ _ _ _ hk1]
 exact hb6.block k (hv3.lt k hk)
end
end Go.Proofs.YthdlpeejmmobmaaGreat
