/- KM8 F4 L1 -/
import Derived.Test.YtomkhipdcjnkhaaGreatFb15
import Derived.Test.YtomkhipdcjnkhaaGreatFb07

/- The document's mkfs: Make; images held against each other. -/
namespace Go.Proofs.YtomkhipdcjnkhaaGreat.Mk
open Go.RowKit
set_option maxRecDepth 100000
set_option linter.unusedVariables false
set_option maxRecDepth 100000

set_option maxHeartbeats 400000 in
theorem bequal_same (p q : Option Addr) (n c m d : Nat) (xs : List Int) (w : World) (h : BI w p n xs) (k : BI w q m xs) :
    Calls Tryz.prog 224 #[.slice p n c, .slice q m d] w fun e w' => e = .returned (.bool true) ∧ w' = w := by
  have h1 := h.conv c
  have h2 := k.conv d
  go_enter Tryz.func224, Tryz.ntmps224
  go_wp2
  go_ret
  refine ⟨?_, rfl⟩
  simp
/-- Two lists of blocks as one. -/
theorem Els.join {B B' : Nat} {w0 w : World} {vs vs' : List Value} {g2 g2' : Nat} {F F' G : Nat → List Int} (h : Els B w0 vs g2 F) (h' : Els B' w vs' g2' F') (hb : Below w0.heap.size w0 w) (hB' : B' = w0.heap.size) (hBB : B ≤ B')
    (hl : vs = [] ∨ 2 < vs.length) (hF : ∀ k, k < vs.length → G k = F k) (hF' : ∀ k, k < vs'.length → G (vs.length + k) = F' k) : Els B w (vs ++ vs') (if vs = [] then g2' else g2) G := by
  have hk := h.kept (w' := w) (fun k hk _ => hb.block k hk)
  have lt : ∀ g, (∃ cs, w0.heap[g]? = some (Obj.cells cs 5 (0, 0))) → g < w0.heap.size := fun g ⟨cs, h1⟩ => (Array.getElem?_eq_some_iff.1 h1).1
  refine ⟨fun k v hv => ?_, fun h3 => ?_⟩
  · by_cases hkl : k < vs.length
    · rw [List.getElem?_append_left hkl] at hv
      obtain ⟨g, c, e, h1, h2, h5, h4⟩ := hk.el k v hv
      have hne : vs ≠ [] := fun e => by rw [e] at hkl; simp at hkl
      rw [if_neg hne, hF k hkl]
      exact ⟨g, c, e, h1, h2, h5, h4⟩
    · rw [List.getElem?_append_right (by omega)] at hv
      have hk2 := (List.getElem?_eq_some_iff.1 hv).1
      obtain ⟨g, c, e, h1, h2, h5, h4⟩ := h'.el (k - vs.length) v hv
      have hG := hF' (k - vs.length) hk2
      rw [show vs.length + (k - vs.length) = k by omega] at hG
      rw [hG]
      refine ⟨g, c, e, by omega, h2, h5, fun hn2 => ?_⟩
      rcases hl with hl | hl
      · rw [if_pos hl]
        subst hl
        exact h4 (by simpa using hn2)
      · have hne : vs ≠ [] := fun e => by rw [e] at hl; simp at hl
        rw [if_neg hne]
        have := lt g2 ⟨aZ, (h.two hl).2⟩
        omega
  · rcases hl with hl | hl
    · subst hl
      rw [if_pos rfl]
      exact h'.two (by simpa using h3)
    · have hne : vs ≠ [] := fun e => by rw [e] at hl; simp at hl
      rw [if_neg hne, List.getElem?_append_left (by omega)]
      exact hk.two hl
theorem Els.one {B : Nat} {w : World} {vs : List Value} {g2 : Nat} {F : Nat → List Int} (h : Els B w vs g2 F) : ∀ u ∈ vs, u.oneCell' = true := by
  intro u hu
  obtain ⟨k, hk, e⟩ := List.mem_iff_getElem.1 hu
  obtain ⟨g, c, e', _⟩ := h.el k u (by rw [List.getElem?_eq_getElem hk, e])
  rw [e']
  rfl
theorem Els.pim {B : Nat} {w : World} {vs : List Value} {g2 n A cap : Nat} {cur : Array Value} {F : Nat → List Int} (h : Els B w vs g2 F) (hn : vs.length = n) (h3 : 2 < n) (hA : B ≤ A) (hr : w.heap[A]? = some (.cells cur 38 (0, 0))) (hs : n ≤ cur.size) (hc : ∀ (k : Nat) (u : Value), vs[k]? = some u → cur[k]? = some u) (hg : B ≤ g2) : PIm B w A n g2 F := by
  have nA : ∀ g, (∃ cs, w.heap[g]? = some (Obj.cells cs 5 (0, 0))) → g ≠ A := fun g ⟨cs, h1⟩ e => by
    rw [e, hr] at h1
    simp at h1
  obtain ⟨e1, e2⟩ := h.two (by omega)
  refine ⟨hA, ⟨cur, hr, hs, fun k hk => ?_, hc 2 _ e1⟩, e2, hg, nA g2 ⟨aZ, e2⟩⟩
  have hv := List.getElem?_eq_getElem (l := vs) (i := k) (by omega)
  obtain ⟨g, c, e, h1, h2, h5, h4⟩ := h.el k _ hv
  exact ⟨g, 0, c, by rw [hc k _ hv, e], h1, nA g h2, h4, h5⟩
/-- Blocks that may be read, and one of them put anew. -/
def Rd2 (w : World) (A n : Nat) (L : Nat → List Int) : Prop := (∃ cs, w.heap[A]? = some (Obj.cells cs 38 (0, 0)) ∧ n ≤ cs.size) ∧ ∀ k, k < n → ∃ g o m c, w.cell? ⟨A, k, none⟩ = some (.slice (some ⟨g, o, none⟩) m c) ∧ BI w (some ⟨g, o, none⟩) m (L k) ∧ g ≠ A
theorem Rd2.kept {w w' : World} {A n : Nat} {L : Nat → List Int} (h : Rd2 w A n L) (hb : Below w.heap.size w w') : Rd2 w' A n L := by
  obtain ⟨⟨cs, h1, h2⟩, h3⟩ := h
  refine ⟨⟨cs, (hb.block A (Array.getElem?_eq_some_iff.1 h1).1).trans h1, h2⟩, fun k hk => ?_⟩
  obtain ⟨g, o, m, c, e1, e2, e3⟩ := h3 k hk
  exact ⟨g, o, m, c, cell_kept e1 hb, e2.kept hb, e3⟩
theorem Rd2.rd {w : World} {A n : Nat} {L : Nat → List Int} (h : Rd2 w A n L) : Rd w A n L := fun k hk => by
  obtain ⟨g, o, m, c, e1, e2, e3⟩ := h.2 k hk
  exact ⟨_, m, c, e1, e2⟩
theorem Rd2.set {w : World} {A n : Nat} {L : Nat → List Int} (h : Rd2 w A n L) {d : Nat} (hd : d < n) {g o m c : Nat} {xs : List Int} (hb : BI w (some ⟨g, o, none⟩) m xs) (hg : g ≠ A) : Rd (w.setCell ⟨A, d, none⟩ (.slice (some ⟨g, o, none⟩) m c)) A n (fun x => if x = d then xs else L x) := by
  obtain ⟨⟨cs, h1, h2⟩, h3⟩ := h
  have so : ∀ b, b ≠ A → (w.setCell ⟨A, d, none⟩ (.slice (some ⟨g, o, none⟩) m c)).heap[b]? = w.heap[b]? := fun b hb => Below.heap_setCell _ _ _ _ hb
  have hr := heap_setCell_same w A d cs 38 (.slice (some ⟨g, o, none⟩) m c) h1
  intro k hk
  dsimp only
  by_cases hkd : k = d
  · subst hkd
    rw [if_pos rfl]
    exact ⟨_, m, c, cell_row hr k _ (by rw [Array.getElem?_setIfInBounds_self_of_lt (by omega)]), bi_same hb (fun b o e _ => by cases e; exact so _ hg)⟩
  · rw [if_neg hkd]
    obtain ⟨g', o', m', c', e1, e2, e3⟩ := h3 k hk
    refine ⟨_, m', c', cell_row hr k _ ?_, bi_same e2 (fun b o e _ => by cases e; exact so _ e3)⟩
    rw [Array.getElem?_setIfInBounds_ne (by omega)]
    have e4 := e1
    simp only [World.cell?, h1] at e4
    exact e4
theorem rt_read2 {B : Nat} {w : World} {A n g2 : Nat} {L : Nat → List Int} (h : PIm B w A n g2 L) (i : Nat) : Rd2 (w.setRow g2 ((rtB i).map (Value.int .u8)).toArray) A n (fun x => if x = 2 then rtB i else L x) := by
  obtain ⟨cs, h1, hn, h3, h4⟩ := h.row
  have so : ∀ b, b ≠ g2 → (w.setRow g2 ((rtB i).map (Value.int .u8)).toArray).heap[b]? = w.heap[b]? := fun b hb => setRow_other _ _ _ _ hb
  have hr : (w.setRow g2 ((rtB i).map (Value.int .u8)).toArray).heap[A]? = some (.cells cs 38 (0, 0)) := (so A (fun e => h.two.2.2 e.symm)).trans h1
  refine ⟨⟨cs, hr, hn⟩, fun k hk => ?_⟩
  dsimp only
  by_cases h2 : k = 2
  · subst h2
    refine ⟨g2, 0, 128, 128, cell_row hr 2 _ h4, ?_, h.two.2.2⟩
    rw [if_pos rfl]
    exact (own_of_row (B := 0) (Nat.zero_le _) (by decide) (rtB_len i) (setRow_heap _ _ _ _ 5 _ h.two.1)).bi (by decide) (rtB_byt i)
  · obtain ⟨g, o, c, e1, e2, e3, e4, e5⟩ := h3 k hk
    refine ⟨g, o, 128, c, cell_row hr k _ e1, ?_, e3⟩
    rw [if_neg h2]
    exact bi_same e5 (fun b o e _ => by cases e; exact so _ (e4 h2))

theorem blF_gr {g b i j r : Nat} (hr : r < b) : blF g b i (j * b + r) = grF g b i j r := by
  have e1 : (j * b + r) / b = j := by rw [Nat.add_comm, Nat.add_mul_div_right _ _ (by omega), Nat.div_eq_of_lt hr]; omega
  have e2 : (j * b + r) % b = r := by rw [Nat.add_comm, Nat.add_mul_mod_self_right, Nat.mod_eq_of_lt hr]
  unfold blF grF
  rw [e1, e2]
theorem owns_ty {w : World} {B n : Nat} {v : Value} {vs : List Value} (h : w.ownsRow B 38 1 v n vs) {k : Nat} (hk : v.ownBlock = some k) : (∃ cs, w.heap[k]? = some (Obj.cells cs 38 (0, 0))) ∧ B ≤ k := by
  rcases h.2 with ⟨e, e0⟩ | ⟨A, cap, cur, e, hB, hg, _⟩
  · rw [e] at hk; cases hk
  · rw [e] at hk
    cases hk
    exact ⟨⟨cur, hg⟩, hB⟩
theorem owns_kept {w w' : World} {B n : Nat} {v : Value} {vs : List Value} (h : w.ownsRow B 38 1 v n vs) (hb : Below w.heap.size w w') : w'.ownsRow B 38 1 v n vs := by
  refine ⟨h.1, ?_⟩
  rcases h.2 with h' | ⟨A, cap, cur, e, hB, hg, rest⟩
  · exact .inl h'
  · exact .inr ⟨A, cap, cur, e, hB, (hb.block _ (Array.getElem?_eq_some_iff.1 hg).1).trans hg, rest⟩
/-- What the document's Make knows while groups are appended. -/
structure MkI (w wr : World) (g b i j : Nat) (v : Value) (vs : List Value) (g2 : Nat) : Prop where
  len : vs.length = j * b
  row : wr.ownsRow w.heap.size 38 1 v vs.length vs
  els : Els w.heap.size wr vs g2 (blF g b i)
  geo : wr.heap[w.heap.size]? = some (geomO g b i)
  bel : Below w.heap.size w wr
/-- What the document's Make leaves. -/
def MkP (w : World) (g b i : Nat) (e : Ending) (w' : World) : Prop := ∃ A cap, e = .returned (.tuple #[.slice (some ⟨A, 0, none⟩) (g * b) cap, .int .i64 0]) ∧ Rd w' A (g * b) (img g b i) ∧ Below w.heap.size w w'

set_option maxHeartbeats 4000000 in
theorem rmake_ok (g b i : Nat) (hmay : Gm.May (g : Int) (b : Int) (i : Int)) (w : World) :
    Calls Tryz.prog 56 #[geomV g b i] w fun e w' => MkP w g b i e w' := by
  have hm := hmay.all
  have hbn : 1 * b ≤ g * b := Nat.mul_le_mul_right b (by omega)
  have hb2 : g * b ≤ 8 * 256 := Nat.mul_le_mul (by omega) (by omega)
  obtain ⟨W1, hW1⟩ : ∃ W1, w.alloc (geomO g b i) = W1 := ⟨_, rfl⟩
  have hb1 : Below w.heap.size w W1 := by rw [← hW1]; exact grew_alloc _ _
  have hg1 : W1.heap[w.heap.size]? = some (geomO g b i) := by rw [← hW1]; exact at_new rfl
  have hca := rcan_may hmay W1
  have HN : Hid (b ≤ g * b ∧ g * b ≤ 2048) := by show _ ∧ _; omega
  clear hbn hb2
  obtain ⟨i6, hi6, hz0, hz1, hz2⟩ := info_partsS info36S
  go_enter Tryz.func56, Tryz.ntmps56
  go_wp2_with (first
    | (refine wpList_load_row rfl 34 (.tmp 1) rfl w.heap.size rfl 34 _ (0, 0) _ hg1 Tryz.underlying34 rfl info23 ?_))
  refine grew_at hca ?_
  intro w2 hbb2
  have hg2 := (hbb2.block _ (Array.getElem?_eq_some_iff.1 hg1).1).trans hg1
  have hB2 := grew_trans hb1 hbb2
  have G0 : w2.cell? ⟨w.heap.size, 0, none⟩ = some (.int .i64 (g : Int)) := cell_row hg2 0 _ rfl
  have HI : Hid (MkI w w2 g b i 0 (.slice none 0 0) [] 0) := ⟨by simp, ⟨rfl, .inl ⟨rfl, rfl⟩⟩, ⟨fun k v hv => by simp at hv, fun h => by simp at h⟩, hg2, hB2⟩
  clear hca hg1 hb1 hbb2 hW1 hg2 hB2
  dsimp only
  go_wp2_with fail
  go_loopw [16, 4] (fun iv v wr => ∃ (j : Nat) (vs : List Value) (g2 : Nat), j ≤ g ∧ iv = .int .i64 (j : Int) ∧ MkI w wr g b i j v vs g2) (fun iv _ _ => g - (intOf iv).toNat)
  case atStart => exact ⟨0, _, _, by omega, rfl, HI.out⟩
  case round =>
    clear HI G0
    obtain ⟨j, vs, g2, hj, rfl, hI⟩ := hrel
    by_cases hlt : j < g
    · have hjI : (j : Int) < (g : Int) := by omega
      have hgr := rgrp_ok g b i j ⟨hmay, by omega, hjI⟩ wr
      have hgeo := hI.geo
      have HJ : Hid (MkI w wr g b i j u4 vs g2) := hI
      clear hI
      go_wp2_with (first
        | (refine wpList_load_row rfl 34 (.tmp 1) rfl w.heap.size rfl 34 _ (0, 0) _ hgeo Tryz.underlying34 rfl info23 ?_))
      refine Calls.mono hgr ?_
      rintro e w3 ⟨v', vs', g2', rfl, hvl, hrow', hels', hb3⟩
      obtain ⟨A', cap', cur', hv', hBA', hrA', hcs', hcur', hcp', hcm'⟩ := owns_shape hrow' (by omega)
      subst hv'
      have hrow3 := owns_kept HJ.out.row hb3
      have news : ∀ (k : Nat) (u : Value), vs'[k]? = some u → w3.cell? ((⟨A', 0, none⟩ : Addr).add k) = some u := fun k u hu => by
        rw [Addr.add_mid, Nat.zero_add]
        exact cell_row hrA' k u (hcur' k u hu)
      have hone := hels'.one
      have hlen := HJ.out.len
      have hjb : (j + 1) * b ≤ g * b := Nat.mul_le_mul_right b (by omega)
      have HLL : Hid (vs.length + b ≤ 2048 ∧ vs.length + b = (j + 1) * b ∧ w.heap.size ≤ w3.heap.size) := by
        show _ ∧ _
        have h1 := HN.out
        have h2 := HJ.out.bel.size
        have h3 := hb3.size
        rw [hlen, Nat.add_mul] at *
        refine ⟨?_, ?_, ?_⟩ <;> omega
      clear hjb hlen
      dsimp only
      go_wp2_with (at_builtin; refine wpList_append_own_at _ rfl _ _ 42 rfl w.heap.size 38 i6 (.slice none 0 0) 1 24 Tryz.underlying42 hi6 hz0 hz1 hz2 rfl (by decide) _ _ _ rfl hrow3 ⟨A', 0, none⟩ b cap' vs' rfl ?c2 news hone ?c4 ?c5 HLL.out.2.2 ?_; (case c2 => simp [hvl]); (case c4 => have := HLL.out; unfold maxLen; omega); (case c5 => have := HLL.out; omega); intro v3 w4 ho4 hg4 hx1 hx2)
      have hg4' : w3.grownBy w4 u4.ownBlock := hg4
      have ho4' : w4.ownsRow w.heap.size 38 1 v3 (vs.length + b) (vs ++ vs') := ho4
      have hJ := HJ.out
      have nA : ∀ k, u4.ownBlock = some k → (∃ cs, w3.heap[k]? = some (Obj.cells cs 38 (0, 0))) ∧ w.heap.size ≤ k := fun k hk => owns_ty hrow3 hk
      have keep : ∀ k t, t ≠ 38 → k < w3.heap.size → (∃ cs, w3.heap[k]? = some (Obj.cells cs t (0, 0))) → w4.heap[k]? = w3.heap[k]? := fun k t ht hk ⟨cs, h1⟩ => hg4'.block k hk (fun e => by
        obtain ⟨⟨cs', h2⟩, _⟩ := nA k e.symm
        rw [h1] at h2
        simp at h2
        exact ht h2.2)
      have hgeo3 := (hb3.block _ (Array.getElem?_eq_some_iff.1 hJ.geo).1).trans hJ.geo
      refine ⟨⟨j + 1, vs ++ vs', (if vs = [] then g2' else g2), by omega, by go_num, ⟨?_, ?_, ?_, ?_, ?_⟩⟩, by simp [intOf]; omega⟩
      · rw [List.length_append, hvl]; exact HLL.out.2.1
      · rw [List.length_append, hvl]; exact ho4'
      · refine (hJ.els.join (G := blF g b i) hels' hb3 rfl hJ.bel.size ?_ (fun k hk => rfl) (fun k hk => ?_)).kept (fun k hk ht => keep k 5 (by decide) hk ht)
        · rcases Nat.eq_zero_or_pos j with h0 | h0
          · left
            have := hJ.len
            rw [h0, Nat.zero_mul] at this
            exact List.length_eq_zero_iff.1 this
          · right
            have h1 : 1 * b ≤ j * b := Nat.mul_le_mul_right b h0
            rw [hJ.len]
            omega
        · rw [hJ.len]
          exact blF_gr (by omega)
      · exact (keep w.heap.size 34 (by decide) (Array.getElem?_eq_some_iff.1 hgeo3).1 ⟨_, hgeo3⟩).trans hgeo3
      · exact (grew_trans hJ.bel hb3).grown hg4' HLL.out.2.2 (fun k hk => (nA k hk).2)
    · obtain rfl : j = g := by omega
      have hjI : ¬ (j : Int) < (j : Int) := by omega
      obtain ⟨N, hN⟩ : ∃ N, N = j * b := ⟨_, rfl⟩
      have hrow := hI.row
      rw [hI.len, ← hN] at hrow
      have HNN : Hid (N = j * b ∧ b ≤ N ∧ N ≤ 2048) := by show _ ∧ _; rw [hN]; exact ⟨rfl, HN.out⟩
      obtain ⟨A, cap, cur, hv, hBA, hrA, hcs, hcur, hcp, hcm⟩ := owns_shape hrow (by have := HNN.out; omega)
      subst hv
      have hlen := hI.len
      have hg2 : w.heap.size ≤ g2 := by
        obtain ⟨e1, e2⟩ := hI.els.two (by have := HNN.out; omega)
        obtain ⟨g, c, e3, e4, _⟩ := hI.els.el 2 _ e1
        cases e3
        exact e4
      have hP := hI.els.pim (cap := cap) (n := N) (by omega) (by have := HNN.out; omega) hBA hrA hcs hcur hg2
      have G2 : wr.cell? ⟨w.heap.size, 2, none⟩ = some (.int .i64 (i : Int)) := cell_row hI.geo 2 _ rfl
      have hrm := rt_may (i := i) (by omega)
      have hde := rencodeDinode_used 2 2 128 ((2 + i / 4 : Nat) : Int) 0 0 0 0 0 hrm (by decide) wr
      rw [show ((2 + i / 4 : Nat) : Int) = 2 + (i : Int) / 4 by omega] at hde
      have HP : Hid (PIm w.heap.size wr A N g2 (blF j b i) ∧ Below w.heap.size w wr) := ⟨hP, hI.bel⟩
      clear hP hI hrow hlen hN hcur hrA hg2 hcs hcp hcm
      go_wp2_with fail
      refine Calls.mono hde ?_
      rintro e w5 ⟨x6, c6, rfl, hO6, hb5⟩
      have hP5 := HP.out.1.kept hb5
      have k2 := hP5.third
      have h2n : (2 : Int) < (N : Int) := by have := HNN.out; omega
      have hO6' : Own wr.heap.size w5 x6 32 c6 (rtD i) := by
        unfold rtD
        rw [show ((2 + i / 4 : Nat) : Int) = 2 + (i : Int) / 4 by omega]
        exact hO6
      have hcd := fun ty => rt_copy (c := c6) i hP5.two.1 (hO6'.bi (by decide) (rtD_byt i)) ty
      obtain ⟨W6, hW6⟩ : ∃ W6, w5.setRow g2 ((rtB i).map (Value.int .u8)).toArray = W6 := ⟨_, rfl⟩
      rw [hW6] at hcd
      have H6 : Hid (Rd2 W6 A N (fun x => if x = 2 then rtB i else blF j b i x) ∧ Below w.heap.size w W6 ∧ A < W6.heap.size) := by
        refine ⟨by rw [← hW6]; exact rt_read2 hP5 i, ?_, ?_⟩
        · rw [← hW6]
          exact below_setRow (grew_trans HP.out.2 hb5) hP5.two.2.1 _
        · rw [← hW6]; simpa using hP5.lt.1
      have hen := rEncode_ok (some ⟨W6.heap.size, 0, none⟩) 2 2 dd _ (dd_ei W6) (Nat.le_refl 2) (by omega) dd_small
      unfold P2 at hen
      rw [dd_err] at hen
      clear hde hO6 hO6' hb5 hP5 hW6 G2
      dsimp only
      go_wp2_with fail
      refine Calls.mono hen ?_
      rintro e w7 ⟨q, m, c7, rfl, hBI, hb7, hfr⟩
      obtain rfl : m = 128 := by have := hBI.len; rw [dd_len] at this; omega
      obtain ⟨x, xo, rfl, _⟩ := hBI.cells (by omega)
      have hx : W6.heap.size < x := by have := hfr x xo rfl; rw [size_alloc] at this; omega
      have hbA := grew_trans (grew_alloc W6 (.cells #[.int .i64 2, .string ⟨#[46]⟩, .int .i64 2, .string ⟨#[46, 46]⟩] 93)) hb7
      have hR7 := H6.out.1.kept hbA
      have hdN : 2 + i / 4 < N := by have := HNN.out; omega
      obtain ⟨y, yo, ym, yc, kc, _, _⟩ := hR7.2 (2 + i / 4) hdN
      have kf : w7.frozen? ⟨A, 2 + i / 4, none⟩ = false := by
        obtain ⟨⟨cs, h1, _⟩, _⟩ := hR7
        simp [World.frozen?, h1]
      have hd0 : (0 : Int) ≤ 2 + (i : Int) / 4 := by omega
      have hdn : 2 + (i : Int) / 4 < (N : Int) := by omega
      have hR8 := hR7.set (c := c7) hdN hBI (by have := H6.out.2.2; omega)
      have H8 : Hid (Rd (w7.setCell ⟨A, 2 + i / 4, none⟩ (.slice (some ⟨x, xo, none⟩) 128 c7)) A N (img j b i) ∧ Below w.heap.size w (w7.setCell ⟨A, 2 + i / 4, none⟩ (.slice (some ⟨x, xo, none⟩) 128 c7))) := by
        refine ⟨fun k hk => ?_, (grew_trans H6.out.2.1 hbA).setCell hBA _⟩
        obtain ⟨q, m, c, h1, h2⟩ := hR8 k hk
        refine ⟨q, m, c, h1, ?_⟩
        have e : img j b i k = if k = 2 + i / 4 then enB dd else if k = 2 then rtB i else blF j b i k := by
          unfold img rtL
          by_cases e1 : k = 2
          · rw [if_pos e1, if_neg (by omega), if_pos e1]
          · rw [if_neg e1, if_neg e1]
        rw [e]
        exact h2
      clear hen hb7 hfr hBI hbA hR7 hR8
      dsimp only
      go_wp2_with fail
      go_ret2
      refine ⟨A, cap, ?_, ?_, H8.out.2⟩
      · rw [← HNN.out.1]; rfl
      · rw [← HNN.out.1]; exact H8.out.1
end Go.Proofs.YtomkhipdcjnkhaaGreat.Mk

/- bollardplain.Fresh: a pair of volumes over a new image of the smallest geometry. -/
namespace Go.Proofs.YtomkhipdcjnkhaaGreat
open Go.RowKit Go.Maps Go.MuLone
set_option linter.unusedVariables false
set_option maxRecDepth 100000

theorem mk_bi {w : World} {p : Option Addr} {n : Nat} {xs : List Int} (h : Mk.BI w p n xs) : BI w p n xs := ⟨h.len, h.big, h.byt, h.cells⟩

theorem rd_ib {w : World} {A n : Nat} {L : Nat → List Int} (h : Mk.Rd w A n L) (hn : n ≤ 2048) : IB w (some ⟨A, 0, none⟩) n (imgL L n) := by
  refine ⟨by simp [imgL], by omega, fun _ => ⟨A, 0, rfl, fun i x hx => ?_⟩⟩
  have hi : i < n := by have := (List.getElem?_eq_some_iff.1 hx).1; simpa [imgL] using this
  have ex : x = L i := by simpa [imgL, hi] using hx.symm
  subst ex
  obtain ⟨q, m, c, h1, h2⟩ := h i hi
  exact ⟨q, m, c, by rw [Nat.zero_add]; exact h1, mk_bi h2⟩

theorem img_len (k : Nat) : (Mk.img 1 8 4 k).length = 128 := by
  unfold Mk.img Mk.rtL
  by_cases h1 : k = 2
  · rw [if_pos h1, Mk.rtB_len]
  rw [if_neg h1]
  by_cases h2 : k = 2 + 4 / 4
  · rw [if_pos h2, Mk.dd_len]
  rw [if_neg h2]
  unfold Mk.blF
  split
  · exact Mk.groupL_len _ _ (Mk.hdY_len _ _)
  · split
    · exact Mk.superS_len _ _ _ _
    · exact Mk.zers_len 128

set_option maxHeartbeats 1000000 in
theorem rmake_no (G B I : Int) (hmay : ¬ Mk.Gm.May G B I) (w : World) : Calls Tryz.prog 56 #[Mk.geomV G B I] w fun e w' => e = .returned (.tuple #[.slice none 0 0, .int .i64 170]) ∧ Below w.heap.size w w' := by
  obtain ⟨W1, hW1⟩ : ∃ W1, w.alloc (Mk.geomO G B I) = W1 := ⟨_, rfl⟩
  have hb1 : Below w.heap.size w W1 := by rw [← hW1]; exact Mk.grew_alloc _ _
  have hg1 : W1.heap[w.heap.size]? = some (Mk.geomO G B I) := by rw [← hW1]; exact at_new rfl
  have hca := Mk.rcan_not hmay W1
  go_enter Tryz.func56, Tryz.ntmps56
  go_wp2_with (first
    | (refine wpList_load_row rfl 34 (.tmp 1) rfl w.heap.size rfl 34 _ (0, 0) _ hg1 Tryz.underlying34 rfl Mk.info23 ?_))
  refine Mk.grew_at hca ?_
  intro w2 hb2
  have HB : Hid (Below w.heap.size w w2) := Mk.grew_trans hb1 hb2
  clear hca hg1 hb1 hb2
  dsimp only
  go_wp2_with fail
  go_ret2
  exact ⟨rfl, HB.out⟩

theorem belowRow {n : Nat} {w w' : World} (h : Below n w w') {b : Nat} (hb : n ≤ b) (cs : Array Value) : Below n w (w'.setRow b cs) := by
  refine ⟨h.os, h.tape, h.output, Nat.le_trans h.size (by simp), fun k hk => ?_⟩
  rw [setRow_other _ _ _ _ (by omega)]
  exact h.block k hk

theorem geom_one : (#[.int .i64 1, .int .i64 8, .int .i64 4] : Array Value).all (·.oneCell') = true := by simp [Value.oneCell']

/-- What Fresh leaves: a pair over a new volume of the smallest geometry, and that. -/
def FrP (w : World) (e : Ending) (w' : World) : Prop :=
  ∃ p d v xd y c s m mc p1 p2 dm df B, e = .returned (.tuple #[.pointer (some ⟨p, 0, none⟩), Mk.geomV 1 8 4, .bool true]) ∧ w'.heap[p]? = some (.cells #[.pointer (some ⟨d, 0, none⟩), .pointer (some ⟨v, 0, none⟩), .pointer (some ⟨xd, 0, none⟩), .pointer (some ⟨y, 0, none⟩)] 65 (0, 0)) ∧ FV w' v d c s m mc p1 p2 none ∧ FLo w.heap.size v c s m mc p1 p2 ∧ w.heap.size ≤ B ∧ DI B w' d dm df (.slice none 0 0) ⟨8, part (imgL (Mk.img 1 8 4) 8) 8, [], 0, fun _ => 0⟩ ∧ Below w.heap.size w w'

theorem results_tct {P : Program} {fn : Func} {a p u : Tmp} {ty : TypeId} (h : fn.results = #[.tmp a, .cell p ty, .tmp u]) (tmps : Array Value) (w : World) (g : Nat) (t : TypeId) (cs : Array Value) (fr : Nat × Nat) (d : TypeDesc)
    (hp : tmps.getD p undef = .pointer (some ⟨g, 0, none⟩)) (hg : w.heap[g]? = some (.cells cs t fr))
    (hu : P.underlying ty = some d) (hd : (match d with | .struct _ | .array _ _ => true | _ => false) = true) (hi : (P.info? ty).map (·.size) = some cs.size) :
    (results fn tmps).run P w = .ok (.tuple #[tmps.getD a undef, .agg cs, tmps.getD u undef]) w := by
  have e : (results fn tmps).run P w = ((asAddr (tmps.getD p undef)).run P w).andThen fun x w₁ => ((loadVar ty x).run P w₁).andThen fun v w₂ => .ok (.tuple #[tmps.getD a undef, v, tmps.getD u undef]) w₂ := by
    simp only [results, h]
    simp [Sem.run_bind, Result.andThen]
  rw [e, hp]
  simp [asAddr, run_loadVar_row w g t ty cs fr d hg hu hd hi]

theorem fresh_end {w w4 w5 : World} {p d v xd y c s m mc p1 p2 dm df B' : Nat} {a : Act}
    (hp : w5.heap[p]? = some (.cells #[.pointer (some ⟨d, 0, none⟩), .pointer (some ⟨v, 0, none⟩), .pointer (some ⟨xd, 0, none⟩), .pointer (some ⟨y, 0, none⟩)] 65 (0, 0)))
    (hF : FV w5 v d c s m mc p1 p2 none) (hLo : FLo w4.heap.size v c s m mc p1 p2) (hBB : w4.heap.size ≤ B') (hD : DI B' w5 d dm df (.slice none 0 0) ⟨8, part (imgL (Mk.img 1 8 4) 8) 8, [], 0, fun _ => 0⟩) (hbw : Below w.heap.size w w5) (hlt : w.heap.size + 1 < w4.heap.size)
    (hr : w5.heap[w.heap.size + 1]? = some (Mk.geomO 0 0 0))
    (e2 : a.tmps.getD 2 undef = .pointer (some ⟨p, 0, none⟩)) (e3 : a.tmps.getD 3 undef = .pointer (some ⟨w.heap.size + 1, 0, none⟩)) (e4 : a.tmps.getD 4 undef = .bool true) (ed : a.defers = []) :
    bodyPost Tryz.prog Tryz.f17 (fun e w' => FrP w e w') Exit.ret a ((((w5.setCell ⟨w.heap.size + 1, 0, none⟩ (.int .i64 1)).setCell ⟨w.heap.size + 1, 1, none⟩ (.int .i64 8)).setCell ⟨w.heap.size + 1, 2, none⟩ (.int .i64 4)).drew) := by
  have g1 := row_set hr 0 (.int .i64 1)
  have g2 := row_set g1 1 (.int .i64 8)
  have g3 := row_set g2 2 (.int .i64 4)
  obtain ⟨W7, hW7⟩ : ∃ W7, (((w5.setCell ⟨w.heap.size + 1, 0, none⟩ (.int .i64 1)).setCell ⟨w.heap.size + 1, 1, none⟩ (.int .i64 8)).setCell ⟨w.heap.size + 1, 2, none⟩ (.int .i64 4)) = W7 := ⟨_, rfl⟩
  rw [hW7] at g3 ⊢
  have hdr : Below W7.heap.size W7 W7.drew := (Below.refl _ _).drew
  have so : ∀ b, b ≠ w.heap.size + 1 → W7.drew.heap[b]? = w5.heap[b]? := fun b hb => by
    have h0 : W7.drew.heap[b]? = W7.heap[b]? := rfl
    rw [h0, ← hW7]
    rw [Below.heap_setCell _ _ _ _ hb, Below.heap_setCell _ _ _ _ hb, Below.heap_setCell _ _ _ _ hb]
  have g4 : W7.drew.heap[w.heap.size + 1]? = some (Mk.geomO 1 8 4) := g3
  have ne : ∀ {b : Nat} {o : Obj}, w5.heap[b]? = some o → o ≠ Mk.geomO 0 0 0 → W7.drew.heap[b]? = some o := fun {b o} hh ho => by
    rw [so b (fun e => by rw [e, hr] at hh; cases hh; exact ho rfl)]
    exact hh
  have hb7 : Below w.heap.size w W7.drew := by
    rw [← hW7]
    exact (((hbw.setCell (Nat.le_succ _) _).setCell (Nat.le_succ _) _).setCell (Nat.le_succ _) _).drew
  refine bodyPost_ret (v := .tuple #[.pointer (some ⟨p, 0, none⟩), Mk.geomV 1 8 4, .bool true]) ?_ ed ?_
  · have := results_tct (P := Tryz.prog) Tryz.results17 a.tmps W7.drew (w.heap.size + 1) 34 _ (0, 0) _ e3 g4 Tryz.underlying34 rfl Mk.info23
    rw [e2, e4] at this
    exact this
  · refine ⟨p, d, v, xd, y, c, s, m, mc, p1, p2, dm, df, B', rfl, ne hp (by simp), ⟨ne hF.row (by simp), ne hF.cac (by simp), ne hF.cm (by simp), ne hF.set (by simp), ne hF.pm1 (by simp), ne hF.pm2 (by simp)⟩, (by obtain ⟨a1, a2, a3, a4, a5, a6, a7, a8⟩ := hLo; exact ⟨by omega, by omega, by omega, by omega, by omega, by omega, by omega, a8⟩), by omega, hD.kept (fun k hk => ?_), hb7⟩
    have := (hD.in k hk).1
    exact so k (by omega)

set_option maxHeartbeats 2000000 in
theorem freshNo_ok (G B I : Int) (hmay : ¬ Mk.Gm.May G B I) (w : World) : Calls Tryz.prog 17 #[Mk.geomV G B I] w fun e w' => FrP w e w' := by
  obtain ⟨W1, hW1⟩ : ∃ W1, (w.alloc (Mk.geomO G B I)).alloc (Mk.geomO 0 0 0) = W1 := ⟨_, rfl⟩
  have hb1 : Below w.heap.size w W1 := by rw [← hW1]; exact ((Below.refl _ w).alloc (Nat.le_refl _) _).alloc (by simp) _
  have hg1 : W1.heap[w.heap.size]? = some (Mk.geomO G B I) := by rw [← hW1]; exact at_old (at_new rfl)
  have hr1 : W1.heap[w.heap.size + 1]? = some (Mk.geomO 0 0 0) := by rw [← hW1]; exact at_new (by simp)
  have HB1 : Hid (Below w.heap.size w W1) := hb1
  have HR1 : Hid (W1.heap[w.heap.size + 1]? = some (Mk.geomO 0 0 0)) := hr1
  have hno := rmake_no G B I hmay W1
  clear hb1 hr1
  go_enter Tryz.func17, Tryz.ntmps17
  go_wp2_with (first
    | (refine wpList_load_row rfl 34 (.tmp 1) rfl w.heap.size rfl 34 _ (0, 0) _ hg1 Tryz.underlying34 rfl Mk.info23 ?_))
  refine Calls.mono hno ?_
  rintro e w2 ⟨rfl, hb2⟩
  have hg2 := (hb2.block _ (Array.getElem?_eq_some_iff.1 hg1).1).trans hg1
  have hr2 := (hb2.block _ (Array.getElem?_eq_some_iff.1 HR1.out).1).trans HR1.out
  obtain ⟨W3, hW3⟩ : ∃ W3, w2.setRow w.heap.size #[.int .i64 1, .int .i64 8, .int .i64 4] = W3 := ⟨_, rfl⟩
  have hg3 : W3.heap[w.heap.size]? = some (Mk.geomO 1 8 4) := by rw [← hW3]; exact setRow_heap _ _ _ _ 34 _ hg2
  have hr3 : W3.heap[w.heap.size + 1]? = some (Mk.geomO 0 0 0) := by rw [← hW3, setRow_other _ _ _ _ (by omega)]; exact hr2
  have hB2 : Below w.heap.size w w2 := HB1.out.trans (hb2.mono HB1.out.size)
  have hB3 : Below w.heap.size w W3 := by rw [← hW3]; exact belowRow hB2 (Nat.le_refl _) _
  have hmk := Mk.rmake_ok 1 8 4 (by decide) W3
  have HW3 : Hid (w2.setRow w.heap.size #[.int .i64 1, .int .i64 8, .int .i64 4] = W3) := hW3
  have H3 : Hid (Below w.heap.size w W3 ∧ W3.heap[w.heap.size + 1]? = some (Mk.geomO 0 0 0)) := ⟨hB3, hr3⟩
  clear hno hg1 hb2 hr2 hr3 hB2 hB3 hW1 HB1 HR1 hW3
  dsimp only
  go_wp2_with (first
    | (refine wpList_store_row rfl 34 (.tmp 1) _ rfl w.heap.size #[.int .i64 1, .int .i64 8, .int .i64 4] rfl rfl 34 _ hg2 Mk.info23 rfl geom_one ?_; rw [HW3.out])
    | (refine wpList_load_row rfl 34 (.tmp 1) rfl w.heap.size rfl 34 _ (0, 0) _ hg3 Tryz.underlying34 rfl Mk.info23 ?_))
  refine Calls.mono hmk ?_
  rintro e w4 ⟨A, cap, rfl, hRd, hb4⟩
  have hof := of64_ok (some ⟨A, 0, none⟩) 8 cap (imgL (Mk.img 1 8 4) 8) w4 (rd_ib hRd (by decide)) (by decide) (by decide) (fun xs hx => by
    simp only [imgL, List.mem_map] at hx
    obtain ⟨k, _, rfl⟩ := hx
    exact img_len k)
  clear hmk
  dsimp only
  go_wp2_with fail
  refine Calls.mono hof ?_
  rintro e w5 ⟨p, d, v, xd, y, c, s, m, mc, p1, p2, dm, df, B', rfl, hp, hF, hLo, hBB, hD, hb5⟩
  have hb35 : Below W3.heap.size W3 w5 := hb4.trans (hb5.mono hb4.size)
  have hg5 := (hb35.block _ (Array.getElem?_eq_some_iff.1 hg3).1).trans hg3
  have hr5 := (hb35.block _ (Array.getElem?_eq_some_iff.1 H3.out.2).1).trans H3.out.2
  have HF : Hid (w5.heap[p]? = some (.cells #[.pointer (some ⟨d, 0, none⟩), .pointer (some ⟨v, 0, none⟩), .pointer (some ⟨xd, 0, none⟩), .pointer (some ⟨y, 0, none⟩)] 65 (0, 0)) ∧ FV w5 v d c s m mc p1 p2 none ∧ FLo w4.heap.size v c s m mc p1 p2 ∧ w4.heap.size ≤ B' ∧ DI B' w5 d dm df (.slice none 0 0) ⟨8, part (imgL (Mk.img 1 8 4) 8) 8, [], 0, fun _ => 0⟩ ∧ Below w.heap.size w w5 ∧ w.heap.size + 1 < w4.heap.size)   := ⟨hp, hF, hLo, hBB, hD, H3.out.1.trans (hb35.mono H3.out.1.size), Nat.lt_of_lt_of_le (Array.getElem?_eq_some_iff.1 H3.out.2).1 hb4.size⟩
  clear hof hb35 hp hF hLo hBB hD hb5 hRd hb4 hg3 H3 HW3 hg2
  dsimp only
  go_wp2_with fail
  have hd5 : Below w5.heap.size w5 w5.drew := (Below.refl _ _).drew
  have hgd := (hd5.block _ (Array.getElem?_eq_some_iff.1 hg5).1).trans hg5
  have hrd := (hd5.block _ (Array.getElem?_eq_some_iff.1 hr5).1).trans hr5
  have q0 : w5.drew.cell? ⟨w.heap.size, 0, none⟩ = some (.int .i64 1) := cell_of_row _ _ 0 _ _ _ hgd
  have q1 : w5.drew.cell? ⟨w.heap.size, 1, none⟩ = some (.int .i64 8) := cell_of_row _ _ 1 _ _ _ hgd
  have q2 : w5.drew.cell? ⟨w.heap.size, 2, none⟩ = some (.int .i64 4) := cell_of_row _ _ 2 _ _ _ hgd
  have r0 : w5.drew.cell? ⟨w.heap.size + 1, 0, none⟩ = some (.int .i64 0) := cell_of_row _ _ 0 _ _ _ hrd
  have r1 : w5.drew.cell? ⟨w.heap.size + 1, 1, none⟩ = some (.int .i64 0) := cell_of_row _ _ 1 _ _ _ hrd
  have r2 : w5.drew.cell? ⟨w.heap.size + 1, 2, none⟩ = some (.int .i64 0) := cell_of_row _ _ 2 _ _ _ hrd
  have f0 : w5.drew.frozen? ⟨w.heap.size + 1, 0, none⟩ = false := by simp [World.frozen?, hrd]
  have f1 : w5.drew.frozen? ⟨w.heap.size + 1, 1, none⟩ = false := by simp [World.frozen?, hrd]
  have f2 : w5.drew.frozen? ⟨w.heap.size + 1, 2, none⟩ = false := by simp [World.frozen?, hrd]
  have r0' : w5.cell? ⟨w.heap.size + 1, 0, none⟩ = some (.int .i64 0) := cell_of_row _ _ 0 _ _ _ hr5
  have r1' : w5.cell? ⟨w.heap.size + 1, 1, none⟩ = some (.int .i64 0) := cell_of_row _ _ 1 _ _ _ hr5
  have r2' : w5.cell? ⟨w.heap.size + 1, 2, none⟩ = some (.int .i64 0) := cell_of_row _ _ 2 _ _ _ hr5
  have f0' : w5.frozen? ⟨w.heap.size + 1, 0, none⟩ = false := by simp [World.frozen?, hr5]
  have f1' : w5.frozen? ⟨w.heap.size + 1, 1, none⟩ = false := by simp [World.frozen?, hr5]
  have f2' : w5.frozen? ⟨w.heap.size + 1, 2, none⟩ = false := by simp [World.frozen?, hr5]
  have HG : Hid (w5.heap[w.heap.size + 1]? = some (Mk.geomO 0 0 0)) := hr5
  clear hg5 hr5 hd5 hgd hrd
  go_region
  go_wp2_with fail
  obtain ⟨hp, hF, hLo, hBB, hD, hbw, hlt⟩ := HF.out
  exact fresh_end hp hF hLo hBB hD hbw hlt HG.out rfl rfl rfl rfl
set_option maxHeartbeats 2000000 in
theorem fresh1_ok (w : World) : Calls Tryz.prog 17 #[Mk.geomV 1 8 4] w fun e w' => FrP w e w' := by
  obtain ⟨W1, hW1⟩ : ∃ W1, (w.alloc (Mk.geomO 1 8 4)).alloc (Mk.geomO 0 0 0) = W1 := ⟨_, rfl⟩
  have hb1 : Below w.heap.size w W1 := by rw [← hW1]; exact ((Below.refl _ w).alloc (Nat.le_refl _) _).alloc (by simp) _
  have hg1 : W1.heap[w.heap.size]? = some (Mk.geomO 1 8 4) := by rw [← hW1]; exact at_old (at_new rfl)
  have hr1 : W1.heap[w.heap.size + 1]? = some (Mk.geomO 0 0 0) := by rw [← hW1]; exact at_new (by simp)
  have HB1 : Hid (Below w.heap.size w W1) := hb1
  have HR1 : Hid (W1.heap[w.heap.size + 1]? = some (Mk.geomO 0 0 0)) := hr1
  have hmk := Mk.rmake_ok 1 8 4 (by decide) W1
  have H3 : Hid (Below w.heap.size w W1 ∧ W1.heap[w.heap.size + 1]? = some (Mk.geomO 0 0 0)) := ⟨hb1, hr1⟩
  clear hb1 hr1 HB1 HR1
  go_enter Tryz.func17, Tryz.ntmps17
  go_wp2_with (first
    | (refine wpList_load_row rfl 34 (.tmp 1) rfl w.heap.size rfl 34 _ (0, 0) _ hg1 Tryz.underlying34 rfl Mk.info23 ?_))
  refine Calls.mono hmk ?_
  rintro e w4 ⟨A, cap, rfl, hRd, hb4⟩
  have hof := of64_ok (some ⟨A, 0, none⟩) 8 cap (imgL (Mk.img 1 8 4) 8) w4 (rd_ib hRd (by decide)) (by decide) (by decide) (fun xs hx => by
    simp only [imgL, List.mem_map] at hx
    obtain ⟨k, _, rfl⟩ := hx
    exact img_len k)
  clear hmk
  dsimp only
  go_wp2_with fail
  refine Calls.mono hof ?_
  rintro e w5 ⟨p, d, v, xd, y, c, s, m, mc, p1, p2, dm, df, B', rfl, hp, hF, hLo, hBB, hD, hb5⟩
  have hb35 : Below W1.heap.size W1 w5 := hb4.trans (hb5.mono hb4.size)
  have hg5 := (hb35.block _ (Array.getElem?_eq_some_iff.1 hg1).1).trans hg1
  have hr5 := (hb35.block _ (Array.getElem?_eq_some_iff.1 H3.out.2).1).trans H3.out.2
  have HF : Hid (w5.heap[p]? = some (.cells #[.pointer (some ⟨d, 0, none⟩), .pointer (some ⟨v, 0, none⟩), .pointer (some ⟨xd, 0, none⟩), .pointer (some ⟨y, 0, none⟩)] 65 (0, 0)) ∧ FV w5 v d c s m mc p1 p2 none ∧ FLo w4.heap.size v c s m mc p1 p2 ∧ w4.heap.size ≤ B' ∧ DI B' w5 d dm df (.slice none 0 0) ⟨8, part (imgL (Mk.img 1 8 4) 8) 8, [], 0, fun _ => 0⟩ ∧ Below w.heap.size w w5 ∧ w.heap.size + 1 < w4.heap.size)   := ⟨hp, hF, hLo, hBB, hD, H3.out.1.trans (hb35.mono H3.out.1.size), Nat.lt_of_lt_of_le (Array.getElem?_eq_some_iff.1 H3.out.2).1 hb4.size⟩
  clear hof hb35 hp hF hLo hBB hD hb5 hRd hb4 hg1 H3
  dsimp only
  go_wp2_with fail
  have hd5 : Below w5.heap.size w5 w5.drew := (Below.refl _ _).drew
  have hgd := (hd5.block _ (Array.getElem?_eq_some_iff.1 hg5).1).trans hg5
  have hrd := (hd5.block _ (Array.getElem?_eq_some_iff.1 hr5).1).trans hr5
  have q0 : w5.drew.cell? ⟨w.heap.size, 0, none⟩ = some (.int .i64 1) := cell_of_row _ _ 0 _ _ _ hgd
  have q1 : w5.drew.cell? ⟨w.heap.size, 1, none⟩ = some (.int .i64 8) := cell_of_row _ _ 1 _ _ _ hgd
  have q2 : w5.drew.cell? ⟨w.heap.size, 2, none⟩ = some (.int .i64 4) := cell_of_row _ _ 2 _ _ _ hgd
  have r0 : w5.drew.cell? ⟨w.heap.size + 1, 0, none⟩ = some (.int .i64 0) := cell_of_row _ _ 0 _ _ _ hrd
  have r1 : w5.drew.cell? ⟨w.heap.size + 1, 1, none⟩ = some (.int .i64 0) := cell_of_row _ _ 1 _ _ _ hrd
  have r2 : w5.drew.cell? ⟨w.heap.size + 1, 2, none⟩ = some (.int .i64 0) := cell_of_row _ _ 2 _ _ _ hrd
  have f0 : w5.drew.frozen? ⟨w.heap.size + 1, 0, none⟩ = false := by simp [World.frozen?, hrd]
  have f1 : w5.drew.frozen? ⟨w.heap.size + 1, 1, none⟩ = false := by simp [World.frozen?, hrd]
  have f2 : w5.drew.frozen? ⟨w.heap.size + 1, 2, none⟩ = false := by simp [World.frozen?, hrd]
  have r0' : w5.cell? ⟨w.heap.size + 1, 0, none⟩ = some (.int .i64 0) := cell_of_row _ _ 0 _ _ _ hr5
  have r1' : w5.cell? ⟨w.heap.size + 1, 1, none⟩ = some (.int .i64 0) := cell_of_row _ _ 1 _ _ _ hr5
  have r2' : w5.cell? ⟨w.heap.size + 1, 2, none⟩ = some (.int .i64 0) := cell_of_row _ _ 2 _ _ _ hr5
  have f0' : w5.frozen? ⟨w.heap.size + 1, 0, none⟩ = false := by simp [World.frozen?, hr5]
  have f1' : w5.frozen? ⟨w.heap.size + 1, 1, none⟩ = false := by simp [World.frozen?, hr5]
  have f2' : w5.frozen? ⟨w.heap.size + 1, 2, none⟩ = false := by simp [World.frozen?, hr5]
  have HG : Hid (w5.heap[w.heap.size + 1]? = some (Mk.geomO 0 0 0)) := hr5
  clear hg5 hr5 hd5 hgd hrd
  go_region
  go_wp2_with fail
  obtain ⟨hp, hF, hLo, hBB, hD, hbw, hlt⟩ := HF.out
  exact fresh_end hp hF hLo hBB hD hbw hlt HG.out rfl rfl rfl rfl
end Go.Proofs.YtomkhipdcjnkhaaGreat

/- disk.Read of a block whose reads do not fail. -/
namespace Go.Proofs.YtomkhipdcjnkhaaGreat
open Go.RowKit Go.Maps
set_option maxRecDepth 100000
set_option linter.unusedVariables false

theorem zero3 (w : World) : (zeroValue 3).run Tryz.prog w = .ok (.int .i64 0) w := by kernel_rfl
theorem lit_wf {n : Int} (h : 0 ≤ n ∧ n ≤ 1000) : (Lit.int .i64 n).wf = true := by
  simp [Lit.wf, IntKind.min, IntKind.max, IntKind.signed, IntKind.bits]
  omega
theorem Fls.lookup {w : World} {mb N : Nat} {f : Nat → Int} (h : Fls w mb N f) (hN : N ≤ 2048) (b : Nat) (hb : b < N) :
    (Instr.lookup 289 (.map (some mb)) (.int .i64 (b : Int)) false).run Tryz.prog w = .ok (.int .i64 (f b)) w := by
  obtain ⟨D, ho, _, hat⟩ := h.ex
  obtain ⟨c, hr, hv, _⟩ := ho.lookup_int keyed3 Tryz.underlying289 Tryz.underlying3 (zero3 w) (key_of (b := b) (by omega))
  rw [hat b hb] at hv
  simp only [DataW.lit.injEq, Lit.int.injEq, true_and] at hv
  rw [hr, ← hv]
section
variable {B : Nat} {w : World} {a mb fb : Nat} {qv : Value} {S : St}
theorem has_true (h : DI B w a mb fb qv S) (b : Nat) (hb : b < S.N) : Calls Tryz.prog 402 #[.pointer (some ⟨a, 0, none⟩), .int .i64 (b : Int)] w fun e w' => e = .returned (.bool true) ∧ w' = w := by
  have := has_ok h (b : Int)
  have e : (decide ((0 : Int) ≤ (b : Int)) && decide ((b : Int) < (S.N : Int))) = true := by simp; omega
  rwa [e] at this
set_option maxHeartbeats 400000 in
theorem read_ok (h : DI B w a mb fb qv S) (b : Nat) (hb : b < S.N) (h0 : S.fl b = 0) : Calls Tryz.prog 368 #[.pointer (some ⟨a, 0, none⟩), .int .i64 (b : Int)] w fun e w' => ∃ g, e = .returned (.tuple #[.slice (some ⟨g, 0, none⟩) 128 128, .int .i64 0]) ∧ Own w.heap.size w' g 128 128 (S.f b) ∧ Below w.heap.size w w' := by
  have c := has_true h b hb
  have hc := h.c4
  have hl := h.fls.lookup h.N2 b hb
  rw [h0] at hl
  go_enter Tryz.func368, Tryz.ntmps368
  go_wp2_with fail
  refine same_at (made_ok h) ?_
  go_wp2_with fail
  refine same_at c ?_
  go_wp2_with fail
  refine (bytesOf_ok h b hb).mono ?_
  rintro e w1 ⟨g, rfl, ho, hb1⟩
  go_wp2
  go_ret2
  exact ⟨g, rfl, ho, hb1⟩
end
end Go.Proofs.YtomkhipdcjnkhaaGreat
