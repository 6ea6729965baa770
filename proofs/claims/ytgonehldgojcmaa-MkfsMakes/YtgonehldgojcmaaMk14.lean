/- M8 M9 -/
import Derived.Test.YtgonehldgojcmaaMk13

/- The document's mkfs: Make; images held against each other. -/
namespace Go.Proofs.Ytgonehldgojcmaa
open Go.RowKit
set_option linter.unusedVariables false
set_option maxRecDepth 100000

set_option maxHeartbeats 400000 in
theorem bequal_same (p q : Option Addr) (n c m d : Nat) (xs : List Int) (w : World) (h : BI w p n xs) (k : BI w q m xs) :
    Calls Try.prog 17 #[.slice p n c, .slice q m d] w fun e w' => e = .returned (.bool true) ∧ w' = w := by
  have h1 := h.conv c
  have h2 := k.conv d
  go_enter Try.func17, Try.ntmps17
  go_wp2
  go_ret
  refine ⟨?_, rfl⟩
  simp
set_option maxHeartbeats 1000000 in
theorem equalFunc_ok {w : World} {A A' n : Nat} {L : Nat → List Int} (c c' : Nat) (hn : n ≤ 2048) (h : Rd w A n L) (h' : Rd w A' n L) :
    Calls Try.prog 16 #[.slice (some ⟨A, 0, none⟩) n c, .slice (some ⟨A', 0, none⟩) n c', .func (.func 17) #[] #[]] w fun e w' => e = .returned (.bool true) ∧ w' = w := by
  go_enter Try.func16, Try.ntmps16
  go_wp2_with fail
  go_loopw [17] (fun iv wr => ∃ j : Nat, j ≤ n ∧ iv = .int .i64 (j : Int) ∧ wr = w) (fun iv _ => n - (intOf iv).toNat)
  case atStart => exact ⟨0, by omega, rfl, rfl⟩
  case round =>
    obtain ⟨j, hj, rfl, rfl⟩ := hrel
    by_cases hlt : j < n
    · have hjI : (j : Int) < (n : Int) := by omega
      have hj0 : (0 : Int) ≤ (j : Int) := by omega
      obtain ⟨q, m, d, k1, b1⟩ := h j hlt
      obtain ⟨q', m', d', k2, b2⟩ := h' j hlt
      have he := bequal_same q q' m d m' d' (L j) wr b1 b2
      go_wp2_with (first | (go_at_call 17; refine same_at he ?_))
      exact ⟨⟨j + 1, by omega, by go_num, trivial⟩, by simp [intOf]; omega⟩
    · obtain rfl : j = n := by omega
      have hjI : ¬ (j : Int) < (j : Int) := by omega
      go_wp2_with fail
      go_ret
      exact ⟨rfl, rfl⟩
set_option maxHeartbeats 400000 in
theorem sameImage_ok {w : World} {A A' n : Nat} {L : Nat → List Int} (c c' : Nat) (hn : n ≤ 2048) (h : Rd w A n L) (h' : Rd w A' n L) :
    Calls Try.prog 6 #[.slice (some ⟨A, 0, none⟩) n c, .slice (some ⟨A', 0, none⟩) n c'] w fun e w' => e = .returned (.bool true) ∧ w' = w := by
  have he := equalFunc_ok c c' hn h h'
  go_enter Try.func6, Try.ntmps6
  go_wp2_with (first | (go_at_call 16; refine same_at he ?_))
  go_ret
  exact ⟨rfl, rfl⟩

/-- Two lists of blocks as one. -/
theorem Els.join {B B' : Nat} {w0 w : World} {vs vs' : List Value} {g2 g2' : Nat} {F F' G : Nat → List Int} (h : Els B w0 vs g2 F) (h' : Els B' w vs' g2' F') (hb : Below w0.heap.size w0 w) (hB' : B' = w0.heap.size) (hBB : B ≤ B')
    (hl : vs = [] ∨ 2 < vs.length) (hF : ∀ k, k < vs.length → G k = F k) (hF' : ∀ k, k < vs'.length → G (vs.length + k) = F' k) : Els B w (vs ++ vs') (if vs = [] then g2' else g2) G := by
  have hk := h.kept (w' := w) (fun k hk _ => hb.block k hk)
  have lt : ∀ g, (∃ cs, w0.heap[g]? = some (Obj.cells cs 5 (0, 0))) → g < w0.heap.size := fun g ⟨cs, h1⟩ => (Array.getElem?_eq_some_iff.1 h1).1
  refine ⟨fun k v hv => ?_, fun h3 => ?_⟩
  · by_cases hkl : k < vs.length
    · rw [List.getElem?_append_left hkl] at hv
      obtain ⟨g, c, e, h1, h2, h5, h4⟩ := hk.el k v hv
      have hne : vs ≠ [] := fun e => by rw [e] at hkl; simp at hkl
      rw [if_neg hne, hF k hkl]
      exact ⟨g, c, e, h1, h2, h5, h4⟩
    · rw [List.getElem?_append_right (by omega)] at hv
      have hk2 := (List.getElem?_eq_some_iff.1 hv).1
      obtain ⟨g, c, e, h1, h2, h5, h4⟩ := h'.el (k - vs.length) v hv
      have hG := hF' (k - vs.length) hk2
      rw [show vs.length + (k - vs.length) = k by omega] at hG
      rw [hG]
      refine ⟨g, c, e, by omega, h2, h5, fun hn2 => ?_⟩
      rcases hl with hl | hl
      · rw [if_pos hl]
        subst hl
        exact h4 (by simpa using hn2)
      · have hne : vs ≠ [] := fun e => by rw [e] at hl; simp at hl
        rw [if_neg hne]
        have := lt g2 ⟨aZ, (h.two hl).2⟩
        omega
  · rcases hl with hl | hl
    · subst hl
      rw [if_pos rfl]
      exact h'.two (by simpa using h3)
    · have hne : vs ≠ [] := fun e => by rw [e] at hl; simp at hl
      rw [if_neg hne, List.getElem?_append_left (by omega)]
      exact hk.two hl
theorem Els.one {B : Nat} {w : World} {vs : List Value} {g2 : Nat} {F : Nat → List Int} (h : Els B w vs g2 F) : ∀ u ∈ vs, u.oneCell' = true := by
  intro u hu
  obtain ⟨k, hk, e⟩ := List.mem_iff_getElem.1 hu
  obtain ⟨g, c, e', _⟩ := h.el k u (by rw [List.getElem?_eq_getElem hk, e])
  rw [e']
  rfl
theorem Els.pim {B : Nat} {w : World} {vs : List Value} {g2 n A cap : Nat} {cur : Array Value} {F : Nat → List Int} (h : Els B w vs g2 F) (hn : vs.length = n) (h3 : 2 < n) (hA : B ≤ A) (hr : w.heap[A]? = some (.cells cur 36 (0, 0))) (hs : n ≤ cur.size) (hc : ∀ (k : Nat) (u : Value), vs[k]? = some u → cur[k]? = some u) (hg : B ≤ g2) : PIm B w A n g2 F := by
  have nA : ∀ g, (∃ cs, w.heap[g]? = some (Obj.cells cs 5 (0, 0))) → g ≠ A := fun g ⟨cs, h1⟩ e => by
    rw [e, hr] at h1
    simp at h1
  obtain ⟨e1, e2⟩ := h.two (by omega)
  refine ⟨hA, ⟨cur, hr, hs, fun k hk => ?_, hc 2 _ e1⟩, e2, hg, nA g2 ⟨aZ, e2⟩⟩
  have hv := List.getElem?_eq_getElem (l := vs) (i := k) (by omega)
  obtain ⟨g, c, e, h1, h2, h5, h4⟩ := h.el k _ hv
  exact ⟨g, 0, c, by rw [hc k _ hv, e], h1, nA g h2, h4, h5⟩
/-- Blocks that may be read, and one of them put anew. -/
def Rd2 (w : World) (A n : Nat) (L : Nat → List Int) : Prop := (∃ cs, w.heap[A]? = some (Obj.cells cs 36 (0, 0)) ∧ n ≤ cs.size) ∧ ∀ k, k < n → ∃ g o m c, w.cell? ⟨A, k, none⟩ = some (.slice (some ⟨g, o, none⟩) m c) ∧ BI w (some ⟨g, o, none⟩) m (L k) ∧ g ≠ A
theorem Rd2.kept {w w' : World} {A n : Nat} {L : Nat → List Int} (h : Rd2 w A n L) (hb : Below w.heap.size w w') : Rd2 w' A n L := by
  obtain ⟨⟨cs, h1, h2⟩, h3⟩ := h
  refine ⟨⟨cs, (hb.block A (Array.getElem?_eq_some_iff.1 h1).1).trans h1, h2⟩, fun k hk => ?_⟩
  obtain ⟨g, o, m, c, e1, e2, e3⟩ := h3 k hk
  exact ⟨g, o, m, c, cell_kept e1 hb, e2.kept hb, e3⟩
theorem Rd2.rd {w : World} {A n : Nat} {L : Nat → List Int} (h : Rd2 w A n L) : Rd w A n L := fun k hk => by
  obtain ⟨g, o, m, c, e1, e2, e3⟩ := h.2 k hk
  exact ⟨_, m, c, e1, e2⟩
theorem Rd2.set {w : World} {A n : Nat} {L : Nat → List Int} (h : Rd2 w A n L) {d : Nat} (hd : d < n) {g o m c : Nat} {xs : List Int} (hb : BI w (some ⟨g, o, none⟩) m xs) (hg : g ≠ A) : Rd (w.setCell ⟨A, d, none⟩ (.slice (some ⟨g, o, none⟩) m c)) A n (fun x => if x = d then xs else L x) := by
  obtain ⟨⟨cs, h1, h2⟩, h3⟩ := h
  have so : ∀ b, b ≠ A → (w.setCell ⟨A, d, none⟩ (.slice (some ⟨g, o, none⟩) m c)).heap[b]? = w.heap[b]? := fun b hb => Below.heap_setCell _ _ _ _ hb
  have hr := heap_setCell_same w A d cs 36 (.slice (some ⟨g, o, none⟩) m c) h1
  intro k hk
  dsimp only
  by_cases hkd : k = d
  · subst hkd
    rw [if_pos rfl]
    exact ⟨_, m, c, cell_row hr k _ (by rw [Array.getElem?_setIfInBounds_self_of_lt (by omega)]), bi_same hb (fun b o e _ => by cases e; exact so _ hg)⟩
  · rw [if_neg hkd]
    obtain ⟨g', o', m', c', e1, e2, e3⟩ := h3 k hk
    refine ⟨_, m', c', cell_row hr k _ ?_, bi_same e2 (fun b o e _ => by cases e; exact so _ e3)⟩
    rw [Array.getElem?_setIfInBounds_ne (by omega)]
    have e4 := e1
    simp only [World.cell?, h1] at e4
    exact e4
theorem rt_read2 {B : Nat} {w : World} {A n g2 : Nat} {L : Nat → List Int} (h : PIm B w A n g2 L) (i : Nat) : Rd2 (w.setRow g2 ((rtB i).map (Value.int .u8)).toArray) A n (fun x => if x = 2 then rtB i else L x) := by
  obtain ⟨cs, h1, hn, h3, h4⟩ := h.row
  have so : ∀ b, b ≠ g2 → (w.setRow g2 ((rtB i).map (Value.int .u8)).toArray).heap[b]? = w.heap[b]? := fun b hb => setRow_other _ _ _ _ hb
  have hr : (w.setRow g2 ((rtB i).map (Value.int .u8)).toArray).heap[A]? = some (.cells cs 36 (0, 0)) := (so A (fun e => h.two.2.2 e.symm)).trans h1
  refine ⟨⟨cs, hr, hn⟩, fun k hk => ?_⟩
  dsimp only
  by_cases h2 : k = 2
  · subst h2
    refine ⟨g2, 0, 128, 128, cell_row hr 2 _ h4, ?_, h.two.2.2⟩
    rw [if_pos rfl]
    exact (own_of_row (B := 0) (Nat.zero_le _) (by decide) (rtB_len i) (setRow_heap _ _ _ _ 5 _ h.two.1)).bi (by decide) (rtB_byt i)
  · obtain ⟨g, o, c, e1, e2, e3, e4, e5⟩ := h3 k hk
    refine ⟨g, o, 128, c, cell_row hr k _ e1, ?_, e3⟩
    rw [if_neg h2]
    exact bi_same e5 (fun b o e _ => by cases e; exact so _ (e4 h2))

theorem blF_gr {g b i j r : Nat} (hr : r < b) : blF g b i (j * b + r) = grF g b i j r := by
  have e1 : (j * b + r) / b = j := by rw [Nat.add_comm, Nat.add_mul_div_right _ _ (by omega), Nat.div_eq_of_lt hr]; omega
  have e2 : (j * b + r) % b = r := by rw [Nat.add_comm, Nat.add_mul_mod_self_right, Nat.mod_eq_of_lt hr]
  unfold blF grF
  rw [e1, e2]
theorem owns_ty {w : World} {B n : Nat} {v : Value} {vs : List Value} (h : w.ownsRow B 36 1 v n vs) {k : Nat} (hk : v.ownBlock = some k) : (∃ cs, w.heap[k]? = some (Obj.cells cs 36 (0, 0))) ∧ B ≤ k := by
  rcases h.2 with ⟨e, e0⟩ | ⟨A, cap, cur, e, hB, hg, _⟩
  · rw [e] at hk; cases hk
  · rw [e] at hk
    cases hk
    exact ⟨⟨cur, hg⟩, hB⟩
theorem owns_kept {w w' : World} {B n : Nat} {v : Value} {vs : List Value} (h : w.ownsRow B 36 1 v n vs) (hb : Below w.heap.size w w') : w'.ownsRow B 36 1 v n vs := by
  refine ⟨h.1, ?_⟩
  rcases h.2 with h' | ⟨A, cap, cur, e, hB, hg, rest⟩
  · exact .inl h'
  · exact .inr ⟨A, cap, cur, e, hB, (hb.block _ (Array.getElem?_eq_some_iff.1 hg).1).trans hg, rest⟩
/-- What the document's Make knows while groups are appended. -/
structure MkI (w wr : World) (g b i j : Nat) (v : Value) (vs : List Value) (g2 : Nat) : Prop where
  len : vs.length = j * b
  row : wr.ownsRow w.heap.size 36 1 v vs.length vs
  els : Els w.heap.size wr vs g2 (blF g b i)
  geo : wr.heap[w.heap.size]? = some (geomO g b i)
  bel : Below w.heap.size w wr
/-- What the document's Make leaves. -/
def MkP (w : World) (g b i : Nat) (e : Ending) (w' : World) : Prop := ∃ A cap, e = .returned (.tuple #[.slice (some ⟨A, 0, none⟩) (g * b) cap, .int .i64 0]) ∧ Rd w' A (g * b) (img g b i) ∧ Below w.heap.size w w'

set_option maxHeartbeats 4000000 in
theorem rmake_ok (g b i : Nat) (hmay : Gm.May (g : Int) (b : Int) (i : Int)) (w : World) :
    Calls Try.prog 5 #[geomV g b i] w fun e w' => MkP w g b i e w' := by
  have hm := hmay.all
  have hbn : 1 * b ≤ g * b := Nat.mul_le_mul_right b (by omega)
  have hb2 : g * b ≤ 8 * 256 := Nat.mul_le_mul (by omega) (by omega)
  obtain ⟨W1, hW1⟩ : ∃ W1, w.alloc (geomO g b i) = W1 := ⟨_, rfl⟩
  have hb1 : Below w.heap.size w W1 := by rw [← hW1]; exact grew_alloc _ _
  have hg1 : W1.heap[w.heap.size]? = some (geomO g b i) := by rw [← hW1]; exact at_new rfl
  have hca := rcan_may hmay W1
  have HN : Hid (b ≤ g * b ∧ g * b ≤ 2048) := by show _ ∧ _; omega
  clear hbn hb2
  obtain ⟨i6, hi6, hz0, hz1, hz2⟩ := info_partsS info36S
  go_enter Try.func5, Try.ntmps5
  go_wp2_with (first
    | (refine wpList_load_row rfl 23 (.tmp 1) rfl w.heap.size rfl 23 _ (0, 0) _ hg1 Try.underlying23 rfl info23 ?_))
  refine grew_at hca ?_
  intro w2 hbb2
  have hg2 := (hbb2.block _ (Array.getElem?_eq_some_iff.1 hg1).1).trans hg1
  have hB2 := grew_trans hb1 hbb2
  have G0 : w2.cell? ⟨w.heap.size, 0, none⟩ = some (.int .i64 (g : Int)) := cell_row hg2 0 _ rfl
  have HI : Hid (MkI w w2 g b i 0 (.slice none 0 0) [] 0) := ⟨by simp, ⟨rfl, .inl ⟨rfl, rfl⟩⟩, ⟨fun k v hv => by simp at hv, fun h => by simp at h⟩, hg2, hB2⟩
  clear hca hg1 hb1 hbb2 hW1 hg2 hB2
  dsimp only
  go_wp2_with fail
  go_loopw [16, 4] (fun iv v wr => ∃ (j : Nat) (vs : List Value) (g2 : Nat), j ≤ g ∧ iv = .int .i64 (j : Int) ∧ MkI w wr g b i j v vs g2) (fun iv _ _ => g - (intOf iv).toNat)
  case atStart => exact ⟨0, _, _, by omega, rfl, HI.out⟩
  case round =>
    clear HI G0
    obtain ⟨j, vs, g2, hj, rfl, hI⟩ := hrel
    by_cases hlt : j < g
    · have hjI : (j : Int) < (g : Int) := by omega
      have hgr := rgrp_ok g b i j ⟨hmay, by omega, hjI⟩ wr
      have hgeo := hI.geo
      have HJ : Hid (MkI w wr g b i j u4 vs g2) := hI
      clear hI
      go_wp2_with (first
        | (refine wpList_load_row rfl 23 (.tmp 1) rfl w.heap.size rfl 23 _ (0, 0) _ hgeo Try.underlying23 rfl info23 ?_))
      refine Calls.mono hgr ?_
      rintro e w3 ⟨v', vs', g2', rfl, hvl, hrow', hels', hb3⟩
      obtain ⟨A', cap', cur', hv', hBA', hrA', hcs', hcur', hcp', hcm'⟩ := owns_shape hrow' (by omega)
      subst hv'
      have hrow3 := owns_kept HJ.out.row hb3
      have news : ∀ (k : Nat) (u : Value), vs'[k]? = some u → w3.cell? ((⟨A', 0, none⟩ : Addr).add k) = some u := fun k u hu => by
        rw [Addr.add_mid, Nat.zero_add]
        exact cell_row hrA' k u (hcur' k u hu)
      have hone := hels'.one
      have hlen := HJ.out.len
      have hjb : (j + 1) * b ≤ g * b := Nat.mul_le_mul_right b (by omega)
      have HLL : Hid (vs.length + b ≤ 2048 ∧ vs.length + b = (j + 1) * b ∧ w.heap.size ≤ w3.heap.size) := by
        show _ ∧ _
        have h1 := HN.out
        have h2 := HJ.out.bel.size
        have h3 := hb3.size
        rw [hlen, Nat.add_mul] at *
        refine ⟨?_, ?_, ?_⟩ <;> omega
      clear hjb hlen
      dsimp only
      go_wp2_with (at_builtin; refine wpList_append_own_at _ rfl _ _ 24 rfl w.heap.size 36 i6 (.slice none 0 0) 1 24 Try.underlying24 hi6 hz0 hz1 hz2 rfl (by decide) _ _ _ rfl hrow3 ⟨A', 0, none⟩ b cap' vs' rfl ?c2 news hone ?c4 ?c5 HLL.out.2.2 ?_; (case c2 => simp [hvl]); (case c4 => have := HLL.out; unfold maxLen; omega); (case c5 => have := HLL.out; omega); intro v3 w4 ho4 hg4 hx1 hx2)
      have hg4' : w3.grownBy w4 u4.ownBlock := hg4
      have ho4' : w4.ownsRow w.heap.size 36 1 v3 (vs.length + b) (vs ++ vs') := ho4
      have hJ := HJ.out
      have nA : ∀ k, u4.ownBlock = some k → (∃ cs, w3.heap[k]? = some (Obj.cells cs 36 (0, 0))) ∧ w.heap.size ≤ k := fun k hk => owns_ty hrow3 hk
      have keep : ∀ k t, t ≠ 36 → k < w3.heap.size → (∃ cs, w3.heap[k]? = some (Obj.cells cs t (0, 0))) → w4.heap[k]? = w3.heap[k]? := fun k t ht hk ⟨cs, h1⟩ => hg4'.block k hk (fun e => by
        obtain ⟨⟨cs', h2⟩, _⟩ := nA k e.symm
        rw [h1] at h2
        simp at h2
        exact ht h2.2)
      have hgeo3 := (hb3.block _ (Array.getElem?_eq_some_iff.1 hJ.geo).1).trans hJ.geo
      refine ⟨⟨j + 1, vs ++ vs', (if vs = [] then g2' else g2), by omega, by go_num, ⟨?_, ?_, ?_, ?_, ?_⟩⟩, by simp [intOf]; omega⟩
      · rw [List.length_append, hvl]; exact HLL.out.2.1
      · rw [List.length_append, hvl]; exact ho4'
      · refine (hJ.els.join (G := blF g b i) hels' hb3 rfl hJ.bel.size ?_ (fun k hk => rfl) (fun k hk => ?_)).kept (fun k hk ht => keep k 5 (by decide) hk ht)
        · rcases Nat.eq_zero_or_pos j with h0 | h0
          · left
            have := hJ.len
            rw [h0, Nat.zero_mul] at this
            exact List.length_eq_zero_iff.1 this
          · right
            have h1 : 1 * b ≤ j * b := Nat.mul_le_mul_right b h0
            rw [hJ.len]
            omega
        · rw [hJ.len]
          exact blF_gr (by omega)
      · exact (keep w.heap.size 23 (by decide) (Array.getElem?_eq_some_iff.1 hgeo3).1 ⟨_, hgeo3⟩).trans hgeo3
      · exact (grew_trans hJ.bel hb3).grown hg4' HLL.out.2.2 (fun k hk => (nA k hk).2)
    · obtain rfl : j = g := by omega
      have hjI : ¬ (j : Int) < (j : Int) := by omega
      obtain ⟨N, hN⟩ : ∃ N, N = j * b := ⟨_, rfl⟩
      have hrow := hI.row
      rw [hI.len, ← hN] at hrow
      have HNN : Hid (N = j * b ∧ b ≤ N ∧ N ≤ 2048) := by show _ ∧ _; rw [hN]; exact ⟨rfl, HN.out⟩
      obtain ⟨A, cap, cur, hv, hBA, hrA, hcs, hcur, hcp, hcm⟩ := owns_shape hrow (by have := HNN.out; omega)
      subst hv
      have hlen := hI.len
      have hg2 : w.heap.size ≤ g2 := by
        obtain ⟨e1, e2⟩ := hI.els.two (by have := HNN.out; omega)
        obtain ⟨g, c, e3, e4, _⟩ := hI.els.el 2 _ e1
        cases e3
        exact e4
      have hP := hI.els.pim (cap := cap) (n := N) (by omega) (by have := HNN.out; omega) hBA hrA hcs hcur hg2
      have G2 : wr.cell? ⟨w.heap.size, 2, none⟩ = some (.int .i64 (i : Int)) := cell_row hI.geo 2 _ rfl
      have hrm := rt_may (i := i) (by omega)
      have hde := rencodeDinode_used 2 2 128 ((2 + i / 4 : Nat) : Int) 0 0 0 0 0 hrm (by decide) wr
      rw [show ((2 + i / 4 : Nat) : Int) = 2 + (i : Int) / 4 by omega] at hde
      have HP : Hid (PIm w.heap.size wr A N g2 (blF j b i) ∧ Below w.heap.size w wr) := ⟨hP, hI.bel⟩
      clear hP hI hrow hlen hN hcur hrA hg2 hcs hcp hcm
      go_wp2_with fail
      refine Calls.mono hde ?_
      rintro e w5 ⟨x6, c6, rfl, hO6, hb5⟩
      have hP5 := HP.out.1.kept hb5
      have k2 := hP5.third
      have h2n : (2 : Int) < (N : Int) := by have := HNN.out; omega
      have hO6' : Own wr.heap.size w5 x6 32 c6 (rtD i) := by
        unfold rtD
        rw [show ((2 + i / 4 : Nat) : Int) = 2 + (i : Int) / 4 by omega]
        exact hO6
      have hcd := fun ty => rt_copy (c := c6) i hP5.two.1 (hO6'.bi (by decide) (rtD_byt i)) ty
      obtain ⟨W6, hW6⟩ : ∃ W6, w5.setRow g2 ((rtB i).map (Value.int .u8)).toArray = W6 := ⟨_, rfl⟩
      rw [hW6] at hcd
      have H6 : Hid (Rd2 W6 A N (fun x => if x = 2 then rtB i else blF j b i x) ∧ Below w.heap.size w W6 ∧ A < W6.heap.size) := by
        refine ⟨by rw [← hW6]; exact rt_read2 hP5 i, ?_, ?_⟩
        · rw [← hW6]
          exact below_setRow (grew_trans HP.out.2 hb5) hP5.two.2.1 _
        · rw [← hW6]; simpa using hP5.lt.1
      have hen := rEncode_ok (some ⟨W6.heap.size, 0, none⟩) 2 2 dd _ (dd_ei W6) (Nat.le_refl 2) (by omega) dd_small
      unfold P2 at hen
      rw [dd_err] at hen
      clear hde hO6 hO6' hb5 hP5 hW6 G2
      dsimp only
      go_wp2_with fail
      refine Calls.mono hen ?_
      rintro e w7 ⟨q, m, c7, rfl, hBI, hb7, hfr⟩
      obtain rfl : m = 128 := by have := hBI.len; rw [dd_len] at this; omega
      obtain ⟨x, xo, rfl, _⟩ := hBI.cells (by omega)
      have hx : W6.heap.size < x := by have := hfr x xo rfl; rw [size_alloc] at this; omega
      have hbA := grew_trans (grew_alloc W6 (.cells #[.int .i64 2, .string ⟨#[46]⟩, .int .i64 2, .string ⟨#[46, 46]⟩] 44)) hb7
      have hR7 := H6.out.1.kept hbA
      have hdN : 2 + i / 4 < N := by have := HNN.out; omega
      obtain ⟨y, yo, ym, yc, kc, _, _⟩ := hR7.2 (2 + i / 4) hdN
      have kf : w7.frozen? ⟨A, 2 + i / 4, none⟩ = false := by
        obtain ⟨⟨cs, h1, _⟩, _⟩ := hR7
        simp [World.frozen?, h1]
      have hd0 : (0 : Int) ≤ 2 + (i : Int) / 4 := by omega
      have hdn : 2 + (i : Int) / 4 < (N : Int) := by omega
      have hR8 := hR7.set (c := c7) hdN hBI (by have := H6.out.2.2; omega)
      have H8 : Hid (Rd (w7.setCell ⟨A, 2 + i / 4, none⟩ (.slice (some ⟨x, xo, none⟩) 128 c7)) A N (img j b i) ∧ Below w.heap.size w (w7.setCell ⟨A, 2 + i / 4, none⟩ (.slice (some ⟨x, xo, none⟩) 128 c7))) := by
        refine ⟨fun k hk => ?_, (grew_trans H6.out.2.1 hbA).setCell hBA _⟩
        obtain ⟨q, m, c, h1, h2⟩ := hR8 k hk
        refine ⟨q, m, c, h1, ?_⟩
        have e : img j b i k = if k = 2 + i / 4 then enB dd else if k = 2 then rtB i else blF j b i k := by
          unfold img rtL
          by_cases e1 : k = 2
          · rw [if_pos e1, if_neg (by omega), if_pos e1]
          · rw [if_neg e1, if_neg e1]
        rw [e]
        exact h2
      clear hen hb7 hfr hBI hbA hR7 hR8
      dsimp only
      go_wp2_with fail
      go_ret2
      refine ⟨A, cap, ?_, ?_, H8.out.2⟩
      · rw [← HNN.out.1]; rfl
      · rw [← HNN.out.1]; exact H8.out.1
end Go.Proofs.Ytgonehldgojcmaa

/- MkfsMakes: the walk of the law. -/
namespace Go.Proofs.Ytgonehldgojcmaa
open Go.RowKit
set_option linter.unusedVariables false
set_option maxRecDepth 100000

theorem Rd.kept {w w' : World} {A n : Nat} {L : Nat → List Int} (h : Rd w A n L) (hb : Below w.heap.size w w') : Rd w' A n L := fun k hk => by
  obtain ⟨q, m, c, h1, h2⟩ := h k hk
  exact ⟨q, m, c, cell_kept h1 hb, h2.kept hb⟩
set_option maxHeartbeats 1000000 in
theorem make_no (G B I : Int) (hmay : ¬ Gm.May G B I) (w : World) : Calls Try.prog 4 #[geomV G B I] w fun e w' => e = .returned (.tuple #[.slice none 0 0, .int .i64 170]) ∧ Below w.heap.size w w' := by
  obtain ⟨W1, hW1⟩ : ∃ W1, w.alloc (geomO G B I) = W1 := ⟨_, rfl⟩
  have hb1 : Below w.heap.size w W1 := by rw [← hW1]; exact grew_alloc _ _
  have hg1 : W1.heap[w.heap.size]? = some (geomO G B I) := by rw [← hW1]; exact at_new rfl
  have hca := can_not hmay W1
  go_enter Try.func4, Try.ntmps4
  go_wp2_with (first
    | (refine wpList_load_row rfl 23 (.tmp 1) rfl w.heap.size rfl 23 _ (0, 0) _ hg1 Try.underlying23 rfl info23 ?_))
  refine grew_at hca ?_
  intro w2 hb2
  have HB : Hid (Below w.heap.size w w2) := grew_trans hb1 hb2
  clear hca hg1 hb1 hb2
  dsimp only
  go_wp2_with fail
  go_ret2
  exact ⟨rfl, HB.out⟩
set_option maxHeartbeats 1000000 in
theorem rmake_no (G B I : Int) (hmay : ¬ Gm.May G B I) (w : World) : Calls Try.prog 5 #[geomV G B I] w fun e w' => e = .returned (.tuple #[.slice none 0 0, .int .i64 170]) ∧ Below w.heap.size w w' := by
  obtain ⟨W1, hW1⟩ : ∃ W1, w.alloc (geomO G B I) = W1 := ⟨_, rfl⟩
  have hb1 : Below w.heap.size w W1 := by rw [← hW1]; exact grew_alloc _ _
  have hg1 : W1.heap[w.heap.size]? = some (geomO G B I) := by rw [← hW1]; exact at_new rfl
  have hca := rcan_not hmay W1
  go_enter Try.func5, Try.ntmps5
  go_wp2_with (first
    | (refine wpList_load_row rfl 23 (.tmp 1) rfl w.heap.size rfl 23 _ (0, 0) _ hg1 Try.underlying23 rfl info23 ?_))
  refine grew_at hca ?_
  intro w2 hb2
  have HB : Hid (Below w.heap.size w w2) := grew_trans hb1 hb2
  clear hca hg1 hb1 hb2
  dsimp only
  go_wp2_with fail
  go_ret2
  exact ⟨rfl, HB.out⟩
set_option maxHeartbeats 1000000 in
theorem sameNone_ok (w : World) : Calls Try.prog 6 #[.slice none 0 0, .slice none 0 0] w fun e w' => e = .returned (.bool true) ∧ w' = w := by
  have he : Calls Try.prog 16 #[.slice none 0 0, .slice none 0 0, .func (.func 17) #[] #[]] w fun e w' => e = .returned (.bool true) ∧ w' = w := by
    go_enter Try.func16, Try.ntmps16
    go_wp2_with fail
    go_loopw [17] (fun iv wr => iv = .int .i64 0 ∧ wr = w) (fun iv _ => 0)
    case atStart => exact ⟨rfl, rfl⟩
    case round =>
      obtain ⟨rfl, rfl⟩ := hrel
      go_wp2_with fail
      go_ret
      exact ⟨rfl, rfl⟩
  go_enter Try.func6, Try.ntmps6
  go_wp2_with (first | (go_at_call 16; refine same_at he ?_))
  go_ret
  exact ⟨rfl, rfl⟩

set_option maxHeartbeats 4000000 in
theorem mkfsMakes_walk (G B I : Int) (w : World) : Calls Try.prog 3 #[geomV G B I] w fun e w' => e = .returned (.bool true) ∧ Below w.heap.size w w' := by
  obtain ⟨W1, hW1⟩ : ∃ W1, w.alloc (geomO G B I) = W1 := ⟨_, rfl⟩
  have hb1 : Below w.heap.size w W1 := by rw [← hW1]; exact grew_alloc _ _
  have hg1 : W1.heap[w.heap.size]? = some (geomO G B I) := by rw [← hW1]; exact at_new rfl
  by_cases hmay : Gm.May G B I
  · have hm := hmay.all
    obtain ⟨g, rfl⟩ := Int.eq_ofNat_of_zero_le (show 0 ≤ G by omega)
    obtain ⟨b, rfl⟩ := Int.eq_ofNat_of_zero_le (show 0 ≤ B by omega)
    obtain ⟨i, rfl⟩ := Int.eq_ofNat_of_zero_le (show 0 ≤ I by omega)
    have hn : g * b ≤ 2048 := Nat.le_trans (Nat.mul_le_mul (show g ≤ 8 by omega) (show b ≤ 256 by omega)) (by decide)
    have hmk := make_ok g b i hmay W1
    go_enter Try.func3, Try.ntmps3
    go_wp2_with (first
      | (refine wpList_load_row rfl 23 (.tmp 1) rfl w.heap.size rfl 23 _ (0, 0) _ hg1 Try.underlying23 rfl info23 ?_))
    refine Calls.mono hmk ?_
    rintro e w2 ⟨A, rfl, hR2, hb2⟩
    have hg2 := (hb2.block _ (Array.getElem?_eq_some_iff.1 hg1).1).trans hg1
    have hB2 := grew_trans hb1 hb2
    have hrm := rmake_ok g b i hmay w2
    clear hmk hg1 hb1 hb2
    dsimp only
    go_wp2_with (first
      | (refine wpList_load_row rfl 23 (.tmp 1) rfl w.heap.size rfl 23 _ (0, 0) _ hg2 Try.underlying23 rfl info23 ?_))
    refine Calls.mono hrm ?_
    rintro e w3 ⟨A', cap, rfl, hR3, hb3⟩
    have HB : Hid (Below w.heap.size w w3) := grew_trans hB2 hb3
    have hsa := sameImage_ok (g * b) cap hn (hR2.kept hb3) hR3
    clear hrm hg2 hB2 hb3 hR2 hR3
    dsimp only
    go_wp2_with (first | (go_at_call 6; refine same_at hsa ?_))
    go_ret
    exact ⟨rfl, HB.out⟩
  · have hmk := make_no G B I hmay W1
    go_enter Try.func3, Try.ntmps3
    go_wp2_with (first
      | (refine wpList_load_row rfl 23 (.tmp 1) rfl w.heap.size rfl 23 _ (0, 0) _ hg1 Try.underlying23 rfl info23 ?_))
    refine grew_at hmk ?_
    intro w2 hb2
    have hg2 := (hb2.block _ (Array.getElem?_eq_some_iff.1 hg1).1).trans hg1
    have hB2 := grew_trans hb1 hb2
    have hrm := rmake_no G B I hmay w2
    clear hmk hg1 hb1 hb2
    dsimp only
    go_wp2_with (first
      | (refine wpList_load_row rfl 23 (.tmp 1) rfl w.heap.size rfl 23 _ (0, 0) _ hg2 Try.underlying23 rfl info23 ?_))
    refine grew_at hrm ?_
    intro w3 hb3
    have HB : Hid (Below w.heap.size w w3) := grew_trans hB2 hb3
    have hsa := sameNone_ok w3
    clear hrm hg2 hB2 hb3
    dsimp only
    go_wp2_with (first | (go_at_call 6; refine same_at hsa ?_))
    go_ret
    exact ⟨rfl, HB.out⟩
end Go.Proofs.Ytgonehldgojcmaa
