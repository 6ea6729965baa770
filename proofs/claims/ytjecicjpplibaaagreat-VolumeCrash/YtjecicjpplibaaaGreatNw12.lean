/- Held Use -/
import Derived.Test.YtjecicjpplibaaaGreatNw11

/- Held: the blocks that have buffers, the one that was used longest ago first. -/
namespace Go.Proofs.YtjecicjpplibaaaGreat
open Go.RowKit Go.Maps
set_option maxRecDepth 100000
set_option linter.unusedVariables false

def blks (L : List Bf) : List Int := L.map (fun f => (f.b : Int))
/-- When a block was used last. -/
def uf (L : List Bf) (x : Int) : Int := match L.find? (fun f => (f.b : Int) == x) with | some f => (f.u : Int) | none => 0

theorem uf_at {L : List Bf} (hd : (L.map (·.b)).Nodup) {f : Bf} (hf : f ∈ L) : uf L (f.b : Int) = (f.u : Int) := by
  unfold uf
  induction L with
  | nil => cases hf
  | cons k L ih =>
    rw [List.map_cons, List.nodup_cons] at hd
    by_cases e : k.b = f.b
    · have : k = f := by
        rcases List.mem_cons.1 hf with h | h
        · exact h.symm
        · exact absurd (List.mem_map.2 ⟨f, h, e.symm⟩) hd.1
      subst this
      simp
    · have hf' : f ∈ L := by
        rcases List.mem_cons.1 hf with h | h
        · subst h; exact absurd rfl e
        · exact h
      have hne : ((k.b : Int) == (f.b : Int)) = false := by
        rw [beq_eq_false_iff_ne]; omega
      rw [List.find?_cons, hne]
      exact ih hd.2 hf'

theorem get_bang (d : Array Int) (i : Nat) (h : i < d.toList.length) : d[i]! = d.toList[i] := by
  have h' : i < d.size := by simpa using h
  simp [getElem!_pos, h']

/-- Sorted by when they were used, the blocks are the cache's own order. -/
theorem sorted_blks {L : List Bf} (hd : (L.map (·.b)).Nodup) (ho : L.Pairwise (fun f h => f.u < h.u)) {ss : List Int} (hn : ss.Nodup) (hm : ∀ x, x ∈ ss ↔ x ∈ blks L) :
    (Go.Sort.insertionSort (ult (uf L)) ss.toArray 0 ss.length).toList = blks L := by
  have hnb : (blks L).Nodup := by
    have e : blks L = (L.map (·.b)).map (fun n : Nat => (n : Int)) := by simp [blks]
    rw [e]
    exact List.Pairwise.map _ (fun a b h e => h (by omega)) hd
  have hp0 : ss.Perm (blks L) := (List.perm_ext_iff_of_nodup hn hnb).2 hm
  obtain ⟨hP, hS⟩ := Go.Sort.insertionSort_holds (ult_swo (uf L)) ss.toArray 0 ss.length (Nat.zero_le _) (by simp)
  generalize hdd : Go.Sort.insertionSort (ult (uf L)) ss.toArray 0 ss.length = D at *
  have hsz : D.size = ss.length := by have := hP.1; simpa using this
  have hp1 : D.toList.Perm ss := by
    have h3 := hP.2.2
    rw [show D.extract 0 ss.length = D by rw [← hsz]; simp, show ss.toArray.extract 0 ss.length = ss.toArray by simp] at h3
    simpa using h3
  have hp : D.toList.Perm (blks L) := hp1.trans hp0
  refine List.Perm.eq_of_pairwise (le := fun x y => ¬ uf L y < uf L x) ?_ ?_ ?_ hp
  · intro a b ha hb h1 h2
    rw [hp.mem_iff] at ha
    obtain ⟨f, hf, rfl⟩ := List.mem_map.1 ha
    obtain ⟨k, hk, rfl⟩ := List.mem_map.1 hb
    rw [uf_at hd hf, uf_at hd hk] at h1 h2
    have hu : f.u = k.u := by omega
    have : f = k := by
      clear hp hp1 hp0 hP hS hdd hsz ha hb h1 h2 hnb hm hn
      induction L with
      | nil => cases hf
      | cons m L ih =>
        rw [List.pairwise_cons] at ho
        rw [List.map_cons, List.nodup_cons] at hd
        rcases List.mem_cons.1 hf with h | h
        · rcases List.mem_cons.1 hk with h' | h'
          · rw [h, h']
          · have := ho.1 k h'; rw [h] at hu; omega
        · rcases List.mem_cons.1 hk with h' | h'
          · have := ho.1 f h; rw [h'] at hu; omega
          · exact ih hd.2 ho.2 h h'
    rw [this]
  · rw [List.pairwise_iff_getElem]
    intro i j hi hj hij
    have := hS i j (Nat.zero_le _) hij (by simpa [hsz] using hj)
    rw [get_bang D i hi, get_bang D j hj] at this
    simpa [ult] using this
  · unfold blks
    rw [List.pairwise_map]
    refine List.Pairwise.imp_of_mem ?_ ho
    intro f k hf hk h
    rw [uf_at hd hf, uf_at hd hk]
    omega

section
variable {B : Nat} {w w' : World} {c mb d N : Nat} {C : Ch}

theorem CW.bnd (h : CW B w c mb d N C) : (C.L.map (·.b)).Nodup := by
  have := h.map.nd
  rw [List.map_map] at this
  exact this
theorem CW.twelve (h : CW B w c mb d N C) : C.L.length ≤ N := by
  have h1 := List.Nodup.length_le_of_subset h.bnd (l₂ := List.range N) (by
    intro x hx
    obtain ⟨f, hf, rfl⟩ := List.mem_map.1 hx
    exact List.mem_range.2 (h.bs f hf))
  simpa using h1

theorem eg49 (args : Array Value) (w : World) : (callFunc 182 args).run Tryz.prog w = .ok (.enter 182 args) w := by kernel_rfl

theorem nums_ar {H : Nat} {v : Value} {zs : List Int} (h : Nums H w v zs) (hv : v ≠ .slice none 0 0) : ∃ g cap, v = .slice (some ⟨g, 0, none⟩) zs.length cap ∧ H ≤ g ∧ Ar w g zs.length cap zs.toArray := by
  rcases h.2 with ⟨h', _⟩ | ⟨g, cap, cur, h', hbg, hg, rest⟩
  · exact absurd h' hv
  · exact ⟨g, cap, h', hbg, ⟨by simp, .inr ⟨g, cap, cur, rfl, Nat.le_refl _, hg, by simpa using rest⟩⟩⟩
theorem ar_nums {H g n cap : Nat} {D : Array Int} (h : Ar w g n cap D) (hH : H ≤ g) : Nums H w (.slice (some ⟨g, 0, none⟩) n cap) D.toList := by
  have hl := h.len
  refine ⟨by simp, ?_⟩
  rcases h.2 with ⟨h', _⟩ | ⟨g', cap', cur, h', hbg, hg, rest⟩
  · simp at h'
  · have e := Value.slice.inj h'
    obtain ⟨e1, _, e3⟩ := e
    have e1 : g = g' := by simpa using e1
    subst e1
    refine .inr ⟨g, cap', cur, by rw [e3]; simp [hl], hH, hg, ?_⟩
    have : D.toList.length = n := by simpa using hl
    rw [this]
    exact rest

theorem shape_case {H : Nat} {v : Value} {zs : List Int} (h : Nums H w v zs) : (v = .slice none 0 0 ∧ zs = []) ∨ ∃ g cap, v = .slice (some ⟨g, 0, none⟩) zs.length cap ∧ H ≤ g ∧ Ar w g zs.length cap zs.toArray := by
  rcases h.2 with ⟨h', h0⟩ | h'
  · exact .inl ⟨h', List.eq_nil_of_length_eq_zero h0⟩
  · exact .inr (nums_ar h (by obtain ⟨g, cap, cur, e, _⟩ := h'; rw [e]; simp))

set_option maxHeartbeats 1000000 in
/-- The library's SortedFunc, of a cache's keys by when they were used. -/
theorem sortedFunc_ok (h : CI B w c mb d N C) (cb Bm : Nat) (hcb : w.cell? ⟨cb, 0, none⟩ = some (.pointer (some ⟨c, 0, none⟩))) (hBm : w.cell? ⟨Bm, 0, none⟩ = some (.map (some mb))) :
    Calls Tryz.prog 180 #[.func (.func 186) #[] #[.pointer (some ⟨Bm, 0, none⟩)], .func (.func 182) #[] #[.pointer (some ⟨cb, 0, none⟩)]] w fun e w' => ∃ v, e = .returned v ∧ Nums w.heap.size w' v (blks C.L) ∧ Below w.heap.size w w' := by
  have h12 := h.twelve
  have hN := h.N12
  have hlb : (blks C.L).length ≤ 12 := by simp [blks]; omega
  obtain ⟨D, ho, hs, hk, hat⟩ := h.map.ex
  have hmem : ∀ x : Int, has D (.int .i64 x) = true ↔ x ∈ blks C.L := by
    intro x
    constructor
    · intro hx
      obtain ⟨p, hp, e⟩ := hk _ hx
      obtain ⟨f, hf, rfl⟩ := List.mem_map.1 hp
      have e : x = (f.b : Int) := by simpa [key, bg] using e
      rw [e]
      exact List.mem_map.2 ⟨f, hf, rfl⟩
    · intro hx
      obtain ⟨f, hf, rfl⟩ := List.mem_map.1 hx
      exact (hat (bg f) (List.mem_map.2 ⟨f, hf, rfl⟩)).1
  have hcol := Go.callsIn_wide.1 (collect_in Bm mb (size D) D w (lt_of_cell hBm) (by rw [hs]; simp; omega) hBm ho)
  have HM := (show Hid _ from hmem)
  clear hmem hat hk ho
  go_enter Tryz.func180, Tryz.ntmps180
  go_wp2_with (first
    | (go_at_call 116; refine Calls.mono hcol ?_; rintro e w1 ⟨v, ss, rfl, ⟨hn, hl, hx⟩, hN1, hb1⟩))
  have hmm : ∀ x, x ∈ ss ↔ x ∈ blks C.L := fun x => (hx x).trans (HM.out x)
  have hsort := sorted_blks h.bnd h.ord hn hmm
  have hlen : ss.length ≤ 12 := by
    have := List.Nodup.length_le_of_subset hn (l₂ := blks C.L) (fun x hx' => (hmm x).1 hx')
    omega
  have h1 := h.later hb1
  rcases shape_case hN1 with ⟨rfl, rfl⟩ | ⟨g, cap, rfl, hHg, hA⟩
  · have e0 : blks C.L = [] := by
      rw [List.eq_nil_iff_forall_not_mem]
      intro x hx'
      exact absurd ((hmm x).2 hx') (by simp)
    have hq := sortFunc_nil (.func (.func 182) #[] #[.pointer (some ⟨cb, 0, none⟩)]) w1
    clear hcol hsort hx hmm
    go_wp2_with (first | (go_at_call 185; refine Calls.mono hq ?_; rintro e w2 ⟨⟨v, rfl⟩, rfl⟩))
    go_ret
    exact ⟨_, rfl, by rw [e0]; exact Nums.nil _ _, hb1⟩
  · have hcb1 := (hb1.cell (p := ⟨cb, 0, none⟩) (lt_of_cell hcb)).trans hcb
    have hCmp : Cmp w1 g 182 cb (uf C.L) (fun x => x ∈ blks C.L) := by
      intro x y hx' hy' w' hf'
      obtain ⟨f, hf, rfl⟩ := List.mem_map.1 hx'
      obtain ⟨k, hk, rfl⟩ := List.mem_map.1 hy'
      rw [uf_at h.bnd hf, uf_at h.bnd hk]
      have hkeep : ∀ j, j < w.heap.size → w'.heap[j]? = w1.heap[j]? := fun j hj => hf'.block j (by have := hb1.size; omega) (by omega)
      have h' : CI B w' c mb d N C := h1.kept (fun j hj => hkeep j (h.in j hj).2)
      exact held1_ok h'.toCW cb (by rw [World.cell?_of_block (hkeep cb (lt_of_cell hcb))]; exact hcb1) hf hk
    have hq := sortFunc_ok g ss.length cap 182 cb (uf C.L) _ ss.toArray w1 hA hlen (by
      intro j hj
      have e : ss.toArray[j]! = ss[j] := by simp [getElem!_pos, hj]
      rw [e]
      exact (hmm _).1 (List.getElem_mem hj)) hCmp eg49
    clear hcol hx hmm
    go_wp2_with (first | (go_at_call 185; refine Calls.mono hq ?_; rintro e w2 ⟨⟨v, rfl⟩, hA2, hF⟩))
    go_ret
    have hN2 := ar_nums hA2 hHg
    rw [hsort] at hN2
    exact ⟨_, rfl, hN2, hb1.trans (hF.below hb1.size (fun k hk => by rw [hk]; exact hHg))⟩

set_option maxHeartbeats 1000000 in
theorem held_ok (h : CI B w c mb d N C) : Calls Tryz.prog 171 #[.pointer (some ⟨c, 0, none⟩)] w fun e w' => ∃ v, e = .returned v ∧ Nums w.heap.size w' v (blks C.L) ∧ Below w.heap.size w w' := by
  have hb0 := (Below.refl w.heap.size w).alloc (Nat.le_refl _) (.cells #[.pointer (some ⟨c, 0, none⟩)] 71)
  have h1 := h.later hb0
  have hb1 := hb0.alloc (show w.heap.size ≤ _ by simp) (.cells #[.map (some mb)] 138)
  have h2 := h.later hb1
  have bx := Boxed.new w 71 (.pointer (some ⟨c, 0, none⟩))
  have by1 := Boxed.new (w.alloc (.cells #[.pointer (some ⟨c, 0, none⟩)] 71)) 138 (.map (some mb))
  have hm := cmade_ok h1.toCW
  have hc := h1.c2
  have hk := Go.callsIn_wide.1 (keys_in 1 (some mb) (w.alloc (.cells #[.pointer (some ⟨c, 0, none⟩)] 71)))
  have hs := sortedFunc_ok h2 w.heap.size (w.heap.size + 1) (bx.alloc _).cell (by have := by1.cell; rw [World.size_alloc] at this; exact this)
  rw [World.size_alloc] at hk
  clear h h1 h2 by1
  go_enter Tryz.func171, Tryz.ntmps171
  go_wp2_with (first
    | (go_at_call 153; refine same_at hm ?_)
    | (go_at_call 181; refine Calls.mono hk ?_; rintro e w3 ⟨rfl, rfl⟩)
    | (go_at_call 180; refine Calls.mono hs ?_; rintro e w4 ⟨v, rfl, hN4, hb4⟩))
  go_ret
  exact ⟨v, rfl, hN4.base (by simp; omega), hb1.trans (hb4.mono (by simp; omega))⟩
end
end Go.Proofs.YtjecicjpplibaaaGreat

/- The buffer that goes first; a buffer that is used. -/
namespace Go.Proofs.YtjecicjpplibaaaGreat
open Go.RowKit Go.Maps
set_option maxRecDepth 100000
set_option linter.unusedVariables false

/-- The one that goes: the first that is not pinned. -/
def vic (L : List Bf) : Option Bf := L.find? (fun f => f.p == 0)
def vicV (L : List Bf) : Value := match vic L with | some f => .tuple #[.int .i64 (f.b : Int), .bool true] | none => .tuple #[.int .i64 0, .bool false]

theorem Nums.shape {H : Nat} {w : World} {v : Value} {zs : List Int} (h : Nums H w v zs) : ∃ p cp, v = .slice p zs.length cp ∧ (0 < zs.length → ∃ g, p = some ⟨g, 0, none⟩ ∧ ∀ i, i < zs.length → w.cell? ⟨g, i, none⟩ = some (.int .i64 (zs.getD i 0))) := by
  rcases h.2 with ⟨e, e0⟩ | ⟨g, cap, cur, e, k⟩
  · rw [e0]
    exact ⟨_, _, e, fun h => by omega⟩
  · refine ⟨_, _, e, fun h0 => ⟨g, rfl, fun i hi => ?_⟩⟩
    have h' : w.ownsRow H 3 1 (.slice (some ⟨g, 0, none⟩) zs.length cap) zs.length (zs.map (Value.int .i64)) := by rw [← e]; exact h
    rw [h'.cellAt i (by omega), List.getElem?_map, List.getD_eq_getElem?_getD, List.getElem?_eq_getElem (by omega)]
    rfl

section
variable {B : Nat} {w w' : World} {c mb d N : Nat} {C : Ch}

set_option maxHeartbeats 1000000 in
theorem oldest_ok (h : CI B w c mb d N C) : Calls Tryz.prog 157 #[.pointer (some ⟨c, 0, none⟩)] w fun e w' => e = .returned (vicV C.L) ∧ Below w.heap.size w w' := by
  have hh := held_ok h
  have hN := h.N12
  have h12 := h.twelve
  go_enter Tryz.func157, Tryz.ntmps157
  go_wp2_with (first
    | (go_at_call 171; refine Calls.mono hh ?_; rintro e w1 ⟨v, rfl, hN1, hb1⟩; have hci := h.later hb1; obtain ⟨p, cp, rfl, hcell⟩ := hN1.shape; have hbl : (blks C.L).length = C.L.length := by simp [blks]))
  go_loopw [9] (fun i wr => ∃ j : Nat, j ≤ C.L.length ∧ i = .int .i64 (j : Int) ∧ (∀ f ∈ C.L.take j, ¬ f.p = 0) ∧ wr = w1) (fun i _ => C.L.length - (intOf i).toNat)
  case atStart => exact ⟨0, by omega, rfl, by simp, rfl⟩
  case round =>
    obtain ⟨j, hj, rfl, hno, rfl⟩ := hrel
    by_cases hlt : j < C.L.length
    · obtain ⟨g, rfl, hc⟩ := hcell (by omega)
      have hcj := hc j (by omega)
      have hf := List.getElem_mem hlt
      have e : (blks C.L).getD j 0 = ((C.L[j]).b : Int) := by
        rw [List.getD_eq_getElem?_getD]
        simp [blks, hlt]
      rw [e] at hcj
      have hp := pinned_hit hci.toCW hf
      have hjI : (j : Int) < (C.L.length : Int) := by omega
      have hj0 : (0 : Int) ≤ (j : Int) := by omega
      by_cases h0 : (C.L[j]).p = 0
      · have hv : vic C.L = some C.L[j] := by
          unfold vic
          rw [List.find?_eq_some_iff_getElem]
          refine ⟨by simpa using h0, j, hlt, rfl, fun k hk => ?_⟩
          have := hno C.L[k] (by rw [List.mem_take_iff_getElem]; exact ⟨k, by omega, rfl⟩)
          simpa using this
        have HV : Hid (vicV C.L = .tuple #[.int .i64 ((C.L[j]).b : Int), .bool true]) := by
          show vicV C.L = _
          unfold vicV
          rw [hv]
        rw [decide_eq_false (show ¬ 0 < (C.L[j]).p by omega)] at hp
        clear hc hcell hh hv e h0
        generalize (C.L[j]).b = bb at *
        go_wp2_with (first | (go_at_call 172; refine same_at hp ?_))
        go_ret2
        rw [HV.out]
        exact ⟨rfl, hb1⟩
      · rw [decide_eq_true (show 0 < (C.L[j]).p by omega)] at hp
        have HN : Hid (∀ f ∈ C.L.take (j + 1), ¬ f.p = 0) := by
          intro f hf'
          rw [List.take_add_one, List.getElem?_eq_getElem hlt] at hf'
          rcases List.mem_append.1 hf' with h' | h'
          · exact hno f h'
          · simp at h'
            rw [h']
            exact h0
        clear hc hcell hh e h0 hno
        generalize (C.L[j]).b = bb at *
        go_wp2_with (first | (go_at_call 172; refine same_at hp ?_))
        go_roundw
        case rel => exact ⟨j + 1, by omega, by go_num, HN.out, trivial⟩
        case measure => simp [intOf]; omega
    · obtain rfl : j = C.L.length := by omega
      rw [List.take_length] at hno
      have hv : vic C.L = none := by
        unfold vic
        rw [List.find?_eq_none]
        intro f hf
        have := hno f hf
        simpa using this
      have HV : Hid (vicV C.L = .tuple #[.int .i64 0, .bool false]) := by
        show vicV C.L = _
        unfold vicV
        rw [hv]
      clear hcell hh hv hno
      go_wp2
      go_ret2
      rw [HV.out]
      exact ⟨rfl, hb1⟩
end

set_option maxHeartbeats 400000 in
theorem sclone_some (a : Addr) (n c : Nat) (xs : List Int) (w : World) (h : BI w (some a) n xs) :
    Calls Tryz.prog 61 #[.slice (some a) n c] w fun e w' => ∃ g cap, e = .returned (.slice (some ⟨g, 0, none⟩) n cap) ∧ Own w.heap.size w' g n cap xs ∧ Below w.heap.size w w' := by
  obtain ⟨i0, hi, hz0, hz1, hz2⟩ := info_parts info5
  have hbig := h.big
  have hlen := h.len
  have q22 := eqlNil
  have hb0 := (Below.refl w.heap.size w).alloc (Nat.le_refl _) (Obj.cells #[] 5)
  go_enter Tryz.func61, Tryz.ntmps61
  go_wp2_with (at_builtin; refine wpList_append_own _ rfl _ _ 42 rfl w.heap.size 5 i0 (.int .u8 0) 1 1 Tryz.underlying42 hi hz0 hz1 hz2 rfl (by decide) _ _ _ rfl (World.ownsRow_made w #[] 0 (Nat.le_refl _) (Nat.zero_le _) rfl) a n c (xs.map (Value.int .u8)) rfl ?c1 ?c2 ?c3 ?c4 ?c5 ?c6 ?_)
  case c1 => simp [hlen]
  case c2 => exact (h.kept hb0).src'
  case c3 => exact one_cells xs
  case c4 => unfold maxLen; omega
  case c5 => omega
  case c6 => simp
  intro v' w1 hown hgrow hnil
  obtain ⟨g, cap, hv, ho⟩ := own_shape hown (by first | exact hnil | (intro e; exact absurd (hnil.1 e).1 (by simp)))
  rw [hv]
  clear hown hnil
  have hb1 := hb0.grown hgrow (by simp) (by intro k hk; simp [Value.ownBlock] at hk; omega)
  go_wp2
  go_ret
  exact ⟨g, cap, rfl, ho, hb1⟩

theorem bufA_used {f : Bf} (h : Sect f.xs) (u : Nat) : (bufA f).setIfInBounds 128 (.int .i64 (u : Int)) = bufA { f with u := u } := by
  have hl := h.1
  apply Array.ext'
  simp only [bufA, bufL, Array.toList_setIfInBounds]
  rw [List.set_append_right _ _ (by simp [hl])]
  simp [hl]
theorem bufA_pins {f : Bf} (h : Sect f.xs) (p : Nat) : (bufA f).setIfInBounds 129 (.int .i64 (p : Int)) = bufA { f with p := p } := by
  have hl := h.1
  apply Array.ext'
  simp only [bufA, bufL, Array.toList_setIfInBounds]
  rw [List.set_append_right _ _ (by simp [hl])]
  simp [hl]

section
variable {B : Nat} {w w' : World} {c mb d N : Nat} {C : Ch}
theorem buf_bi {w : World} {f : Bf} (h : w.heap[f.g]? = some (.cells (bufA f) 158 (0, 0))) (hs : Sect f.xs) : BI w (some ⟨f.g, 0, none⟩) 128 f.xs := by
  refine ⟨hs.1, by omega, hs.2, fun _ => ⟨f.g, 0, rfl, fun i hi => ?_⟩⟩
  have hl := hs.1
  have e : (bufA f)[i]? = some (.int .u8 (f.xs.getD i 0)) := by
    unfold bufA bufL
    rw [List.getElem?_toArray, List.getElem?_append_left (by simp [hl]; omega), List.getElem?_map, List.getD_eq_getElem?_getD, List.getElem?_eq_getElem (by omega)]
    rfl
  simp [World.cell?, h, e]
/-- One buffer turned, in its place. -/
def rep (L : List Bf) (f : Bf) : List Bf := L.map (fun k => if k.b = f.b then f else k)
theorem mem_rep {L : List Bf} {f k : Bf} (h : k ∈ rep L f) : k = f ∨ (k ∈ L ∧ ¬ k.b = f.b) := by
  obtain ⟨m, hm, e⟩ := List.mem_map.1 h
  by_cases hb : m.b = f.b
  · rw [if_pos hb] at e; exact .inl e.symm
  · rw [if_neg hb] at e; subst e; exact .inr ⟨hm, hb⟩
theorem same_of_b {L : List Bf} (hd : (L.map (·.b)).Nodup) {f k : Bf} (hf : f ∈ L) (hk : k ∈ L) (e : k.b = f.b) : k = f := by
  induction L with
  | nil => cases hf
  | cons m L ih =>
    rw [List.map_cons, List.nodup_cons] at hd
    rcases List.mem_cons.1 hf with h | h
    · rcases List.mem_cons.1 hk with h' | h'
      · rw [h, h']
      · exact absurd (List.mem_map.2 ⟨k, h', by rw [e, h]⟩) hd.1
    · rcases List.mem_cons.1 hk with h' | h'
      · exact absurd (List.mem_map.2 ⟨f, h, by rw [← e, h']⟩) hd.1
      · exact ih hd.2 h h'
theorem ne_of_g {L : List Bf} (hd : (L.map (·.g)).Nodup) {f k : Bf} (hf : f ∈ L) (hk : k ∈ L) (e : ¬ k = f) : ¬ k.g = f.g := by
  intro e'
  induction L with
  | nil => cases hf
  | cons m L ih =>
    rw [List.map_cons, List.nodup_cons] at hd
    rcases List.mem_cons.1 hf with h | h
    · rcases List.mem_cons.1 hk with h' | h'
      · exact e (by rw [h, h'])
      · exact absurd (List.mem_map.2 ⟨k, h', by rw [e', h]⟩) hd.1
    · rcases List.mem_cons.1 hk with h' | h'
      · exact absurd (List.mem_map.2 ⟨f, h, by rw [← e', h']⟩) hd.1
      · exact ih hd.2 h h'
theorem rep_map {β : Type} {L : List Bf} (hd : (L.map (·.b)).Nodup) {f f' : Bf} (hf : f ∈ L) (hb : f'.b = f.b) (φ : Bf → β) (hφ : φ f' = φ f) : (rep L f').map φ = L.map φ := by
  unfold rep
  rw [List.map_map]
  apply List.map_congr_left
  intro k hk
  simp only [Function.comp]
  by_cases e : k.b = f'.b
  · rw [if_pos e, hφ, same_of_b hd hf hk (by rw [e, hb])]
  · rw [if_neg e]

/-- A cache with one buffer turned in its place. -/
theorem CW.rep (h : CW B w c mb d N C) {f f' : Bf} (hf : f ∈ C.L) (hb : f'.b = f.b) (hg : f'.g = f.g) (hs : Sect f'.xs) (hp : f'.p ≤ 100) (hc : w'.heap[c]? = w.heap[c]?) (hm : w'.heap[mb]? = w.heap[mb]?)
    (ho : ∀ k ∈ C.L, ¬ k.g = f.g → w'.heap[k.g]? = w.heap[k.g]?) (hn : w'.heap[f.g]? = some (.cells (bufA f') 158 (0, 0))) : CW B w' c mb d N { C with L := YtjecicjpplibaaaGreat.rep C.L f' } := by
  have hd := h.bnd
  refine { row := hc.trans h.row, map := ?_, buf := ?_, sec := ?_, gs := ?_, ps := ?_, bs := ?_, N12 := h.N12, bd := h.bd, len := ?_, lo := ⟨h.lo.1, h.lo.2.1, ?_⟩, cnt := h.cnt }
  · show Bm w' mb ((YtjecicjpplibaaaGreat.rep C.L f').map bg)
    rw [rep_map hd hf hb bg (by simp [bg, hb, hg])]
    exact h.map.kept hm
  · intro k hk
    rcases mem_rep hk with rfl | ⟨hk, hne⟩
    · rw [hg]; exact hn
    · rw [ho k hk (ne_of_g h.gs hf hk (fun e => hne (by rw [e, hb])))]
      exact h.buf k hk
  · intro k hk
    rcases mem_rep hk with rfl | ⟨hk, hne⟩
    · exact hs
    · exact h.sec k hk
  · show ((YtjecicjpplibaaaGreat.rep C.L f').map (·.g)).Nodup
    rw [rep_map hd hf hb (·.g) hg]
    exact h.gs
  · intro k hk
    rcases mem_rep hk with rfl | ⟨hk, hne⟩
    · exact hp
    · exact h.ps k hk
  · intro k hk
    rcases mem_rep hk with rfl | ⟨hk, hne⟩
    · rw [hb]; exact h.bs f hf
    · exact h.bs k hk
  · show (YtjecicjpplibaaaGreat.rep C.L f').length ≤ C.bd
    simp only [YtjecicjpplibaaaGreat.rep, List.length_map]
    exact h.len
  · intro k hk
    rcases mem_rep hk with rfl | ⟨hk, hne⟩
    · rw [hg]; exact h.lo.2.2 f hf
    · exact h.lo.2.2 k hk
theorem CI.rep (h : CI B w c mb d N C) {f f' : Bf} (hf : f ∈ C.L) (hb : f'.b = f.b) (hg : f'.g = f.g) (hu : f'.u = f.u) (hs : Sect f'.xs) (hp : f'.p ≤ 100) (hc : w'.heap[c]? = w.heap[c]?) (hm : w'.heap[mb]? = w.heap[mb]?)
    (ho : ∀ k ∈ C.L, ¬ k.g = f.g → w'.heap[k.g]? = w.heap[k.g]?) (hn : w'.heap[f.g]? = some (.cells (bufA f') 158 (0, 0))) : CI B w' c mb d N { C with L := YtjecicjpplibaaaGreat.rep C.L f' } := by
  refine { CW.rep h.toCW hf hb hg hs hp hc hm ho hn with ord := ?_, us := ?_ }
  · have e := rep_map h.bnd hf hb (·.u) hu
    have h1 : (C.L.map (·.u)).Pairwise (· < ·) := List.pairwise_map.2 h.ord
    rw [← e] at h1
    exact List.pairwise_map.1 h1
  · intro k hk
    rcases mem_rep hk with rfl | ⟨hk, hne⟩
    · rw [hu]; exact h.us f hf
    · exact h.us k hk
end
end Go.Proofs.YtjecicjpplibaaaGreat
