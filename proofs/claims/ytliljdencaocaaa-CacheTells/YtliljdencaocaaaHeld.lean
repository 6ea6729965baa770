/- Held: the blocks that have buffers, the one that was used longest ago first. -/
import Derived.Test.YtliljdencaocaaaCache
namespace Go.Proofs.Ytliljdencaocaaa
open Go.RowKit Go.Maps
set_option linter.unusedVariables false

def blks (L : List Bf) : List Int := L.map (fun f => (f.b : Int))
/-- When a block was used last. -/
def uf (L : List Bf) (x : Int) : Int := match L.find? (fun f => (f.b : Int) == x) with | some f => (f.u : Int) | none => 0

theorem uf_at {L : List Bf} (hd : (L.map (·.b)).Nodup) {f : Bf} (hf : f ∈ L) : uf L (f.b : Int) = (f.u : Int) := by
  unfold uf
  induction L with
  | nil => cases hf
  | cons k L ih =>
    rw [List.map_cons, List.nodup_cons] at hd
    by_cases e : k.b = f.b
    · have : k = f := by
        rcases List.mem_cons.1 hf with h | h
        · exact h.symm
        · exact absurd (List.mem_map.2 ⟨f, h, e.symm⟩) hd.1
      subst this
      simp
    · have hf' : f ∈ L := by
        rcases List.mem_cons.1 hf with h | h
        · subst h; exact absurd rfl e
        · exact h
      have hne : ((k.b : Int) == (f.b : Int)) = false := by
        rw [beq_eq_false_iff_ne]; omega
      rw [List.find?_cons, hne]
      exact ih hd.2 hf'

theorem get_bang (d : Array Int) (i : Nat) (h : i < d.toList.length) : d[i]! = d.toList[i] := by
  have h' : i < d.size := by simpa using h
  simp [getElem!_pos, h']

/-- Sorted by when they were used, the blocks are the cache's own order. -/
theorem sorted_blks {L : List Bf} (hd : (L.map (·.b)).Nodup) (ho : L.Pairwise (fun f h => f.u < h.u)) {ss : List Int} (hn : ss.Nodup) (hm : ∀ x, x ∈ ss ↔ x ∈ blks L) :
    (Go.Sort.insertionSort (ult (uf L)) ss.toArray 0 ss.length).toList = blks L := by
  have hnb : (blks L).Nodup := by
    have e : blks L = (L.map (·.b)).map (fun n : Nat => (n : Int)) := by simp [blks]
    rw [e]
    exact List.Pairwise.map _ (fun a b h e => h (by omega)) hd
  have hp0 : ss.Perm (blks L) := (List.perm_ext_iff_of_nodup hn hnb).2 hm
  obtain ⟨hP, hS⟩ := Go.Sort.insertionSort_holds (ult_swo (uf L)) ss.toArray 0 ss.length (Nat.zero_le _) (by simp)
  generalize hdd : Go.Sort.insertionSort (ult (uf L)) ss.toArray 0 ss.length = D at *
  have hsz : D.size = ss.length := by have := hP.1; simpa using this
  have hp1 : D.toList.Perm ss := by
    have h3 := hP.2.2
    rw [show D.extract 0 ss.length = D by rw [← hsz]; simp, show ss.toArray.extract 0 ss.length = ss.toArray by simp] at h3
    simpa using h3
  have hp : D.toList.Perm (blks L) := hp1.trans hp0
  refine List.Perm.eq_of_pairwise (le := fun x y => ¬ uf L y < uf L x) ?_ ?_ ?_ hp
  · intro a b ha hb h1 h2
    rw [hp.mem_iff] at ha
    obtain ⟨f, hf, rfl⟩ := List.mem_map.1 ha
    obtain ⟨k, hk, rfl⟩ := List.mem_map.1 hb
    rw [uf_at hd hf, uf_at hd hk] at h1 h2
    have hu : f.u = k.u := by omega
    have : f = k := by
      clear hp hp1 hp0 hP hS hdd hsz ha hb h1 h2 hnb hm hn
      induction L with
      | nil => cases hf
      | cons m L ih =>
        rw [List.pairwise_cons] at ho
        rw [List.map_cons, List.nodup_cons] at hd
        rcases List.mem_cons.1 hf with h | h
        · rcases List.mem_cons.1 hk with h' | h'
          · rw [h, h']
          · have := ho.1 k h'; rw [h] at hu; omega
        · rcases List.mem_cons.1 hk with h' | h'
          · have := ho.1 f h; rw [h'] at hu; omega
          · exact ih hd.2 ho.2 h h'
    rw [this]
  · rw [List.pairwise_iff_getElem]
    intro i j hi hj hij
    have := hS i j (Nat.zero_le _) hij (by simpa [hsz] using hj)
    rw [get_bang D i hi, get_bang D j hj] at this
    simpa [ult] using this
  · unfold blks
    rw [List.pairwise_map]
    refine List.Pairwise.imp_of_mem ?_ ho
    intro f k hf hk h
    rw [uf_at hd hf, uf_at hd hk]
    omega

section
variable {B : Nat} {w w' : World} {c mb d N : Nat} {C : Ch}

theorem CW.bnd (h : CW B w c mb d N C) : (C.L.map (·.b)).Nodup := by
  have := h.map.nd
  rw [List.map_map] at this
  exact this
theorem CW.twelve (h : CW B w c mb d N C) : C.L.length ≤ N := by
  have h1 := List.Nodup.length_le_of_subset h.bnd (l₂ := List.range N) (by
    intro x hx
    obtain ⟨f, hf, rfl⟩ := List.mem_map.1 hx
    exact List.mem_range.2 (h.bs f hf))
  simpa using h1

theorem eg49 (args : Array Value) (w : World) : (callFunc 49 args).run Try.prog w = .ok (.enter 49 args) w := by kernel_rfl

theorem nums_ar {H : Nat} {v : Value} {zs : List Int} (h : Nums H w v zs) (hv : v ≠ .slice none 0 0) : ∃ g cap, v = .slice (some ⟨g, 0, none⟩) zs.length cap ∧ H ≤ g ∧ Ar w g zs.length cap zs.toArray := by
  rcases h.2 with ⟨h', _⟩ | ⟨g, cap, cur, h', hbg, hg, rest⟩
  · exact absurd h' hv
  · exact ⟨g, cap, h', hbg, ⟨by simp, .inr ⟨g, cap, cur, rfl, Nat.le_refl _, hg, by simpa using rest⟩⟩⟩
theorem ar_nums {H g n cap : Nat} {D : Array Int} (h : Ar w g n cap D) (hH : H ≤ g) : Nums H w (.slice (some ⟨g, 0, none⟩) n cap) D.toList := by
  have hl := h.len
  refine ⟨by simp, ?_⟩
  rcases h.2 with ⟨h', _⟩ | ⟨g', cap', cur, h', hbg, hg, rest⟩
  · simp at h'
  · have e := Value.slice.inj h'
    obtain ⟨e1, _, e3⟩ := e
    have e1 : g = g' := by simpa using e1
    subst e1
    refine .inr ⟨g, cap', cur, by rw [e3]; simp [hl], hH, hg, ?_⟩
    have : D.toList.length = n := by simpa using hl
    rw [this]
    exact rest

theorem shape_case {H : Nat} {v : Value} {zs : List Int} (h : Nums H w v zs) : (v = .slice none 0 0 ∧ zs = []) ∨ ∃ g cap, v = .slice (some ⟨g, 0, none⟩) zs.length cap ∧ H ≤ g ∧ Ar w g zs.length cap zs.toArray := by
  rcases h.2 with ⟨h', h0⟩ | h'
  · exact .inl ⟨h', List.eq_nil_of_length_eq_zero h0⟩
  · exact .inr (nums_ar h (by obtain ⟨g, cap, cur, e, _⟩ := h'; rw [e]; simp))

set_option maxHeartbeats 1000000 in
/-- The library's SortedFunc, of a cache's keys by when they were used. -/
theorem sortedFunc_ok (h : CI B w c mb d N C) (cb Bm : Nat) (hcb : w.cell? ⟨cb, 0, none⟩ = some (.pointer (some ⟨c, 0, none⟩))) (hBm : w.cell? ⟨Bm, 0, none⟩ = some (.map (some mb))) :
    Calls Try.prog 47 #[.func (.func 76) #[] #[.pointer (some ⟨Bm, 0, none⟩)], .func (.func 49) #[] #[.pointer (some ⟨cb, 0, none⟩)]] w fun e w' => ∃ v, e = .returned v ∧ Nums w.heap.size w' v (blks C.L) ∧ Below w.heap.size w w' := by
  have h12 := h.twelve
  have hN := h.N12
  have hlb : (blks C.L).length ≤ 12 := by simp [blks]; omega
  obtain ⟨D, ho, hs, hk, hat⟩ := h.map.ex
  have hmem : ∀ x : Int, has D (.int .i64 x) = true ↔ x ∈ blks C.L := by
    intro x
    constructor
    · intro hx
      obtain ⟨p, hp, e⟩ := hk _ hx
      obtain ⟨f, hf, rfl⟩ := List.mem_map.1 hp
      have e : x = (f.b : Int) := by simpa [key, bg] using e
      rw [e]
      exact List.mem_map.2 ⟨f, hf, rfl⟩
    · intro hx
      obtain ⟨f, hf, rfl⟩ := List.mem_map.1 hx
      exact (hat (bg f) (List.mem_map.2 ⟨f, hf, rfl⟩)).1
  have hcol := Go.callsIn_wide.1 (collect_in Bm mb (size D) D w (lt_of_cell hBm) (by rw [hs]; simp; omega) hBm ho)
  have HM := (show Hid _ from hmem)
  clear hmem hat hk ho
  go_enter Try.func47, Try.ntmps47
  go_wp2_with (first
    | (go_at_call 74; refine Calls.mono hcol ?_; rintro e w1 ⟨v, ss, rfl, ⟨hn, hl, hx⟩, hN1, hb1⟩))
  have hmm : ∀ x, x ∈ ss ↔ x ∈ blks C.L := fun x => (hx x).trans (HM.out x)
  have hsort := sorted_blks h.bnd h.ord hn hmm
  have hlen : ss.length ≤ 12 := by
    have := List.Nodup.length_le_of_subset hn (l₂ := blks C.L) (fun x hx' => (hmm x).1 hx')
    omega
  have h1 := h.later hb1
  rcases shape_case hN1 with ⟨rfl, rfl⟩ | ⟨g, cap, rfl, hHg, hA⟩
  · have e0 : blks C.L = [] := by
      rw [List.eq_nil_iff_forall_not_mem]
      intro x hx'
      exact absurd ((hmm x).2 hx') (by simp)
    have hq := sortFunc_nil (.func (.func 49) #[] #[.pointer (some ⟨cb, 0, none⟩)]) w1
    clear hcol hsort hx hmm
    go_wp2_with (first | (go_at_call 75; refine Calls.mono hq ?_; rintro e w2 ⟨⟨v, rfl⟩, rfl⟩))
    go_ret
    exact ⟨_, rfl, by rw [e0]; exact Nums.nil _ _, hb1⟩
  · have hcb1 := (hb1.cell (p := ⟨cb, 0, none⟩) (lt_of_cell hcb)).trans hcb
    have hCmp : Cmp w1 g 49 cb (uf C.L) (fun x => x ∈ blks C.L) := by
      intro x y hx' hy' w' hf'
      obtain ⟨f, hf, rfl⟩ := List.mem_map.1 hx'
      obtain ⟨k, hk, rfl⟩ := List.mem_map.1 hy'
      rw [uf_at h.bnd hf, uf_at h.bnd hk]
      have hkeep : ∀ j, j < w.heap.size → w'.heap[j]? = w1.heap[j]? := fun j hj => hf'.block j (by have := hb1.size; omega) (by omega)
      have h' : CI B w' c mb d N C := h1.kept (fun j hj => hkeep j (h.in j hj).2)
      exact held1_ok h'.toCW cb (by rw [World.cell?_of_block (hkeep cb (lt_of_cell hcb))]; exact hcb1) hf hk
    have hq := sortFunc_ok g ss.length cap 49 cb (uf C.L) _ ss.toArray w1 hA hlen (by
      intro j hj
      have e : ss.toArray[j]! = ss[j] := by simp [getElem!_pos, hj]
      rw [e]
      exact (hmm _).1 (List.getElem_mem hj)) hCmp eg49
    clear hcol hx hmm
    go_wp2_with (first | (go_at_call 75; refine Calls.mono hq ?_; rintro e w2 ⟨⟨v, rfl⟩, hA2, hF⟩))
    go_ret
    have hN2 := ar_nums hA2 hHg
    rw [hsort] at hN2
    exact ⟨_, rfl, hN2, hb1.trans (hF.below hb1.size (fun k hk => by rw [hk]; exact hHg))⟩

set_option maxHeartbeats 1000000 in
theorem held_ok (h : CI B w c mb d N C) : Calls Try.prog 11 #[.pointer (some ⟨c, 0, none⟩)] w fun e w' => ∃ v, e = .returned v ∧ Nums w.heap.size w' v (blks C.L) ∧ Below w.heap.size w w' := by
  have hb0 := (Below.refl w.heap.size w).alloc (Nat.le_refl _) (.cells #[.pointer (some ⟨c, 0, none⟩)] 23)
  have h1 := h.later hb0
  have hb1 := hb0.alloc (show w.heap.size ≤ _ by simp) (.cells #[.map (some mb)] 54)
  have h2 := h.later hb1
  have bx := Boxed.new w 23 (.pointer (some ⟨c, 0, none⟩))
  have by1 := Boxed.new (w.alloc (.cells #[.pointer (some ⟨c, 0, none⟩)] 23)) 54 (.map (some mb))
  have hm := cmade_ok h1.toCW
  have hc := h1.c2
  have hk := Go.callsIn_wide.1 (keys_in 1 (some mb) (w.alloc (.cells #[.pointer (some ⟨c, 0, none⟩)] 23)))
  have hs := sortedFunc_ok h2 w.heap.size (w.heap.size + 1) (bx.alloc _).cell (by have := by1.cell; rw [World.size_alloc] at this; exact this)
  rw [World.size_alloc] at hk
  clear h h1 h2 by1
  go_enter Try.func11, Try.ntmps11
  go_wp2_with (first
    | (go_at_call 46; refine same_at hm ?_)
    | (go_at_call 48; refine Calls.mono hk ?_; rintro e w3 ⟨rfl, rfl⟩)
    | (go_at_call 47; refine Calls.mono hs ?_; rintro e w4 ⟨v, rfl, hN4, hb4⟩))
  go_ret
  exact ⟨v, rfl, hN4.base (by simp; omega), hb1.trans (hb4.mono (by simp; omega))⟩
end
end Go.Proofs.Ytliljdencaocaaa
