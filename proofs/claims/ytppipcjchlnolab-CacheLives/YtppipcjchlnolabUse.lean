/- The buffer that goes first; a buffer that is used. -/
import Derived.Test.YtppipcjchlnolabHeld
namespace Go.Proofs.Ytppipcjchlnolab
open Go.RowKit Go.Maps
set_option linter.unusedVariables false

/-- The one that goes: the first that is not pinned. -/
def vic (L : List Bf) : Option Bf := L.find? (fun f => f.p == 0)
def vicV (L : List Bf) : Value := match vic L with | some f => .tuple #[.int .i64 (f.b : Int), .bool true] | none => .tuple #[.int .i64 0, .bool false]

theorem Nums.shape {H : Nat} {w : World} {v : Value} {zs : List Int} (h : Nums H w v zs) : ∃ p cp, v = .slice p zs.length cp ∧ (0 < zs.length → ∃ g, p = some ⟨g, 0, none⟩ ∧ ∀ i, i < zs.length → w.cell? ⟨g, i, none⟩ = some (.int .i64 (zs.getD i 0))) := by
  rcases h.2 with ⟨e, e0⟩ | ⟨g, cap, cur, e, k⟩
  · rw [e0]
    exact ⟨_, _, e, fun h => by omega⟩
  · refine ⟨_, _, e, fun h0 => ⟨g, rfl, fun i hi => ?_⟩⟩
    have h' : w.ownsRow H 3 1 (.slice (some ⟨g, 0, none⟩) zs.length cap) zs.length (zs.map (Value.int .i64)) := by rw [← e]; exact h
    rw [h'.cellAt i (by omega), List.getElem?_map, List.getD_eq_getElem?_getD, List.getElem?_eq_getElem (by omega)]
    rfl

section
variable {B : Nat} {w w' : World} {c mb d N : Nat} {C : Ch}

set_option maxHeartbeats 1000000 in
theorem oldest_ok (h : CI B w c mb d N C) : Calls Try.prog 79 #[.pointer (some ⟨c, 0, none⟩)] w fun e w' => e = .returned (vicV C.L) ∧ Below w.heap.size w w' := by
  have hh := held_ok h
  have hN := h.N12
  have h12 := h.twelve
  go_enter Try.func79, Try.ntmps79
  go_wp2_with (first
    | (go_at_call 11; refine Calls.mono hh ?_; rintro e w1 ⟨v, rfl, hN1, hb1⟩; have hci := h.later hb1; obtain ⟨p, cp, rfl, hcell⟩ := hN1.shape; have hbl : (blks C.L).length = C.L.length := by simp [blks]))
  go_loopw [9] (fun i wr => ∃ j : Nat, j ≤ C.L.length ∧ i = .int .i64 (j : Int) ∧ (∀ f ∈ C.L.take j, ¬ f.p = 0) ∧ wr = w1) (fun i _ => C.L.length - (intOf i).toNat)
  case atStart => exact ⟨0, by omega, rfl, by simp, rfl⟩
  case round =>
    obtain ⟨j, hj, rfl, hno, rfl⟩ := hrel
    by_cases hlt : j < C.L.length
    · obtain ⟨g, rfl, hc⟩ := hcell (by omega)
      have hcj := hc j (by omega)
      have hf := List.getElem_mem hlt
      have e : (blks C.L).getD j 0 = ((C.L[j]).b : Int) := by
        rw [List.getD_eq_getElem?_getD]
        simp [blks, hlt]
      rw [e] at hcj
      have hp := pinned_hit hci.toCW hf
      have hjI : (j : Int) < (C.L.length : Int) := by omega
      have hj0 : (0 : Int) ≤ (j : Int) := by omega
      by_cases h0 : (C.L[j]).p = 0
      · have hv : vic C.L = some C.L[j] := by
          unfold vic
          rw [List.find?_eq_some_iff_getElem]
          refine ⟨by simpa using h0, j, hlt, rfl, fun k hk => ?_⟩
          have := hno C.L[k] (by rw [List.mem_take_iff_getElem]; exact ⟨k, by omega, rfl⟩)
          simpa using this
        have HV : Hid (vicV C.L = .tuple #[.int .i64 ((C.L[j]).b : Int), .bool true]) := by
          show vicV C.L = _
          unfold vicV
          rw [hv]
        rw [decide_eq_false (show ¬ 0 < (C.L[j]).p by omega)] at hp
        clear hc hcell hh hv e h0
        generalize (C.L[j]).b = bb at *
        go_wp2_with (first | (go_at_call 54; refine same_at hp ?_))
        go_ret2
        rw [HV.out]
        exact ⟨rfl, hb1⟩
      · rw [decide_eq_true (show 0 < (C.L[j]).p by omega)] at hp
        have HN : Hid (∀ f ∈ C.L.take (j + 1), ¬ f.p = 0) := by
          intro f hf'
          rw [List.take_add_one, List.getElem?_eq_getElem hlt] at hf'
          rcases List.mem_append.1 hf' with h' | h'
          · exact hno f h'
          · simp at h'
            rw [h']
            exact h0
        clear hc hcell hh e h0 hno
        generalize (C.L[j]).b = bb at *
        go_wp2_with (first | (go_at_call 54; refine same_at hp ?_))
        go_roundw
        case rel => exact ⟨j + 1, by omega, by go_num, HN.out, trivial⟩
        case measure => simp [intOf]; omega
    · obtain rfl : j = C.L.length := by omega
      rw [List.take_length] at hno
      have hv : vic C.L = none := by
        unfold vic
        rw [List.find?_eq_none]
        intro f hf
        have := hno f hf
        simpa using this
      have HV : Hid (vicV C.L = .tuple #[.int .i64 0, .bool false]) := by
        show vicV C.L = _
        unfold vicV
        rw [hv]
      clear hcell hh hv hno
      go_wp2
      go_ret2
      rw [HV.out]
      exact ⟨rfl, hb1⟩
end

set_option maxHeartbeats 400000 in
theorem sclone_some (a : Addr) (n c : Nat) (xs : List Int) (w : World) (h : BI w (some a) n xs) :
    Calls Try.prog 78 #[.slice (some a) n c] w fun e w' => ∃ g cap, e = .returned (.slice (some ⟨g, 0, none⟩) n cap) ∧ Own w.heap.size w' g n cap xs ∧ Below w.heap.size w w' := by
  obtain ⟨i0, hi, hz0, hz1, hz2⟩ := info_parts info5
  have hbig := h.big
  have hlen := h.len
  have q22 := eqlNil
  have hb0 := (Below.refl w.heap.size w).alloc (Nat.le_refl _) (Obj.cells #[] 5)
  go_enter Try.func78, Try.ntmps78
  go_wp2_with (at_builtin; refine wpList_append_own _ rfl _ _ 29 rfl w.heap.size 5 i0 (.int .u8 0) 1 1 Try.underlying29 hi hz0 hz1 hz2 rfl (by decide) _ _ _ rfl (World.ownsRow_made w #[] 0 (Nat.le_refl _) (Nat.zero_le _) rfl) a n c (xs.map (Value.int .u8)) rfl ?c1 ?c2 ?c3 ?c4 ?c5 ?c6 ?_)
  case c1 => simp [hlen]
  case c2 => exact (h.kept hb0).src'
  case c3 => exact one_cells xs
  case c4 => unfold maxLen; omega
  case c5 => omega
  case c6 => simp
  intro v' w1 hown hgrow hnil
  obtain ⟨g, cap, hv, ho⟩ := own_shape hown (by first | exact hnil | (intro e; exact absurd (hnil.1 e).1 (by simp)))
  rw [hv]
  clear hown hnil
  have hb1 := hb0.grown hgrow (by simp) (by intro k hk; simp [Value.ownBlock] at hk; omega)
  go_wp2
  go_ret
  exact ⟨g, cap, rfl, ho, hb1⟩

theorem bufA_used {f : Bf} (h : Sect f.xs) (u : Nat) : (bufA f).setIfInBounds 128 (.int .i64 (u : Int)) = bufA { f with u := u } := by
  have hl := h.1
  apply Array.ext'
  simp only [bufA, bufL, Array.toList_setIfInBounds]
  rw [List.set_append_right _ _ (by simp [hl])]
  simp [hl]
theorem bufA_pins {f : Bf} (h : Sect f.xs) (p : Nat) : (bufA f).setIfInBounds 129 (.int .i64 (p : Int)) = bufA { f with p := p } := by
  have hl := h.1
  apply Array.ext'
  simp only [bufA, bufL, Array.toList_setIfInBounds]
  rw [List.set_append_right _ _ (by simp [hl])]
  simp [hl]

section
variable {B : Nat} {w w' : World} {c mb d N : Nat} {C : Ch}
theorem buf_bi {w : World} {f : Bf} (h : w.heap[f.g]? = some (.cells (bufA f) 90 (0, 0))) (hs : Sect f.xs) : BI w (some ⟨f.g, 0, none⟩) 128 f.xs := by
  refine ⟨hs.1, by omega, hs.2, fun _ => ⟨f.g, 0, rfl, fun i hi => ?_⟩⟩
  have hl := hs.1
  have e : (bufA f)[i]? = some (.int .u8 (f.xs.getD i 0)) := by
    unfold bufA bufL
    rw [List.getElem?_toArray, List.getElem?_append_left (by simp [hl]; omega), List.getElem?_map, List.getD_eq_getElem?_getD, List.getElem?_eq_getElem (by omega)]
    rfl
  simp [World.cell?, h, e]
/-- One buffer turned, in its place. -/
def rep (L : List Bf) (f : Bf) : List Bf := L.map (fun k => if k.b = f.b then f else k)
theorem mem_rep {L : List Bf} {f k : Bf} (h : k ∈ rep L f) : k = f ∨ (k ∈ L ∧ ¬ k.b = f.b) := by
  obtain ⟨m, hm, e⟩ := List.mem_map.1 h
  by_cases hb : m.b = f.b
  · rw [if_pos hb] at e; exact .inl e.symm
  · rw [if_neg hb] at e; subst e; exact .inr ⟨hm, hb⟩
theorem same_of_b {L : List Bf} (hd : (L.map (·.b)).Nodup) {f k : Bf} (hf : f ∈ L) (hk : k ∈ L) (e : k.b = f.b) : k = f := by
  induction L with
  | nil => cases hf
  | cons m L ih =>
    rw [List.map_cons, List.nodup_cons] at hd
    rcases List.mem_cons.1 hf with h | h
    · rcases List.mem_cons.1 hk with h' | h'
      · rw [h, h']
      · exact absurd (List.mem_map.2 ⟨k, h', by rw [e, h]⟩) hd.1
    · rcases List.mem_cons.1 hk with h' | h'
      · exact absurd (List.mem_map.2 ⟨f, h, by rw [← e, h']⟩) hd.1
      · exact ih hd.2 h h'
theorem ne_of_g {L : List Bf} (hd : (L.map (·.g)).Nodup) {f k : Bf} (hf : f ∈ L) (hk : k ∈ L) (e : ¬ k = f) : ¬ k.g = f.g := by
  intro e'
  induction L with
  | nil => cases hf
  | cons m L ih =>
    rw [List.map_cons, List.nodup_cons] at hd
    rcases List.mem_cons.1 hf with h | h
    · rcases List.mem_cons.1 hk with h' | h'
      · exact e (by rw [h, h'])
      · exact absurd (List.mem_map.2 ⟨k, h', by rw [e', h]⟩) hd.1
    · rcases List.mem_cons.1 hk with h' | h'
      · exact absurd (List.mem_map.2 ⟨f, h, by rw [← e', h']⟩) hd.1
      · exact ih hd.2 h h'
theorem rep_map {β : Type} {L : List Bf} (hd : (L.map (·.b)).Nodup) {f f' : Bf} (hf : f ∈ L) (hb : f'.b = f.b) (φ : Bf → β) (hφ : φ f' = φ f) : (rep L f').map φ = L.map φ := by
  unfold rep
  rw [List.map_map]
  apply List.map_congr_left
  intro k hk
  simp only [Function.comp]
  by_cases e : k.b = f'.b
  · rw [if_pos e, hφ, same_of_b hd hf hk (by rw [e, hb])]
  · rw [if_neg e]

/-- A cache with one buffer turned in its place. -/
theorem CW.rep (h : CW B w c mb d N C) {f f' : Bf} (hf : f ∈ C.L) (hb : f'.b = f.b) (hg : f'.g = f.g) (hs : Sect f'.xs) (hp : f'.p ≤ 100) (hc : w'.heap[c]? = w.heap[c]?) (hm : w'.heap[mb]? = w.heap[mb]?)
    (ho : ∀ k ∈ C.L, ¬ k.g = f.g → w'.heap[k.g]? = w.heap[k.g]?) (hn : w'.heap[f.g]? = some (.cells (bufA f') 90 (0, 0))) : CW B w' c mb d N { C with L := Ytppipcjchlnolab.rep C.L f' } := by
  have hd := h.bnd
  refine { row := hc.trans h.row, map := ?_, buf := ?_, sec := ?_, gs := ?_, ps := ?_, bs := ?_, N12 := h.N12, bd := h.bd, len := ?_, lo := ⟨h.lo.1, h.lo.2.1, ?_⟩, cnt := h.cnt }
  · show Bm w' mb ((Ytppipcjchlnolab.rep C.L f').map bg)
    rw [rep_map hd hf hb bg (by simp [bg, hb, hg])]
    exact h.map.kept hm
  · intro k hk
    rcases mem_rep hk with rfl | ⟨hk, hne⟩
    · rw [hg]; exact hn
    · rw [ho k hk (ne_of_g h.gs hf hk (fun e => hne (by rw [e, hb])))]
      exact h.buf k hk
  · intro k hk
    rcases mem_rep hk with rfl | ⟨hk, hne⟩
    · exact hs
    · exact h.sec k hk
  · show ((Ytppipcjchlnolab.rep C.L f').map (·.g)).Nodup
    rw [rep_map hd hf hb (·.g) hg]
    exact h.gs
  · intro k hk
    rcases mem_rep hk with rfl | ⟨hk, hne⟩
    · exact hp
    · exact h.ps k hk
  · intro k hk
    rcases mem_rep hk with rfl | ⟨hk, hne⟩
    · rw [hb]; exact h.bs f hf
    · exact h.bs k hk
  · show (Ytppipcjchlnolab.rep C.L f').length ≤ C.bd
    simp only [Ytppipcjchlnolab.rep, List.length_map]
    exact h.len
  · intro k hk
    rcases mem_rep hk with rfl | ⟨hk, hne⟩
    · rw [hg]; exact h.lo.2.2 f hf
    · exact h.lo.2.2 k hk
theorem CI.rep (h : CI B w c mb d N C) {f f' : Bf} (hf : f ∈ C.L) (hb : f'.b = f.b) (hg : f'.g = f.g) (hu : f'.u = f.u) (hs : Sect f'.xs) (hp : f'.p ≤ 100) (hc : w'.heap[c]? = w.heap[c]?) (hm : w'.heap[mb]? = w.heap[mb]?)
    (ho : ∀ k ∈ C.L, ¬ k.g = f.g → w'.heap[k.g]? = w.heap[k.g]?) (hn : w'.heap[f.g]? = some (.cells (bufA f') 90 (0, 0))) : CI B w' c mb d N { C with L := Ytppipcjchlnolab.rep C.L f' } := by
  refine { CW.rep h.toCW hf hb hg hs hp hc hm ho hn with ord := ?_, us := ?_ }
  · have e := rep_map h.bnd hf hb (·.u) hu
    have h1 : (C.L.map (·.u)).Pairwise (· < ·) := List.pairwise_map.2 h.ord
    rw [← e] at h1
    exact List.pairwise_map.1 h1
  · intro k hk
    rcases mem_rep hk with rfl | ⟨hk, hne⟩
    · rw [hu]; exact h.us f hf
    · exact h.us k hk
end
end Go.Proofs.Ytppipcjchlnolab
