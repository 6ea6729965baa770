/- A10 F1 -/
import Derived.Test.YthdlpeejmmobmaaGreatAo29
import Derived.Test.YthdlpeejmmobmaaGreatAo16
import Derived.Deep.AppendLies
import Derived.Deep.RegionLaw

namespace Go.Proofs.YthdlpeejmmobmaaGreat
open Go.RowKit Go.Maps
set_option maxRecDepth 100000
set_option linter.unusedVariables false

theorem nst_some {H : Nat → List Int} {r : Bool} {G B Q near : Nat} (hG : 0 < G) : ∀ {k : Nat} {n i : Nat}, nst H r G B Q near k = some (n, i) → n < G ∧ frs H r B Q n = some i
  | 0, _, _, h => by cases h
  | k + 1, n, i, h => by
    have h' : (match nst H r G B Q near k with | some x => some x | none => (frs H r B Q ((near + k) % G)).map fun i => ((near + k) % G, i)) = some (n, i) := h
    cases e : nst H r G B Q near k with
    | some x =>
      rw [e] at h'
      have : x = (n, i) := Option.some.inj h'
      exact nst_some hG (e.trans (congrArg some this))
    | none =>
      rw [e] at h'
      dsimp only at h'
      cases e2 : frs H r B Q ((near + k) % G) with
      | none => rw [e2] at h'; cases h'
      | some j =>
        rw [e2] at h'
        have h2 := Option.some.inj h'
        have h3 : (near + k) % G = n := congrArg Prod.fst h2
        have h4 : j = i := congrArg Prod.snd h2
        rw [← h3, ← h4]
        exact ⟨Nat.mod_lt _ hG, e2⟩
theorem frs_some {H : Nat → List Int} {r : Bool} {G B Q n i : Nat} (hm : Mk.Gm.May (G : Int) B Q) (h : frs H r B Q n = some i) : Mk.Al.fN r Q n ≤ i ∧ i < Mk.Al.eN r B Q ∧ Mk.Bit.on (Mk.Al.rowOf r (H n)) i = false := by
  have h1 := Mk.Al.lo_some _ _ _ h
  have h2 := (Mk.Al.fe_lt hm r n).1
  exact ⟨h1.1, by omega, h1.2.2⟩
theorem nst_none {H : Nat → List Int} {r : Bool} {G B Q near : Nat} : ∀ {k : Nat}, nst H r G B Q near k = none → ∀ j, j < k → frs H r B Q ((near + j) % G) = none
  | 0, _, j, hj => absurd hj (by omega)
  | k + 1, h, j, hj => by
    have h' : (match nst H r G B Q near k with | some x => some x | none => (frs H r B Q ((near + k) % G)).map fun i => ((near + k) % G, i)) = none := h
    cases e : nst H r G B Q near k with
    | some x => rw [e] at h'; cases h'
    | none =>
      rw [e] at h'
      dsimp only at h'
      by_cases hjk : j = k
      · subst hjk
        cases e2 : frs H r B Q ((near + j) % G) with
        | none => rfl
        | some i => rw [e2] at h'; cases h'
      · exact nst_none e j (by omega)

section
variable {w w' : World} {v : Nat} {F : Nat → Prop} {N : Nat} {I : Nat → List Int} {l c G B Q : Nat}
open Mk.Al in
set_option maxHeartbeats 4000000 in
theorem block_ok (h : Vol w v F N I l c) (hg : Geo G B Q N) {H : Nat → List Int} (hH : Hds I G B H) {near : Nat} (hn : near < G) (hc : c + 8 < 4611686018427387904) (hl1 : l + 1 ≤ 1000)
    (q : Option Addr) (m d : Nat) (zs : List Int) (hz : Pt.II w q m zs) (hqv : ∀ k, Pt.blkOf q = some k → ¬ F k) (hk : zs.all (Pt.kn l) = true) (hm : m ≤ 100000) :
    Calls Tryz.prog 22 #[.pointer (some ⟨v, 0, none⟩), Mk.geomV G B Q, .int .i64 (near : Int), .slice q m d] w fun e w' =>
      (∀ n i, nst H false G B Q near G = some (n, i) → e = .returned (.tuple #[.int .i64 ((n * B + i : Nat) : Int), .int .i64 ((l + 1 : Nat) : Int), .int .i64 0]) ∧ ∃ F' c', c' ≤ c + 8 ∧ Vol w' v F' N (putH I B n (putY false (H n) i true)) (l + 1) c' ∧ Pt.Stp F F' w w') ∧
      (nst H false G B Q near G = none → e = .returned (.tuple #[.int .i64 0, .int .i64 0, .int .i64 5]) ∧ ∃ F' c', c' ≤ c + 8 ∧ Vol w' v F' N I l c' ∧ Pt.Stp F F' w w') := by
  have hfit := hg.fit
  obtain ⟨W, hW⟩ : ∃ W, w.alloc (Mk.geomO G B Q) = W := ⟨_, rfl⟩
  have hb : Below w.heap.size w W := by rw [← hW]; exact Mk.grew_alloc _ _
  have hx : W.heap[w.heap.size]? = some (Mk.geomO G B Q) := by rw [← hW]; exact at_new rfl
  have hsz : W.heap.size = w.heap.size + 1 := by rw [← hW]; simp
  have c0 := (g3_of hx).c0
  have c1 := (g3_of hx).c1
  have c2 := (g3_of hx).c2
  have hlt := h.lt
  have hv := h.later hb
  have hnr := near_ok hv hg hn
  have HV : Hid (Vol W v F N I l c ∧ Below w.heap.size w W ∧ (∀ k, F k → k < w.heap.size)) := ⟨hv, hb, hlt⟩
  have hzW := hz.kept hb
  clear hv h hz hb hlt
  go_enter Tryz.func22, Tryz.ntmps22
  go_wp2_with fail
  refine Mk.grew_at hnr ?_
  intro w1 hb1
  have hx1 := (hb1.block _ (Array.getElem?_eq_some_iff.1 hx).1).trans hx
  have c0 := (g3_of hx1).c0
  have c1 := (g3_of hx1).c1
  have c2 := (g3_of hx1).c2
  have hne := nearest_ok (HV.out.1.later hb1) hg hH false hn hc
  dsimp only
  go_wp2_with fail
  refine Calls.mono hne ?_
  rintro e w2 ⟨rfl, F2, c', hc', hv2, hst2⟩
  have hx2 : w2.heap[w.heap.size]? = some (Mk.geomO G B Q) := (hst2.fr.block _ (Array.getElem?_eq_some_iff.1 hx1).1 (fun hf => by have := HV.out.2.2 _ hf; omega)).trans hx1
  have c0 := (g3_of hx2).c0
  have c1 := (g3_of hx2).c1
  have c2 := (g3_of hx2).c2
  have hst : Pt.Stp F F2 w w2 := stp_after (HV.out.2.1.trans (hb1.mono HV.out.2.1.size)) hst2
  have hs2 : w.heap.size + 1 ≤ w2.heap.size := by have := (Array.getElem?_eq_some_iff.1 hx2).1; omega
  obtain ⟨W5, hW5⟩ : ∃ W5, w2.alloc (spotO 0 (Mk.zers 40) false 0) = W5 := ⟨_, rfl⟩
  have hn5 : W5.heap[w2.heap.size]? = some (spotO 0 (Mk.zers 40) false 0) := by rw [← hW5]; exact at_new rfl
  have hb5 : Below w2.heap.size w2 W5 := by rw [← hW5]; exact Mk.grew_alloc _ _
  have hx5 := (hb5.block _ (Array.getElem?_eq_some_iff.1 hx2).1).trans hx2
  dsimp only [spotO] at hW5
  rw [zeroSpot] at hW5
  cases ho : nst H false G B Q near G with
  | none =>
    obtain ⟨W6, hW6⟩ : ∃ W6, W5.setRow w2.heap.size (spotA 0 (Mk.zers 40) false 0) = W6 := ⟨_, rfl⟩
    have hb6 : Below w2.heap.size w2 W6 := by rw [← hW6]; exact below_setRow hb5 (Nat.le_refl _) _
    have hi0 := info138 0 (Mk.zers_len 40) false 0
    have h10 := spot_one 0 (Mk.zers 40) false 0
    dsimp only [nstV]
    go_wp2_with (first
      | (refine wpList_store_row rfl 138 _ _ rfl w2.heap.size (spotA 0 (Mk.zers 40) false 0) rfl rfl 138 _ hn5 hi0 rfl h10 ?_; rw [hW6]))
    go_ret3
    exact ⟨rfl, F2, c', hc', hv2.later hb6, stp_grown hst hb6⟩
  | some ni =>
    obtain ⟨n, i⟩ := ni
    obtain ⟨hnG, hfr⟩ := nst_some (by omega) ho
    obtain ⟨hf1, hf2, hf3⟩ := frs_some hg.may hfr
    have hln := hH.len n hnG
    have hinf := info138 (n : Int) hln false (i : Int)
    have hso := spot_one (n : Int) (H n) false (i : Int)
    have hss : (spotA 0 (Mk.zers 40) false 0).size = (spotA n (H n) false i).size := (spot_size 0 (Mk.zers_len 40) false 0).trans (spot_size (n : Int) hln false (i : Int)).symm
    obtain ⟨W6, hW6⟩ : ∃ W6, W5.setRow w2.heap.size (spotA n (H n) false i) = W6 := ⟨_, rfl⟩
    have hn6 : W6.heap[w2.heap.size]? = some (spotO n (H n) false i) := by rw [← hW6]; exact setRow_heap _ _ _ _ _ _ hn5
    have hb6 : Below w2.heap.size w2 W6 := by rw [← hW6]; exact below_setRow hb5 (Nat.le_refl _) _
    have hx6 := (hb6.block _ (Array.getElem?_eq_some_iff.1 hx2).1).trans hx2
    have c0 := (g3_of hx6).c0
    have c1 := (g3_of hx6).c1
    have c2 := (g3_of hx6).c2
    have hz2 : Pt.II W6 q m zs := ((hzW.kept hb1).keptIf (fun k hk hl => hst2.fr.block k hl (fun hF => hqv k hk hF))).kept hb6
    have hgv := give_ok (hv2.later hb6) hg hnG (hH.at_ n hnG) (hH.len n hnG) (hH.byt n hnG) hl1 false i hf2 q m d zs hz2 (fun k hk e => hqv k hk (by rw [e]; exact HV.out.1.mem)) hk hm
    rw [hf3] at hgv
    dsimp only [nstV]
    go_wp2_with (first
      | (refine wpList_store_row rfl 138 _ _ rfl w2.heap.size (spotA n (H n) false i) rfl rfl 138 _ hn5 hinf hss hso ?_; rw [hW6])
      | (refine wpList_load_row rfl 138 _ rfl w2.heap.size rfl 138 _ (0, 0) _ hn6 Tryz.underlying138 rfl hinf ?_))
    refine Calls.mono hgv ?_
    rintro e w3 ⟨rfl, F3, hv3, hst3⟩
    dsimp only
    go_wp2_with fail
    go_ret3
    refine ⟨fun n' i' h => ?_, fun h => by rw [ho] at h; cases h⟩
    rw [ho] at h; cases h
    exact ⟨rfl, F3, c', hc', hv3, stp_trans (stp_grown hst hb6) hst3⟩
end
end Go.Proofs.YthdlpeejmmobmaaGreat

namespace Go.Proofs.YthdlpeejmmobmaaGreat
open Go.RowKit Go.Maps
set_option linter.unusedVariables false

set_option maxHeartbeats 400000 in
theorem bclone_some (a : Addr) (n c : Nat) (xs : List Int) (w : World) (h : BI w (some a) n xs) :
    Calls Tryz.prog 190 #[.slice (some a) n c] w fun e w' => ∃ g cap, e = .returned (.slice (some ⟨g, 0, none⟩) n cap) ∧ Own w.heap.size w' g n cap xs ∧ Below w.heap.size w w' := by
  obtain ⟨i0, hi, hz0, hz1, hz2⟩ := info_parts info5
  have hbig := h.big
  have hlen := h.len
  have q22 := eqlNil
  have hb0 := (Below.refl w.heap.size w).alloc (Nat.le_refl _) (Obj.cells #[] 5)
  go_enter Tryz.func190, Tryz.ntmps190
  go_wp2_with (at_builtin; refine wpList_append_own _ rfl _ _ 42 rfl w.heap.size 5 i0 (.int .u8 0) 1 1 Tryz.underlying42 hi hz0 hz1 hz2 rfl (by decide) _ _ _ rfl (World.ownsRow_made w #[] 0 (Nat.le_refl _) (Nat.zero_le _) rfl) a n c (xs.map (Value.int .u8)) rfl ?c1 ?c2 ?c3 ?c4 ?c5 ?c6 ?_)
  case c1 => simp [hlen]
  case c2 => exact (h.kept hb0).src'
  case c3 => exact one_cells xs
  case c4 => unfold maxLen; omega
  case c5 => omega
  case c6 => simp
  intro v' w1 hown hgrow hnil
  obtain ⟨g, cap, hv, ho⟩ := own_shape hown (by first | exact hnil | (intro e; exact absurd (hnil.1 e).1 (by simp)))
  rw [hv]
  clear hown hnil
  have hb1 := hb0.grown hgrow (by simp) (by intro k hk; simp [Value.ownBlock] at hk; omega)
  go_wp2
  go_ret
  exact ⟨g, cap, rfl, ho, hb1⟩

set_option maxHeartbeats 400000 in
theorem bclone_nil (n c : Nat) (w : World) :
    Calls Tryz.prog 190 #[.slice none n c] w fun e w' => e = .returned (.slice none 0 0) ∧ w' = w := by
  have q22 := eqlNil
  go_enter Tryz.func190, Tryz.ntmps190
  go_wp2
  go_ret
  exact ⟨rfl, rfl⟩

theorem BI.nil_zero {w : World} {n : Nat} {xs : List Int} (h : BI w none n xs) : n = 0 ∧ xs = [] := by
  have hn : n = 0 := by
    rcases Nat.eq_zero_or_pos n with h0 | h0
    · exact h0
    · obtain ⟨b, o, e, _⟩ := h.cells h0
      cases e
  exact ⟨hn, List.eq_nil_of_length_eq_zero (by rw [h.len, hn])⟩

/-- A copy, as a row of the call's own (or nil, of nil). -/
theorem bclone_any (p : Option Addr) (n c : Nat) (xs : List Int) (w : World) (h : BI w p n xs) :
    Calls Tryz.prog 190 #[.slice p n c] w fun e w' => ∃ v, e = .returned v ∧ w'.ownsRow w.heap.size 5 1 v n (xs.map (Value.int .u8)) ∧ Below w.heap.size w w' := by
  cases p with
  | none =>
    obtain ⟨rfl, rfl⟩ := h.nil_zero
    exact (bclone_nil 0 c w).mono fun e w' ⟨he, hw⟩ => ⟨_, he, World.ownsRow_nil _ _ _ _, by rw [hw]; exact Below.refl _ _⟩
  | some a =>
    exact (bclone_some a n c xs w h).mono fun e w' ⟨g, cap, he, ho, hb⟩ => ⟨_, he, ho, hb⟩

theorem owns_ne {w : World} {B B' : Nat} {e e' : TypeId} {s s' n n' : Nat} {v v' : Value} {L L' : List Value} (h : w.ownsRow B e s v n L) (h' : w.ownsRow B' e' s' v' n' L') (hne : e ≠ e') {k : Nat} (hk : v.ownBlock = some k) : v'.ownBlock ≠ some k := by
  intro hk'
  rcases h.2 with ⟨rfl, _⟩ | ⟨g1, cap1, cur1, rfl, _, hg1, _⟩
  · simp [Value.ownBlock] at hk
  rcases h'.2 with ⟨rfl, _⟩ | ⟨g2, cap2, cur2, rfl, _, hg2, _⟩
  · simp [Value.ownBlock] at hk'
  simp only [Value.ownBlock, Option.some.injEq] at hk hk'
  subst hk
  subst hk'
  rw [hg1] at hg2
  simp only [Option.some.injEq, Obj.cells.injEq] at hg2
  exact hne hg2.2.1

theorem info3 : (Tryz.prog.info? 3).map (fun i => (i.zero, i.size, i.bytes)) = some (some (.int .i64 0), 1, 8) := by kernel_rfl

section
variable {B : Nat} {w : World}
theorem row_case {e : TypeId} {s n : Nat} {v : Value} {L : List Value} (h : w.ownsRow B e s v n L) : ∃ p c, v = .slice p n c ∧ (0 < n → ∃ g, p = some ⟨g, 0, none⟩) := by
  rcases h.2 with ⟨rfl, rfl⟩ | ⟨g, cap, cur, rfl, _⟩
  · exact ⟨_, _, rfl, fun h => by omega⟩
  · exact ⟨_, _, rfl, fun _ => ⟨g, rfl⟩⟩
end

/-- A block's 128 bytes as a slice: the row and its capacity. -/
def slc (p : Nat × Nat) : Value := .slice (some ⟨p.1, 0, none⟩) 128 p.2

set_option maxHeartbeats 400000 in
theorem copied_ok (a : Addr) (n c : Nat) (xs : List Int) (w : World) (h : BI w (some a) n xs) :
    Calls Tryz.prog 191 #[.slice (some a) n c] w fun e w' => ∃ g cap, e = .returned (.slice (some ⟨g, 0, none⟩) n cap) ∧ Own w.heap.size w' g n cap xs ∧ Below w.heap.size w w' := by
  obtain ⟨i0, hi, hz0, hz1, hz2⟩ := info_parts info5
  have hbig := h.big
  have hlen := h.len
  have hb0 := (Below.refl w.heap.size w).alloc (Nat.le_refl _) (Obj.cells #[] 5)
  go_enter Tryz.func191, Tryz.ntmps191
  go_wp2_with (at_builtin; refine wpList_append_own _ rfl _ _ 42 rfl w.heap.size 5 i0 (.int .u8 0) 1 1 Tryz.underlying42 hi hz0 hz1 hz2 rfl (by decide) _ _ _ rfl (World.ownsRow_made w #[] 0 (Nat.le_refl _) (Nat.zero_le _) rfl) a n c (xs.map (Value.int .u8)) rfl ?c1 ?c2 ?c3 ?c4 ?c5 ?c6 ?_)
  case c1 => simp [hlen]
  case c2 => exact (h.kept hb0).src'
  case c3 => exact one_cells xs
  case c4 => unfold maxLen; omega
  case c5 => omega
  case c6 => simp
  intro v' w1 hown hgrow hnil
  obtain ⟨g, cap, hv, ho⟩ := own_shape hown (by first | exact hnil | (intro e; exact absurd (hnil.1 e).1 (by simp)))
  rw [hv]
  clear hown hnil
  have hb1 := hb0.grown hgrow (by simp) (by intro k hk; simp [Value.ownBlock] at hk; omega)
  go_wp2
  go_ret
  exact ⟨g, cap, rfl, ho, hb1⟩

theorem own_bi {w : World} {H n c : Nat} {p : Option Addr} {xs : List Int} (h : w.ownsRow H 5 1 (.slice p n c) n (xs.map (Value.int .u8))) (hn : n ≤ 140737488355328) (hx : Num.Byt xs) : BI w p n xs := by
  have hl : xs.length = n := by have := h.1; simpa using this
  refine ⟨hl, hn, hx, fun h0 => ?_⟩
  rcases h.2 with ⟨e, e0⟩ | ⟨g, cap, cur, e, _⟩
  · omega
  · cases e
    exact ⟨g, 0, rfl, fun i hi => by rw [Nat.zero_add]; exact Own.cell (B := H) (cap := c) h i hi⟩

/-- v is a list of n slices of bytes of the call's own, L; no two share a row. -/
structure PI (B : Nat) (w : World) (v : Value) (n : Nat) (vs : List Value) (L : List (List Int)) : Prop where
  row : w.ownsRow B 42 1 v n vs
  len : L.length = n
  el : ∀ (i : Nat) (u : Value) (xs : List Int), vs[i]? = some u → L[i]? = some xs → ∃ p m c, u = .slice p m c ∧ w.ownsRow B 5 1 (.slice p m c) m (xs.map (Value.int .u8)) ∧ m ≤ 140737488355328 ∧ Num.Byt xs
  ne : ∀ (i j : Nat) (u u' : Value) (k : Nat), vs[i]? = some u → vs[j]? = some u' → u.ownBlock = some k → u'.ownBlock = some k → i = j

theorem PI.vlen {B : Nat} {w : World} {v : Value} {n : Nat} {vs : List Value} {L : List (List Int)} (h : PI B w v n vs L) : vs.length = n := by have := h.row.1; simpa using this

theorem PI.ib {B : Nat} {w : World} {v : Value} {n : Nat} {vs : List Value} {L : List (List Int)} (h : PI B w v n vs L) (hn : n ≤ 140737488355328) : ∃ p c, v = .slice p n c ∧ IB w p n L := by
  have hl := h.vlen
  obtain ⟨p, c, e, hp⟩ := row_case h.row
  refine ⟨p, c, e, h.len, hn, fun h0 => ?_⟩
  obtain ⟨g, rfl⟩ := hp h0
  refine ⟨g, 0, rfl, fun i xs hx => ?_⟩
  have hi : i < n := by have := (List.getElem?_eq_some_iff.1 hx).1; have := h.len; omega
  have hvi : vs[i]? = some (vs[i]'(by omega)) := List.getElem?_eq_getElem _
  obtain ⟨q, m, d, eu, ho, hm, hb⟩ := h.el i _ xs hvi hx
  refine ⟨q, m, d, ?_, own_bi ho hm hb⟩
  have hr := h.row
  rw [e] at hr
  rw [Nat.zero_add, hr.cellAt i (by omega), hvi, eu]

theorem PI.kept {B : Nat} {w w' : World} {v : Value} {n : Nat} {vs : List Value} {L : List (List Int)} (h : PI B w v n vs L) (hb : ∀ k, B ≤ k → k < w.heap.size → w'.heap[k]? = w.heap[k]?) : PI B w' v n vs L := by
  refine ⟨ownsRow_kept h.row (fun k hk => hb k (h.row.lt k hk).1 (h.row.lt k hk).2), h.len, fun i u xs hu hx => ?_, h.ne⟩
  obtain ⟨q, m, d, eu, ho, hm, hbt⟩ := h.el i u xs hu hx
  exact ⟨q, m, d, eu, ownsRow_kept ho (fun k hk => hb k (ho.lt k hk).1 (ho.lt k hk).2), hm, hbt⟩

set_option maxRecDepth 10000 in
set_option maxHeartbeats 1000000 in
theorem pimage_ok (p : Option Addr) (n c : Nat) (L : List (List Int)) (w : World) (h : IB w p n L) (h24 : n * 24 ≤ 140737488355328) :
    Calls Tryz.prog 108 #[.slice p n c] w fun e w' => ∃ v vs, e = .returned v ∧ PI w.heap.size w' v n vs L ∧ Below w.heap.size w w' := by
  obtain ⟨i9, hi9, hx0, hx1, hx2⟩ := info_parts info30
  have hlen := h.len
  go_enter Tryz.func108, Tryz.ntmps108
  go_wp2_with fail
  go_loopw [3, 8] (fun v i wr => ∃ (j : Nat) (vs : List Value) (u : Value), j ≤ n ∧ i = .int .i64 (j : Int) ∧ u = v ∧ PI w.heap.size wr u j vs (L.take j) ∧ Below w.heap.size w wr) (fun _ i _ => n - (intOf i).toNat)
  case atStart => exact ⟨0, [], _, by omega, rfl, rfl, ⟨World.ownsRow_nil _ _ _ _, by simp, by simp, by simp⟩, Below.refl _ _⟩
  case round =>
    obtain ⟨j, vs, u, hj, rfl, rfl, hp, hb⟩ := hrel
    by_cases hlt : j < n
    · obtain ⟨bb, oo, rfl, hic⟩ := h.cells (by omega)
      obtain ⟨xs, hxs⟩ : ∃ xs, L[j]? = some xs := ⟨L[j], List.getElem?_eq_getElem (by omega)⟩
      obtain ⟨q, m, d, hcell, hbi⟩ := hic j xs hxs
      have hcell' := (hb.cell (p := ⟨bb, oo + j, none⟩) (lt_of_cell hcell)).trans hcell
      have hbi' := hbi.kept hb
      clear hic hcell
      have hjI : (j : Int) < (n : Int) := by omega
      go_wp2_with fail
      refine (bclone_any q m d xs wr hbi').mono ?_
      rintro e w1 ⟨v1, rfl, ho1, hb1⟩
      obtain ⟨p1, c1, rfl, _⟩ := row_case ho1
      have hp1 := hp.kept (w' := w1) (fun k _ hk => hb1.block k hk)
      have hold : ∀ (i : Nat) (u : Value) (k : Nat), vs[i]? = some u → u.ownBlock = some k → k < wr.heap.size := fun i u k hu hk => by
        have hl := hp.vlen
        have hil := (List.getElem?_eq_some_iff.1 hu).1
        have hll := hp.len
        obtain ⟨q, m, d, eu, ho, _⟩ := hp.el i u _ hu (List.getElem?_eq_getElem (by omega))
        rw [eu] at hk
        exact (ho.lt k hk).2
      have hb2 := (Below.refl w1.heap.size w1).alloc (Nat.le_refl _) (.cells #[.slice p1 m c1] 42)
      have hp2 := hp1.kept (w' := w1.alloc (.cells #[.slice p1 m c1] 42)) (fun k _ hk => hb2.block k hk)
      have hbw := hb.trans (hb1.mono hb.size)
      have hnews : ∀ i u, [Value.slice p1 m c1][i]? = some u → (w1.alloc (.cells #[.slice p1 m c1] 42)).cell? ((⟨w1.heap.size, 0, none⟩ : Addr).add i) = some u := World.news_of_block (cs := #[Value.slice p1 m c1]) (t := 42) (fr := (0, 0)) (at_new rfl)
      have hone : ∀ u ∈ [Value.slice p1 m c1], u.oneCell' = true := by intro u hu; simp at hu; subst hu; rfl
      have HN1 := (show Hid _ from hnews)
      have HO := (show Hid _ from hone)
      have hrow2 := hp2.row
      clear hnews hone hp
      go_wp2_with (at_builtin; refine wpList_append_own _ rfl _ _ 67 rfl w.heap.size 42 i9 (.slice none 0 0) 1 24 Tryz.underlying67 hi9 hx0 hx1 hx2 rfl (by decide) u j vs rfl hrow2 ⟨w1.heap.size, 0, none⟩ 1 1 [Value.slice p1 m c1] rfl rfl HN1.out HO.out (by unfold maxLen; omega) (by omega) (by simp only [World.size_alloc]; have := hbw.size; omega) ?_)
      intro v3 w3 hown3 hgrow3 _
      have hb3 := (hbw.alloc hbw.size (.cells #[.slice p1 m c1] 42)).grown hgrow3 (by simp only [World.size_alloc]; have := hbw.size; omega) (fun k hk => (hrow2.lt k hk).1)
      have hkeep : ∀ {s l : Nat} {u' : Value} {Lx : List Value}, w1.ownsRow w.heap.size 5 s u' l Lx → w3.ownsRow w.heap.size 5 s u' l Lx := fun ho => by
        have ho2 := ownsRow_kept ho (w' := w1.alloc (.cells #[.slice p1 m c1] 42)) (fun k hk => hb2.block k (ho.lt k hk).2)
        exact ownsRow_kept ho2 (fun k hk => hgrow3.block k (ho2.lt k hk).2 (fun e => owns_ne ho2 hrow2 (by decide) hk e.symm))
      go_wp2
      go_roundw
      case rel =>
        have hl := hp1.vlen
        have hll := hp1.len
        have htk : L.take (j + 1) = L.take j ++ [xs] := by rw [List.take_add_one, hxs]; rfl
        refine ⟨j + 1, vs ++ [.slice p1 m c1], _, by omega, by go_num, rfl, ⟨hown3, by rw [htk, List.length_append, hll]; rfl, ?_, ?_⟩, hb3⟩
        · intro i u' ys hu hy
          rw [htk] at hy
          by_cases hi : i < j
          · rw [List.getElem?_append_left (by omega)] at hu hy
            obtain ⟨q', m', d', eu, ho, hm, hbt⟩ := hp1.el i u' ys hu hy
            exact ⟨q', m', d', eu, hkeep ho, hm, hbt⟩
          · rw [List.getElem?_append_right (by omega)] at hu hy
            have hi0 : i - vs.length = 0 := by have := (List.getElem?_eq_some_iff.1 hu).1; simpa using this
            rw [hi0] at hu
            rw [hll, ← hl, hi0] at hy
            simp at hu hy
            subst hu
            subst hy
            refine ⟨p1, m, c1, rfl, hkeep ?_, hbi.big, hbi.byt⟩
            refine ⟨ho1.1, ?_⟩
            rcases ho1.2 with h' | ⟨g', cap', cur, h', hbg, rest⟩
            · exact .inl h'
            · exact .inr ⟨g', cap', cur, h', Nat.le_trans hb.size hbg, rest⟩
        · intro i i' u' u'' k hu hu' hk hk'
          have key : ∀ (i : Nat) (u' : Value), (vs ++ [Value.slice p1 m c1])[i]? = some u' → u'.ownBlock = some k → (i < j ∧ k < wr.heap.size ∧ vs[i]? = some u') ∨ (i = j ∧ wr.heap.size ≤ k) := by
            intro i u' hu hk
            by_cases hi : i < j
            · rw [List.getElem?_append_left (by omega)] at hu
              exact .inl ⟨hi, hold i u' k hu hk, hu⟩
            · rw [List.getElem?_append_right (by omega)] at hu
              have hi0 : i - vs.length = 0 := by have := (List.getElem?_eq_some_iff.1 hu).1; simpa using this
              rw [hi0] at hu
              simp at hu
              subst hu
              exact .inr ⟨by omega, (ho1.lt k hk).1⟩
          rcases key i u' hu hk with ⟨a1, a2, a3⟩ | ⟨a1, a2⟩
          · rcases key i' u'' hu' hk' with ⟨b1, b2, b3⟩ | ⟨b1, b2⟩
            · exact hp1.ne i i' u' u'' k a3 b3 hk hk'
            · omega
          · rcases key i' u'' hu' hk' with ⟨b1, b2, b3⟩ | ⟨b1, b2⟩
            · omega
            · omega
      case measure => simp [intOf]; omega
    · obtain rfl : j = n := by omega
      rw [List.take_of_length_le (by omega)] at hp
      go_wp2
      go_ret
      exact ⟨_, vs, rfl, hp, hb⟩

section
variable {B : Nat} {w w' : World} {x n j : Nat} {bv fv : Value} {gB : List (Nat × Nat)} {L : Nat → List Int}
/-- A disk of the document that is being made: j of its blocks are there, whose bytes are L. -/
structure RN (B : Nat) (w : World) (x n j : Nat) (bv fv : Value) (gB : List (Nat × Nat)) (L : Nat → List Int) : Prop where
  row : w.heap[x]? = some (.cells #[bv, .slice none 0 0, fv, .int .i64 0] 298 (0, 0))
  bs : w.ownsRow B 42 1 bv j (gB.map slc)
  bel : ∀ (i : Nat) (p : Nat × Nat), gB[i]? = some p → Own B w p.1 128 p.2 (L i)
  fs : w.ownsRow B 3 1 fv n (List.replicate n (.int .i64 0))
  lo : B ≤ x

theorem RN.len (h : RN B w x n j bv fv gB L) : gB.length = j := by have := h.bs.1; simpa using this

theorem RN.later (h : RN B w x n j bv fv gB L) (hb : Below w.heap.size w w') : RN B w' x n j bv fv gB L :=
  { row := (hb.block x (Array.getElem?_eq_some_iff.1 h.row).1).trans h.row
    bs := ownsRow_kept h.bs (fun k hk => hb.block k (h.bs.lt k hk).2)
    bel := fun i p hp => (h.bel i p hp).kept hb
    fs := ownsRow_kept h.fs (fun k hk => hb.block k (h.fs.lt k hk).2)
    lo := h.lo }

theorem row_set {cs : Array Value} {t : TypeId} (h : w.heap[x]? = some (.cells cs t (0, 0))) (i : Nat) (v : Value) : (w.setCell ⟨x, i, none⟩ v).heap[x]? = some (.cells (cs.setIfInBounds i v) t (0, 0)) :=
  heap_setCell_same w x i _ t v h

theorem not_row {cs : Array Value} {t : TypeId} (h : w.heap[x]? = some (.cells cs t (0, 0))) {e : TypeId} {s m : Nat} {v : Value} {Lx : List Value} (hv : w.ownsRow B e s v m Lx) (hne : e ≠ t) : v.ownBlock ≠ some x := by
  intro hg
  obtain ⟨cs', hc⟩ := own_ty hv hg
  rw [h] at hc
  simp only [Option.some.injEq, Obj.cells.injEq] at hc
  exact hne hc.2.1.symm

theorem RN.at0 (h : RN B w x n j bv fv gB L) (hg : w.grownBy w' bv.ownBlock) : w'.cell? ⟨x, 0, none⟩ = some bv ∧ w'.frozen? ⟨x, 0, none⟩ = false := by
  have hxb := not_row h.row h.bs (by decide)
  have hrow : w'.heap[x]? = _ := (hg.block x (Array.getElem?_eq_some_iff.1 h.row).1 (fun e => hxb e.symm)).trans h.row
  exact ⟨by rw [cell_of_row _ x 0 _ _ _ hrow]; rfl, by simp [World.frozen?, hrow]⟩

/-- One block more. -/
theorem RN.push (h : RN B w x n j bv fv gB L) {p : Nat × Nat} (hp : Own B w p.1 128 p.2 (L j)) {v : Value} (hown : w'.ownsRow B 42 1 v (j + 1) (gB.map slc ++ [slc p])) (hg : w.grownBy w' bv.ownBlock) : RN B (w'.setCell ⟨x, 0, none⟩ v) x n (j + 1) v fv (gB ++ [p]) L := by
  have hxb := not_row h.row h.bs (by decide)
  have hrow : w'.heap[x]? = _ := (hg.block x (Array.getElem?_eq_some_iff.1 h.row).1 (fun e => hxb e.symm)).trans h.row
  have hxv := not_row hrow hown (by decide)
  have hk : ∀ k, k ≠ x → (w'.setCell ⟨x, 0, none⟩ v).heap[k]? = w'.heap[k]? := fun k hk => Below.heap_setCell w' ⟨x, 0, none⟩ _ k hk
  have hk5 : ∀ {g c : Nat} {xs : List Int}, Own B w g 128 c xs → Own B (w'.setCell ⟨x, 0, none⟩ v) g 128 c xs := by
    intro g c xs ho
    refine ownsRow_kept ho (fun k hk' => ?_)
    have h1 : k ≠ x := by rintro rfl; exact not_row h.row ho (by decide) hk'
    rw [hk k h1]
    exact hg.block k (World.ownsRow.lt ho k hk').2 (fun e => owns_ne ho h.bs (by decide) hk' e.symm)
  refine ⟨row_set hrow 0 v, ?_, ?_, ?_, h.lo⟩
  · rw [List.map_append]
    exact ownsRow_kept hown (fun k hk' => hk k (by rintro rfl; exact hxv hk'))
  · intro i q hq
    have hl := h.len
    by_cases hi : i < j
    · rw [List.getElem?_append_left (by omega)] at hq
      exact hk5 (h.bel i q hq)
    · rw [List.getElem?_append_right (by omega)] at hq
      have hi0 : i - gB.length = 0 := by have := (List.getElem?_eq_some_iff.1 hq).1; simpa using this
      rw [hi0] at hq
      simp at hq
      subst hq
      obtain rfl : i = j := by omega
      exact hk5 hp
  · refine ownsRow_kept h.fs (fun k hk' => ?_)
    have h1 : k ≠ x := by rintro rfl; exact not_row h.row h.fs (by decide) hk'
    rw [hk k h1]
    exact hg.block k (h.fs.lt k hk').2 (fun e => owns_ne h.fs h.bs (by decide) hk' e.symm)

end

set_option maxRecDepth 10000 in
set_option maxHeartbeats 2000000 in
theorem rof_ok (p : Option Addr) (n c : Nat) (L : List (List Int)) (w : World) (h : IB w p n L) (h1 : 1 ≤ n) (h2 : n ≤ 2048) : Calls Tryz.prog 109 #[.slice p n c] w fun e w' => Below w.heap.size w w' ∧ (((∀ xs ∈ L, xs.length = 128) ∧ ∃ x, e = .returned (.tuple #[.pointer (some ⟨x, 0, none⟩), .int .i64 0])) ∨ ((∃ xs ∈ L, xs.length ≠ 128) ∧ e = .returned (.tuple #[.pointer none, .int .i64 1]))) := by
  obtain ⟨i3, hi3, hy0, hy1, hy2⟩ := info_parts info3
  obtain ⟨i9, hi9, hx0, hx1, hx2⟩ := info_parts info30
  have hlen := h.len
  have hi1 : (1 : Int) ≤ (n : Int) := by omega
  have hi2 : (n : Int) ≤ 2048 := by omega
  have hn0 : n = 0 → False := by omega
  go_enter Tryz.func109, Tryz.ntmps109
  go_wp2_with (at_make; refine wpList_make_full _ rfl _ _ 49 rfl w.heap.size 3 i3 (.int .i64 0) 1 Tryz.underlying49 hi3 hy0 hy1 .i64 .i64 _ _ n rfl rfl rfl rfl (by rw [hy2]; omega) (by unfold maxLen; omega) (Nat.le_refl _) ?_; intro w1 hown1 hgrow1; have hb1 := (Below.refl w.heap.size w).grown hgrow1 (Nat.le_refl _) (by intro k hk; cases hk); clear hgrow1)
  rw [made_list _ _ rfl] at hown1
  have hb2 := hb1.alloc hb1.size (.cells #[.slice none 0 0, .slice none 0 0, .slice (some ⟨w.heap.size, 0, none⟩) n n, .int .i64 0] 298)
  have hn1 : RN w.heap.size (w1.alloc (.cells #[.slice none 0 0, .slice none 0 0, .slice (some ⟨w.heap.size, 0, none⟩) n n, .int .i64 0] 298)) w1.heap.size n 0 (.slice none 0 0) (.slice (some ⟨w.heap.size, 0, none⟩) n n) [] (part L n) :=
    ⟨at_new rfl, World.ownsRow_nil _ _ _ _, by simp, ownsRow_kept hown1 (fun k hk => Below.heap_alloc _ _ _ (hown1.lt k hk).2), hb1.size⟩
  obtain ⟨x, hx⟩ : ∃ x, w1.heap.size = x := ⟨_, rfl⟩
  rw [hx] at hn1 ⊢
  clear hx hown1 hb1
  go_loopw [22] (fun i wr => ∃ (j : Nat) (bv : Value) (gB : List (Nat × Nat)), j ≤ n ∧ i = .int .i64 (j : Int) ∧ RN w.heap.size wr x n j bv (.slice (some ⟨w.heap.size, 0, none⟩) n n) gB (part L n) ∧ (∀ xs ∈ L.take j, xs.length = 128) ∧ Below w.heap.size w wr) (fun i _ => n - (intOf i).toNat)
  case atStart => exact ⟨0, _, _, by omega, rfl, hn1, by simp, hb2⟩
  case round =>
    clear hn1 hb2
    obtain ⟨j, bv, gB, hj, rfl, hr, hall, hb⟩ := hrel
    by_cases hlt : j < n
    · obtain ⟨bb, oo, rfl, hic⟩ := h.cells (by omega)
      obtain ⟨xs, hxs⟩ : ∃ xs, L[j]? = some xs := ⟨L[j], List.getElem?_eq_getElem (by omega)⟩
      obtain ⟨q, m, d, hcell, hbi⟩ := hic j xs hxs
      have hcell' := (hb.cell (p := ⟨bb, oo + j, none⟩) (lt_of_cell hcell)).trans hcell
      have hbi' := hbi.kept hb
      have hml := hbi.len
      clear hic hcell
      have hjI : (j : Int) < (n : Int) := by omega
      by_cases hm : m = 128
      · subst hm
        obtain ⟨qb, qo, rfl, _⟩ := hbi.cells (by omega)
        have hpj : part L n j = xs := by
          unfold part
          rw [if_pos hlt, List.getD_eq_getElem?_getD, hxs]
          rfl
        have hrd := hr.later (Below.refl _ _).drew
        have hc0 := cell_of_row _ x 0 _ _ _ hrd.row
        simp only [List.getElem?_toArray, List.getElem?_cons_zero] at hc0
        have hbid := hbi'.kept (Below.refl _ _).drew
        have hmax : j + 1 ≤ maxLen := by unfold maxLen; omega
        have hone : ∀ (g3 c3 : Nat), ∀ u ∈ [slc (g3, c3)], u.oneCell' = true := by intro g3 c3 u hu; simp at hu; subst hu; rfl
        have HO := (show Hid _ from hone)
        obtain ⟨LL, HLL⟩ : ∃ LL, Hid (gB.map slc = LL) := ⟨_, rfl⟩
        clear hone
        go_wp2_with fail
        go_region_law
          (first
            | (refine step_append_lies _ (by rfl) _ _ _ (by rfl) w.heap.size 42 i9 (.slice none 0 0) 1 24 Tryz.underlying67 hi9 hx0 hx1 hx2 (by rfl) (by omega) bv j LL (by rfl) hbs ⟨w3.heap.size, 0, none⟩ 1 1 [slc (g3, c3)] (by rfl) rfl HNW.out (HO.out g3 c3) (by omega) hmax (by omega) hB3 (w3.heap.size + 1) (by simp) ?_; intro g cap w4 hown4 hgrow4 hat4 hlt4; rw [← HLL.out] at hown4; have hfin := hr3a.push (p := (g3, c3)) (by rw [hpj]; exact ho3a) hown4 hgrow4; obtain ⟨hc4, hf4⟩ := hr3a.at0 hgrow4; have hb4 := hbwa.grown hgrow4 hbwa.size (fun k hk => (hr3a.bs.lt k hk).1))
            | (rw [if_pos (by rfl)]; go_simp; refine Calls.mono (copied_ok _ 128 d xs _ hbid) ?_; rintro e w3 ⟨g3, c3, rfl, ho3, hb3⟩; have hr3 := hrd.later hb3; have hc0' := cell_of_row _ x 0 _ _ _ hr3.row; simp only [List.getElem?_toArray, List.getElem?_cons_zero] at hc0'; have hba := (Below.refl w3.heap.size w3).alloc (Nat.le_refl _) (.cells #[.slice (some ⟨g3, 0, none⟩) 128 c3] 42); have hr3a := hr3.later hba; have hc0a := cell_of_row _ x 0 _ _ _ hr3a.row; simp only [List.getElem?_toArray, List.getElem?_cons_zero] at hc0a; have ho3a := (ho3.kept hba).base (B' := w.heap.size) hb.size; have hbs := hr3a.bs; rw [HLL.out] at hbs; have hbwa := (hb.drew.trans (hb3.mono hb.size)).trans (hba.mono (Nat.le_trans hb.size hb3.size)); have hB3 := hbwa.size; have HNW := (show Hid (∀ i u, [slc (g3, c3)][i]? = some u → (w3.alloc (.cells #[.slice (some ⟨g3, 0, none⟩) 128 c3] 42)).cell? ((⟨w3.heap.size, 0, none⟩ : Addr).add i) = some u) from World.news_of_block (cs := #[slc (g3, c3)]) (t := 42) (fr := (0, 0)) (at_new rfl)); dsimp only))
        all_goals (
          have hbw := hb4.setCell (p := ⟨x, 0, none⟩) hr.lo (.slice (some ⟨g, 0, none⟩) (j + 1) cap)
          clear hown4 hgrow4 hat4 hr3a hr3 hrd ho3 ho3a hbs HNW hr hb4 hc0 hc0' hc0a hc4 hf4
          go_wp2
          go_roundw
          case rel =>
            refine ⟨j + 1, _, _, by omega, by go_num, hfin, fun ys hy => ?_, hbw⟩
            rw [List.take_add_one, hxs] at hy
            rcases List.mem_append.1 hy with h' | h'
            · exact hall ys h'
            · simp at h'
              subst h'
              exact hml
          case measure => simp [intOf]; omega)
      · have hmI : ¬ (m : Int) = 128 := by omega
        go_wp2
        go_ret2
        exact ⟨hb, .inr ⟨⟨xs, List.mem_of_getElem? hxs, by omega⟩, rfl⟩⟩
    · obtain rfl : n = j := by omega
      rw [List.take_of_length_le (by omega)] at hall
      go_wp2
      go_ret2
      exact ⟨hb, .inl ⟨hall, _, rfl⟩⟩
end Go.Proofs.YthdlpeejmmobmaaGreat
