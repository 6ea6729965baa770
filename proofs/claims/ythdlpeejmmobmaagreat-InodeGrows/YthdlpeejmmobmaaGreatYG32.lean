/- F1 F2 -/
import Derived.Test.YthdlpeejmmobmaaGreatYG17
import Derived.Deep.AppendLies
import Derived.Deep.RegionLaw

namespace Go.Proofs.YthdlpeejmmobmaaGreat
open Go.RowKit Go.Maps
set_option linter.unusedVariables false
set_option maxHeartbeats 400000 in
theorem bclone_some (a : Addr) (n c : Nat) (xs : List Int) (w : World) (h : BI w (some a) n xs) :
  Calls Tryz.prog 190 #[.slice (some a) n c] w fun e w' => ∃ g cap, e = .returned (.slice (some ⟨g, 0, none⟩) n cap) ∧ Own w.heap.size w' g n cap xs ∧ Below w.heap.size w w' := by
 obtain ⟨i0, hi, hz0, hz1, hz2⟩ := info_parts info5
 have hbig := h.big
 have hlen := h.len
 have q22 := eqlNil
 have hb0 := (Below.refl w.heap.size w).alloc (Nat.le_refl _) (Obj.cells #[] 5)
 go_enter Tryz.func190, Tryz.ntmps190
 go_wp2_with (at_builtin; refine wpList_append_own _ rfl _ _ 42 rfl w.heap.size 5 i0 (.int .u8 0) 1 1 Tryz.underlying42 hi hz0 hz1 hz2 rfl (by decide) _ _ _ rfl (World.ownsRow_made w #[] 0 (Nat.le_refl _) (Nat.zero_le _) rfl) a n c (xs.map (Value.int .u8)) rfl ?c1 ?c2 ?c3 ?c4 ?c5 ?c6 ?_)
 case c1 => simp [hlen]
 case c2 => exact (h.kept hb0).src'
 case c3 => exact one_cells xs
 case c4 => unfold maxLen; omega
 case c5 => omega
 case c6 => simp
 intro v' w1 hown hgrow hnil
 obtain ⟨g, cap, hv, ho⟩ := own_shape hown (by first | exact hnil | (intro e; exact absurd (hnil.1 e).1 (by simp)))
 rw [hv]
 clear hown hnil
 have hb1 := hb0.grown hgrow (by simp) (by intro k hk; simp [Value.ownBlock] at hk; omega)
 go_wp2
 go_ret
 exact ⟨g, cap, rfl, ho, hb1⟩
set_option maxHeartbeats 400000 in
theorem bclone_nil (n c : Nat) (w : World) :
  Calls Tryz.prog 190 #[.slice none n c] w fun e w' => e = .returned (.slice none 0 0) ∧ w' = w := by
 have q22 := eqlNil
 go_enter Tryz.func190, Tryz.ntmps190
 go_wp2
 go_ret
 exact ⟨rfl, rfl⟩
theorem BI.nil_zero {w : World} {n : Nat} {xs : List Int} (h : BI w none n xs) : n = 0 ∧ xs = [] := by
 have hn : n = 0 := by
  rcases Nat.eq_zero_or_pos n with h0 | h0
  ·exact h0
  ·obtain ⟨b, o, e, _⟩ := h.cells h0
   cases e
 exact ⟨hn, List.eq_nil_of_length_eq_zero (by rw [h.len, hn])⟩
theorem bclone_any (p : Option Addr) (n c : Nat) (xs : List Int) (w : World) (h : BI w p n xs) :
  Calls Tryz.prog 190 #[.slice p n c] w fun e w' => ∃ v, e = .returned v ∧ w'.ownsRow w.heap.size 5 1 v n (xs.map (Value.int .u8)) ∧ Below w.heap.size w w' := by
 cases p with
 | none =>
  obtain ⟨rfl, rfl⟩ := h.nil_zero
  exact (bclone_nil 0 c w).mono fun e w' ⟨he, hw⟩ => ⟨_, he, World.ownsRow_nil _ _ _ _, by rw [hw]; exact Below.refl _ _⟩
 | some a =>
  exact (bclone_some a n c xs w h).mono fun e w' ⟨g, cap, he, ho, hb⟩ => ⟨_, he, ho, hb⟩
theorem owns_ne {w : World} {B B' : Nat} {e e' : TypeId} {s s' n n' : Nat} {v v' : Value} {L L' : List Value} (h : w.ownsRow B e s v n L) (h' : w.ownsRow B' e' s' v' n' L') (hne : e ≠ e') {k : Nat} (hk : v.ownBlock = some k) : v'.ownBlock ≠ some k := by
 intro hk'
 rcases h.2 with ⟨rfl, _⟩ | ⟨g1, cap1, cur1, rfl, _, hg1, _⟩
 ·simp [Value.ownBlock] at hk
 rcases h'.2 with ⟨rfl, _⟩ | ⟨g2, cap2, cur2, rfl, _, hg2, _⟩
 ·simp [Value.ownBlock] at hk'
 simp only [Value.ownBlock, Option.some.injEq] at hk hk'
 subst hk
 subst hk'
 rw [hg1] at hg2
 simp only [Option.some.injEq, Obj.cells.injEq] at hg2
 exact hne hg2.2.1
theorem info3 : (Tryz.prog.info? 3).map (fun i => (i.zero, i.size, i.bytes)) = some (some (.int .i64 0), 1, 8) := by kernel_rfl
section
variable {B : Nat} {w : World}
theorem row_case {e : TypeId} {s n : Nat} {v : Value} {L : List Value} (h : w.ownsRow B e s v n L) : ∃ p c, v = .slice p n c ∧ (0 < n → ∃ g, p = some ⟨g, 0, none⟩) := by
 rcases h.2 with ⟨rfl, rfl⟩ | ⟨g, cap, cur, rfl, _⟩
 ·exact ⟨_, _, rfl, fun h => by omega⟩
 ·exact ⟨_, _, rfl, fun _ => ⟨g, rfl⟩⟩
end
def slc (p : Nat × Nat) : Value := .slice (some ⟨p.1, 0, none⟩) 128 p.2
set_option maxHeartbeats 400000 in
theorem copied_ok (a : Addr) (n c : Nat) (xs : List Int) (w : World) (h : BI w (some a) n xs) :
  Calls Tryz.prog 191 #[.slice (some a) n c] w fun e w' => ∃ g cap, e = .returned (.slice (some ⟨g, 0, none⟩) n cap) ∧ Own w.heap.size w' g n cap xs ∧ Below w.heap.size w w' := by
 obtain ⟨i0, hi, hz0, hz1, hz2⟩ := info_parts info5
 have hbig := h.big
 have hlen := h.len
 have hb0 := (Below.refl w.heap.size w).alloc (Nat.le_refl _) (Obj.cells #[] 5)
 go_enter Tryz.func191, Tryz.ntmps191
 go_wp2_with (at_builtin; refine wpList_append_own _ rfl _ _ 42 rfl w.heap.size 5 i0 (.int .u8 0) 1 1 Tryz.underlying42 hi hz0 hz1 hz2 rfl (by decide) _ _ _ rfl (World.ownsRow_made w #[] 0 (Nat.le_refl _) (Nat.zero_le _) rfl) a n c (xs.map (Value.int .u8)) rfl ?c1 ?c2 ?c3 ?c4 ?c5 ?c6 ?_)
 case c1 => simp [hlen]
 case c2 => exact (h.kept hb0).src'
 case c3 => exact one_cells xs
 case c4 => unfold maxLen; omega
 case c5 => omega
 case c6 => simp
 intro v' w1 hown hgrow hnil
 obtain ⟨g, cap, hv, ho⟩ := own_shape hown (by first | exact hnil | (intro e; exact absurd (hnil.1 e).1 (by simp)))
 rw [hv]
 clear hown hnil
 have hb1 := hb0.grown hgrow (by simp) (by intro k hk; simp [Value.ownBlock] at hk; omega)
 go_wp2
 go_ret
 exact ⟨g, cap, rfl, ho, hb1⟩
theorem own_bi {w : World} {H n c : Nat} {p : Option Addr} {xs : List Int} (h : w.ownsRow H 5 1 (.slice p n c) n (xs.map (Value.int .u8))) (hn : n ≤ 140737488355328) (hx : Num.Byt xs) : BI w p n xs := by
 have hl : xs.length = n := by have := h.1; simpa using this
 refine ⟨hl, hn, hx, fun h0 => ?_⟩
 rcases h.2 with ⟨e, e0⟩ | ⟨g, cap, cur, e, _⟩
 ·omega
 ·cases e
  exact ⟨g, 0, rfl, fun i hi => by rw [Nat.zero_add]; exact Own.cell (B := H) (cap := c) h i hi⟩
structure PI (B : Nat) (w : World) (v : Value) (n : Nat) (vs : List Value) (L : List (List Int)) : Prop where
 row : w.ownsRow B 42 1 v n vs
 len : L.length = n
 el : ∀ (i : Nat) (u : Value) (xs : List Int), vs[i]? = some u → L[i]? = some xs → ∃ p m c, u = .slice p m c ∧ w.ownsRow B 5 1 (.slice p m c) m (xs.map (Value.int .u8)) ∧ m ≤ 140737488355328 ∧ Num.Byt xs
 ne : ∀ (i j : Nat) (u u' : Value) (k : Nat), vs[i]? = some u → vs[j]? = some u' → u.ownBlock = some k → u'.ownBlock = some k → i = j
theorem PI.vlen {B : Nat} {w : World} {v : Value} {n : Nat} {vs : List Value} {L : List (List Int)} (h : PI B w v n vs L) : vs.length = n := by have := h.row.1; simpa using this
theorem PI.ib {B : Nat} {w : World} {v : Value} {n : Nat} {vs : List Value} {L : List (List Int)} (h : PI B w v n vs L) (hn : n ≤ 140737488355328) : ∃ p c, v = .slice p n c ∧ IB w p n L := by
 have hl := h.vlen
 obtain ⟨p, c, e, hp⟩ := row_case h.row
 refine ⟨p, c, e, h.len, hn, fun h0 => ?_⟩
 obtain ⟨g, rfl⟩ := hp h0
 refine ⟨g, 0, rfl, fun i xs hx => ?_⟩
 have hi : i < n := by have := (List.getElem?_eq_some_iff.1 hx).1; have := h.len; omega
 have hvi : vs[i]? = some (vs[i]'(by omega)) := List.getElem?_eq_getElem _
 obtain ⟨q, m, d, eu, ho, hm, hb⟩ := h.el i _ xs hvi hx
 refine ⟨q, m, d, ?_, own_bi ho hm hb⟩
 have hr := h.row
 rw [e] at hr
 rw [Nat.zero_add, hr.cellAt i (by omega), hvi, eu]
theorem PI.kept {B : Nat} {w w' : World} {v : Value} {n : Nat} {vs : List Value} {L : List (List Int)} (h : PI B w v n vs L) (hb : ∀ k, B ≤ k → k < w.heap.size → w'.heap[k]? = w.heap[k]?) : PI B w' v n vs L := by
 refine ⟨ownsRow_kept h.row (fun k hk => hb k (h.row.lt k hk).1 (h.row.lt k hk).2), h.len, fun i u xs hu hx => ?_, h.ne⟩
 obtain ⟨q, m, d, eu, ho, hm, hbt⟩ := h.el i u xs hu hx
 exact ⟨q, m, d, eu, ownsRow_kept ho (fun k hk => hb k (ho.lt k hk).1 (ho.lt k hk).2), hm, hbt⟩
set_option maxRecDepth 10000 in
set_option maxHeartbeats 1000000 in
theorem pimage_ok (p : Option Addr) (n c : Nat) (L : List (List Int)) (w : World) (h : IB w p n L) (h24 : n * 24 ≤ 140737488355328) :
  Calls Tryz.prog 108 #[.slice p n c] w fun e w' => ∃ v vs, e = .returned v ∧ PI w.heap.size w' v n vs L ∧ Below w.heap.size w w' := by
 obtain ⟨i9, hi9, hx0, hx1, hx2⟩ := info_parts info30
 have hlen := h.len
 go_enter Tryz.func108, Tryz.ntmps108
 go_wp2_with fail
 go_loopw [3, 8] (fun v i wr => ∃ (j : Nat) (vs : List Value) (u : Value), j ≤ n ∧ i = .int .i64 (j : Int) ∧ u = v ∧ PI w.heap.size wr u j vs (L.take j) ∧ Below w.heap.size w wr) (fun _ i _ => n - (intOf i).toNat)
 case atStart => exact ⟨0, [], _, by omega, rfl, rfl, ⟨World.ownsRow_nil _ _ _ _, by simp, by simp, by simp⟩, Below.refl _ _⟩
 case round =>
  obtain ⟨j, vs, u, hj, rfl, rfl, hp, hb⟩ := hrel
  by_cases hlt : j < n
  ·obtain ⟨bb, oo, rfl, hic⟩ := h.cells (by omega)
   obtain ⟨xs, hxs⟩ : ∃ xs, L[j]? = some xs := ⟨L[j], List.getElem?_eq_getElem (by omega)⟩
   obtain ⟨q, m, d, hcell, hbi⟩ := hic j xs hxs
   have hcell' := (hb.cell (p := ⟨bb, oo + j, none⟩) (lt_of_cell hcell)).trans hcell
   have hbi' := hbi.kept hb
   clear hic hcell
   have hjI : (j : Int) < (n : Int) := by omega
   go_wp2_with fail
   refine (bclone_any q m d xs wr hbi').mono ?_
   rintro e w1 ⟨v1, rfl, ho1, hb1⟩
   obtain ⟨p1, c1, rfl, _⟩ := row_case ho1
   have hp1 := hp.kept (w' := w1) (fun k _ hk => hb1.block k hk)
   have hold : ∀ (i : Nat) (u : Value) (k : Nat), vs[i]? = some u → u.ownBlock = some k → k < wr.heap.size := fun i u k hu hk => by
    have hl := hp.vlen
    have hil := (List.getElem?_eq_some_iff.1 hu).1
    have hll := hp.len
    obtain ⟨q, m, d, eu, ho, _⟩ := hp.el i u _ hu (List.getElem?_eq_getElem (by omega))
    rw [eu] at hk
    exact (ho.lt k hk).2
   have hb2 := (Below.refl w1.heap.size w1).alloc (Nat.le_refl _) (.cells #[.slice p1 m c1] 42)
   have hp2 := hp1.kept (w' := w1.alloc (.cells #[.slice p1 m c1] 42)) (fun k _ hk => hb2.block k hk)
   have hbw := hb.trans (hb1.mono hb.size)
   have hnews : ∀ i u, [Value.slice p1 m c1][i]? = some u → (w1.alloc (.cells #[.slice p1 m c1] 42)).cell? ((⟨w1.heap.size, 0, none⟩ : Addr).add i) = some u := World.news_of_block (cs := #[Value.slice p1 m c1]) (t := 42) (fr := (0, 0)) (at_new rfl)
   have hone : ∀ u ∈ [Value.slice p1 m c1], u.oneCell' = true := by intro u hu; simp at hu; subst hu; rfl
   have HN1 := (show Hid _ from hnews)
   have HO := (show Hid _ from hone)
   have hrow2 := hp2.row
   clear hnews hone hp
   go_wp2_with (at_builtin; refine wpList_append_own _ rfl _ _ 67 rfl w.heap.size 42 i9 (.slice none 0 0) 1 24 Tryz.underlying67 hi9 hx0 hx1 hx2 rfl (by decide) u j vs rfl hrow2 ⟨w1.heap.size, 0, none⟩ 1 1 [Value.slice p1 m c1] rfl rfl HN1.out HO.out (by unfold maxLen; omega) (by omega) (by simp only [World.size_alloc]; have := hbw.size; omega) ?_)
   intro v3 w3 hown3 hgrow3 _
   have hb3 := (hbw.alloc hbw.size (.cells #[.slice p1 m c1] 42)).grown hgrow3 (by simp only [World.size_alloc]; have := hbw.size; omega) (fun k hk => (hrow2.lt k hk).1)
   have hkeep : ∀ {s l : Nat} {u' : Value} {Lx : List Value}, w1.ownsRow w.heap.size 5 s u' l Lx → w3.ownsRow w.heap.size 5 s u' l Lx := fun ho => by
    have ho2 := ownsRow_kept ho (w' := w1.alloc (.cells #[.slice p1 m c1] 42)) (fun k hk => hb2.block k (ho.lt k hk).2)
    exact ownsRow_kept ho2 (fun k hk => hgrow3.block k (ho2.lt k hk).2 (fun e => owns_ne ho2 hrow2 (by decide) hk e.symm))
   go_wp2
   go_roundw
   case rel =>
    have hl := hp1.vlen
    have hll := hp1.len
    have htk : L.take (j + 1) = L.take j ++ [xs] := by rw [List.take_add_one, hxs]; rfl
    refine ⟨j + 1, vs ++ [.slice p1 m c1], _, by omega, by go_num, rfl, ⟨hown3, by rw [htk, List.length_append, hll]; rfl, ?_, ?_⟩, hb3⟩
    ·intro i u' ys hu hy
     rw [htk] at hy
     by_cases hi : i < j
     ·rw [List.getElem?_append_left (by omega)] at hu hy
      obtain ⟨q', m', d', eu, ho, hm, hbt⟩ := hp1.el i u' ys hu hy
      exact ⟨q', m', d', eu, hkeep ho, hm, hbt⟩
     ·rw [List.getElem?_append_right (by omega)] at hu hy
      have hi0 : i - vs.length = 0 := by have := (List.getElem?_eq_some_iff.1 hu).1; simpa using this
      rw [hi0] at hu
      rw [hll, ← hl, hi0] at hy
      simp at hu hy
      subst hu
      subst hy
      refine ⟨p1, m, c1, rfl, hkeep ?_, hbi.big, hbi.byt⟩
      refine ⟨ho1.1, ?_⟩
      rcases ho1.2 with h' | ⟨g', cap', cur, h', hbg, rest⟩
      ·exact .inl h'
      ·exact .inr ⟨g', cap', cur, h', Nat.le_trans hb.size hbg, rest⟩
    ·intro i i' u' u'' k hu hu' hk hk'
     have key : ∀ (i : Nat) (u' : Value), (vs ++ [Value.slice p1 m c1])[i]? = some u' → u'.ownBlock = some k → (i < j ∧ k < wr.heap.size ∧ vs[i]? = some u') ∨ (i = j ∧ wr.heap.size ≤ k) := by
      intro i u' hu hk
      by_cases hi : i < j
      ·rw [List.getElem?_append_left (by omega)] at hu
       exact .inl ⟨hi, hold i u' k hu hk, hu⟩
      ·rw [List.getElem?_append_right (by omega)] at hu
       have hi0 : i - vs.length = 0 := by have := (List.getElem?_eq_some_iff.1 hu).1; simpa using this
       rw [hi0] at hu
       simp at hu
       subst hu
       exact .inr ⟨by omega, (ho1.lt k hk).1⟩
     rcases key i u' hu hk with ⟨a1, a2, a3⟩ | ⟨a1, a2⟩
     ·rcases key i' u'' hu' hk' with ⟨b1, b2, b3⟩ | ⟨b1, b2⟩
      ·exact hp1.ne i i' u' u'' k a3 b3 hk hk'
      ·omega
     ·rcases key i' u'' hu' hk' with ⟨b1, b2, b3⟩ | ⟨b1, b2⟩
      ·omega
      ·omega
   case measure => simp [intOf]; omega
  ·obtain rfl : j = n := by omega
   rw [List.take_of_length_le (by omega)] at hp
   go_wp2
   go_ret
   exact ⟨_, vs, rfl, hp, hb⟩
section
variable {B : Nat} {w w' : World} {x n j : Nat} {bv fv : Value} {gB : List (Nat × Nat)} {L : Nat → List Int}
structure RN (B : Nat) (w : World) (x n j : Nat) (bv fv : Value) (gB : List (Nat × Nat)) (L : Nat → List Int) : Prop where
 row : w.heap[x]? = some (.cells #[bv, .slice none 0 0, fv, .int .i64 0] 298 (0, 0))
 bs : w.ownsRow B 42 1 bv j (gB.map slc)
 bel : ∀ (i : Nat) (p : Nat × Nat), gB[i]? = some p → Own B w p.1 128 p.2 (L i)
 fs : w.ownsRow B 3 1 fv n (List.replicate n (.int .i64 0))
 lo : B ≤ x
theorem RN.len (h : RN B w x n j bv fv gB L) : gB.length = j := by have := h.bs.1; simpa using this
theorem RN.later (h : RN B w x n j bv fv gB L) (hb : Below w.heap.size w w') : RN B w' x n j bv fv gB L :=
 { row := (hb.block x (Array.getElem?_eq_some_iff.1 h.row).1).trans h.row
   bs := ownsRow_kept h.bs (fun k hk => hb.block k (h.bs.lt k hk).2)
   bel := fun i p hp => (h.bel i p hp).kept hb
   fs := ownsRow_kept h.fs (fun k hk => hb.block k (h.fs.lt k hk).2)
   lo := h.lo }
theorem row_set {cs : Array Value} {t : TypeId} (h : w.heap[x]? = some (.cells cs t (0, 0))) (i : Nat) (v : Value) : (w.setCell ⟨x, i, none⟩ v).heap[x]? = some (.cells (cs.setIfInBounds i v) t (0, 0)) :=
 heap_setCell_same w x i _ t v h
theorem not_row {cs : Array Value} {t : TypeId} (h : w.heap[x]? = some (.cells cs t (0, 0))) {e : TypeId} {s m : Nat} {v : Value} {Lx : List Value} (hv : w.ownsRow B e s v m Lx) (hne : e ≠ t) : v.ownBlock ≠ some x := by
 intro hg
 obtain ⟨cs', hc⟩ := own_ty hv hg
 rw [h] at hc
 simp only [Option.some.injEq, Obj.cells.injEq] at hc
 exact hne hc.2.1.symm
theorem RN.at0 (h : RN B w x n j bv fv gB L) (hg : w.grownBy w' bv.ownBlock) : w'.cell? ⟨x, 0, none⟩ = some bv ∧ w'.frozen? ⟨x, 0, none⟩ = false := by
 have hxb := not_row h.row h.bs (by decide)
 have hrow : w'.heap[x]? = _ := (hg.block x (Array.getElem?_eq_some_iff.1 h.row).1 (fun e => hxb e.symm)).trans h.row
 exact ⟨by rw [cell_of_row _ x 0 _ _ _ hrow]; rfl, by simp [World.frozen?, hrow]⟩
theorem RN.push (h : RN B w x n j bv fv gB L) {p : Nat × Nat} (hp : Own B w p.1 128 p.2 (L j)) {v : Value} (hown : w'.ownsRow B 42 1 v (j + 1) (gB.map slc ++ [slc p])) (hg : w.grownBy w' bv.ownBlock) : RN B (w'.setCell ⟨x, 0, none⟩ v) x n (j + 1) v fv (gB ++ [p]) L := by
 have hxb := not_row h.row h.bs (by decide)
 have hrow : w'.heap[x]? = _ := (hg.block x (Array.getElem?_eq_some_iff.1 h.row).1 (fun e => hxb e.symm)).trans h.row
 have hxv := not_row hrow hown (by decide)
 have hk : ∀ k, k ≠ x → (w'.setCell ⟨x, 0, none⟩ v).heap[k]? = w'.heap[k]? := fun k hk => Below.heap_setCell w' ⟨x, 0, none⟩ _ k hk
 have hk5 : ∀ {g c : Nat} {xs : List Int}, Own B w g 128 c xs → Own B (w'.setCell ⟨x, 0, none⟩ v) g 128 c xs := by
  intro g c xs ho
  refine ownsRow_kept ho (fun k hk' => ?_)
  have h1 : k ≠ x := by rintro rfl; exact not_row h.row ho (by decide) hk'
  rw [hk k h1]
  exact hg.block k (World.ownsRow.lt ho k hk').2 (fun e => owns_ne ho h.bs (by decide) hk' e.symm)
 refine ⟨row_set hrow 0 v, ?_, ?_, ?_, h.lo⟩
 ·rw [List.map_append]
  exact ownsRow_kept hown (fun k hk' => hk k (by rintro rfl; exact hxv hk'))
 ·intro i q hq
  have hl := h.len
  by_cases hi : i < j
  ·rw [List.getElem?_append_left (by omega)] at hq
   exact hk5 (h.bel i q hq)
  ·rw [List.getElem?_append_right (by omega)] at hq
   have hi0 : i - gB.length = 0 := by have := (List.getElem?_eq_some_iff.1 hq).1; simpa using this
   rw [hi0] at hq
   simp at hq
   subst hq
   obtain rfl : i = j := by omega
   exact hk5 hp
 ·refine ownsRow_kept h.fs (fun k hk' => ?_)
  have h1 : k ≠ x := by rintro rfl; exact not_row h.row h.fs (by decide) hk'
  rw [hk k h1]
  exact hg.block k (h.fs.lt k hk').2 (fun e => owns_ne h.fs h.bs (by decide) hk' e.symm)
end
set_option maxRecDepth 10000 in
set_option maxHeartbeats 2000000 in
theorem rof_ok (p : Option Addr) (n c : Nat) (L : List (List Int)) (w : World) (h : IB w p n L) (h1 : 1 ≤ n) (h2 : n ≤ 2048) : Calls Tryz.prog 109 #[.slice p n c] w fun e w' => Below w.heap.size w w' ∧ (((∀ xs ∈ L, xs.length = 128) ∧ ∃ x, e = .returned (.tuple #[.pointer (some ⟨x, 0, none⟩), .int .i64 0])) ∨ ((∃ xs ∈ L, xs.length ≠ 128) ∧ e = .returned (.tuple #[.pointer none, .int .i64 1]))) := by
 obtain ⟨i3, hi3, hy0, hy1, hy2⟩ := info_parts info3
 obtain ⟨i9, hi9, hx0, hx1, hx2⟩ := info_parts info30
 have hlen := h.len
 have hi1 : (1 : Int) ≤ (n : Int) := by omega
 have hi2 : (n : Int) ≤ 2048 := by omega
 have hn0 : n = 0 → False := by omega
 go_enter Tryz.func109, Tryz.ntmps109
 go_wp2_with (at_make; refine wpList_make_full _ rfl _ _ 49 rfl w.heap.size 3 i3 (.int .i64 0) 1 Tryz.underlying49 hi3 hy0 hy1 .i64 .i64 _ _ n rfl rfl rfl rfl (by rw [hy2]; omega) (by unfold maxLen; omega) (Nat.le_refl _) ?_; intro w1 hown1 hgrow1; have hb1 := (Below.refl w.heap.size w).grown hgrow1 (Nat.le_refl _) (by intro k hk; cases hk); clear hgrow1)
 rw [made_list _ _ rfl] at hown1
 have hb2 := hb1.alloc hb1.size (.cells #[.slice none 0 0, .slice none 0 0, .slice (some ⟨w.heap.size, 0, none⟩) n n, .int .i64 0] 298)
 have hn1 : RN w.heap.size (w1.alloc (.cells #[.slice none 0 0, .slice none 0 0, .slice (some ⟨w.heap.size, 0, none⟩) n n, .int .i64 0] 298)) w1.heap.size n 0 (.slice none 0 0) (.slice (some ⟨w.heap.size, 0, none⟩) n n) [] (part L n) :=
  ⟨at_new rfl, World.ownsRow_nil _ _ _ _, by simp, ownsRow_kept hown1 (fun k hk => Below.heap_alloc _ _ _ (hown1.lt k hk).2), hb1.size⟩
 obtain ⟨x, hx⟩ : ∃ x, w1.heap.size = x := ⟨_, rfl⟩
 rw [hx] at hn1 ⊢
 clear hx hown1 hb1
 go_loopw [22] (fun i wr => ∃ (j : Nat) (bv : Value) (gB : List (Nat × Nat)), j ≤ n ∧ i = .int .i64 (j : Int) ∧ RN w.heap.size wr x n j bv (.slice (some ⟨w.heap.size, 0, none⟩) n n) gB (part L n) ∧ (∀ xs ∈ L.take j, xs.length = 128) ∧ Below w.heap.size w wr) (fun i _ => n - (intOf i).toNat)
 case atStart => exact ⟨0, _, _, by omega, rfl, hn1, by simp, hb2⟩
 case round =>
  clear hn1 hb2
  obtain ⟨j, bv, gB, hj, rfl, hr, hall, hb⟩ := hrel
  by_cases hlt : j < n
  ·obtain ⟨bb, oo, rfl, hic⟩ := h.cells (by omega)
   obtain ⟨xs, hxs⟩ : ∃ xs, L[j]? = some xs := ⟨L[j], List.getElem?_eq_getElem (by omega)⟩
   obtain ⟨q, m, d, hcell, hbi⟩ := hic j xs hxs
   have hcell' := (hb.cell (p := ⟨bb, oo + j, none⟩) (lt_of_cell hcell)).trans hcell
   have hbi' := hbi.kept hb
   have hml := hbi.len
   clear hic hcell
   have hjI : (j : Int) < (n : Int) := by omega
   by_cases hm : m = 128
   ·subst hm
    obtain ⟨qb, qo, rfl, _⟩ := hbi.cells (by omega)
    have hpj : part L n j = xs := by
     unfold part
     rw [if_pos hlt, List.getD_eq_getElem?_getD, hxs]
     rfl
    have hrd := hr.later (Below.refl _ _).drew
    have hc0 := cell_of_row _ x 0 _ _ _ hrd.row
    simp only [List.getElem?_toArray, List.getElem?_cons_zero] at hc0
    have hbid := hbi'.kept (Below.refl _ _).drew
    have hmax : j + 1 ≤ maxLen := by unfold maxLen; omega
    have hone : ∀ (g3 c3 : Nat), ∀ u ∈ [slc (g3, c3)], u.oneCell' = true := by intro g3 c3 u hu; simp at hu; subst hu; rfl
    have HO := (show Hid _ from hone)
    obtain ⟨LL, HLL⟩ : ∃ LL, Hid (gB.map slc = LL) := ⟨_, rfl⟩
    clear hone
    go_wp2_with fail
    go_region_law
     (first
      | (refine step_append_lies _ (by rfl) _ _ _ (by rfl) w.heap.size 42 i9 (.slice none 0 0) 1 24 Tryz.underlying67 hi9 hx0 hx1 hx2 (by rfl) (by omega) bv j LL (by rfl) hbs ⟨w3.heap.size, 0, none⟩ 1 1 [slc (g3, c3)] (by rfl) rfl HNW.out (HO.out g3 c3) (by omega) hmax (by omega) hB3 (w3.heap.size + 1) (by simp) ?_; intro g cap w4 hown4 hgrow4 hat4 hlt4; rw [← HLL.out] at hown4; have hfin := hr3a.push (p := (g3, c3)) (by rw [hpj]; exact ho3a) hown4 hgrow4; obtain ⟨hc4, hf4⟩ := hr3a.at0 hgrow4; have hb4 := hbwa.grown hgrow4 hbwa.size (fun k hk => (hr3a.bs.lt k hk).1))
      | (rw [if_pos (by rfl)]; go_simp; refine Calls.mono (copied_ok _ 128 d xs _ hbid) ?_; rintro e w3 ⟨g3, c3, rfl, ho3, hb3⟩; have hr3 := hrd.later hb3; have hc0' := cell_of_row _ x 0 _ _ _ hr3.row; simp only [List.getElem?_toArray, List.getElem?_cons_zero] at hc0'; have hba := (Below.refl w3.heap.size w3).alloc (Nat.le_refl _) (.cells #[.slice (some ⟨g3, 0, none⟩) 128 c3] 42); have hr3a := hr3.later hba; have hc0a := cell_of_row _ x 0 _ _ _ hr3a.row; simp only [List.getElem?_toArray, List.getElem?_cons_zero] at hc0a; have ho3a := (ho3.kept hba).base (B' := w.heap.size) hb.size; have hbs := hr3a.bs; rw [HLL.out] at hbs; have hbwa := (hb.drew.trans (hb3.mono hb.size)).trans (hba.mono (Nat.le_trans hb.size hb3.size)); have hB3 := hbwa.size; have HNW := (show Hid (∀ i u, [slc (g3, c3)][i]? = some u → (w3.alloc (.cells #[.slice (some ⟨g3, 0, none⟩) 128 c3] 42)).cell? ((⟨w3.heap.size, 0, none⟩ : Addr).add i) = some u) from World.news_of_block (cs := #[slc (g3, c3)]) (t := 42) (fr := (0, 0)) (at_new rfl)); dsimp only))
    all_goals (
     have hbw := hb4.setCell (p := ⟨x, 0, none⟩) hr.lo (.slice (some ⟨g, 0, none⟩) (j + 1) cap)
     clear hown4 hgrow4 hat4 hr3a hr3 hrd ho3 ho3a hbs HNW hr hb4 hc0 hc0' hc0a hc4 hf4
     go_wp2
     go_roundw
     case rel =>
      refine ⟨j + 1, _, _, by omega, by go_num, hfin, fun ys hy => ?_, hbw⟩
      rw [List.take_add_one, hxs] at hy
      rcases List.mem_append.1 hy with h' | h'
      ·exact hall ys h'
      ·simp at h'
       subst h'
       exact hml
     case measure => simp [intOf]; omega)
   ·have hmI : ¬ (m : Int) = 128 := by omega
    go_wp2
    go_ret2
    exact ⟨hb, .inr ⟨⟨xs, List.mem_of_getElem? hxs, by omega⟩, rfl⟩⟩
  ·obtain rfl : n = j := by omega
   rw [List.take_of_length_le (by omega)] at hall
   go_wp2
   go_ret2
   exact ⟨hb, .inl ⟨hall, _, rfl⟩⟩
end Go.Proofs.YthdlpeejmmobmaaGreat

namespace Go.Proofs.YthdlpeejmmobmaaGreat
open Go.RowKit Go.Maps Go.MuLone
set_option linter.unusedVariables false
set_option maxRecDepth 100000
section
variable {w : World}
set_option maxHeartbeats 400000 in
theorem rcnew_ok (d : Nat) (w : World) : Calls Tryz.prog 194 #[.pointer (some ⟨d, 0, none⟩), .int .i64 64] w fun e w' => ∃ c, e = .returned (.tuple #[.pointer (some ⟨c, 0, none⟩), .int .i64 0]) ∧ Below w.heap.size w w' := by
 go_enter Tryz.func194, Tryz.ntmps194
 go_wp2
 go_ret2
 exact ⟨_, rfl, (Below.refl _ w).alloc (Nat.le_refl _) _⟩
set_option maxHeartbeats 400000 in
theorem rvopen_ok (d : Nat) (w : World) : Calls Tryz.prog 111 #[.pointer (some ⟨d, 0, none⟩), .int .i64 64] w fun e w' => ∃ y, e = .returned (.tuple #[.pointer (some ⟨y, 0, none⟩), .int .i64 0]) ∧ Below w.heap.size w w' := by
 go_enter Tryz.func111, Tryz.ntmps111
 go_wp2_with (first | (go_at_call 194; refine Calls.mono (rcnew_ok d _) ?_; rintro e w1 ⟨c, rfl, hb1⟩))
 go_ret2
 exact ⟨_, rfl, (hb1.alloc hb1.size _).alloc (by simp; have := hb1.size; omega) _⟩
theorem sect_part {L : List (List Int)} (h : ∀ xs ∈ L, Sect xs) (j b : Nat) : Sect (part L j b) := by
 unfold part
 split
 ·rw [List.getD_eq_getElem?_getD]
  cases e : L[b]? with
  | none => exact sect_zer
  | some xs => exact h xs (List.mem_of_getElem? e)
 ·exact sect_zer
end
def OfP (w : World) (n : Nat) (L : List (List Int)) (e : Ending) (w' : World) : Prop :=
 ∃ p xd y A B, e = .returned (.tuple #[.pointer (some ⟨p, 0, none⟩), .bool true]) ∧ w'.heap[p]? = some (.cells #[.pointer (some ⟨At.d A, 0, none⟩), .pointer (some ⟨At.v A, 0, none⟩), .pointer (some ⟨xd, 0, none⟩), .pointer (some ⟨y, 0, none⟩)] 33 (0, 0)) ∧ VI 0 B w' A (new0 ⟨n, part L n, [], 0, fun _ => 0⟩ (.slice none 0 0) 64) ∧ (∀ k, fp A (new0 ⟨n, part L n, [], 0, fun _ => 0⟩ (.slice none 0 0) 64) k → p < k) ∧ w.heap.size ≤ p ∧ Below w.heap.size w w'
set_option maxRecDepth 10000 in
set_option maxHeartbeats 2000000 in
theorem of64_ok (p : Option Addr) (n c : Nat) (L : List (List Int)) (w : World) (h : IB w p n L) (h1 : 1 ≤ n) (h2 : n ≤ 2048) (hL : ∀ xs ∈ L, xs.length = 128) (hS : ∀ xs ∈ L, Sect xs) :
  Calls Tryz.prog 45 #[.slice p n c, .int .i64 64] w fun e w' => OfP w n L e w' := by
 obtain ⟨W1, hW1⟩ : ∃ W1, w.alloc (.cells #[.pointer none, .pointer none, .pointer none, .pointer none] 33) = W1 := ⟨_, rfl⟩
 have hb1 : Below w.heap.size w W1 := by rw [← hW1]; exact (Below.refl _ w).alloc (Nat.le_refl _) _
 have hp1 : W1.heap[w.heap.size]? = some (.cells #[.pointer none, .pointer none, .pointer none, .pointer none] 33 (0, 0)) := by rw [← hW1]; exact at_new rfl
 have hib1 : IB W1 p n L := by
  refine ⟨h.len, h.big, fun h0 => ?_⟩
  obtain ⟨b, o, e, hc⟩ := h.cells h0
  refine ⟨b, o, e, fun i x hx => ?_⟩
  obtain ⟨q, m, cc, e1, e2⟩ := hc i x hx
  exact ⟨q, m, cc, (hb1.cell (p := ⟨b, o + i, none⟩) (lt_of_cell e1)).trans e1, e2.kept hb1⟩
 have c1 := pimage_ok p n c L W1 hib1 (by omega)
 have HB1 : Hid (Below w.heap.size w W1) := hb1
 have HP1 : Hid (W1.heap[w.heap.size]? = some (.cells #[.pointer none, .pointer none, .pointer none, .pointer none] 33 (0, 0))) := hp1
 have HI : Hid (IB W1 p n L) := hib1
 clear hb1 hp1 hib1
 go_enter Tryz.func45, Tryz.ntmps45
 go_wp2_with fail
 refine Calls.mono c1 ?_
 rintro e w2 ⟨v2, vs2, rfl, hPI, hb2⟩
 obtain ⟨p2, k2, rfl, hib2⟩ := hPI.ib (by omega)
 clear c1
 dsimp only
 go_wp2_with fail
 refine Calls.mono (of_ok p2 n k2 L w2 hib2 h1 h2) ?_
 rintro e w3 ⟨hb3, hx⟩
 rcases hx with ⟨_, d, dm, df, rfl, hD⟩ | ⟨⟨xs, hm, hne⟩, _⟩
 case inr => exact absurd (hL xs hm) hne
 have hb13 : Below W1.heap.size W1 w3 := hb2.trans (hb3.mono hb2.size)
 have hib3 : IB w3 p n L := by
  have h := HI.out
  refine ⟨h.len, h.big, fun h0 => ?_⟩
  obtain ⟨b, o, e, hc⟩ := h.cells h0
  refine ⟨b, o, e, fun i x hx => ?_⟩
  obtain ⟨q, m, cc, e1, e2⟩ := hc i x hx
  exact ⟨q, m, cc, (hb13.cell (p := ⟨b, o + i, none⟩) (lt_of_cell e1)).trans e1, e2.kept hb13⟩
 dsimp only
 go_wp2_with fail
 refine Calls.mono (rof_ok p n c L w3 hib3 h1 h2) ?_
 rintro e w4 ⟨hb4, hx⟩
 rcases hx with ⟨_, xd, rfl⟩ | ⟨⟨xs, hm, hne⟩, _⟩
 case inr => exact absurd (hL xs hm) hne
 have hD4 := hD.later hb4
 have HD4 : Hid (DI w2.heap.size w4 d dm df (.slice none 0 0) ⟨n, part L n, [], 0, fun _ => 0⟩) := hD4
 have c5 := vOpen_ok (bd := 64) hD4 (Nat.le_trans hb3.size hb4.size) (by show n ≤ 2048; omega) (fun _ => rfl) (fun b => sect_part hS n b) (by omega)
 clear hD hD4 hib3
 dsimp only
 go_wp2_with fail
 refine Calls.mono c5 ?_
 rintro e w5 ⟨A, rfl, eA1, eA2, eA3, hv5, hb5, hfp⟩
 clear c5
 dsimp only
 go_wp2_with fail
 refine Calls.mono (rvopen_ok xd w5) ?_
 rintro e w6 ⟨y, rfl, hb6⟩
 have hb46 : Below w4.heap.size w4 w6 := hb5.trans (hb6.mono hb5.size)
 have hb14 : Below W1.heap.size W1 w4 := hb13.trans (hb4.mono hb13.size)
 have hb16 : Below W1.heap.size W1 w6 := hb14.trans (hb46.mono hb14.size)
 have hv6 := hv5.later hb6
 have hp6 := (hb16.block _ (Array.getElem?_eq_some_iff.1 HP1.out).1).trans HP1.out
 have hB := HB1.out.trans (hb16.mono HB1.out.size)
 have f0 : w6.frozen? ⟨w.heap.size, 0, none⟩ = false := by simp [World.frozen?, hp6]
 have f1 : w6.frozen? ⟨w.heap.size, 1, none⟩ = false := by simp [World.frozen?, hp6]
 have f2 : w6.frozen? ⟨w.heap.size, 2, none⟩ = false := by simp [World.frozen?, hp6]
 have f3 : w6.frozen? ⟨w.heap.size, 3, none⟩ = false := by simp [World.frozen?, hp6]
 have k0 : w6.cell? ⟨w.heap.size, 0, none⟩ = some (.pointer none) := cell_of_row _ _ 0 _ _ _ hp6
 have k1 : w6.cell? ⟨w.heap.size, 1, none⟩ = some (.pointer none) := cell_of_row _ _ 1 _ _ _ hp6
 have k2 : w6.cell? ⟨w.heap.size, 2, none⟩ = some (.pointer none) := cell_of_row _ _ 2 _ _ _ hp6
 have k3 : w6.cell? ⟨w.heap.size, 3, none⟩ = some (.pointer none) := cell_of_row _ _ 3 _ _ _ hp6
 have hplt := (Array.getElem?_eq_some_iff.1 HP1.out).1
 have HF : Hid (VI 0 w2.heap.size w6 A (new0 ⟨n, part L n, [], 0, fun _ => 0⟩ (.slice none 0 0) 64) ∧ w6.heap[w.heap.size]? = some (.cells #[.pointer none, .pointer none, .pointer none, .pointer none] 33 (0, 0)) ∧ Below w.heap.size w w6 ∧ (∀ k, fp A (new0 ⟨n, part L n, [], 0, fun _ => 0⟩ (.slice none 0 0) 64) k → w.heap.size < k) ∧ A.d = d) := ⟨hv6, hp6, hB, fun k hk => by
  rcases hfp k hk with h1 | h1
  ·have := (HD4.out.in k h1).1
   have := hb2.size
   omega
  ·have := hb14.size
   omega, eA1⟩
 clear hv6 hv5 hfp hplt hp6 hB hb16 hb14 hb46 hb5 hb6 hb4 hb3 hb2 hb13 HB1 HP1 HI HD4 hPI hib2 hL hS h eA2 eA3
 subst eA1
 dsimp only
 go_wp2
 go_ret2
 obtain ⟨hv6, hp6, hB, hlo, _⟩ := HF.out
 obtain ⟨W7, hW7⟩ : ∃ W7, (((w6.setCell ⟨w.heap.size, 0, none⟩ (.pointer (some ⟨A.d, 0, none⟩))).setCell ⟨w.heap.size, 1, none⟩ (.pointer (some ⟨A.v, 0, none⟩))).setCell ⟨w.heap.size, 2, none⟩ (.pointer (some ⟨xd, 0, none⟩))).setCell ⟨w.heap.size, 3, none⟩ (.pointer (some ⟨y, 0, none⟩)) = W7 := ⟨_, rfl⟩
 rw [hW7]
 have so : ∀ b, b ≠ w.heap.size → W7.heap[b]? = w6.heap[b]? := fun b hb => by
  rw [← hW7]
  rw [Below.heap_setCell _ _ _ _ hb, Below.heap_setCell _ _ _ _ hb, Below.heap_setCell _ _ _ _ hb, Below.heap_setCell _ _ _ _ hb]
 have g1 := row_set hp6 0 (.pointer (some ⟨A.d, 0, none⟩))
 have g2 := row_set g1 1 (.pointer (some ⟨A.v, 0, none⟩))
 have g3 := row_set g2 2 (.pointer (some ⟨xd, 0, none⟩))
 have g4 := row_set g3 3 (.pointer (some ⟨y, 0, none⟩))
 rw [hW7] at g4
 have hs7 : W7.heap.size = w6.heap.size := by rw [← hW7]; simp
 have hb7 : Below w.heap.size w W7 := by
  rw [← hW7]
  exact (((hB.setCell (Nat.le_refl _) _).setCell (Nat.le_refl _) _).setCell (Nat.le_refl _) _).setCell (Nat.le_refl _) _
 exact ⟨w.heap.size, xd, y, A, w2.heap.size, rfl, g4, hv6.else (by omega) (fun k hk => so k (by have := hlo k hk; omega)), hlo, Nat.le_refl _, hb7⟩
end Go.Proofs.YthdlpeejmmobmaaGreat
