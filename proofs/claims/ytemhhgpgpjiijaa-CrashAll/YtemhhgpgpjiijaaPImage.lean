/- plain.Image: a copy of an image; SpoilImage: its bytes are written over. -/
import Derived.Test.YtemhhgpgpjiijaaRefImage
import Derived.Test.YtemhhgpgpjiijaaSent
namespace Go.Proofs.Ytemhhgpgpjiijaa
open Go.RowKit Go.Maps

/-- v is a list of n slices of bytes of the call's own, L; no two share a row. -/
structure PI (B : Nat) (w : World) (v : Value) (n : Nat) (vs : List Value) (L : List (List Int)) : Prop where
  row : w.ownsRow B 42 1 v n vs
  len : L.length = n
  el : ∀ (i : Nat) (u : Value) (xs : List Int), vs[i]? = some u → L[i]? = some xs → ∃ p m c, u = .slice p m c ∧ w.ownsRow B 5 1 (.slice p m c) m (xs.map (Value.int .u8)) ∧ m ≤ 140737488355328 ∧ Num.Byt xs
  ne : ∀ (i j : Nat) (u u' : Value) (k : Nat), vs[i]? = some u → vs[j]? = some u' → u.ownBlock = some k → u'.ownBlock = some k → i = j

theorem own_bi {w : World} {H n c : Nat} {p : Option Addr} {xs : List Int} (h : w.ownsRow H 5 1 (.slice p n c) n (xs.map (Value.int .u8))) (hn : n ≤ 140737488355328) (hx : Num.Byt xs) : BI w p n xs := by
  have hl : xs.length = n := by have := h.1; simpa using this
  refine ⟨hl, hn, hx, fun h0 => ?_⟩
  rcases h.2 with ⟨e, e0⟩ | ⟨g, cap, cur, e, _⟩
  · omega
  · cases e
    exact ⟨g, 0, rfl, fun i hi => by rw [Nat.zero_add]; exact Own.cell (B := H) (cap := c) h i hi⟩

theorem PI.vlen {B : Nat} {w : World} {v : Value} {n : Nat} {vs : List Value} {L : List (List Int)} (h : PI B w v n vs L) : vs.length = n := by have := h.row.1; simpa using this

theorem PI.ib {B : Nat} {w : World} {v : Value} {n : Nat} {vs : List Value} {L : List (List Int)} (h : PI B w v n vs L) (hn : n ≤ 140737488355328) : ∃ p c, v = .slice p n c ∧ IB w p n L := by
  have hl := h.vlen
  obtain ⟨p, c, e, hp⟩ := row_case h.row
  refine ⟨p, c, e, h.len, hn, fun h0 => ?_⟩
  obtain ⟨g, rfl⟩ := hp h0
  refine ⟨g, 0, rfl, fun i xs hx => ?_⟩
  have hi : i < n := by have := (List.getElem?_eq_some_iff.1 hx).1; have := h.len; omega
  have hvi : vs[i]? = some (vs[i]'(by omega)) := List.getElem?_eq_getElem _
  obtain ⟨q, m, d, eu, ho, hm, hb⟩ := h.el i _ xs hvi hx
  refine ⟨q, m, d, ?_, own_bi ho hm hb⟩
  have hr := h.row
  rw [e] at hr
  rw [Nat.zero_add, hr.cellAt i (by omega), hvi, eu]

theorem PI.kept {B : Nat} {w w' : World} {v : Value} {n : Nat} {vs : List Value} {L : List (List Int)} (h : PI B w v n vs L) (hb : ∀ k, B ≤ k → k < w.heap.size → w'.heap[k]? = w.heap[k]?) : PI B w' v n vs L := by
  refine ⟨ownsRow_kept h.row (fun k hk => hb k (h.row.lt k hk).1 (h.row.lt k hk).2), h.len, fun i u xs hu hx => ?_, h.ne⟩
  obtain ⟨q, m, d, eu, ho, hm, hbt⟩ := h.el i u xs hu hx
  exact ⟨q, m, d, eu, ownsRow_kept ho (fun k hk => hb k (ho.lt k hk).1 (ho.lt k hk).2), hm, hbt⟩

set_option maxRecDepth 10000 in
set_option maxHeartbeats 1000000 in
theorem pimage_ok (p : Option Addr) (n c : Nat) (L : List (List Int)) (w : World) (h : IB w p n L) (h24 : n * 24 ≤ 140737488355328) :
    Calls Try.prog 19 #[.slice p n c] w fun e w' => ∃ v vs, e = .returned v ∧ PI w.heap.size w' v n vs L ∧ Below w.heap.size w w' := by
  obtain ⟨i9, hi9, hx0, hx1, hx2⟩ := info_parts info30
  have hlen := h.len
  go_enter Try.func19, Try.ntmps19
  go_wp2_with fail
  go_loopw [3, 8] (fun v i wr => ∃ (j : Nat) (vs : List Value) (u : Value), j ≤ n ∧ i = .int .i64 (j : Int) ∧ u = v ∧ PI w.heap.size wr u j vs (L.take j) ∧ Below w.heap.size w wr) (fun _ i _ => n - (intOf i).toNat)
  case atStart => exact ⟨0, [], _, by omega, rfl, rfl, ⟨World.ownsRow_nil _ _ _ _, by simp, by simp, by simp⟩, Below.refl _ _⟩
  case round =>
    obtain ⟨j, vs, u, hj, rfl, rfl, hp, hb⟩ := hrel
    by_cases hlt : j < n
    · obtain ⟨bb, oo, rfl, hic⟩ := h.cells (by omega)
      obtain ⟨xs, hxs⟩ : ∃ xs, L[j]? = some xs := ⟨L[j], List.getElem?_eq_getElem (by omega)⟩
      obtain ⟨q, m, d, hcell, hbi⟩ := hic j xs hxs
      have hcell' := (hb.cell (p := ⟨bb, oo + j, none⟩) (lt_of_cell hcell)).trans hcell
      have hbi' := hbi.kept hb
      clear hic hcell
      have hjI : (j : Int) < (n : Int) := by omega
      go_wp2_with fail
      refine (bclone_any q m d xs wr hbi').mono ?_
      rintro e w1 ⟨v1, rfl, ho1, hb1⟩
      obtain ⟨p1, c1, rfl, _⟩ := row_case ho1
      have hp1 := hp.kept (w' := w1) (fun k _ hk => hb1.block k hk)
      have hold : ∀ (i : Nat) (u : Value) (k : Nat), vs[i]? = some u → u.ownBlock = some k → k < wr.heap.size := fun i u k hu hk => by
        have hl := hp.vlen
        have hil := (List.getElem?_eq_some_iff.1 hu).1
        have hll := hp.len
        obtain ⟨q, m, d, eu, ho, _⟩ := hp.el i u _ hu (List.getElem?_eq_getElem (by omega))
        rw [eu] at hk
        exact (ho.lt k hk).2
      have hb2 := (Below.refl w1.heap.size w1).alloc (Nat.le_refl _) (.cells #[.slice p1 m c1] 42)
      have hp2 := hp1.kept (w' := w1.alloc (.cells #[.slice p1 m c1] 42)) (fun k _ hk => hb2.block k hk)
      have hbw := hb.trans (hb1.mono hb.size)
      have hnews : ∀ i u, [Value.slice p1 m c1][i]? = some u → (w1.alloc (.cells #[.slice p1 m c1] 42)).cell? ((⟨w1.heap.size, 0, none⟩ : Addr).add i) = some u := World.news_of_block (cs := #[Value.slice p1 m c1]) (t := 42) (fr := (0, 0)) (at_new rfl)
      have hone : ∀ u ∈ [Value.slice p1 m c1], u.oneCell' = true := by intro u hu; simp at hu; subst hu; rfl
      have HN1 := (show Hid _ from hnews)
      have HO := (show Hid _ from hone)
      have hrow2 := hp2.row
      clear hnews hone hp
      go_wp2_with (at_builtin; refine wpList_append_own _ rfl _ _ 22 rfl w.heap.size 42 i9 (.slice none 0 0) 1 24 Try.underlying22 hi9 hx0 hx1 hx2 rfl (by decide) u j vs rfl hrow2 ⟨w1.heap.size, 0, none⟩ 1 1 [Value.slice p1 m c1] rfl rfl HN1.out HO.out (by unfold maxLen; omega) (by omega) (by simp only [World.size_alloc]; have := hbw.size; omega) ?_)
      intro v3 w3 hown3 hgrow3 _
      have hb3 := (hbw.alloc hbw.size (.cells #[.slice p1 m c1] 42)).grown hgrow3 (by simp only [World.size_alloc]; have := hbw.size; omega) (fun k hk => (hrow2.lt k hk).1)
      have hkeep : ∀ {s l : Nat} {u' : Value} {Lx : List Value}, w1.ownsRow w.heap.size 5 s u' l Lx → w3.ownsRow w.heap.size 5 s u' l Lx := fun ho => by
        have ho2 := ownsRow_kept ho (w' := w1.alloc (.cells #[.slice p1 m c1] 42)) (fun k hk => hb2.block k (ho.lt k hk).2)
        exact ownsRow_kept ho2 (fun k hk => hgrow3.block k (ho2.lt k hk).2 (fun e => owns_ne ho2 hrow2 (by decide) hk e.symm))
      go_wp2
      go_roundw
      case rel =>
        have hl := hp1.vlen
        have hll := hp1.len
        have htk : L.take (j + 1) = L.take j ++ [xs] := by rw [List.take_add_one, hxs]; rfl
        refine ⟨j + 1, vs ++ [.slice p1 m c1], _, by omega, by go_num, rfl, ⟨hown3, by rw [htk, List.length_append, hll]; rfl, ?_, ?_⟩, hb3⟩
        · intro i u' ys hu hy
          rw [htk] at hy
          by_cases hi : i < j
          · rw [List.getElem?_append_left (by omega)] at hu hy
            obtain ⟨q', m', d', eu, ho, hm, hbt⟩ := hp1.el i u' ys hu hy
            exact ⟨q', m', d', eu, hkeep ho, hm, hbt⟩
          · rw [List.getElem?_append_right (by omega)] at hu hy
            have hi0 : i - vs.length = 0 := by have := (List.getElem?_eq_some_iff.1 hu).1; simpa using this
            rw [hi0] at hu
            rw [hll, ← hl, hi0] at hy
            simp at hu hy
            subst hu
            subst hy
            refine ⟨p1, m, c1, rfl, hkeep ?_, hbi.big, hbi.byt⟩
            refine ⟨ho1.1, ?_⟩
            rcases ho1.2 with h' | ⟨g', cap', cur, h', hbg, rest⟩
            · exact .inl h'
            · exact .inr ⟨g', cap', cur, h', Nat.le_trans hb.size hbg, rest⟩
        · intro i i' u' u'' k hu hu' hk hk'
          have key : ∀ (i : Nat) (u' : Value), (vs ++ [Value.slice p1 m c1])[i]? = some u' → u'.ownBlock = some k → (i < j ∧ k < wr.heap.size ∧ vs[i]? = some u') ∨ (i = j ∧ wr.heap.size ≤ k) := by
            intro i u' hu hk
            by_cases hi : i < j
            · rw [List.getElem?_append_left (by omega)] at hu
              exact .inl ⟨hi, hold i u' k hu hk, hu⟩
            · rw [List.getElem?_append_right (by omega)] at hu
              have hi0 : i - vs.length = 0 := by have := (List.getElem?_eq_some_iff.1 hu).1; simpa using this
              rw [hi0] at hu
              simp at hu
              subst hu
              exact .inr ⟨by omega, (ho1.lt k hk).1⟩
          rcases key i u' hu hk with ⟨a1, a2, a3⟩ | ⟨a1, a2⟩
          · rcases key i' u'' hu' hk' with ⟨b1, b2, b3⟩ | ⟨b1, b2⟩
            · exact hp1.ne i i' u' u'' k a3 b3 hk hk'
            · omega
          · rcases key i' u'' hu' hk' with ⟨b1, b2, b3⟩ | ⟨b1, b2⟩
            · omega
            · omega
      case measure => simp [intOf]; omega
    · obtain rfl : j = n := by omega
      rw [List.take_of_length_le (by omega)] at hp
      go_wp2
      go_ret
      exact ⟨_, vs, rfl, hp, hb⟩
end Go.Proofs.Ytemhhgpgpjiijaa
