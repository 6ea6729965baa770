/- Queue: all writes that are not done yet, as lists of their own. -/
import Derived.Test.YtemhhgpgpjiijaaBuild
import Derived.Deep.RegionHeld3
namespace Go.Proofs.Ytemhhgpgpjiijaa
open Go.RowKit Go.Maps

def sent (g : Nat) (x : Wr) : List Value := [.int .i64 x.id, .int .i64 (x.block : Int), sl g]
def sflat (gs : List Nat) (q : List Wr) : List Value := (gs.zip q).flatMap (fun p => sent p.1 p.2)
theorem info52 : (Try.prog.info? 44).map (fun i => (i.zero, i.size, i.bytes)) = some (some (.agg #[.int .i64 0, .int .i64 0, .slice none 0 0]), 3, 40) := by kernel_rfl
theorem size86 : (Try.prog.info? 71).map (·.size) = some 130 := info86

/-- Block g holds the writes q as Sents, their bytes in the blocks gs. -/
structure Sents (B : Nat) (w : World) (g : Nat) (gs : List Nat) (q : List Wr) : Prop where
  row : w.ownsRow B 44 3 (.slice (some ⟨g, 0, none⟩) q.length q.length) q.length (sflat gs q)
  len : gs.length = q.length
  el : ∀ i x, q[i]? = some x → Own B w (gs.getD i 0) 128 128 x.bytes

theorem zero_wr' (w : World) : (zeroValue 71).run Try.prog w = .ok (.agg zwr.toArray) w := by
  obtain ⟨it, hit, hz⟩ := Option.bind_eq_some_iff.1 zero86
  simp [zeroValue, typeInfo, hit, hz]

theorem wr_one' (x : Wr) : ∀ u ∈ x.cells, u.oneCell' = true := by
  intro u hu
  simp only [Wr.cells, List.mem_cons, List.mem_map] at hu
  rcases hu with rfl | rfl | ⟨y, _, rfl⟩ <;> rfl

theorem range_later {w w' : World} {T o : Nat} {cs : List Value} (hb : Below w.heap.size w w') (hT : T < w.heap.size) (h : w.rangeAt T o cs) : w'.rangeAt T o cs := fun i v hv => (hb.cell (p := ⟨T, o + i, none⟩) hT).trans (h i v hv)

theorem three_cells {w : World} {B g n : Nat} {L : List Value} (h : w.ownsRow B 44 3 (.slice (some ⟨g, 0, none⟩) n n) n L) {j : Nat} (hj : j < n) : ∃ v0 v1 v2, w.cell? ⟨g, j * 3, none⟩ = some v0 ∧ w.cell? ⟨g, j * 3 + 1, none⟩ = some v1 ∧ w.cell? ⟨g, j * 3 + 2, none⟩ = some v2 := by
  have hl := h.1
  refine ⟨L[j * 3]'(by omega), L[j * 3 + 1]'(by omega), L[j * 3 + 2]'(by omega), ?_, ?_, ?_⟩ <;> rw [h.cellAt _ (by omega), List.getElem?_eq_getElem]

theorem range_set {w : World} {R T j o : Nat} {cs : List Value} {u : Value} (hne : R ≠ T) (h : w.rangeAt T o cs) : (w.setCell ⟨R, j, none⟩ u).rangeAt T o cs := fun i v hv =>
  (World.cell?_of_block (w := w) (Below.heap_setCell w ⟨R, j, none⟩ u T (Ne.symm hne))).trans (h i v hv)

theorem take_set3 {α : Type} (L : List α) (k : Nat) (x y z : α) (h : k + 3 ≤ L.length) : (((L.set k x).set (k + 1) y).set (k + 2) z).take (k + 3) = L.take k ++ [x, y, z] := by
  apply List.ext_getElem?
  intro i
  by_cases hi : i < k
  · rw [List.getElem?_take_of_lt (by omega), List.getElem?_set_ne (by omega), List.getElem?_set_ne (by omega), List.getElem?_set_ne (by omega), List.getElem?_append_left (by simp; omega), List.getElem?_take_of_lt hi]
  · rw [List.getElem?_append_right (by simp; omega)]
    have e : (L.take k).length = k := by simp; omega
    rw [e]
    rcases (by omega : i = k ∨ i = k + 1 ∨ i = k + 2 ∨ k + 3 ≤ i) with rfl | rfl | rfl | h3
    · rw [List.getElem?_take_of_lt (by omega), List.getElem?_set_ne (by omega), List.getElem?_set_ne (by omega), List.getElem?_set_self (by omega)]; simp
    · rw [List.getElem?_take_of_lt (by omega), List.getElem?_set_ne (by omega), List.getElem?_set_self (by simp; omega)]; simp
    · rw [List.getElem?_take_of_lt (by omega), List.getElem?_set_self (by simp; omega)]; simp
    · rw [List.getElem?_eq_none (by simp; omega), List.getElem?_eq_none (by simp; omega)]

theorem sflat_snoc (gs : List Nat) (q : List Wr) (g : Nat) (x : Wr) (h : gs.length = q.length) : sflat (gs ++ [g]) (q ++ [x]) = sflat gs q ++ sent g x := by
  simp [sflat, List.zip_append h]

theorem take_snoc {q : List Wr} {j : Nat} {x : Wr} (h : q[j]? = some x) : q.take (j + 1) = q.take j ++ [x] := by
  rw [List.take_add_one, h]; rfl

set_option maxRecDepth 10000 in
set_option maxHeartbeats 1000000 in
theorem queue_ok {B : Nat} {w : World} {a mb fb : Nat} {qv : Value} {S : St} (h : DI B w a mb fb qv S) : Calls Try.prog 6 #[.pointer (some ⟨a, 0, none⟩)] w fun e w' => ∃ g gs, e = .returned (.slice (some ⟨g, 0, none⟩) S.q.length S.q.length) ∧ Sents w.heap.size w' g gs S.q ∧ Below w.heap.size w w' := by
  obtain ⟨i0, hi, hz0, hz1, hz2⟩ := info_parts info52
  have hq64 := h.q64
  obtain ⟨qp, qc, hqv, hqg⟩ : ∃ qp qc, qv = .slice qp S.q.length qc ∧ (0 < S.q.length → ∃ g, qp = some ⟨g, 0, none⟩) := by
    rcases h.qcase with ⟨e1, e2⟩ | ⟨g, cap, e⟩
    · exact ⟨none, 0, by rw [e1, e2]; rfl, by rw [e2]; simp⟩
    · exact ⟨_, _, e, fun _ => ⟨g, rfl⟩⟩
  subst hqv
  have hc := h.c2
  obtain ⟨n, hn⟩ : ∃ n, n = S.q.length := ⟨_, rfl⟩
  rw [← hn] at hq64 hqg
  go_enter Try.func6, Try.ntmps6
  go_wp2_with fail
  refine same_at (made_ok h) ?_
  go_wp2_with (first
    | (at_make; refine wpList_make_full _ rfl _ _ 29 rfl w.heap.size 44 i0 (.agg #[.int .i64 0, .int .i64 0, .slice none 0 0]) 3 Try.underlying29 hi hz0 hz1 .i64 .i64 _ _ n rfl rfl (by rw [hn]) (by rw [hn]) (by rw [hz2]; omega) (by unfold maxLen; omega) (Nat.le_refl _) ?_; intro w1 hown1 hgrow1; have hb1 := (Below.refl w.heap.size w).grown hgrow1 (Nat.le_refl _) (by intro k hk; cases hk); clear hgrow1; have hc1 := (h.later hb1).c2))
  have hzr : ∀ w, (zeroValue 71).run Try.prog w = .ok (.agg zwr.toArray) w := zero_wr'
  have hZ : zwr.toArray.size = 130 := by simp [zwr_len]
  generalize zwr.toArray = Z at hzr hZ
  go_loopw [20] (fun i wr => ∃ j gs L, j ≤ n ∧ i = .int .i64 (j : Int) ∧ List.length gs = j ∧ wr.ownsRow w.heap.size 44 3 (.slice (some ⟨w.heap.size, 0, none⟩) n n) n L ∧ L.take (j * 3) = sflat gs (S.q.take j) ∧ (∀ i x, i < j → S.q[i]? = some x → Own w.heap.size wr (gs.getD i 0) 128 128 x.bytes) ∧ Below w.heap.size w wr) (fun i _ => n - (intOf i).toNat)
  case atStart => exact ⟨0, [], _, by omega, rfl, rfl, hown1, by simp [sflat], by intro i x hi; omega, hb1⟩
  case round =>
    clear hown1 hb1 hc1 hc
    obtain ⟨j, gs, L, hj, rfl, hgs, hown, hL, hel, hb⟩ := hrel
    have hd := h.later hb
    by_cases hlt : j < n
    · obtain ⟨g, rfl⟩ := hqg (by omega)
      obtain ⟨x, hx⟩ : ∃ x, S.q[j]? = some x := ⟨S.q[j], List.getElem?_eq_getElem (by omega)⟩
      have hxs := hd.sects x (List.mem_of_getElem? hx)
      have hr := range_at hd.que rfl hd.sects hx
      have hsz : (Try.prog.info? 71).map (·.size) = some x.cells.length := by rw [cells_len x hxs]; exact info86
      have hAs := wrA_size x hxs
      have hjn : (j : Int) < (S.q.length : Int) := by omega
      go_wp2_with (first
        | (refine wpList_load_mid rfl 71 _ rfl g (j * 130) rfl x.cells _ hr Try.underlying71 rfl hsz ?_)
        | (refine wpList_store_row rfl 71 _ _ rfl wr.heap.size (wrA x) rfl rfl 71 Z (at_new rfl) (by rw [hAs]; exact info86) (by rw [hZ, hAs]) (all_oneCell_toArray (wr_one' x)) ?_))
      have hb6 : Below wr.heap.size wr ((wr.alloc (.cells Z 71)).setRow wr.heap.size (wrA x)) := below_setRow ((Below.refl _ _).alloc (Nat.le_refl _) _) (Nat.le_refl _) _
      have hr6 : ((wr.alloc (.cells Z 71)).setRow wr.heap.size (wrA x)).heap[wr.heap.size]? = some (.cells (wrA x) 71 (0, 0)) := setRow_heap _ _ Z _ 71 _ (at_new rfl)
      have hs6 : ((wr.alloc (.cells Z 71)).setRow wr.heap.size (wrA x)).heap.size = wr.heap.size + 1 := by simp
      generalize (wr.alloc (.cells Z 71)).setRow wr.heap.size (wrA x) = w6 at hb6 hr6 hs6 ⊢
      obtain ⟨T, hT⟩ : ∃ T, wr.heap.size = T := ⟨_, rfl⟩
      have hRT : w.heap.size ≠ T := by have := (hown.lt w.heap.size rfl).2; omega
      rw [hT] at hb6 hr6 hs6 ⊢
      have hu79 := Try.underlying69
      have hi79 : (Try.prog.info? 69).map (·.size) = some (x.bytes.map (Value.int .u8)).length := by rw [List.length_map, hxs.1]; exact info79
      have k0 : w6.drew.cell? ⟨T, 0, none⟩ = some (.int .i64 x.id) := by rw [cell_of_row w6.drew T 0 _ _ _ hr6]; exact wrA_0 x
      have k1 : w6.drew.cell? ⟨T, 1, none⟩ = some (.int .i64 (x.block : Int)) := by rw [cell_of_row w6.drew T 1 _ _ _ hr6]; exact wrA_1 x
      have k2 : w6.drew.rangeAt T 2 (x.bytes.map (Value.int .u8)) := by
        intro i v hv
        rw [cell_of_row w6.drew T (2 + i) _ _ _ hr6]
        simp only [wrA, Wr.cells, List.getElem?_toArray]
        rw [Nat.add_comm]
        exact hv
      have hb6d : Below T wr w6.drew := hb6.drew
      have hown6 : w6.drew.ownsRow w.heap.size 44 3 (.slice (some ⟨w.heap.size, 0, none⟩) n n) n L := ownsRow_kept hown (fun k hk => hb6d.block k (by have := (hown.lt k hk).2; omega))
      have hLl := hown.1
      clear hr6 hr hsz hAs hzr hZ hi hz0 hz1 hz2
      go_region_held3 (fun w' => w'.cell? ⟨T, 0, none⟩ = some (.int .i64 x.id) ∧ w'.cell? ⟨T, 1, none⟩ = some (.int .i64 (x.block : Int)) ∧ w'.rangeAt T 2 (x.bytes.map (Value.int .u8))) (first | (refine ⟨?_, ?_, ?_⟩ <;> assumption) | (refine ⟨?_, ?_, range_set hRT (range_set hRT (range_set hRT k2'))⟩ <;> go_keep))
        ((go_at_call 25; refine Calls.mono (list_ok x.bytes hxs.1 _) ?_; rintro e w7 ⟨g7, rfl, ho7, hb7⟩; have k0' := (hb7.cell (p := ⟨T, 0, none⟩) (lt_of_cell k0)).trans k0; have k1' := (hb7.cell (p := ⟨T, 1, none⟩) (lt_of_cell k1)).trans k1; have k2' := range_later hb7 (by show T < w6.heap.size; omega) k2; have hown7 := ownsRow_kept hown6 (fun k hk => hb7.block k (hown6.lt k hk).2); obtain ⟨v0, v1, v2, e0, e1, e2⟩ := three_cells hown7 hlt; have f0 := hown7.frozenAt (j * 3); have f1 := hown7.frozenAt (j * 3 + 1); have f2 := hown7.frozenAt (j * 3 + 2)))
      have hbw : Below w.heap.size w w7 := hb.trans ((hb6d.mono (by have := hb.size; omega)).trans (hb7.mono (by show w.heap.size ≤ w6.heap.size; have := hb.size; omega)))
      have hn7 : g7 ≠ w.heap.size := by have := ho7.spot; have h1 : w6.drew.heap.size = w6.heap.size := rfl; have := hb.size; omega
      have hbT : Below T wr w7 := hb6d.trans (hb7.mono (by show T ≤ w6.heap.size; omega))
      have r1 := (((hown7.stored (j * 3) (.int .i64 x.id)).1.stored (j * 3 + 1) (.int .i64 (x.block : Int))).1.stored (j * 3 + 2) (sl g7)).1
      have ho7' := ho7.base (B' := w.heap.size) (by show w.heap.size ≤ w6.heap.size; have := hb.size; omega)
      clear k0 k1 k2 k0' k1' k2' e0 e1 e2 f0 f1 f2
      go_wp2
      go_roundw
      case rel =>
        subst hgs
        refine ⟨gs.length + 1, gs ++ [g7], _, by omega, by go_num, by simp, r1, ?_, ?_, ?_⟩
        · rw [Nat.add_mul, Nat.one_mul, take_set3 _ _ _ _ _ (by omega), hL, take_snoc hx, sflat_snoc _ _ _ _ (by simp; omega)]
          rfl
        · intro i y hi hy
          by_cases e : i = gs.length
          · subst e
            rw [hx] at hy
            cases hy
            have e1 : (gs ++ [g7]).getD gs.length 0 = g7 := by simp
            rw [e1]
            exact ((ho7'.setOther hn7 _).setOther hn7 _).setOther hn7 _
          · have e1 : (gs ++ [g7]).getD i 0 = gs.getD i 0 := by
              simp [List.getD_eq_getElem?_getD, List.getElem?_append_left (show i < gs.length by omega)]
            rw [e1]
            have ho := hel i y (by omega) hy
            have hne := rows_ne ho hown (by decide)
            have ho' : Own w.heap.size w7 (gs.getD i 0) 128 128 y.bytes := ho.kept (by rw [hT]; exact hbT)
            exact ((ho'.setOther hne _).setOther hne _).setOther hne _
        · exact ((hbw.setCell (Nat.le_refl _) _).setCell (Nat.le_refl _) _).setCell (Nat.le_refl _) _
      case measure => simp [intOf]; omega
    · obtain rfl : j = n := by omega
      go_wp2
      go_ret
      refine ⟨_, gs, rfl, ⟨?_, by omega, fun i x hx => hel i x (by have := (List.getElem?_eq_some_iff.1 hx).1; omega) hx⟩, hb⟩
      have hl := hown.1
      rw [List.take_of_length_le (by omega), List.take_of_length_le (by omega)] at hL
      subst hL
      subst hn
      exact hown
end Go.Proofs.Ytemhhgpgpjiijaa
