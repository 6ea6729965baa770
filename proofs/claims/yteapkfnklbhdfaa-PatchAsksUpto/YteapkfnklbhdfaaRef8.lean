/- The document's set: Get. -/
import Derived.Test.YteapkfnklbhdfaaRef7
namespace Go.Proofs.Yteapkfnklbhdfaa
open Go.RowKit Go.Maps
set_option linter.unusedVariables false
section
variable {B : Nat} {w : World} {x : Nat} {lv : Value} {last : Nat} {L : List Pv}

set_option maxRecDepth 100000 in
set_option maxHeartbeats 4000000 in
theorem rget_ok (h : RZ B w x lv last L) (k : Int) (p : Pv) (hf : fP L k = some p) (hl : p.nd.length ≤ 1000) :
    Calls Try.prog 21 #[.pointer (some ⟨x, 0, none⟩), .int .i64 k] w fun e w' => ∃ g cap v, e = .returned (.tuple #[.agg #[.int .i64 (p.id : Int), .int .i64 (p.blk : Int), .int .i64 (p.off : Int), .slice (some ⟨g, 0, none⟩) p.bs.length cap, v], .int .i64 0]) ∧ Own w.heap.size w' g p.bs.length cap p.bs ∧ Nums w.heap.size w' v (still L p.nd) ∧ Below w.heap.size w w' := by
  obtain ⟨i0, hi, hz0, hz1, hz2⟩ := info_parts info3
  obtain ⟨j0, hj, hy0, hy1, hy2⟩ := info_parts info5
  have c0 := h.c0
  obtain ⟨W0, hW0⟩ : ∃ W0, w.alloc (.cells #[.int .i64 0, .int .i64 0, .int .i64 0, .slice none 0 0, .slice none 0 0] 44) = W0 := ⟨_, rfl⟩
  have hbW0 : Below w.heap.size w W0 := by rw [← hW0]; exact (Below.refl _ w).alloc (Nat.le_refl _) _
  have hrow0 : W0.heap[w.heap.size]? = some (.cells zc 44 (0, 0)) := by rw [← hW0]; exact at_new rfl
  have hs0 : w.heap.size < W0.heap.size := by rw [← hW0]; simp
  have hfi := rfind_ok (h.kept hbW0) k
  obtain ⟨ix, hix, hLi⟩ := fi_some hf
  rw [hix] at hfi
  obtain ⟨q, cq, hlv, hr⟩ := rows5_of h.lst
  subst hlv
  have hlen := h.len
  have hsml := h.sml
  have hixl := (List.getElem?_eq_some_iff.1 hLi).1
  have hpm : p ∈ L := List.mem_of_getElem? hLi
  have HH : Hid _ := h
  clear h
  go_enter Try.func21, Try.ntmps21
  go_wp2_with fail
  refine below_at hfi ?_
  intro w1 hb1
  have hbw1 : Below w.heap.size w w1 := hbW0.trans (hb1.mono hbW0.size)
  obtain ⟨g, hqg, d0, d1, d2, d3, d4⟩ := hr.at hbw1 hLi
  subst hqg
  have hc0 : w1.cell? ⟨x, 0, none⟩ = some (.slice (some ⟨g, 0, none⟩) L.length cq) := by rw [hbw1.cell (p := ⟨x, 0, none⟩) (lt_of_cell c0)]; exact c0
  have hi0 : (0 : Int) ≤ (ix : Int) := by omega
  have hi1 : ¬ (ix : Int) < 0 := by omega
  have hiI : (ix : Int) < (L.length : Int) := by omega
  have hrow1 : w1.heap[w.heap.size]? = some (.cells zc 44 (0, 0)) := by rw [hb1.block _ hs0]; exact hrow0
  have hsz1 := hb1.size
  clear hfi hix hLi hW0
  obtain ⟨W2, hW2⟩ : ∃ W2, w1.alloc (.cells #[.int .i64 (p.id : Int), .int .i64 (p.blk : Int), .int .i64 (p.off : Int), .slice p.bp p.bs.length p.bc, .slice p.np p.nd.length p.nc] 44) = W2 := ⟨_, rfl⟩
  have hb2 : Below w1.heap.size w1 W2 := by rw [← hW2]; exact (Below.refl _ _).alloc (Nat.le_refl _) _
  have hr2 : W2.heap[w1.heap.size]? = some (.cells #[.int .i64 (p.id : Int), .int .i64 (p.blk : Int), .int .i64 (p.off : Int), .slice p.bp p.bs.length p.bc, .slice p.np p.nd.length p.nc] 44 (0, 0)) := by rw [← hW2]; exact at_new rfl
  have k3 : W2.cell? ⟨w1.heap.size, 3, none⟩ = some (.slice p.bp p.bs.length p.bc) := by rw [cell_of_row _ _ 3 _ 44 _ hr2]; rfl
  have hpi := HH.out.ids p hpm
  have hbs := (HH.out.byt p hpm).1
  have hbsl := hbs.len
  have hbsb := hbs.big
  obtain ⟨pb, po, hpe, _⟩ := hbs.cells (by omega)
  have hb3 : Below W2.heap.size W2 (W2.alloc (.cells #[] 5)) := (Below.refl _ _).alloc (Nat.le_refl _) _
  have k3' : (W2.alloc (.cells #[] 5)).cell? ⟨w1.heap.size, 3, none⟩ = some (.slice (some ⟨pb, po, none⟩) p.bs.length p.bc) := by
    rw [hb3.cell (p := ⟨w1.heap.size, 3, none⟩) (lt_of_cell k3), k3, hpe]
  have hsrc := (((hbs.kept hbw1).kept hb2).kept hb3)
  rw [hpe] at hsrc
  have hsrc := hsrc.src'
  have hone := one_cells p.bs
  have hll : (p.bs.map (Value.int .u8)).length = p.bs.length * 1 := by simp
  obtain ⟨LL, HLL⟩ : ∃ LL, Hid (p.bs.map (Value.int .u8) = LL) := ⟨_, rfl⟩
  rw [HLL.out] at hsrc hone hll
  clear hbs
  rw [hpe] at d3 hW2 hr2 k3
  go_wp2_with (at_builtin; refine wpList_append_own _ rfl _ _ 29 rfl W2.heap.size 5 j0 (.int .u8 0) 1 1 Try.underlying29 hj hy0 hy1 hy2 rfl (by decide) _ _ _ rfl (World.ownsRow_made W2 #[] 0 (Nat.le_refl _) (Nat.zero_le _) rfl) ⟨pb, po, none⟩ p.bs.length p.bc LL rfl hll hsrc hone (by unfold maxLen; omega) (by omega) (by simp) ?_)
  intro v' w4 hown hgrow _
  have hb4 : Below W2.heap.size W2 w4 := hb3.grown hgrow (by simp) (by intro k hk; simp [Value.ownBlock] at hk; omega)
  have hown' : w4.ownsRow W2.heap.size 5 1 v' p.bs.length LL := by simpa using hown
  rw [← HLL.out] at hown'
  obtain ⟨g4, cap4, rfl, ho4⟩ := own_of hown' (by omega)
  have hr4 : w4.heap[w1.heap.size]? = some (.cells #[.int .i64 (p.id : Int), .int .i64 (p.blk : Int), .int .i64 (p.off : Int), .slice (some ⟨pb, po, none⟩) p.bs.length p.bc, .slice p.np p.nd.length p.nc] 44 (0, 0)) := by rw [hb4.block _ (lt_of_cell k3)]; exact hr2
  clear hown hown' hgrow hsrc hone hll HLL k3' hb3 hj hy0 hy1 hy2
  have f3 : w4.frozen? ⟨w1.heap.size, 3, none⟩ = false := by simp [World.frozen?, hr4]
  have q3 : w4.cell? ⟨w1.heap.size, 3, none⟩ = some (.slice (some ⟨pb, po, none⟩) p.bs.length p.bc) := by rw [cell_of_row _ _ 3 _ 44 _ hr4]; rfl
  obtain ⟨w5, hw5⟩ : ∃ w5, w4.setCell ⟨w1.heap.size, 3, none⟩ (.slice (some ⟨g4, 0, none⟩) p.bs.length cap4) = w5 := ⟨_, rfl⟩
  have hr5 : w5.heap[w1.heap.size]? = some (.cells #[.int .i64 (p.id : Int), .int .i64 (p.blk : Int), .int .i64 (p.off : Int), .slice (some ⟨g4, 0, none⟩) p.bs.length cap4, .slice p.np p.nd.length p.nc] 44 (0, 0)) := by rw [← hw5, heap_setCell_same _ _ _ _ _ _ hr4]; rfl
  have f4 : w5.frozen? ⟨w1.heap.size, 4, none⟩ = false := by simp [World.frozen?, hr5]
  have q4 : w5.cell? ⟨w1.heap.size, 4, none⟩ = some (.slice p.np p.nd.length p.nc) := by rw [cell_of_row _ _ 4 _ 44 _ hr5]; rfl
  obtain ⟨w6, hw6⟩ : ∃ w6, w5.setCell ⟨w1.heap.size, 4, none⟩ (.slice none 0 0) = w6 := ⟨_, rfl⟩
  have hr6 : w6.heap[w1.heap.size]? = some (.cells #[.int .i64 (p.id : Int), .int .i64 (p.blk : Int), .int .i64 (p.off : Int), .slice (some ⟨g4, 0, none⟩) p.bs.length cap4, .slice none 0 0] 44 (0, 0)) := by rw [← hw6, heap_setCell_same _ _ _ _ _ _ hr5]; rfl
  have hb46 : ∀ k, k ≠ w1.heap.size → w6.heap[k]? = w4.heap[k]? := fun k hk => by
    rw [← hw6, Below.heap_setCell _ _ _ _ hk, ← hw5, Below.heap_setCell _ _ _ _ hk]
  have hb6 : Below w1.heap.size w1 w6 := by
    have h1 : Below w1.heap.size w1 w4 := hb2.trans (hb4.mono hb2.size)
    exact ⟨by rw [← hw6, ← hw5]; exact h1.os, by rw [← hw6, ← hw5]; exact h1.tape, by rw [← hw6, ← hw5]; exact h1.output, by rw [← hw6, ← hw5]; simpa using h1.size, fun k hk => (hb46 k (by omega)).trans (h1.block k hk)⟩
  have ho6 : Own W2.heap.size w6 g4 p.bs.length cap4 p.bs := ho4.keptAt (hb46 g4 (by have := ho4.spot.1; have := hb2.size; have := lt_of_cell k3; omega))
  have hc6 : w6.cell? ⟨x, 0, none⟩ = some (.slice (some ⟨g, 0, none⟩) L.length cq) := by rw [hb6.cell (p := ⟨x, 0, none⟩) (lt_of_cell hc0)]; exact hc0
  have d46 : w6.cell? ⟨g, ix * 5 + 4, none⟩ = some (.slice p.np p.nd.length p.nc) := by rw [hb6.cell (p := ⟨g, ix * 5 + 4, none⟩) (lt_of_cell d4)]; exact d4
  go_wp2_with fail
  have hgx : w1.heap.size < w6.heap.size := (Array.getElem?_eq_some_iff.1 hr6).1
  have hg46 : g4 < w6.heap.size := ho6.spot.2
  have hg4x : W2.heap.size ≤ g4 := ho6.spot.1
  have hW2s : w1.heap.size < W2.heap.size := lt_of_cell k3
  generalize hgxe : w1.heap.size = gx at *
  go_loopw [38] (fun i wz => ∃ (t : Nat) (nv : Value), t ≤ p.nd.length ∧ i = .int .i64 (t : Int) ∧ wz.heap[gx]? = some (.cells #[.int .i64 (p.id : Int), .int .i64 (p.blk : Int), .int .i64 (p.off : Int), .slice (some ⟨g4, 0, none⟩) p.bs.length cap4, nv] 44 (0, 0)) ∧ Nums w6.heap.size wz nv (still L (p.nd.take t)) ∧ Own W2.heap.size wz g4 p.bs.length cap4 p.bs ∧ Below gx w1 wz ∧ w6.heap.size ≤ wz.heap.size) (fun i _ => p.nd.length - (intOf i).toNat)
  case atStart => exact ⟨0, _, by omega, rfl, hr6, Nums.nil _ _, ho6, hb6, Nat.le_refl _⟩
  case round =>
    clear hr6 ho6 hb6 hc6 d46 hw6 hw5 hr5 hr4 f3 q3 f4 q4 hb46 ho4 d0 d1 d2 d3 d4 hrow0 hr2 hW2 k3 hb4 hb2
    obtain ⟨t, nv, ht, rfl, hrz, hNz, hoz, hbz, hsz⟩ := hrel
    have hbw : Below w.heap.size w wr := hbw1.trans (hbz.mono (by omega))
    have hndw := ((HH.out.nee p hpm).1.kept hbw)
    have hndb := hndw.big
    by_cases hlt : t < p.nd.length
    · obtain ⟨b6, o6, hnp, hc6⟩ := hndw.cells (by omega)
      rw [hnp]
      have e6 := hc6 t hlt
      have HT6 : Hid (p.nd.take (t + 1) = p.nd.take t ++ [p.nd.getD t 0]) := take_one hlt
      have htI : (t : Int) < (p.nd.length : Int) := by omega
      have ht0 : (0 : Int) ≤ (t : Int) := by omega
      have hsl : (still L (p.nd.take t)).length ≤ 1000 := by
        refine Nat.le_trans (List.length_filter_le _ _) ?_
        rw [List.length_take]; omega
      generalize p.nd.getD t 0 = y at *
      have hfy := rfind_ok (HH.out.kept hbw) y
      clear hc6 hndw
      cases hsy : (fP L y).isSome with
      | true =>
        have hge : decide (0 ≤ fi L y) = true := decide_eq_true (by have := fi_nonneg hsy; omega)
        have hge2 : (0 : Int) ≤ fi L y := by have := fi_nonneg hsy; omega
        have HI : Hid (still L (p.nd.take (t + 1)) = still L (p.nd.take t) ++ [y]) := by
          show _ = _
          rw [HT6.out]
          unfold still
          rw [List.filter_append]
          simp [hsy]
        clear hsy HT6
        generalize fi L y = f at *
        go_wp2_with fail
        refine below_at hfy ?_
        intro w7 hb7
        clear hfy
        have hr7 : w7.heap[gx]? = some (.cells #[.int .i64 (p.id : Int), .int .i64 (p.blk : Int), .int .i64 (p.off : Int), .slice (some ⟨g4, 0, none⟩) p.bs.length cap4, nv] 44 (0, 0)) := by rw [hb7.block gx (by omega)]; exact hrz
        have q7 : w7.cell? ⟨gx, 4, none⟩ = some nv := by rw [cell_of_row _ _ 4 _ 44 _ hr7]; rfl
        have hN7 := hNz.kept hb7
        have ho7 := hoz.kept hb7
        have hb17 := hbz.trans (hb7.mono (by omega))
        have hs7 := hb7.size
        clear hrz hNz hoz
        go_wp2_with (at_builtin; refine wpList_append_own _ rfl _ _ 30 rfl w6.heap.size 3 i0 (.int .i64 0) 1 8 Try.underlying30 hi hz0 hz1 hz2 rfl (by decide) _ _ _ rfl (World.ownsRow.alloc hN7 _) ⟨w7.heap.size, 0, none⟩ 1 1 [.int .i64 y] rfl rfl (cell_one_new _ _ _) (by simp [Value.oneCell']) (by unfold maxLen; omega) (by omega) (by simp; omega) ?_)
        intro v' w9 hown hgrow _
        have hown := Nums.snoc hown
        have hk9 : ∀ k, k < w6.heap.size → w9.heap[k]? = w7.heap[k]? := fun k hk => by
          have h1 := hgrow.block k (by simp; omega) (fun e => by have := (World.ownsRow.lt hN7 k e.symm).1; omega)
          rw [h1]
          exact Below.heap_alloc _ _ _ (by omega)
        have hr9 : w9.heap[gx]? = some (.cells #[.int .i64 (p.id : Int), .int .i64 (p.blk : Int), .int .i64 (p.off : Int), .slice (some ⟨g4, 0, none⟩) p.bs.length cap4, nv] 44 (0, 0)) := by rw [hk9 gx hgx]; exact hr7
        have f9 : w9.frozen? ⟨gx, 4, none⟩ = false := by simp [World.frozen?, hr9]
        have q9 : w9.cell? ⟨gx, 4, none⟩ = some nv := by rw [cell_of_row _ _ 4 _ 44 _ hr9]; rfl
        have hb9 : Below gx w1 w9 := (hb17.alloc (by have := hb17.size; omega) _).grown hgrow (by have := hb17.size; simp; omega) (by intro k hk; have := (World.ownsRow.lt hN7 k hk).1; omega)
        have hs9 : w6.heap.size ≤ w9.heap.size := by have := hgrow.size; simp at this; omega
        obtain ⟨wA, hwA⟩ : ∃ wA, w9.setCell ⟨gx, 4, none⟩ v' = wA := ⟨_, rfl⟩
        have hrA : wA.heap[gx]? = some (.cells #[.int .i64 (p.id : Int), .int .i64 (p.blk : Int), .int .i64 (p.off : Int), .slice (some ⟨g4, 0, none⟩) p.bs.length cap4, v'] 44 (0, 0)) := by rw [← hwA, heap_setCell_same _ _ _ _ _ _ hr9]; rfl
        have hkA : ∀ k, k ≠ gx → wA.heap[k]? = w9.heap[k]? := fun k hk => by rw [← hwA]; exact Below.heap_setCell _ _ _ _ hk
        have HE : Hid (Nums w6.heap.size wA v' (still L (p.nd.take (t + 1))) ∧ Own W2.heap.size wA g4 p.bs.length cap4 p.bs ∧ Below gx w1 wA ∧ w6.heap.size ≤ wA.heap.size ∧ wA.heap[gx]? = some (.cells #[.int .i64 (p.id : Int), .int .i64 (p.blk : Int), .int .i64 (p.off : Int), .slice (some ⟨g4, 0, none⟩) p.bs.length cap4, v'] 44 (0, 0))) := by
          refine ⟨?_, ?_, ?_, ?_, hrA⟩
          · rw [HI.out]
            exact Nums.keptAt hown (fun g hg => hkA g (by have := (World.ownsRow.lt hown g hg).1; omega))
          · exact ho7.keptAt ((hkA g4 (by omega)).trans (hk9 g4 hg46))
          · exact ⟨by rw [← hwA]; exact hb9.os, by rw [← hwA]; exact hb9.tape, by rw [← hwA]; exact hb9.output, by rw [← hwA]; simpa using hb9.size, fun k hk => (hkA k (by omega)).trans (hb9.block k hk)⟩
          · rw [← hwA]; simpa using hs9
        obtain ⟨g', cap', hv'⟩ := Nums.succ hown
        subst hv'
        clear hown hgrow hk9 hr9 hb9 hs9 hrA hkA hr7 q7 hN7 ho7 hb17
        go_wp2_with fail
        go_roundw
        case rel => exact ⟨t + 1, _, by omega, by go_num, HE.out.2.2.2.2, HE.out.1, HE.out.2.1, HE.out.2.2.1, HE.out.2.2.2.1⟩
        case measure => simp [intOf]; omega
      | false =>
        rw [fi_neg hsy] at hfy
        have HI : Hid (still L (p.nd.take (t + 1)) = still L (p.nd.take t)) := by
          show _ = _
          rw [HT6.out]
          unfold still
          rw [List.filter_append]
          simp [hsy]
        clear hsy HT6
        go_wp2_with fail
        refine below_at hfy ?_
        intro w7 hb7
        clear hfy
        have hr7 : w7.heap[gx]? = some (.cells #[.int .i64 (p.id : Int), .int .i64 (p.blk : Int), .int .i64 (p.off : Int), .slice (some ⟨g4, 0, none⟩) p.bs.length cap4, nv] 44 (0, 0)) := by rw [hb7.block gx (by omega)]; exact hrz
        go_wp2_with fail
        go_roundw
        case rel => exact ⟨t + 1, nv, by omega, by go_num, hr7, by rw [HI.out]; exact hNz.kept hb7, hoz.kept hb7, hbz.trans (hb7.mono (by have := hbz.size; omega)), by have := hb7.size; omega⟩
        case measure => simp [intOf]; omega
    · have htl : t = p.nd.length := by omega
      have hnt : ¬ (t : Int) < (p.nd.length : Int) := by omega
      rw [List.take_of_length_le (by omega)] at hNz
      have hrw : wr.heap[w.heap.size]? = some (.cells zc 44 (0, 0)) := by rw [hbz.block _ (by omega)]; exact hrow1
      obtain ⟨qn, cn, hnv⟩ := Nums.slice hNz
      subst hnv
      generalize hsl : (still L p.nd).length = sl at *
      obtain ⟨CS, hCS⟩ : ∃ CS : Array Value, CS = #[.int .i64 (p.id : Int), .int .i64 (p.blk : Int), .int .i64 (p.off : Int), .slice (some ⟨g4, 0, none⟩) p.bs.length cap4, .slice qn sl cn] := ⟨_, rfl⟩
      have hone : (#[.int .i64 (p.id : Int), .int .i64 (p.blk : Int), .int .i64 (p.off : Int), .slice (some ⟨g4, 0, none⟩) p.bs.length cap4, .slice qn sl cn] : Array Value).all (·.oneCell') = true := by simp [Value.oneCell']
      have x0 : wr.cell? ⟨gx, 0, none⟩ = some (.int .i64 (p.id : Int)) := by rw [cell_of_row _ _ 0 _ 44 _ hrz]; rfl
      have x1 : wr.cell? ⟨gx, 1, none⟩ = some (.int .i64 (p.blk : Int)) := by rw [cell_of_row _ _ 1 _ 44 _ hrz]; rfl
      have x2 : wr.cell? ⟨gx, 2, none⟩ = some (.int .i64 (p.off : Int)) := by rw [cell_of_row _ _ 2 _ 44 _ hrz]; rfl
      have x3 : wr.cell? ⟨gx, 3, none⟩ = some (.slice (some ⟨g4, 0, none⟩) p.bs.length cap4) := by rw [cell_of_row _ _ 3 _ 44 _ hrz]; rfl
      have x4 : wr.cell? ⟨gx, 4, none⟩ = some (.slice qn sl cn) := by rw [cell_of_row _ _ 4 _ 44 _ hrz]; rfl
      have hrow9 := setRow_heap wr w.heap.size _ CS 44 (0, 0) hrw
      obtain ⟨w9, hw9⟩ : ∃ w9, wr.setRow w.heap.size CS = w9 := ⟨_, rfl⟩
      rw [hw9] at hrow9
      have hk9 : ∀ k, k ≠ w.heap.size → w9.heap[k]? = wr.heap[k]? := fun k hk => by rw [← hw9]; exact setRow_other _ _ _ _ hk
      have hb9 : Below w.heap.size w w9 := by rw [← hw9]; exact below_setRow hbw _ (Nat.le_refl _) _
      have HE : Hid (Own w.heap.size w9 g4 p.bs.length cap4 p.bs ∧ Nums w.heap.size w9 (.slice qn sl cn) (still L p.nd) ∧ Below w.heap.size w w9) := by
        refine ⟨(hoz.keptAt (hk9 g4 (by omega))).base (by omega), ?_, hb9⟩
        have h1 : Nums w6.heap.size wr (.slice qn sl cn) (still L p.nd) := hNz
        exact Nums.base (Nums.keptAt h1 (fun g hg => hk9 g (by have := (World.ownsRow.lt h1 g hg).1; omega))) (by omega)
      clear hNz hoz hrz hbz hbw hndw hb9 hk9
      go_wp2_with (first | (refine wpList_store_row rfl 44 _ _ rfl w.heap.size CS rfl (by rw [hCS]; rfl) 44 _ hrw (by rw [hCS]; exact info44) (by rw [hCS]; rfl) (by rw [hCS]; exact hone) ?_; rw [hw9]))
      subst hCS
      refine bodyPost_ret (v := .tuple #[.agg #[.int .i64 (p.id : Int), .int .i64 (p.blk : Int), .int .i64 (p.off : Int), .slice (some ⟨g4, 0, none⟩) p.bs.length cap4, .slice qn sl cn], .int .i64 0]) (results_cell_tmp_row (p := 4) (u := 5) (ty := 44) Try.results21 _ _ w.heap.size 44 _ (0, 0) _ rfl hrow9 Try.underlying44 rfl info44) rfl ?_
      exact ⟨g4, cap4, _, rfl, HE.out.1, HE.out.2.1, HE.out.2.2⟩
end
end Go.Proofs.Yteapkfnklbhdfaa
