/- content: read. -/
import Derived.Test.YtfchclpglcogoaaC3
namespace Go.Proofs.Ytfchclpglcogoaa
open Go.RowKit Go.Maps
set_option linter.unusedVariables false
set_option maxRecDepth 100000

section
variable {w w' : World} {f pm N : Nat} {v0 v1 v2 v3 : Value} {xs : List Int}
theorem rd_step {xs : List Int} {off d k m : Nat} (hm : d + k ≤ m) (hl : off + m ≤ xs.length) : ((xs.drop off).take d ++ List.replicate (m - d) 0).take d ++ (xs.drop (off + d)).take k ++ ((xs.drop off).take d ++ List.replicate (m - d) (0 : Int)).drop (d + k) = (xs.drop off).take (d + k) ++ List.replicate (m - (d + k)) 0 := by
  have h1 : ((xs.drop off).take d).length = d := by simp; omega
  have h2 : ((xs.drop off).take d).drop (d + k) = [] := List.drop_of_length_le (by omega)
  rw [List.take_append_of_le_length (by omega), List.take_of_length_le (by omega), List.drop_append, h1, h2, List.nil_append, List.drop_replicate, List.take_add, List.drop_drop]
  congr 2
  omega
theorem made_zero (n : Nat) : (madeCells (Value.int .u8 0).cells (n * 1)).toList = List.replicate n (Value.int .u8 0) := by
  refine List.ext_getElem ?_ ?_
  · simp [madeCells]
  · intro i h1 h2
    simp [madeCells, Value.cells, Nat.mod_one]
set_option maxHeartbeats 4000000 in
theorem cread_ok (h : CT w f pm N v0 v1 v2 v3 xs) (hx : xs.length ≤ 600000) (off n m : Nat) (hm : m = min n (xs.length - off)) (ho : off ≤ 600000) (hn : n ≤ 2147483648) :
    Calls Try.prog 35 #[.pointer (some ⟨f, 4, none⟩), .int .i64 (off : Int), .int .i64 (n : Int)] w fun e w' => ∃ g, e = .returned (.slice (some ⟨g, 0, none⟩) m m) ∧ BI w' (some ⟨g, 0, none⟩) m ((xs.drop off).take m) ∧ w.heap.size ≤ g ∧ Below w.heap.size w w' := by
  obtain ⟨i0, hi, hz0, hz1, hz2⟩ := info_parts info5
  have c4 := h.c4
  obtain ⟨L, hL⟩ : ∃ L, L = xs.length := ⟨_, rfl⟩
  rw [← hL] at c4
  have hw1 : IntKind.i64.wrap ((L : Int) - (off : Int)) = (L : Int) - (off : Int) := IntWalk.i64_in _ (by omega)
  have hmm : min (n : Int) (max ((L : Int) - (off : Int)) 0) = (m : Int) := by omega
  have HM : Hid (m = min n (xs.length - off) ∧ L = xs.length ∧ m ≤ 600000) := ⟨hm, hL, by omega⟩
  clear hm hL
  go_enter Try.func35, Try.ntmps35
  go_wp2_with (first
    | (at_make; refine wpList_make_full _ rfl _ _ 22 rfl w.heap.size 5 i0 (.int .u8 0) 1 Try.underlying22 hi hz0 hz1 .i64 .i64 _ _ m rfl rfl rfl rfl (by rw [hz2]; have := HM.out; omega) (by have := HM.out; unfold maxLen; omega) (Nat.le_refl _) ?_; intro w2 hown2 hgrow2))
  rw [made_zero] at hown2
  have hb2 : Below w.heap.size w w2 := (Below.refl _ _).grown hgrow2 (Nat.le_refl _) (by intro k hk; cases hk)
  have hr2 : w2.heap[w.heap.size]? = some (.cells (aP ((xs.drop off).take 0 ++ List.replicate (m - 0) 0)) 5 (0, 0)) := by
    rw [own_row hown2]
    simp [aP]
  clear hown2 hgrow2 hw1 hmm c4
  go_loopw [8] (fun iv wr => ∃ d : Nat, d ≤ m ∧ iv = .int .i64 (d : Int) ∧ wr.heap[w.heap.size]? = some (.cells (aP ((xs.drop off).take d ++ List.replicate (m - d) 0)) 5 (0, 0)) ∧ Below w.heap.size w wr) (fun iv _ => m - (intOf iv).toNat)
  case atStart => exact ⟨0, by omega, rfl, hr2, hb2⟩
  case round =>
    clear hr2 hb2
    obtain ⟨d, hd, rfl, hrow, hb⟩ := hrel
    obtain ⟨hm, hL, hm6⟩ := HM.out
    by_cases hlt : d < m
    · have hC := h.kept hb
      obtain ⟨t, ht⟩ : ∃ t, t = off + d := ⟨_, rfl⟩
      obtain ⟨a, ha⟩ : ∃ a, a = t / 128 := ⟨_, rfl⟩
      obtain ⟨r, hr⟩ : ∃ r, r = t % 128 := ⟨_, rfl⟩
      obtain ⟨k, hk⟩ : ∃ k, k = min (128 - r) (m - d) := ⟨_, rfl⟩
      have hw1 : IntKind.i64.wrap ((off : Int) + (d : Int)) = (t : Int) := by rw [IntWalk.i64_in _ (by omega)]; omega
      have hw0 : (off : Int) + (d : Int) = (t : Int) := by omega
      have hwt : IntKind.i64.wrap (t : Int) = (t : Int) := IntWalk.i64_in _ (by omega)
      have hq1 : (t : Int).tdiv 128 = (a : Int) := by rw [Int.tdiv_eq_ediv_of_nonneg (by omega)]; omega
      have hq3 : (t : Int) / 128 = (a : Int) := by omega
      have hq2 : IntKind.i64.wrap ((t : Int).tdiv 128) = (a : Int) := by rw [hq1]; exact IntWalk.i64_in _ (by omega)
      have hm1 : (t : Int).tmod 128 = (r : Int) := by rw [Int.tmod_eq_emod_of_nonneg (by omega)]; omega
      have hm3 : (t : Int) % 128 = (r : Int) := by omega
      have hm2 : IntKind.i64.wrap ((t : Int).tmod 128) = (r : Int) := by rw [hm1]; exact IntWalk.i64_in _ (by omega)
      have hpc := hC.piece a (by omega)
      have c5 := hC.c5
      have hdI : (d : Int) < (m : Int) := by omega
      obtain ⟨P0, hP0⟩ : ∃ P0, P0 = pcL xs a := ⟨_, rfl⟩
      rw [← hP0] at hpc
      have hPl : P0.length = 128 := by rw [hP0]; exact pcL_len _ _
      have hs0 := aP_size hPl
      have hi94 : (Try.prog.info? 94).map (·.size) = some (aP P0).size := by rw [hs0]; exact info94
      have hold : Try.zeroCells94.size = (aP P0).size := by rw [hs0]; rfl
      have hone := aP_one P0
      obtain ⟨W3, hW3⟩ : ∃ W3, (wr.alloc (.cells Try.zeroCells94 94)).setRow wr.heap.size (aP P0) = W3 := ⟨_, rfl⟩
      have hb3 : Below wr.heap.size wr W3 := by rw [← hW3]; exact below_setRow (grew_alloc wr _) (Nat.le_refl _) _
      have hr3 : W3.heap[wr.heap.size]? = some (.cells (aP P0) 94 (0, 0)) := by rw [← hW3]; exact setRow_heap _ _ _ _ 94 _ (at_new rfl)
      have hgl : w.heap.size < wr.heap.size := (Array.getElem?_eq_some_iff.1 hrow).1
      have hrow3 : W3.drew.heap[w.heap.size]? = some (.cells (aP ((xs.drop off).take d ++ List.replicate (m - d) 0)) 5 (0, 0)) := (hb3.block w.heap.size hgl).trans hrow
      obtain ⟨ys, hyse⟩ : ∃ ys, ys = (P0.drop r).take k := ⟨_, rfl⟩
      have hys : ys.length = k := by rw [hyse]; simp; omega
      have hyx : ys = (xs.drop (off + d)).take k := by rw [hyse, hP0, ← ht]; exact read_piece (by omega) (by omega) (by omega)
      have hsrc : ∀ j v, (ys.map (Value.int .u8))[j]? = some v → W3.drew.cell? ((⟨wr.heap.size, r, none⟩ : Addr).add j) = some v := by
        intro j v hv
        have hj := (List.getElem?_eq_some_iff.1 hv).1
        rw [List.length_map] at hj
        have h1 := range_row (w := W3.drew) hr3 (r + j) v (by
          rw [← hv, List.getElem?_map, List.getElem?_map, hyse, List.getElem?_take_of_lt (by omega), List.getElem?_drop])
        rw [Nat.zero_add] at h1
        rw [Addr.add_mid]
        exact h1
      have hNEW : ((aP ((xs.drop off).take d ++ List.replicate (m - d) 0)).toList.take d ++ ys.map (Value.int .u8) ++ (aP ((xs.drop off).take d ++ List.replicate (m - d) 0)).toList.drop (d + (ys.map (Value.int .u8)).length)).toArray = aP ((xs.drop off).take (d + k) ++ List.replicate (m - (d + k)) 0) := by
        unfold aP
        rw [List.toList_toArray, List.length_map, hys, ← List.map_take, ← List.map_drop, ← List.map_append, ← List.map_append, hyx, rd_step (by omega) (by omega)]
      have hcd : ∀ ty, (Builtin.copy_ #[22, 22] ty #[.slice (some ⟨w.heap.size, d, none⟩) (m - d) (m - d), .slice (some ⟨wr.heap.size, r, none⟩) (128 - r) (128 - r)]).run Try.prog W3.drew = .ok (.int .i64 (k : Int)) (W3.drew.setRow w.heap.size (aP ((xs.drop off).take (d + k) ++ List.replicate (m - (d + k)) 0))) := fun ty => by
        have := run_copy_row (P := Try.prog) W3.drew 22 22 ty 5 w.heap.size d (m - d) (m - d) ⟨wr.heap.size, r, none⟩ (128 - r) (128 - r) (aP ((xs.drop off).take d ++ List.replicate (m - d) 0)) 5 (ys.map (Value.int .u8)) Try.underlying22 size5 hrow3 (by rw [List.length_map, hys, hk]) hsrc (by rw [List.length_map, hys]; simp [aP] <;> omega) (one_cells _)
        rw [this, hNEW]
        simp [goInt, hys]
      obtain ⟨W4, hW4⟩ : ∃ W4, W3.drew.setRow w.heap.size (aP ((xs.drop off).take (d + k) ++ List.replicate (m - (d + k)) 0)) = W4 := ⟨_, rfl⟩
      rw [hW4] at hcd
      have HB4 : Hid (Below w.heap.size w W4) := by
        show Below _ _ _
        rw [← hW4]
        exact below_setRow ((hb.trans (hb3.mono hb.size)).trans ((Below.refl _ _).drew.mono (Nat.le_trans hb.size hb3.size))) (Nat.le_refl _) _
      have HR4 : Hid (W4.heap[w.heap.size]? = some (.cells (aP ((xs.drop off).take (d + k) ++ List.replicate (m - (d + k)) 0)) 5 (0, 0))) := by
        show _ = _
        rw [← hW4]
        exact setRow_heap _ _ _ _ 5 _ hrow3
      obtain ⟨d2, hd2⟩ : ∃ d2, d2 = d + k := ⟨_, rfl⟩
      have hd2w : IntKind.i64.wrap ((d : Int) + (k : Int)) = (d2 : Int) := by rw [IntWalk.i64_in _ (by omega)]; omega
      have hd2e : (d : Int) + (k : Int) = (d2 : Int) := by omega
      have hwd2 : IntKind.i64.wrap (d2 : Int) = (d2 : Int) := IntWalk.i64_in _ (by omega)
      have HD : Hid (d2 ≤ m ∧ d < d2 ∧ d2 = d + k) := by show _ ∧ _; omega
      have hrI : (r : Int) ≤ 128 := by omega
      have hr0 : (0 : Int) ≤ (r : Int) := by omega
      have hdn : (d : Int) ≤ (m : Int) := by omega
      have hd0 : (0 : Int) ≤ (d : Int) := by omega
      clear ht ha hr hk hP0 hs0 hys hyse hyx hNEW hsrc hW4 hd2 hb hC hrow hrow3 hgl hm hL
      go_wp2_with (first | (refine wpList_store_row rfl 94 (.tmp 9) (.tmp 32) rfl wr.heap.size (aP P0) rfl rfl 94 _ (at_new rfl) hi94 hold hone ?_; rw [hW3]))
      go_region_held3 (fun _ => True) (trivial) (fail)
      go_wp2_with fail
      go_roundw
      case rel =>
        have hd' := HD.out
        refine ⟨d2, hd'.1, rfl, ?_, HB4.out⟩
        rw [hd'.2.2]
        exact HR4.out
      case measure => have hd' := HD.out; simp [intOf]; omega
    · clear hm hL
      obtain rfl : d = m := by omega
      have hdI : ¬ (d : Int) < (d : Int) := by omega
      go_wp2_with fail
      go_ret
      refine ⟨_, rfl, ?_, Nat.le_refl _, hb⟩
      rw [Nat.sub_self, List.replicate_zero, List.append_nil] at hrow
      refine ⟨by have := HM.out; simp; omega, by omega, byt_take (byt_drop h.byt off) d, fun _ => ⟨w.heap.size, 0, rfl, fun i hi => ?_⟩⟩
      have h1 := range_row hrow i (.int .u8 (((xs.drop off).take d).getD i 0)) (by
        rw [List.getElem?_map, List.getD_eq_getElem?_getD, List.getElem?_eq_getElem (by have := HM.out; simp; omega)]
        rfl)
      exact h1
end
end Go.Proofs.Ytfchclpglcogoaa
