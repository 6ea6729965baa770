/- SpoilImage. -/
import Derived.Test.YtnbknoibelajaabPImage
namespace Go.Proofs.Ytnbknoibelajaab
open Go.RowKit Go.Maps

set_option maxRecDepth 10000 in
set_option maxHeartbeats 1000000 in
theorem spoilImage_ok {B : Nat} {w : World} {v : Value} {n : Nat} {vs : List Value} {L : List (List Int)} (h : PI B w v n vs L) (hn : n ≤ 140737488355328) :
    Calls Try.prog 16 #[v] w fun e w' => (∃ u, e = .returned u) ∧ Frame (fun k => ∃ (i : Nat) (u : Value), vs[i]? = some u ∧ u.ownBlock = some k) w w' := by
  obtain ⟨p, c, rfl, hpg⟩ := row_case h.row
  have hl := h.vlen
  have hll := h.len
  go_enter Try.func16, Try.ntmps16
  go_wp2_with fail
  go_loopw [6] (fun i wr => ∃ j : Nat, j ≤ n ∧ i = .int .i64 (j : Int) ∧ wr.ownsRow B 30 1 (.slice p n c) n vs ∧ (∀ (i : Nat) (u : Value) (k : Nat), j ≤ i → vs[i]? = some u → u.ownBlock = some k → wr.heap[k]? = w.heap[k]?) ∧ Frame (fun k => ∃ (i : Nat) (u : Value), vs[i]? = some u ∧ u.ownBlock = some k) w wr) (fun i _ => n - (intOf i).toNat)
  case atStart => exact ⟨0, by omega, rfl, h.row, fun _ _ _ _ _ _ => rfl, Frame.refl _ _⟩
  case round =>
    obtain ⟨j, hj, rfl, hrow, hk, hf⟩ := hrel
    by_cases hlt : j < n
    · obtain ⟨g, rfl⟩ := hpg (by omega)
      have hvj : vs[j]? = some (vs[j]'(by omega)) := List.getElem?_eq_getElem _
      obtain ⟨q, m, d, eu, ho, hm, hbt⟩ := h.el j _ _ hvj (List.getElem?_eq_getElem (by omega))
      rw [eu] at hvj
      have hcell : wr.cell? ⟨g, j, none⟩ = some (.slice q m d) := by rw [hrow.cellAt j (by omega), hvj]
      have hor := ownsRow_kept ho (w' := wr) (fun k hk' => hk j _ k (Nat.le_refl _) hvj hk')
      have CS := (show Hid _ from spoil_ok hor hm)
      have hjI : (j : Int) < (n : Int) := by omega
      clear eu
      go_wp2_with fail
      refine Calls.mono CS.out ?_
      rintro e w1 ⟨⟨u1, rfl⟩, hf1⟩
      have hrow1 := ownsRow_kept hrow (w' := w1) (fun k hk' => hf1.block k (hrow.lt k hk').2 (fun e => owns_ne hrow hor (by decide) hk' e))
      clear CS
      go_wp2
      go_roundw
      case rel =>
        refine ⟨j + 1, by omega, by go_num, hrow1, fun i u k hi hu hku => ?_, hf.trans (hf1.mono (fun k _ hk' => ⟨j, _, hvj, hk'⟩))⟩
        have hlt' : k < wr.heap.size := by
          obtain ⟨q', m', d', eu', ho', _⟩ := h.el i u _ hu (List.getElem?_eq_getElem (by have := (List.getElem?_eq_some_iff.1 hu).1; omega))
          rw [eu'] at hku
          exact Nat.lt_of_lt_of_le (ho'.lt k hku).2 hf.size
        rw [hf1.block k hlt' (fun e => by have := h.ne j i _ u k hvj hu e hku; omega)]
        exact hk i u k (by omega) hu hku
      case measure => simp [intOf]; omega
    · obtain rfl : j = n := by omega
      go_wp2
      first | go_end0 | (refine bodyPost_ret (results_none rfl _ _ _) rfl ?_)
      exact ⟨⟨_, rfl⟩, hf⟩
end Go.Proofs.Ytnbknoibelajaab
