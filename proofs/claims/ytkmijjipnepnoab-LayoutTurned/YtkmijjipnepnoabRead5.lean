/- A reader's Text and Skip that begin: what they answer, and what the reader is behind them. -/
import Derived.Test.YtkmijjipnepnoabNobody
namespace Go.Proofs.Ytkmijjipnepnoab
open Go.RowKit

theorem cut_bi {w w1 : World} {rb n k : Nat} {xs : List Int} {b o m c : Nat} {E : Int} {md : Bool} (hc : Cutoff w w1 rb n xs k) (hr : Rd w rb (.slice (some ⟨b, o, none⟩) n c) E md) (hb : BI w (some ⟨b, o, none⟩) m (xs.take m)) : BI w1 (some ⟨b, o, none⟩) m (xs.take m) := by
  obtain ⟨b', o', c', rfl, _⟩ := hc
  refine bi_same hb fun b2 o2 e hn => ?_
  cases e
  have n1 := bi_ne hb hn hr (rd_no _ _ _ (by intro x; simp))
  rw [Below.heap_setCell _ _ _ _ (by simpa using n1)]

set_option maxHeartbeats 800000 in
theorem skip1_yes (w : World) (rb B0 B1 : Nat) (b o n c : Nat) (E : Int) (m : Bool) (xs : List Int) (k : Nat) (h : Rd w rb (.slice (some ⟨b, o, none⟩) n c) E m) (hb : BI w (some ⟨b, o, none⟩) n xs) (hnc : n ≤ c) (h3 : k ≤ n)
    (c0 : w.cell? ⟨B0, 0, none⟩ = some (.pointer (some ⟨rb, 0, none⟩))) (c1 : w.cell? ⟨B1, 0, none⟩ = some (.int .i64 k)) :
    Calls Try.prog 80 #[.pointer (some ⟨B0, 0, none⟩), .pointer (some ⟨B1, 0, none⟩)] w fun e w' => e = .returned (.tuple #[]) ∧ Cutoff w w' rb n xs k := by
  have hg := (show Hid _ from next_yes w rb b o n c E m xs k h hb hnc h3)
  go_enter Try.func80, Try.ntmps80
  go_wp2_with fail
  refine Calls.mono hg.out ?_
  rintro e w1 ⟨rfl, hcut⟩
  clear c0 c1 hg hb h
  go_wp2
  go_end0
  exact ⟨rfl, hcut⟩

namespace Num
def tE (n : Nat) (k : Int) : Int := if k < 0 then 1 else if (n : Int) < k then 10 else 0
end Num

theorem next_bad (w : World) (rb : Nat) (p : Option Addr) (n c : Nat) (E : Int) (m : Bool) (k : Int) (h : Rd w rb (.slice p n c) E m) (hk : Num.tE n k ≠ 0) :
    Calls Try.prog 81 #[.pointer (some ⟨rb, 0, none⟩), .int .i64 k] w fun e w' => e = .panicked [{ v := .iface 30 (.int .i64 (Num.tE n k)), recovered := false }] ∧ w' = w := by
  by_cases h1 : k < 0
  · have e : Num.tE n k = 1 := by unfold Num.tE; rw [if_pos h1]
    rw [e]
    exact next_neg w _ k h1
  · by_cases h2 : (n : Int) < k
    · have e : Num.tE n k = 10 := by unfold Num.tE; rw [if_neg h1, if_pos h2]
      rw [e]
      exact next_past w rb p n c E m k h h2
    · exact absurd (by unfold Num.tE; rw [if_neg h1, if_neg h2]) hk

set_option maxHeartbeats 400000 in
theorem skip1_bad (w : World) (rb B0 B1 : Nat) (p : Option Addr) (n c : Nat) (E : Int) (m : Bool) (k : Int) (h : Rd w rb (.slice p n c) E m) (h1 : Num.tE n k ≠ 0)
    (c0 : w.cell? ⟨B0, 0, none⟩ = some (.pointer (some ⟨rb, 0, none⟩))) (c1 : w.cell? ⟨B1, 0, none⟩ = some (.int .i64 k)) :
    Calls Try.prog 80 #[.pointer (some ⟨B0, 0, none⟩), .pointer (some ⟨B1, 0, none⟩)] w fun e w' => e = .panicked [{ v := .iface 30 (.int .i64 (Num.tE n k)), recovered := false }] ∧ w' = w := by
  have hg := (show Hid _ from next_bad w rb p n c E m k h h1)
  clear h h1
  generalize Num.tE n k = F at *
  go_enter Try.func80, Try.ntmps80
  go_wp2_with fail
  refine Calls.mono hg.out ?_
  rintro e w1 ⟨rfl, rfl⟩
  go_wp2
  exact ⟨rfl, rfl, rfl⟩

/-- Behind a call that took k bytes and answers nothing. -/
theorem fin_skip {w W w1 : World} {rb n k : Nat} {xs : List Int} {p : Option Addr} {m c : Nat} (hb : Below w.heap.size w W) (hr : Rd W rb (.slice p m c) 0 true)
    (hc : Cutoff W w1 rb n xs k) : w.grownBy w1 (some rb) ∧ Rest w1 rb (n - k) (xs.drop k) 0 := by
  obtain ⟨b, o, c', rfl, hnc, hbi⟩ := hc
  refine ⟨⟨hb.os, hb.tape, hb.output, by have := hb.size; simpa using this, fun j hj hn => ?_⟩, ⟨b, o, c', hr.set0 _, hnc, bi_same hbi fun b' o' e hn => ?_⟩⟩
  · rw [Below.heap_setCell _ _ _ _ (by simp; intro e; exact hn (by rw [e]))]
    exact hb.block j hj
  · cases e
    have n1 := bi_ne hbi hn hr (rd_no _ _ _ (by intro x; simp))
    rw [Below.heap_setCell _ _ _ _ (by simpa using n1)]

set_option maxHeartbeats 800000 in
theorem skip_yes (w : World) (rb n k : Nat) (xs : List Int) (h : Rest w rb n xs 0) (h3 : k ≤ n) :
    Calls Try.prog 71 #[.pointer (some ⟨rb, 0, none⟩), .int .i64 k] w fun e w' => e = .returned (.tuple #[]) ∧ w.grownBy w' (some rb) ∧ Rest w' rb (n - k) (xs.drop k) 0 := by
  obtain ⟨b, o, c, hr, hnc, hbi⟩ := h
  have hmf := makes
  obtain ⟨t0, t1, t3, t4⟩ := two w (.pointer (some ⟨rb, 0, none⟩)) (.int .i64 k) (.pointer (some ⟨rb, 0, none⟩)) 81 3 81
  have hcon := attempt39_yes _ rb _ ⟨w.heap.size, 0, none⟩ ⟨w.heap.size + 1, 0, none⟩
    (fun w' => w.grownBy w' (some rb) ∧ Rest w' rb (n - k) (xs.drop k) 0) (rd_kept hr t4)
    ((skip1_yes _ rb _ _ b o n c 0 true xs k (rd_kept hr t3) (hbi.kept t3) hnc h3 (cell_one t0) (cell_one t1)).mono
      (by rintro e w' ⟨he, hc⟩; exact ⟨he, fin_skip t3 (rd_kept hr t3) hc⟩))
  have HC := (show Hid _ from hcon)
  clear hcon t0 t1 t3 t4 hr hbi
  go_enter Try.func71, Try.ntmps71
  go_wp2_with fail
  refine Calls.mono HC.out ?_
  rintro e w' ⟨rfl, hgr, hrest⟩
  clear HC
  go_wp2
  go_end0
  exact ⟨rfl, hgr, hrest⟩

set_option maxHeartbeats 800000 in
theorem skip_bad (w : World) (rb n : Nat) (xs : List Int) (k : Int) (h : Rest w rb n xs 0) (h1 : Num.tE n k ≠ 0) :
    Calls Try.prog 71 #[.pointer (some ⟨rb, 0, none⟩), .int .i64 k] w fun e w' => e = .returned (.tuple #[]) ∧ w.grownBy w' (some rb) ∧ Rest w' rb n xs (Num.tE n k) := by
  obtain ⟨b, o, c, hr, hnc, hbi⟩ := h
  have hmf := makes
  obtain ⟨t0, t1, t3, t4⟩ := two w (.pointer (some ⟨rb, 0, none⟩)) (.int .i64 k) (.pointer (some ⟨rb, 0, none⟩)) 81 3 81
  have hcon := attempt39_pan _ rb _ ⟨w.heap.size, 0, none⟩ ⟨w.heap.size + 1, 0, none⟩ (Num.tE n k) (rd_kept hr t4)
    (skip1_bad _ rb _ _ _ n c 0 true k (rd_kept hr t3) h1 (cell_one t0) (cell_one t1))
  have hfin := fin_bad (E := Num.tE n k) t3 (rd_kept hr t3) (hbi.kept t3)
  have hcon2 := hcon.mono (R' := fun e w' => e = .returned (.tuple #[]) ∧ w.grownBy w' (some rb) ∧ Rest w' rb n xs (Num.tE n k))
    (by rintro e w' ⟨he, rfl⟩; exact ⟨he, hfin.1, b, o, c, hfin.2.1, hnc, hfin.2.2⟩)
  have HC := (show Hid _ from hcon2)
  clear hcon hcon2 hfin t0 t1 t3 t4 hr hbi h1
  generalize Num.tE n k = F at *
  go_enter Try.func71, Try.ntmps71
  go_wp2_with fail
  refine Calls.mono HC.out ?_
  rintro e w' ⟨rfl, hgr, hrest⟩
  clear HC
  go_wp2
  go_end0
  exact ⟨rfl, hgr, hrest⟩

end Go.Proofs.Ytkmijjipnepnoab
