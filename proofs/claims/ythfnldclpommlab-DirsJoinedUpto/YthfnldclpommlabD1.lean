/- dirs: what an entry is good for. -/
import Derived.Test.YthfnldclpommlabRDEnt
namespace Go.Proofs.Ythfnldclpommlab
open Go.RowKit
set_option linter.unusedVariables false

/-- What an entry is good for. -/
def kd (N : Int) (s : ByteArray) : Int := if EMay N s then (if N = 0 then 1 else 2) else 0

theorem str_none {s : ByteArray} (h : s.size = 0) : s = ⟨#[]⟩ := by
  cases s with
  | mk a =>
    have : a.size = 0 := h
    rw [Array.eq_empty_of_size_eq_zero this]

set_option maxRecDepth 10000 in
set_option maxHeartbeats 400000 in
theorem kindOf_ok (N : Int) (s : ByteArray) (hs : s.size ≤ 140737488355328) (w : World) : Calls Try.prog 33 #[entV N s] w fun e w' => e = .returned (.int .i64 (kd N s)) ∧ Below w.heap.size w w' := by
  have HB := grew_alloc w (entO N s)
  have hx := heap_new w (entO N s)
  by_cases hm : EMay N s
  · have he := encodeEntry_yes N s hm (w.alloc (entO N s))
    by_cases h0 : N = 0
    · have hsz : s = ⟨#[]⟩ := by
        have : s.size = 0 := by
          rcases hm with h | h
          · exact h.2
          · omega
        exact str_none this
      have hkd : kd N s = 1 := by unfold kd; rw [if_pos hm, if_pos h0]
      rw [hkd]
      clear hkd hm hs
      subst h0 hsz
      go_enter Try.func33, Try.ntmps33
      go_wp2_with fail
      refine he.mono ?_
      rintro _ w1 ⟨p, c, rfl, hB, hb⟩
      clear he
      have hx1 := (hb.block _ (Array.getElem?_eq_some_iff.1 hx).1).trans hx
      have x0 : w1.cell? ⟨w.heap.size, 0, none⟩ = some (.int .i64 0) := cell_row hx1 0 _ rfl
      have x1 : w1.cell? ⟨w.heap.size, 1, none⟩ = some (.string ⟨#[]⟩) := cell_row hx1 1 _ rfl
      clear hx hx1
      dsimp only
      go_wp2_with fail
      go_ret
      exact ⟨rfl, grew_trans HB hb⟩
    · have hkd : kd N s = 2 := by unfold kd; rw [if_pos hm, if_neg h0]
      rw [hkd]
      clear hkd hm
      go_enter Try.func33, Try.ntmps33
      go_wp2_with fail
      refine he.mono ?_
      rintro _ w1 ⟨p, c, rfl, hB, hb⟩
      clear he
      have hx1 := (hb.block _ (Array.getElem?_eq_some_iff.1 hx).1).trans hx
      have x0 : w1.cell? ⟨w.heap.size, 0, none⟩ = some (.int .i64 N) := cell_row hx1 0 _ rfl
      have x1 : w1.cell? ⟨w.heap.size, 1, none⟩ = some (.string s) := cell_row hx1 1 _ rfl
      clear hx hx1
      dsimp only
      go_wp2_with fail
      go_ret
      exact ⟨rfl, grew_trans HB hb⟩
  · have he := encodeEntry_no N s hs hm (w.alloc (entO N s))
    go_enter Try.func33, Try.ntmps33
    go_wp2_with fail
    refine he.mono ?_
    rintro _ w1 ⟨rfl, hb⟩
    clear he
    dsimp only
    go_wp2_with fail
    go_ret
    exact ⟨by unfold kd; rw [if_neg hm]; rfl, grew_trans HB hb⟩
end Go.Proofs.Ythfnldclpommlab
