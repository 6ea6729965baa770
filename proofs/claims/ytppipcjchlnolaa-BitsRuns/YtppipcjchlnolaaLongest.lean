/- The longest stretch. -/
import Derived.Test.YtppipcjchlnolaaRuns
namespace Go.Proofs.Ytppipcjchlnolaa
open Go.RowKit Go.Shelf
set_option linter.unusedVariables false
attribute [local go_sem] Oper.semAt_some

namespace Bit
def best (ps : List (Int × Int)) : Int × Int := ps.foldl (fun s x => if s.2 < x.2 then x else s) (0, 0)
theorem best_snoc (ps : List (Int × Int)) (x : Int × Int) : best (ps ++ [x]) = if (best ps).2 < x.2 then x else best ps := by
  unfold best
  rw [List.foldl_append]
  rfl
end Bit

/-- A box of type t at B holds v; the block is one cell. -/
theorem boxed_other {W : World} {B B' : Nat} {t : TypeId} {v v' : Value} (h : Boxed W B t v) (hne : B ≠ B') : Boxed (W.setCell ⟨B', 0, none⟩ v') B t v :=
  h.kept (grownBy_setCell' W B' v') (by simpa using hne)
theorem heap_set {W : World} {j B : Nat} {v : Value} (h : j ≠ B) : (W.setCell ⟨B, 0, none⟩ v).heap[j]? = W.heap[j]? := by
  by_cases hl : j < W.heap.size
  · exact (grownBy_setCell' W B v).block j hl (by simpa using h)
  · have hs : (W.setCell ⟨B, 0, none⟩ v).heap.size = W.heap.size := by simp
    rw [Array.getElem?_eq_none (by omega), Array.getElem?_eq_none (by omega)]

set_option maxRecDepth 100000 in
set_option maxHeartbeats 2000000 in
theorem longest_in (p : Option Addr) (n c : Nat) (xs : List Int) (M : Int) (w : World) (hb : BI w p n xs) :
    CallsIn Fence.wide 6 Try.prog 19 #[.slice p n c, .int .i64 M] w fun e w' => e = .returned (.tuple #[.int .i64 (Bit.best (Bit.sts xs (Bit.cnt M))).1, .int .i64 (Bit.best (Bit.sts xs (Bit.cnt M))).2]) ∧ Below w.heap.size w w' := by
  have hM := Bit.cnt_le M
  have hS := fun W => stretches_in 5 (by omega) p n c M W
  generalize Bit.cnt M = e at *
  have hf30 : Fence.wide.fn 30 := trivial
  refine callsIn_of_wp_marks Try.func19 rfl trivial ?_ rfl
  simp only [Try.ntmps19, List.size_toArray, List.length_cons, List.length_nil, Nat.reduceAdd, Nat.reduceSub, Array.replicate_succ, Array.replicate_zero, List.push_toArray, List.append_toArray, List.nil_append, List.cons_append]
  gi_wp2_with (first | (gi_at_call 30; refine (hS _).mono ?_; rintro _ w3 ⟨rfl, rfl⟩))
  obtain ⟨W0, hW0⟩ : ∃ W0, (((w.alloc (.cells #[.int .i64 0] 3)).alloc (.cells #[.int .i64 0] 3)).alloc (.cells #[.slice p n c] 22)).alloc (.cells #[.int .i64 (e : Int)] 3) = W0 := ⟨_, rfl⟩
  have bA : Boxed W0 w.heap.size 3 (.int .i64 0) := by rw [← hW0]; exact (((Boxed.new w 3 _).alloc _).alloc _).alloc _
  have bL : Boxed W0 (w.heap.size + 1) 3 (.int .i64 0) := by
    have h := ((Boxed.new (w.alloc (.cells #[.int .i64 0] 3)) 3 (.int .i64 0)).alloc (.cells #[.slice p n c] 22)).alloc (.cells #[.int .i64 (e : Int)] 3)
    rw [World.size_alloc] at h
    rw [← hW0]; exact h
  have bR : Boxed W0 (w.heap.size + 1 + 1) 22 (.slice p n c) := by
    have h := (Boxed.new ((w.alloc (.cells #[.int .i64 0] 3)).alloc (.cells #[.int .i64 0] 3)) 22 (.slice p n c)).alloc (.cells #[.int .i64 (e : Int)] 3)
    rw [World.size_alloc, World.size_alloc] at h
    rw [← hW0]; exact h
  have bE : Boxed W0 (w.heap.size + 1 + 1 + 1) 3 (.int .i64 (e : Int)) := by
    have h := Boxed.new (((w.alloc (.cells #[.int .i64 0] 3)).alloc (.cells #[.int .i64 0] 3)).alloc (.cells #[.slice p n c] 22)) 3 (.int .i64 (e : Int))
    rw [World.size_alloc, World.size_alloc, World.size_alloc] at h
    rw [← hW0]; exact h
  have hB0 : Below w.heap.size w W0 := by rw [← hW0]; exact ((((Below.refl _ w).alloc (Nat.le_refl _) _).alloc (by simp) _).alloc (by simp; omega) _).alloc (by simp; omega) _
  have hsz : W0.heap.size = w.heap.size + 4 := by rw [← hW0]; simp
  rw [hW0]
  clear hW0 hS
  refine wpIn_rangeFunc_ownG rfl (by omega) (gf := 31) (lb := #[.pointer (some ⟨w.heap.size + 1 + 1 + 1, 0, none⟩), .pointer (some ⟨w.heap.size + 1 + 1, 0, none⟩)]) rfl trivial (enters_of Try.func31 (by kernel_rfl) rfl)
    (stretches_stops 5 (w.heap.size + 1 + 1 + 1) (w.heap.size + 1 + 1) w.heap.size e (by omega) hM p n c xs W0 (by omega) bE bR (fun W' h => hb.kept (hB0.trans h))) (fun h k => h.t k) (Kb.b (by omega) (by omega) (by omega)) (Below.refl _ _) (fun _ => rfl)
    (fun pre W => Boxed W w.heap.size 3 (.int .i64 (Bit.best pre).1) ∧ Boxed W (w.heap.size + 1) 3 (.int .i64 (Bit.best pre).2) ∧ Below w.heap.size w W)
    (fun _ _ _ => False)
    (OwnFrom.and (Own.from (boxed_own w.heap.size 3 (fun pre => .int .i64 (Bit.best pre).1)) _) (OwnFrom.and (Own.from (boxed_own (w.heap.size + 1) 3 (fun pre => .int .i64 (Bit.best pre).2)) _) (ownFrom_below (Nat.le_refl _) (by omega))))
    (fun _ _ _ _ _ hs _ _ => hs)
    ⟨bA, bL, hB0⟩
    (fun x => { tmps := #[.slice p n c, .int .i64 M, undef, undef, .int .i64 0, .int .i64 0, .pointer (some ⟨w.heap.size, 0, none⟩), .pointer (some ⟨w.heap.size + 1, 0, none⟩), .int .i64 x.1, .int .i64 x.2, .slice p n c, .int .i64 M, .func (.func 31) #[] #[.pointer (some ⟨w.heap.size + 1 + 1 + 1, 0, none⟩), .pointer (some ⟨w.heap.size + 1 + 1, 0, none⟩)], .int .i64 x.1, .int .i64 x.2, undef, undef, undef, undef, undef, undef, undef], defers := [] }) ?assign ?body ?done ?stop
  case assign =>
    intro l x W K hK
    gi_wp2
    exact hK
  case body =>
    rintro l pre x W ⟨hA, hL, hB⟩ hlt
    have cA := hA.cell
    have cL := hL.cell
    have fA := hA.frozen
    have fL := hL.frozen
    have HS := (show Hid _ from Bit.best_snoc pre x)
    by_cases hx : (Bit.best pre).2 < x.2
    · rw [if_pos hx] at HS
      have hL' := boxed_other (v' := .int .i64 x.1) hL (show w.heap.size + 1 ≠ w.heap.size by omega)
      have cL' := hL'.cell
      have fL' := hL'.frozen
      gi_wp2
      refine ⟨((KeepsOthers.setCell _ _ _).trans (KeepsOthers.setCell _ _ _)).from _, ⟨((Below.refl w.heap.size W).setCell (p := ⟨w.heap.size, 0, none⟩) (Nat.le_refl _) _).setCell (p := ⟨w.heap.size + 1, 0, none⟩) (by simp) _, ?_, ?_⟩, ?_, ?_, (hB.setCell (p := ⟨w.heap.size, 0, none⟩) (Nat.le_refl _) _).setCell (p := ⟨w.heap.size + 1, 0, none⟩) (by simp) _⟩
      · rw [heap_set (by omega), heap_set (by omega)]
      · rw [heap_set (by omega), heap_set (by omega)]
      · rw [HS.out]; exact boxed_other (hA.set _) (by omega)
      · rw [HS.out]; exact hL'.set _
    · rw [if_neg hx] at HS
      gi_wp2
      exact ⟨KeepsFrom.refl _ _, Kb.refl _ _ _ _, by rw [HS.out]; exact hA, by rw [HS.out]; exact hL, hB⟩
  case done =>
    rintro D ys W hD rfl ⟨hA, hL, hB⟩ hK
    have cA := hA.cell
    have cL := hL.cell
    gi_wp2
    gi_region
    all_goals gi_wp2
    all_goals
      refine ⟨by simp, .inl ⟨_, _, rfl, run_takeDeferred hK, ?_⟩⟩
      exact ⟨_, results_tmp2 rfl _ _ _, rfl, (below_drewN hB 1).trans (belowK_b (w := w) (Nat.le_refl _) W.drew D _ _ (by omega) hK rfl rfl)⟩
  case stop =>
    rintro D c pre W _ _ h _
    exact h.elim
theorem longest_ok (p : Option Addr) (n c : Nat) (xs : List Int) (M : Int) (w : World) (hb : BI w p n xs) :
    Calls Try.prog 19 #[.slice p n c, .int .i64 M] w fun e w' => e = .returned (.tuple #[.int .i64 (Bit.best (Bit.sts xs (Bit.cnt M))).1, .int .i64 (Bit.best (Bit.sts xs (Bit.cnt M))).2]) ∧ Below w.heap.size w w' :=
  callsIn_wide.1 (longest_in p n c xs M w hb)
end Go.Proofs.Ytppipcjchlnolaa
