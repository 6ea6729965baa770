/- crash.Worst of a disk that no call made. -/
import Derived.Test.YtemhhgpgpjiijaaGreatZB
namespace Go.Proofs.YtemhhgpgpjiijaaGreat
open Go.RowKit Go.Shelf
set_option linter.unusedVariables false
attribute [local go_sem] Oper.semAt_some

theorem results_two_cells {P : Program} {fn : Func} {p q : Tmp} {t u : TypeId} (h : fn.results = #[.cell p t, .cell q u]) (tmps : Array Value) (w : World) (a b : Addr) (v v' : Value) (hp : tmps.getD p undef = .pointer (some a)) (hq : tmps.getD q undef = .pointer (some b))
    (h1 : (loadVar t a).run P w = .ok v w) (h2 : (loadVar u b).run P w = .ok v' w) : (results fn tmps).run P w = .ok (.tuple #[v, v']) w := by
  have hp' : tmps[p]?.getD undef = .pointer (some a) := by simpa using hp
  have hq' : tmps[q]?.getD undef = .pointer (some b) := by simpa using hq
  simp [results, h, Sem.run_bind, Result.andThen, asAddr, hp', hq', h1, h2]

/-- Three boxes that stay. -/
def Bq3 (b : Nat) (B : Nat) (w : World) (_ : List Value) (W : World) : Prop := Boxed W b 3 (.int .i64 0) ∧ Boxed W (b + 1) 30 (.int .i64 0) ∧ Below B w W

theorem bq3_own (b : Nat) (w : World) (B B' : Nat) (h1 : B ≤ w.heap.size) (h2 : B ≤ B') : OwnFrom B' (Bq3 b B w) := by
  have h := OwnFrom.and (B := B') (Own.from (boxed_own (β := List Value) b 3 (fun _ => .int .i64 0)) B') (OwnFrom.and (Own.from (boxed_own (β := List Value) (b + 1) 30 (fun _ => .int .i64 0)) B') (ownFrom_below (β := List Value) (n₀ := B) (B := B') (w₀ := w) h1 h2))
  exact h

theorem load3 (w : World) (b : Nat) (v : Value) (h : w.cell? ⟨b, 0, none⟩ = some v) : (loadVar 3 ⟨b, 0, none⟩).run Tryz.prog w = .ok v w := by
  have hu := Tryz.underlying3
  simp [loadVar, run_isAgg_plain hu, h]
theorem load30 (w : World) (b : Nat) (v : Value) (h : w.cell? ⟨b, 0, none⟩ = some v) : (loadVar 30 ⟨b, 0, none⟩).run Tryz.prog w = .ok v w := by
  have hu := Tryz.underlying30
  simp [loadVar, run_isAgg_plain hu, h]

set_option maxRecDepth 100000 in
set_option maxHeartbeats 2000000 in
theorem worst_void (w : World) (d : Option Addr) (most : Int) (h : Void w d) : Calls Tryz.prog 5 #[.pointer d, .int .i64 most] w fun e w' => e = .returned (.tuple #[.int .i64 0, .int .i64 0]) ∧ Below w.heap.size w w' := by
  obtain ⟨W0, hW0⟩ : ∃ W0, ((w.alloc (.cells #[.pointer d] 23)).alloc (.cells #[.int .i64 0] 3)).alloc (.cells #[.int .i64 0] 30) = W0 := ⟨_, rfl⟩
  have hb0 : Below w.heap.size w W0 := by rw [← hW0]; exact (((Below.refl _ w).alloc (Nat.le_refl _) _).alloc (by simp) _).alloc (by simp; omega) _
  have hs0 : W0.heap.size = w.heap.size + 1 + 1 + 1 := by rw [← hW0]; simp
  have hbA : Boxed W0 (w.heap.size + 1) 3 (.int .i64 0) := by
    rw [← hW0]
    have := (Boxed.new (w.alloc (.cells #[.pointer d] 23)) 3 (.int .i64 0)).alloc (.cells #[.int .i64 0] 30)
    rwa [World.size_alloc] at this
  have hbB : Boxed W0 (w.heap.size + 1 + 1) 30 (.int .i64 0) := by
    rw [← hW0]
    have := Boxed.new ((w.alloc (.cells #[.pointer d] 23)).alloc (.cells #[.int .i64 0] 3)) 30 (.int .i64 0)
    rwa [World.size_alloc, World.size_alloc] at this
  have hcd0 : Boxed W0 w.heap.size 23 (.pointer d) := by
    rw [← hW0]
    exact ((Boxed.new w 23 (.pointer d)).alloc _).alloc _
  have hcd : (W0.alloc (.cells #[.int .i64 0] 3)).cell? ⟨w.heap.size, 0, none⟩ = some (.pointer d) := (hcd0.alloc _).cell
  have hb1 : Below w.heap.size w (W0.alloc (.cells #[.int .i64 0] 3)) := hb0.alloc hb0.size _
  have hs1 : (W0.alloc (.cells #[.int .i64 0] 3)).heap.size = w.heap.size + 4 := by simp [hs0]
  have hC := (callsIn_wide (n := 6)).2 (sets_void (W0.alloc (.cells #[.int .i64 0] 3)) d most (void_later h hb1))
  have hf : Fence.wide.fn 15 := trivial
  refine (callsIn_wide (n := 7)).1 ?_
  refine callsIn_of_wp_marks Tryz.func5 rfl trivial ?_ rfl
  simp only [Tryz.ntmps5, List.size_toArray, List.length_cons, List.length_nil, Nat.reduceAdd, Nat.reduceSub, Array.replicate_succ, Array.replicate_zero, List.push_toArray, List.append_toArray, List.nil_append, List.cons_append]
  gi_wp2_with (first | (gi_at_call 15; refine hC.mono ?_; rintro e w2 ⟨rfl, hx, hs, hb⟩))
  rw [hs1] at hx hs hb
  have hbw : Below w.heap.size w w2 := hb1.trans (hb.mono (by omega))
  have hbA2 : Boxed w2 (w.heap.size + 1) 3 (.int .i64 0) := (hb.block _ (by omega)).trans (hbA.alloc _)
  have hbB2 : Boxed w2 (w.heap.size + 1 + 1) 30 (.int .i64 0) := (hb.block _ (by omega)).trans (hbB.alloc _)
  clear hC hW0 hcd hb1 hb hbA hbB hcd0 hs1 hs0
  refine range_walks rfl (by omega) (gf := 38) (lb := #[.pointer (some ⟨w.heap.size + 4 + 1, 0, none⟩), .pointer (some ⟨w.heap.size + 4 + 1 + 1, 0, none⟩), .pointer (some ⟨w.heap.size + 4, 0, none⟩)]) ?fn trivial (enters_of Tryz.func38 (by kernel_rfl) rfl)
    (subs0_walks _ (w.heap.size + 4) none 0 0 w2 (by omega) hx) (fun _ _ => trivial) (fun _ _ _ _ => trivial) (Below.refl _ _) (fun _ => rfl) (fun _ _ _ _ _ _ _ _ => trivial)
    (Bq3 (w.heap.size + 1) w.heap.size w) (bq3_own _ _ _ _ (Nat.le_refl _) hbw.size) ⟨hbA2, hbB2, hbw⟩
    (fun x => { tmps := #[.pointer d, .int .i64 most, .pointer (some ⟨w.heap.size, 0, none⟩), undef, .pointer (some ⟨w.heap.size + 1, 0, none⟩), .pointer (some ⟨w.heap.size + 1 + 1, 0, none⟩), .pointer (some ⟨w.heap.size + 1 + 1 + 1, 0, none⟩), x, undef, .pointer d, .int .i64 most, sq (w.heap.size + 4), x, undef, undef, undef, undef, undef, undef, undef, undef, undef, undef], defers := [] }) ?assign ?body ?done
  case fn => rfl
  case assign =>
    intro l x W K hK
    gi_wp2
    exact hK
  case body => exact fun l pre x W _ _ hlt => absurd hlt (Nat.not_lt_zero _)
  case done =>
    rintro D xs W hD hxs ⟨hA, hB, hbl⟩ hK
    have hcA := hA.cell
    have hfA := hA.frozen
    have hA1 := hA.set (.int .i64 0)
    have hB1 : Boxed (W.setCell ⟨w.heap.size + 1, 0, none⟩ (.int .i64 0)) (w.heap.size + 1 + 1) 30 (.int .i64 0) := hB.other (by omega) _
    have hcB := hB1.cell
    have hfB := hB1.frozen
    have hA2 := hA1.other (B' := w.heap.size + 1 + 1) (by omega) (.int .i64 0)
    have hB2 := hB1.set (.int .i64 0)
    have hK2 : ((W.setCell ⟨w.heap.size + 1, 0, none⟩ (.int .i64 0)).setCell ⟨w.heap.size + 1 + 1, 0, none⟩ (.int .i64 0)).heap[D]? = some (.deferred (some [])) := by
      rw [Below.heap_setCell _ _ _ D (by show D ≠ w.heap.size + 1 + 1; omega), Below.heap_setCell _ _ _ D (by show D ≠ w.heap.size + 1; omega)]
      exact hK
    have hbl2 : Below w.heap.size w ((W.setCell ⟨w.heap.size + 1, 0, none⟩ (.int .i64 0)).setCell ⟨w.heap.size + 1 + 1, 0, none⟩ (.int .i64 0)) := (hbl.setCell (p := ⟨w.heap.size + 1, 0, none⟩) (by show w.heap.size ≤ w.heap.size + 1; omega) _).setCell (p := ⟨w.heap.size + 1 + 1, 0, none⟩) (by show w.heap.size ≤ w.heap.size + 1 + 1; omega) _
    have HA2 := (show Hid _ from hA2)
    have HB2 := (show Hid _ from hB2)
    have HK2 := (show Hid _ from hK2)
    have HBL := (show Hid _ from hbl2)
    clear hA1 hB1 hA2 hB2 hK2 hbl2 hA hB
    gi_wp2
    refine ⟨by simp, .inl ⟨_, _, rfl, run_takeDeferred HK2.out, ?_⟩⟩
    have hA3 : Boxed (((W.setCell ⟨w.heap.size + 1, 0, none⟩ (.int .i64 0)).setCell ⟨w.heap.size + 1 + 1, 0, none⟩ (.int .i64 0)).putObj D (.deferred none)) (w.heap.size + 1) 3 (.int .i64 0) := (World.putObj_heap_other (by omega)).trans HA2.out
    have hB3 : Boxed (((W.setCell ⟨w.heap.size + 1, 0, none⟩ (.int .i64 0)).setCell ⟨w.heap.size + 1 + 1, 0, none⟩ (.int .i64 0)).putObj D (.deferred none)) (w.heap.size + 1 + 1) 30 (.int .i64 0) := (World.putObj_heap_other (by omega)).trans HB2.out
    exact ⟨_, results_two_cells rfl _ _ ⟨w.heap.size + 1, 0, none⟩ ⟨w.heap.size + 1 + 1, 0, none⟩ _ _ rfl rfl (load3 _ _ _ hA3.cell) (load30 _ _ _ hB3.cell), rfl, HBL.out.trans (belowK_b (w := w) (Nat.le_refl _) _ D _ _ (by omega) HK2.out rfl rfl)⟩
end Go.Proofs.YtemhhgpgpjiijaaGreat
