/- crash.Images and crash.Worst of a disk that no call made. -/
import Derived.Test.YtemhhgpgpjiijaaGreatZA
namespace Go.Proofs.YtemhhgpgpjiijaaGreat
open Go.RowKit Go.Shelf
set_option linter.unusedVariables false
attribute [local go_sem] Oper.semAt_some

theorem void_later {w w' : World} {d : Option Addr} (h : Void w d) (hb : Below w.heap.size w w') : Void w' d := by
  rcases h with rfl | ⟨b, rfl, hc⟩
  · exact .inl rfl
  · exact .inr ⟨b, rfl, (hb.cell (p := ⟨b, 0, none⟩) (lt_of_cell hc)).trans hc⟩

/-- A box that stays. -/
def Bq (b : Nat) (t : TypeId) (v : Value) (B : Nat) (w : World) (_ : List Value) (W : World) : Prop := Boxed W b t v ∧ Below B w W

theorem bq_own (b : Nat) (t : TypeId) (v : Value) (w : World) (B B' : Nat) (h1 : B ≤ w.heap.size) (h2 : B ≤ B') : OwnFrom B' (Bq b t v B w) := by
  have h := OwnFrom.and (B := B') (Own.from (boxed_own (β := List Value) b t (fun _ => v)) B') (ownFrom_below (β := List Value) (n₀ := B) (B := B') (w₀ := w) h1 h2)
  exact h

set_option maxRecDepth 100000 in
set_option maxHeartbeats 2000000 in
theorem images_void (w : World) (d : Option Addr) (most : Int) (h : Void w d) : Calls Tryz.prog 7 #[.pointer d, .int .i64 most] w fun e w' => e = .returned (.slice none 0 0) ∧ Below w.heap.size w w' := by
  obtain ⟨W1, hW1⟩ : ∃ W1, (w.alloc (.cells #[.pointer d] 23)).alloc (.cells #[.slice none 0 0] 37) = W1 := ⟨_, rfl⟩
  have hb1 : Below w.heap.size w W1 := by rw [← hW1]; exact ((Below.refl _ w).alloc (Nat.le_refl _) _).alloc (by simp) _
  have hs1 : W1.heap.size = w.heap.size + 2 := by rw [← hW1]; simp
  have hbx : Boxed W1 (w.heap.size + 1) 37 (.slice none 0 0) := by
    rw [← hW1]
    have := Boxed.new (w.alloc (.cells #[.pointer d] 23)) 37 (.slice none 0 0)
    rwa [World.size_alloc] at this
  have hcd : W1.cell? ⟨w.heap.size, 0, none⟩ = some (.pointer d) := by
    rw [← hW1]
    exact ((Boxed.new w 23 (.pointer d)).alloc _).cell
  have hC := (callsIn_wide (n := 6)).2 (sets_void W1 d most (void_later h hb1))
  have hf : Fence.wide.fn 15 := trivial
  refine (callsIn_wide (n := 7)).1 ?_
  refine callsIn_of_wp_marks Tryz.func7 rfl trivial ?_ rfl
  simp only [Tryz.ntmps7, List.size_toArray, List.length_cons, List.length_nil, Nat.reduceAdd, Nat.reduceSub, Array.replicate_succ, Array.replicate_zero, List.push_toArray, List.append_toArray, List.nil_append, List.cons_append]
  gi_wp2_with (first | (gi_at_call 15; refine hC.mono ?_; rintro e w2 ⟨rfl, hx, hs, hb⟩))
  rw [hs1] at hx hs hb
  have hbw : Below w.heap.size w w2 := hb1.trans (hb.mono (by omega))
  have hbx2 : Boxed w2 (w.heap.size + 1) 37 (.slice none 0 0) := (hb.block _ (by omega)).trans hbx
  clear hC hW1 hcd hb1 hb hbx
  refine range_walks rfl (by omega) (gf := 38) (lb := #[.pointer (some ⟨w.heap.size + 2 + 1, 0, none⟩), .pointer (some ⟨w.heap.size + 2 + 1 + 1, 0, none⟩), .pointer (some ⟨w.heap.size + 2, 0, none⟩)]) rfl trivial (enters_of Tryz.func38 (by kernel_rfl) rfl)
    (subs0_walks _ (w.heap.size + 2) none 0 0 w2 (by omega) hx) (fun _ _ => trivial) (fun _ _ _ _ => trivial) (Below.refl _ _) (fun _ => rfl) (fun _ _ _ _ _ _ _ _ => trivial)
    (Bq (w.heap.size + 1) 37 (.slice none 0 0) w.heap.size w) (bq_own _ _ _ _ _ _ (Nat.le_refl _) hbw.size) ⟨hbx2, hbw⟩
    (fun x => { tmps := #[.pointer d, .int .i64 most, .pointer (some ⟨w.heap.size, 0, none⟩), undef, .slice none 0 0, .pointer (some ⟨w.heap.size + 1, 0, none⟩), x, .pointer d, .int .i64 most, sq (w.heap.size + 2), x, undef, undef, undef, undef, undef, undef, undef], defers := [] }) ?assign ?body ?done
  case assign =>
    intro l x W K hK
    gi_wp2
    exact hK
  case body => exact fun l pre x W _ _ hlt => absurd hlt (Nat.not_lt_zero _)
  case done =>
    rintro D xs W hD hxs ⟨hv, hB⟩ hK
    have hc := hv.cell
    gi_wp2
    refine ⟨by simp, .inl ⟨_, _, rfl, run_takeDeferred hK, ?_⟩⟩
    exact ⟨_, results_tmp rfl _ _ _, rfl, hB.trans (belowK_b (w := w) (Nat.le_refl _) W D _ _ (by omega) hK rfl rfl)⟩
end Go.Proofs.YtemhhgpgpjiijaaGreat
