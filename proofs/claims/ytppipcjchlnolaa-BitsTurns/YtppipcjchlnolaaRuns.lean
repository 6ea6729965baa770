/- The stretches' lengths. -/
import Derived.Test.YtppipcjchlnolaaIter
namespace Go.Proofs.Ytppipcjchlnolaa
open Go.RowKit Go.Shelf
set_option linter.unusedVariables false
attribute [local go_sem] Oper.semAt_some

namespace Bit
def lens (ps : List (Int × Int)) : List Int := ps.map (·.2)
end Bit

theorem row_base {W : World} {R R' : Nat} {e : TypeId} {size : Nat} {v : Value} {k : Nat} {xs : List Value} (h : W.ownsRow R e size v k xs) (hR : R' ≤ R) : W.ownsRow R' e size v k xs := by
  refine ⟨h.1, ?_⟩
  rcases h.2 with h' | ⟨g', cap', cur, h', hbg, rest⟩
  · exact .inl h'
  · exact .inr ⟨g', cap', cur, h', by omega, rest⟩

theorem row_over {W : World} {R : Nat} {e : TypeId} {size : Nat} {v : Value} {k : Nat} {xs : List Value} (h : W.ownsRow R e size v k xs) {j : Nat} (hj : j < R) : some j ≠ v.ownBlock := by
  intro e'
  have := (World.ownsRow.lt h j e'.symm).1
  omega

theorem appended3 {W w1 : World} {R B : Nat} {v v' : Value} {k m : Nat} {xs ys : List Value} {tmp : Obj}
    (hv : Boxed W B 37 v) (hrow : W.ownsRow R 3 1 v k xs) (hR : R ≤ W.heap.size) (hB : B < R)
    (hown' : w1.ownsRow R 3 1 v' m ys) (hgrow : (W.alloc tmp).grownBy w1 v.ownBlock) :
    Boxed w1 B 37 v ∧ Boxed (w1.setCell ⟨B, 0, none⟩ v') B 37 v' ∧ (w1.setCell ⟨B, 0, none⟩ v').ownsRow R 3 1 v' m ys ∧ KeepsOthers W (w1.setCell ⟨B, 0, none⟩ v') ∧ Below B W (w1.setCell ⟨B, 0, none⟩ v') ∧
      ∀ j, j < R → j ≠ B → (w1.setCell ⟨B, 0, none⟩ v').heap[j]? = W.heap[j]? := by
  obtain ⟨h1, h2, _, h4, h5⟩ := hv.appended (by decide) (row_base hrow (Nat.le_of_lt hB)) (Nat.le_trans (Nat.le_of_lt hB) hR) (Nat.le_refl _) (row_base hown' (Nat.le_of_lt hB)) hgrow
  refine ⟨h1, h2, hown'.kept (grownBy_setCell' w1 B v') (.inr (h1.not_row (by decide) hown').symm), h4, h5, fun j hj hne => ?_⟩
  have e1 : (w1.setCell ⟨B, 0, none⟩ v').heap[j]? = w1.heap[j]? := (grownBy_setCell' w1 B v').block j (by have := hgrow.size; simp at this; omega) (by simp; omega)
  rw [e1, hgrow.block j (by simp; omega) (row_over hrow hj)]
  exact Below.heap_alloc _ _ _ (by omega)

set_option maxRecDepth 100000 in
set_option maxHeartbeats 2000000 in
theorem runs_in (p : Option Addr) (n c : Nat) (xs : List Int) (M : Int) (w : World) (hb : BI w p n xs) :
    CallsIn Fence.wide 6 Try.prog 22 #[.slice p n c, .int .i64 M] w fun e w' => ∃ v, e = .returned v ∧ Nums w.heap.size w' v (Bit.lens (Bit.sts xs (Bit.cnt M))) ∧ Below w.heap.size w w' := by
  have hM := Bit.cnt_le M
  have hS := fun W => stretches_in 5 (by omega) p n c M W
  generalize Bit.cnt M = e at *
  obtain ⟨i0, hi, hz0, hz1, hz2⟩ := info_parts info3
  have hf30 : Fence.wide.fn 30 := trivial
  refine callsIn_of_wp_marks Try.func22 rfl trivial ?_ rfl
  simp only [Try.ntmps22, List.size_toArray, List.length_cons, List.length_nil, Nat.reduceAdd, Nat.reduceSub, Array.replicate_succ, Array.replicate_zero, List.push_toArray, List.append_toArray, List.nil_append, List.cons_append]
  gi_wp2_with (first | (gi_at_call 30; refine (hS _).mono ?_; rintro _ w3 ⟨rfl, rfl⟩))
  have bO := Boxed.new w 37 (.slice none 0 0)
  have bR := Boxed.new (w.alloc (.cells #[.slice none 0 0] 37)) 22 (.slice p n c)
  have bE := Boxed.new ((w.alloc (.cells #[.slice none 0 0] 37)).alloc (.cells #[.slice p n c] 22)) 3 (.int .i64 (e : Int))
  have bO := (bO.alloc (.cells #[.slice p n c] 22)).alloc (.cells #[.int .i64 (e : Int)] 3)
  have bR := bR.alloc (.cells #[.int .i64 (e : Int)] 3)
  have hB0 : Below w.heap.size w (((w.alloc (.cells #[.slice none 0 0] 37)).alloc (.cells #[.slice p n c] 22)).alloc (.cells #[.int .i64 (e : Int)] 3)) := (((Below.refl _ w).alloc (Nat.le_refl _) _).alloc (by simp) _).alloc (by simp; omega) _
  rw [World.size_alloc] at bR
  rw [World.size_alloc, World.size_alloc] at bE
  obtain ⟨W0, hW0⟩ : ∃ W0, ((w.alloc (.cells #[.slice none 0 0] 37)).alloc (.cells #[.slice p n c] 22)).alloc (.cells #[.int .i64 (e : Int)] 3) = W0 := ⟨_, rfl⟩
  have hsz : W0.heap.size = w.heap.size + 3 := by rw [← hW0]; simp
  rw [hW0] at bO bR bE hB0 ⊢
  clear hW0 hS
  refine wpIn_rangeFunc_ownG rfl (by omega) (gf := 31) (lb := #[.pointer (some ⟨w.heap.size + 1 + 1, 0, none⟩), .pointer (some ⟨w.heap.size + 1, 0, none⟩)]) rfl trivial (enters_of Try.func31 (by kernel_rfl) rfl)
    (stretches_stops 5 (w.heap.size + 1 + 1) (w.heap.size + 1) w.heap.size e (by omega) hM p n c xs W0 (by omega) bE bR (fun W' h => hb.kept (hB0.trans h))) (fun h k => h.t k) (Kb.b (by omega) (by omega) (by omega)) (Below.refl _ _) (fun _ => rfl)
    (fun pre W => (∃ v, Boxed W w.heap.size 37 v ∧ W.ownsRow (w.heap.size + 3) 3 1 v (Bit.lens pre).length ((Bit.lens pre).map (Value.int .i64)) ∧ True) ∧ Below w.heap.size w W ∧ w.heap.size + 3 ≤ W.heap.size)
    (fun _ _ _ => False)
    (OwnFrom.and (Own.from (holdsRow_own (w.heap.size + 3) w.heap.size 37 3 1 (fun pre => (Bit.lens pre).length) (fun pre => (Bit.lens pre).map (Value.int .i64)) (fun pre v => True)) _) (OwnFrom.and (ownFrom_below (Nat.le_refl _) (by omega)) (fun s A B row hs hg hr => Nat.le_trans hs hg.size)))
    (fun _ _ _ _ _ hs _ _ => hs)
    ⟨⟨_, bO, World.ownsRow_nil _ _ _ _, trivial⟩, hB0, by omega⟩
    (fun x => { tmps := #[.slice p n c, .int .i64 M, undef, undef, .slice none 0 0, .pointer (some ⟨w.heap.size, 0, none⟩), undef, .int .i64 x.2, .slice p n c, .int .i64 M, .func (.func 31) #[] #[.pointer (some ⟨w.heap.size + 1 + 1, 0, none⟩), .pointer (some ⟨w.heap.size + 1, 0, none⟩)], .int .i64 x.1, .int .i64 x.2, undef, undef, undef, undef, undef], defers := [] }) ?assign ?body ?done ?stop
  case assign =>
    intro l x W K hK
    gi_wp2
    exact hK
  case body =>
    rintro l pre x W ⟨⟨v, hv, hrow, _⟩, hB, hge⟩ hlt
    have hc := hv.cell
    have hpl : (Bit.lens pre).length < 65537 := by simp only [Bit.lens, List.length_map]; omega
    gi_wp2_with (gi_at_builtin; refine wpListIn_append_own _ rfl _ _ 37 rfl (w.heap.size + 3) 3 i0 (.int .i64 0) 1 8 Try.underlying37 hi hz0 hz1 hz2 rfl (by decide) _ _ _ rfl (hrow.alloc _) ⟨W.heap.size, 0, none⟩ 1 1 [.int .i64 x.2] rfl rfl (cell_one_new _ _ _) (by simp [Value.oneCell']) (by unfold maxLen; omega) (by omega) (by simp; omega) ?_; intro v' w1 hown' hgrow _; obtain ⟨g', cap', rfl⟩ := ownsRow_succ hown'; obtain ⟨hv1, hv2, hr2, hk2, hb2, hx2⟩ := appended3 hv hrow hge (by omega) hown' hgrow; have hc1 := hv1.cell; have hf1 := hv1.frozen)
    exact ⟨hk2.from _, ⟨hb2, hx2 _ (by omega) (by omega), hx2 _ (by omega) (by omega)⟩, ⟨_, hv2, by simpa [Bit.lens] using hr2, trivial⟩, hB.trans hb2, Nat.le_trans hge hb2.size⟩
  case done =>
    rintro D ys W hD rfl ⟨⟨v, hv, hrow, _⟩, hB, hge⟩ hK
    have hc := hv.cell
    gi_wp2
    refine ⟨by simp, .inl ⟨_, _, rfl, run_takeDeferred hK, ?_⟩⟩
    exact ⟨_, results_tmp rfl _ _ _, v, rfl, row_base (ownsRow_putObj hrow _ hK rfl) (by omega), hB.trans (belowK_b (w := w) (Nat.le_refl _) W D _ _ (by omega) hK rfl rfl)⟩
  case stop =>
    rintro D c pre W _ _ h _
    exact h.elim

theorem runs_ok (p : Option Addr) (n c : Nat) (xs : List Int) (M : Int) (w : World) (hb : BI w p n xs) :
    Calls Try.prog 22 #[.slice p n c, .int .i64 M] w fun e w' => ∃ v, e = .returned v ∧ Nums w.heap.size w' v (Bit.lens (Bit.sts xs (Bit.cnt M))) ∧ Below w.heap.size w w' :=
  callsIn_wide.1 (runs_in p n c xs M w hb)
end Go.Proofs.Ytppipcjchlnolaa
