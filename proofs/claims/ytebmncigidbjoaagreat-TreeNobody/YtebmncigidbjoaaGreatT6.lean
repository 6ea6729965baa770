/- The paths of a new tree. -/
import Derived.Test.YtebmncigidbjoaaGreatT5
import Derived.RangeFuncWrites
import Derived.Sort.OwnSorted
namespace Go.Proofs.YtebmncigidbjoaaGreat
open Go.RowKit Go.Shelf Go.Maps Go.Sort
set_option linter.unusedVariables false
set_option maxRecDepth 100000
attribute [local go_sem] Oper.semAt_some

def SortC : Prop := ∀ (blk off cap : Nat) (ss : List (List UInt8)) (W : World), Holds encStr W blk off ss.toArray → blk < W.heap.size → ss.length < 4611686018427387904 → Calls Tryz.prog 60 #[.slice (some ⟨blk, off, none⟩) ss.length cap] W fun e w' => e = .returned (.tuple #[]) ∧ ∃ k os, w' = grow (putRow encStr (Sort.ahead W k) blk off (srt ss).toArray) os
theorem holds_one {W : World} {g : Nat} {x : List UInt8} (h : W.heap[g]? = some (.cells #[.string ⟨x.toArray⟩] 9 (0, 0))) : Holds encStr W g 0 #[x] := holds_of_block h (by simp)

/-- What stands while a new tree's paths are gone through. -/
structure PN (w W : World) : Prop where
  bel : Below w.heap.size w W
  row : W.heap[w.heap.size]? = some (.cells #[.string { data := #[] }, .int .i64 1] 74 (0, 0))
  box : W.heap[w.heap.size + 1]? = some (.cells #[.slice (some ⟨w.heap.size, 0, none⟩) 1 1] 75 (0, 0))
theorem PN.c3 {w W : World} (h : PN w W) : W.cell? ⟨w.heap.size + 1, 0, none⟩ = some (.slice (some ⟨w.heap.size, 0, none⟩) 1 1) := by rw [cell_of_row _ _ 0 _ 75 _ h.box]; rfl
theorem PN.k1 {w W : World} (h : PN w W) : W.cell? ⟨w.heap.size, 1, none⟩ = some (.int .i64 1) := by rw [cell_of_row _ _ 1 _ 74 _ h.row]; rfl
theorem zero57 (w : World) : (zeroValue 57).run Tryz.prog w = .ok (.pointer none) w := by kernel_rfl
theorem lt_of_cell0 {w : World} {p : Addr} {v : Value} (h : w.cell? p = some v) : p.block < w.heap.size := by
  by_cases hb : p.block < w.heap.size
  · exact hb
  · have : w.heap[p.block]? = none := Array.getElem?_eq_none (by omega)
    simp [World.cell?, this] at h

/-- A region in which nothing panics. -/
theorem calm {F : Fence} {n : Nat} {P : Program} {c : Code} {K : Act → World → Prop} {Q : Exit → Act → World → Prop} {a : Act} {w : World} (h : c.wpIn F n P (Exit.then K (fun _ _ _ => False)) a w) : c.wpIn F n P (Exit.then K Q) a w :=
  wpIn_mono h (by intro e a w; cases e <;> intro h <;> first | exact h | exact h.elim)

/-- .. and which comes to one end, in whatever order. -/
theorem calmTo {F : Fence} {n : Nat} {P : Program} {c : Code} {K : Act → World → Prop} {Q : Exit → Act → World → Prop} {a : Act} {w : World} (a1 : Act) (w1 : World) (h : c.wpIn F n P (Exit.then (fun a' w' => a' = a1 ∧ w' = w1) (fun _ _ _ => False)) a w) (hk : K a1 w1) : c.wpIn F n P (Exit.then K Q) a w :=
  calm (wpIn_mono h (by
    intro e a w
    cases e <;> intro h
    case normal => obtain ⟨rfl, rfl⟩ := h; exact hk
    all_goals exact h.elim))

open Classical in
/-- A loop that ends in its second round. -/
theorem twoRounds {F : Fence} {n : Nat} {P : Program} {c : Code} {Q : Exit → Act → World → Prop} {a : Act} {w : World} (h : c.wpIn F n P (Exit.then (fun a' w' => c.wpIn F n P (Exit.then (fun _ _ => False) Q) a' w') Q) a w) : (Code.loop c).wpIn F n P Q a w := by
  refine wpIn_loop (fun a' w' => (a' = a ∧ w' = w) ∨ c.wpIn F n P (Exit.then (fun _ _ => False) Q) a' w') (fun a' w' => if c.wpIn F n P (Exit.then (fun _ _ => False) Q) a' w' then 0 else 1) (.inl ⟨rfl, rfl⟩) ?_
  intro a' w' hI
  by_cases hJ : c.wpIn F n P (Exit.then (fun _ _ => False) Q) a' w'
  · refine wpIn_mono hJ ?_
    intro e a2 w2
    cases e <;> intro h2 <;> first | exact h2 | exact h2.elim
  · rcases hI with ⟨rfl, rfl⟩ | hI
    · refine wpIn_mono h ?_
      intro e a2 w2
      cases e <;> intro h2 <;> first | exact h2 | skip
      refine ⟨.inr h2, ?_⟩
      simp only [if_neg hJ, if_pos (show c.wpIn F n P (Exit.then (fun _ _ => False) Q) a2 w2 from h2)]
      omega
    · exact absurd hI hJ

set_option maxHeartbeats 4000000 in
theorem paths_new (hK : KeysC) (hS : SortedC) (hT : SortC) {w0 w : World} {a mb n nm : Nat} (h : NewT w0 w a mb n nm) : CallsIn Fence.wide 9 Tryz.prog 16 #[.pointer (some ⟨a, 0, none⟩)] w fun e w' => ∃ p c, e = .returned (.slice p 1 c) ∧ Below w.heap.size w w' := by
  have mixed : Tryz.prog.follows .mixedOrders = true := by kernel_rfl
  have hf30 : Fence.wide.fn 30 := trivial
  have hf59 : Fence.wide.fn 59 := trivial
  have hf60 : Fence.wide.fn 60 := trivial
  have c0 : w.cell? ⟨a, 0, none⟩ = some (.map (some mb)) := by rw [cell_of_row _ _ 0 _ 54 _ h.row]; rfl
  have hm := made_some a mb c0
  refine callsIn_of_wp_marks Tryz.func16 rfl trivial ?_ rfl
  simp only [Tryz.ntmps16, List.size_toArray, List.length_cons, List.length_nil, Nat.reduceAdd, Nat.reduceSub, Array.replicate_succ, Array.replicate_zero, List.push_toArray, List.append_toArray, List.nil_append, List.cons_append]
  gi_wp2_with (first | (gi_at_call 30; refine (callsIn_wide.2 hm).mono ?_; rintro e w' ⟨rfl, hw'⟩; subst w'))
  obtain ⟨WA, hWA⟩ : ∃ WA, (((w.alloc (Obj.cells #[.string { data := #[] }, .int .i64 1] 74)).alloc (Obj.cells #[.slice (some ⟨w.heap.size, 0, none⟩) 1 1] 75)).alloc (Obj.cells #[.int .i64 0] 3)) = WA := ⟨_, rfl⟩
  have hP : PN w WA := by
    rw [← hWA]
    refine ⟨((((Below.refl _ w).alloc (Nat.le_refl _) _).alloc (by simp) _).alloc (by simp; omega) _), at_old (at_old (at_new rfl)), at_old (at_new (by simp))⟩
  have hB0 : Boxed WA (w.heap.size + 1 + 1) 3 (.int .i64 0) := by rw [← hWA]; exact at_new (by simp)
  rw [hWA]
  clear hWA
  refine twoRounds ?_
  have hcB := hB0.cell
  have hc3 := hP.c3
  have hck := hP.k1
  have hct : WA.cell? ⟨a, 0, none⟩ = some (.map (some mb)) := (hP.bel.cell (p := ⟨a, 0, none⟩) (lt_of_cell0 c0)).trans c0
  have hlk := (h.nodes.kept (w' := WA.drew) (hP.bel.block _ h.nodes.lt)).get (t := 51) (e := 57) Tryz.underlying51 (z := .pointer none) (zd := .agg []) (zero57 WA.drew) rfl 1 (by unfold kI I64; simp)
  rw [fput_same] at hlk
  simp only [kI, Option.getD_some] at hlk
  have hcn : WA.cell? ⟨n, 2, none⟩ = some (.map (some nm)) := by
    rw [hP.bel.cell (p := ⟨n, 2, none⟩) (Array.getElem?_eq_some_iff.1 h.root).1, cell_of_row _ _ 2 _ 84 _ h.root]; rfl
  gi_wp2
  apply calmTo
  · gi_region_with (gi_at_call 59; refine (inOrder_in 8 (some nm) _).mono ?_; rintro e w5 ⟨rfl, rfl⟩)
    all_goals exact ⟨rfl, rfl⟩
  obtain ⟨WB, hWB⟩ : ∃ WB, (WA.alloc (Obj.cells #[.map (some nm)] 79)).drew = WB := ⟨_, rfl⟩
  have hbB : Below WA.heap.size WA WB := by rw [← hWB]; exact ((Below.refl _ _).alloc (Nat.le_refl _) _).drew
  have hBB : Boxed WB WA.heap.size 79 (.map (some nm)) := by rw [← hWB]; exact at_new rfl
  rw [hWB]
  gi_wp2
  have hsB : WA.heap.size < WB.heap.size := by have := hBB.lt; exact this
  have hnm : Mf kS WB nm 0 (fun _ => none) := (h.names.kept (hP.bel.block _ h.names.lt)).kept (hbB.block _ (Nat.lt_of_lt_of_le h.names.lt hP.bel.size))
  have hseq := order_stops hK hS 8 WA.heap.size nm 0 (by omega) (fun _ => none) (fun k o => k < WB.heap.size ∨ o.isCells = true) (fun _ _ _ => .inr rfl) (fun _ => .inl hsB) (fun _ => .inl hnm.lt) (by omega) (fun k v e => by cases e) WB hBB hnm
  refine wpIn_rangeFunc_ownH rfl (by omega) (gf := 109) (lb := #[.pointer (some ⟨WA.heap.size, 0, none⟩)]) rfl trivial (enters_of Tryz.func109 (by kernel_rfl) rfl) hseq (fun a b => a.t b)
    (fun W l o o' hl hW h1 h2 k o2 hy hk => ?_) (Below.refl _ _) (fun _ => rfl) (fun _ W => Below WB.heap.size WB W) (fun _ _ _ => False) (ownFrom_below (Nat.le_refl _) (Nat.le_refl _)) (fun _ _ _ _ _ hs _ _ => hs) (Below.refl _ _)
    (fun _ _ _ => True) (fun _ _ _ _ _ _ _ _ _ => trivial) ?assign ?body ?done ?stop
  · by_cases e : k = l
    · subst e
      rw [hW] at hk
      cases hk
      rcases hy with hy | hy
      · omega
      · rw [h1] at hy; cases hy
    · rw [World.putObj_heap_other e]; exact hk
  case assign =>
    intro l pre x W K hI hK
    gi_wp2
    exact hK _ _ (KeepsFrom.refl _ _) (Ky2.refl _ _) hI trivial
  case body => intro l pre x a' W _ _ _ _ hlt; exact absurd hlt (Nat.not_lt_zero _)
  case stop => intro D c pre W _ _ hx _; exact hx.elim
  case done =>
    intro D xs W hD hxs hB2 hDb
    have hbT : Below WA.heap.size WA W := hbB.trans (hB2.mono (by omega))
    have hsA : w.heap.size + 1 + 1 < WA.heap.size := hB0.lt
    have hP2 : PN w W := ⟨hP.bel.trans (hbT.mono hP.bel.size), (hbT.block _ (by omega)).trans hP.row, (hbT.block _ (by omega)).trans hP.box⟩
    have d4 : W.cell? ⟨w.heap.size + 1 + 1, 0, none⟩ = some (.int .i64 0) := (hbT.cell (p := ⟨w.heap.size + 1 + 1, 0, none⟩) hB0.lt).trans hB0.cell
    have d3 := hP2.c3
    have dr := hP2.row
    have hsW : w.heap.size + 1 < W.heap.size := by have := hbT.size; omega
    have hDW : D < W.heap.size := (Array.getElem?_eq_some_iff.1 hDb).1
    have HB : Hid (Below w.heap.size w W) := hP2.bel
    have HD : Hid (WB.heap.size ≤ D ∧ w.heap.size ≤ D) := ⟨hD, by have := hP.bel.size; omega⟩
    clear hP2 hbT hseq hnm hBB hbB hcn hlk hct hck hc3 hcB hP hB0 hB2 hD hWB
    obtain ⟨W5, hW5⟩ : ∃ W5, (W.alloc (Obj.cells #[.int .i64 1] 3)).alloc (Obj.cells #[.string { data := #[47] }] 9) = W5 := ⟨_, rfl⟩
    have hb5 : Below W.heap.size W W5 := by rw [← hW5]; exact ((Below.refl _ _).alloc (Nat.le_refl _) _).alloc (by simp) _
    have d5 : W5.cell? ⟨w.heap.size + 1, 0, none⟩ = some (.slice (some ⟨w.heap.size, 0, none⟩) 1 1) := (hb5.cell (p := ⟨w.heap.size + 1, 0, none⟩) hsW).trans d3
    have hr5 : W5.heap[W.heap.size + 1]? = some (.cells #[.string { data := #[47] }] 9 (0, 0)) := by rw [← hW5]; exact at_new (by simp)
    have hD5 : W5.heap[D]? = some (.deferred (some [])) := (hb5.block _ hDW).trans hDb
    have hso : Calls Tryz.prog 60 #[.slice (some ⟨W.heap.size + 1, 0, none⟩) 1 1] W5 fun e w' => e = .returned (.tuple #[]) ∧ Hid (W5.grownBy w' (some (W.heap.size + 1))) := by
      have := hT (W.heap.size + 1) 0 1 [[47]] W5 (by rw [show ([[47]] : List (List UInt8)).toArray = #[[47]] from rfl]; exact holds_one hr5) (Array.getElem?_eq_some_iff.1 hr5).1 (by decide)
      refine Calls.mono this ?_
      rintro e w' ⟨rfl, k, os, rfl⟩
      exact ⟨rfl, grownBy_sorted _⟩
    have hz5 : W.heap.size ≤ W5.heap.size := hb5.size
    gi_wp2
    gi_loopw [7, 55] (fun v i wr => v = .slice (some ⟨W.heap.size + 1, 0, none⟩) 1 1 ∧ i = .int .i64 0 ∧ wr = W5) (fun _ _ _ => 0)
    case atStart => exact ⟨rfl, rfl, rfl⟩
    case round =>
      obtain ⟨rfl, rfl, hwr⟩ := hrel
      subst hwr
      gi_wp2_with (first | (gi_at_call 60; refine (callsIn_wide.2 hso).mono ?_; rintro e w' ⟨rfl, hw'⟩))
      have hg := hw'.out
      have hDw : w'.heap[D]? = some (.deferred (some [])) := (hg.block D (Array.getElem?_eq_some_iff.1 hD5).1 (by intro e; have := Option.some.inj e; omega)).trans hD5
      refine ⟨by simp, .inl ⟨_, _, rfl, run_takeDeferred hDw, ?_⟩⟩
      have hbw : Below w.heap.size w w' := (HB.out.trans (hb5.mono (by omega))).grown hg (by omega) (fun k e => by have := Option.some.inj e; omega)
      exact ⟨_, results_tmp rfl _ _ _, _, _, rfl, hbw.trans (belowK_b (w := w) (Nat.le_refl _) w' D _ _ HD.out.2 hDw rfl rfl)⟩
end Go.Proofs.YtebmncigidbjoaaGreat
