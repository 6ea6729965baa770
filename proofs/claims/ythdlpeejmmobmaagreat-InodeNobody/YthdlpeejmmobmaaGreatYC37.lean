/- J5 -/
import Derived.Test.YthdlpeejmmobmaaGreatYC36
import Derived.Test.YthdlpeejmmobmaaGreatYC01

namespace Go.Proofs.YthdlpeejmmobmaaGreat
open Go.RowKit Go.Maps
set_option linter.unusedVariables false
set_option maxRecDepth 100000
theorem cell_keq {w w' : World} {b o : Nat} (e : w'.heap[b]? = w.heap[b]?) : w'.cell? ⟨b, o, none⟩ = w.cell? ⟨b, o, none⟩ := by simp [World.cell?, e]
theorem info154 : (Tryz.prog.info? 154).map (·.size) = some 2 := by kernel_rfl
theorem next_two (x : Value) (hx1 : x.oneCell' = true) (qb qo b : Nat) (p : Int) (w : World) (h : w.cell? ⟨qb, qo, none⟩ = some (.int .i64 p)) :
  Calls Tryz.prog 149 #[.agg #[x, .slice (some ⟨qb, qo, none⟩) 2 2], .int .i64 (b : Int)] w fun e w' => e = .returned (.agg #[.iface 346 (.agg #[.int .i64 (b : Int), .int .i64 p]), .slice (some ⟨qb, qo + 1, none⟩) 1 1]) ∧ Below w.heap.size w w' := by
 obtain ⟨W, hW⟩ : ∃ W, (w.alloc (Obj.cells #[x, .slice (some ⟨qb, qo, none⟩) 2 2] 154)).alloc (Obj.cells #[.nilIface, .slice none 0 0] 154) = W := ⟨_, rfl⟩
 have hbW : Below w.heap.size w W := by rw [← hW]; exact ((Below.refl _ _).alloc (Nat.le_refl _) _).alloc (by simp) _
 have hx : W.heap[w.heap.size]? = some (.cells #[x, .slice (some ⟨qb, qo, none⟩) 2 2] 154 (0, 0)) := by rw [← hW]; exact at_old (at_new rfl)
 have hr : W.heap[w.heap.size + 1]? = some (.cells #[.nilIface, .slice none 0 0] 154 (0, 0)) := by rw [← hW]; exact at_new (by simp)
 have c1 := cell_of_row _ _ 1 _ _ _ hx
 have cq : W.cell? ⟨qb, qo, none⟩ = some (.int .i64 p) := Mk.cell_kept h hbW
 have hqb : qb < w.heap.size := Mk.lt_of_cell h
 have hcc : ∀ q, q ≠ w.heap.size + 1 → (W.drew.setRow (w.heap.size + 1) #[.iface 346 (.agg #[.int .i64 (b : Int), .int .i64 p]), .slice (some ⟨qb, qo + 1, none⟩) 1 1]).heap[q]? = W.heap[q]? := fun q hq => setRow_other _ _ _ _ hq
 have hrd : W.drew.heap[w.heap.size + 1]? = some (.cells #[.nilIface, .slice none 0 0] 154 (0, 0)) := hr
 go_enter Tryz.func149, Tryz.ntmps149
 go_wp2_with fail
 refine wp_region_held_drew (S := (fun w' => w'.cell? ⟨w.heap.size, 1, none⟩ = some (.slice (some ⟨qb, qo, none⟩) 2 2) ∧ w'.cell? ⟨qb, qo, none⟩ = some (.int .i64 p))) (by kernel_rfl) ⟨c1, cq⟩ (fun hHeld => ?_)
 refine tk 0 ⟨some 5, .move (.tmp 1), 3, "way.go:91", #[], none⟩ ?_ ?_ hHeld ?_
 rotate_left
 ·(intro w hSw; (try dsimp only at hSw); go_simp; try (with_reducible rfl))
 simp only [Act.put, sA, sZ, sS]
 refine tk 1 ⟨some 6, .fieldAddr 154 (.tmp 2) 1, 0, "way.go:91", #[], none⟩ ?_ ?_ hHeld ?_
 rotate_left
 ·(intro w hSw; (try dsimp only at hSw); go_simp; try (with_reducible rfl))
 simp only [Act.put, sA, sZ, sS]
 refine tk 2 ⟨some 7, .load 49 (.tmp 6), 49, "way.go:91", #[⟨1, .data⟩], none⟩ ?_ ?_ hHeld ?_
 rotate_left
 ·(intro w hSw; (try dsimp only at hSw); go_simp; try (with_reducible rfl))
 simp only [Act.put, sA, sZ, sS]
 refine tk 3 ⟨some 8, .indexAddr 49 (.tmp 7) (.const (.int .i64 0)), 0, "way.go:91", #[⟨2, .data⟩], none⟩ ?_ ?_ hHeld ?_
 rotate_left
 ·(intro w hSw; (try dsimp only at hSw); go_simp; try (with_reducible rfl))
 simp only [Act.put, sA, sZ, sS]
 refine tk 4 ⟨some 9, .load 3 (.tmp 8), 3, "way.go:91", #[⟨3, .data⟩], none⟩ ?_ ?_ hHeld ?_
 rotate_left
 ·(intro w hSw; (try dsimp only at hSw); go_simp; try (with_reducible rfl))
 simp only [Act.put, sA, sZ, sS]
 refine tk 5 ⟨some 10, .build 346 #[(0, .tmp 5), (1, .tmp 9)], 346, "way.go:91", #[⟨0, .data⟩, ⟨4, .data⟩], none⟩ ?_ ?_ hHeld ?_
 rotate_left
 ·(intro w hSw; (try dsimp only at hSw); go_simp; try (with_reducible rfl))
 simp only [Act.put, sA, sZ, sS]
 refine tk 6 ⟨some 11, .makeInterface 346 (.tmp 10), 152, "way.go:91", #[⟨5, .data⟩], none⟩ ?_ ?_ hHeld ?_
 rotate_left
 ·(intro w hSw; (try dsimp only at hSw); go_simp; try (with_reducible rfl))
 simp only [Act.put, sA, sZ, sS]
 refine tk 7 ⟨some 12, .fieldAddr 154 (.tmp 2) 1, 0, "way.go:91", #[], none⟩ ?_ ?_ hHeld ?_
 rotate_left
 ·(intro w hSw; (try dsimp only at hSw); go_simp; try (with_reducible rfl))
 simp only [Act.put, sA, sZ, sS]
 refine tk 8 ⟨some 13, .load 49 (.tmp 12), 49, "way.go:91", #[⟨7, .data⟩], none⟩ ?_ ?_ hHeld ?_
 rotate_left
 ·(intro w hSw; (try dsimp only at hSw); go_simp; try (with_reducible rfl))
 simp only [Act.put, sA, sZ, sS]
 refine tk 9 ⟨some 14, .slice 49 (.tmp 13) (some (.const (.int .i64 1))) none none, 49, "way.go:91", #[⟨8, .data⟩], none⟩ ?_ ?_ hHeld ?_
 rotate_left
 ·(intro w hSw; (try dsimp only at hSw); go_simp; try (with_reducible rfl))
 simp only [Act.put, sA, sZ, sS]
 refine tk 10 ⟨some 15, .build 154 #[(0, .tmp 11), (1, .tmp 14)], 154, "way.go:91", #[⟨6, .data⟩, ⟨9, .data⟩], none⟩ ?_ ?_ hHeld ?_
 rotate_left
 ·(intro w hSw; (try dsimp only at hSw); go_simp; try (with_reducible rfl))
 simp only [Act.put, sA, sZ, sS]
 refine wpAnyH_ready (rs := [11]) (by kernel_rfl) (by simp) ?_
 refine AllReadyH.cons (o := ⟨none, .store 154 (.tmp 4) (.tmp 15), 0, "way.go:91", #[⟨10, .data⟩, ⟨0, .phase⟩, ⟨1, .phase⟩, ⟨2, .phase⟩, ⟨3, .phase⟩, ⟨4, .phase⟩, ⟨5, .phase⟩, ⟨6, .phase⟩, ⟨7, .phase⟩, ⟨8, .phase⟩, ⟨9, .phase⟩, ⟨10, .phase⟩], none⟩) rfl (fun K hK => ?_) AllReadyH.nil
 rw [if_pos (by rfl)]
 refine wp_store_row 154 _ _ rfl (w.heap.size + 1) #[.iface 346 (.agg #[.int .i64 (b : Int), .int .i64 p]), .slice (some ⟨qb, qo + 1, none⟩) 1 1] rfl rfl 154 _ hrd info154 rfl (by simp [Value.oneCell']) ?_
 refine hK.out _ _ ⟨(cell_keq (hcc _ (by omega))).trans c1, (cell_keq (hcc _ (by omega))).trans cq⟩ (fun hHeld => ?_)
 clear hK K
 simp only [Act.put]
 refine wpAnyH_done (by kernel_rfl) ?_ _
 go_wp2_with fail
 refine bodyPost_ret (v := .agg #[.iface 346 (.agg #[.int .i64 (b : Int), .int .i64 p]), .slice (some ⟨qb, qo + 1, none⟩) 1 1]) (results_cell_row Tryz.results149 _ _ (w.heap.size + 1) 154 _ (0, 0) _ rfl (setRow_heap _ _ _ _ 154 _ hrd) Tryz.underlying154 rfl info154) rfl ?_
 exact ⟨rfl, below_setRow (hbW.drew) (Nat.le_succ _) _⟩
theorem next_one (x : Value) (hx1 : x.oneCell' = true) (qb qo b : Nat) (p : Int) (w : World) (h : w.cell? ⟨qb, qo, none⟩ = some (.int .i64 p)) :
  Calls Tryz.prog 149 #[.agg #[x, .slice (some ⟨qb, qo, none⟩) 1 1], .int .i64 (b : Int)] w fun e w' => e = .returned (.agg #[.iface 346 (.agg #[.int .i64 (b : Int), .int .i64 p]), .slice (some ⟨qb, qo, none⟩) 0 0]) ∧ Below w.heap.size w w' := by
 obtain ⟨W, hW⟩ : ∃ W, (w.alloc (Obj.cells #[x, .slice (some ⟨qb, qo, none⟩) 1 1] 154)).alloc (Obj.cells #[.nilIface, .slice none 0 0] 154) = W := ⟨_, rfl⟩
 have hbW : Below w.heap.size w W := by rw [← hW]; exact ((Below.refl _ _).alloc (Nat.le_refl _) _).alloc (by simp) _
 have hx : W.heap[w.heap.size]? = some (.cells #[x, .slice (some ⟨qb, qo, none⟩) 1 1] 154 (0, 0)) := by rw [← hW]; exact at_old (at_new rfl)
 have hr : W.heap[w.heap.size + 1]? = some (.cells #[.nilIface, .slice none 0 0] 154 (0, 0)) := by rw [← hW]; exact at_new (by simp)
 have c1 := cell_of_row _ _ 1 _ _ _ hx
 have cq : W.cell? ⟨qb, qo, none⟩ = some (.int .i64 p) := Mk.cell_kept h hbW
 have hqb : qb < w.heap.size := Mk.lt_of_cell h
 have hcc : ∀ q, q ≠ w.heap.size + 1 → (W.drew.setRow (w.heap.size + 1) #[.iface 346 (.agg #[.int .i64 (b : Int), .int .i64 p]), .slice (some ⟨qb, qo, none⟩) 0 0]).heap[q]? = W.heap[q]? := fun q hq => setRow_other _ _ _ _ hq
 have hrd : W.drew.heap[w.heap.size + 1]? = some (.cells #[.nilIface, .slice none 0 0] 154 (0, 0)) := hr
 go_enter Tryz.func149, Tryz.ntmps149
 go_wp2_with fail
 refine wp_region_held_drew (S := (fun w' => w'.cell? ⟨w.heap.size, 1, none⟩ = some (.slice (some ⟨qb, qo, none⟩) 1 1) ∧ w'.cell? ⟨qb, qo, none⟩ = some (.int .i64 p))) (by kernel_rfl) ⟨c1, cq⟩ (fun hHeld => ?_)
 refine tk 0 ⟨some 5, .move (.tmp 1), 3, "way.go:91", #[], none⟩ ?_ ?_ hHeld ?_
 rotate_left
 ·(intro w hSw; (try dsimp only at hSw); go_simp; try (with_reducible rfl))
 simp only [Act.put, sA, sZ, sS]
 refine tk 1 ⟨some 6, .fieldAddr 154 (.tmp 2) 1, 0, "way.go:91", #[], none⟩ ?_ ?_ hHeld ?_
 rotate_left
 ·(intro w hSw; (try dsimp only at hSw); go_simp; try (with_reducible rfl))
 simp only [Act.put, sA, sZ, sS]
 refine tk 2 ⟨some 7, .load 49 (.tmp 6), 49, "way.go:91", #[⟨1, .data⟩], none⟩ ?_ ?_ hHeld ?_
 rotate_left
 ·(intro w hSw; (try dsimp only at hSw); go_simp; try (with_reducible rfl))
 simp only [Act.put, sA, sZ, sS]
 refine tk 3 ⟨some 8, .indexAddr 49 (.tmp 7) (.const (.int .i64 0)), 0, "way.go:91", #[⟨2, .data⟩], none⟩ ?_ ?_ hHeld ?_
 rotate_left
 ·(intro w hSw; (try dsimp only at hSw); go_simp; try (with_reducible rfl))
 simp only [Act.put, sA, sZ, sS]
 refine tk 4 ⟨some 9, .load 3 (.tmp 8), 3, "way.go:91", #[⟨3, .data⟩], none⟩ ?_ ?_ hHeld ?_
 rotate_left
 ·(intro w hSw; (try dsimp only at hSw); go_simp; try (with_reducible rfl))
 simp only [Act.put, sA, sZ, sS]
 refine tk 5 ⟨some 10, .build 346 #[(0, .tmp 5), (1, .tmp 9)], 346, "way.go:91", #[⟨0, .data⟩, ⟨4, .data⟩], none⟩ ?_ ?_ hHeld ?_
 rotate_left
 ·(intro w hSw; (try dsimp only at hSw); go_simp; try (with_reducible rfl))
 simp only [Act.put, sA, sZ, sS]
 refine tk 6 ⟨some 11, .makeInterface 346 (.tmp 10), 152, "way.go:91", #[⟨5, .data⟩], none⟩ ?_ ?_ hHeld ?_
 rotate_left
 ·(intro w hSw; (try dsimp only at hSw); go_simp; try (with_reducible rfl))
 simp only [Act.put, sA, sZ, sS]
 refine tk 7 ⟨some 12, .fieldAddr 154 (.tmp 2) 1, 0, "way.go:91", #[], none⟩ ?_ ?_ hHeld ?_
 rotate_left
 ·(intro w hSw; (try dsimp only at hSw); go_simp; try (with_reducible rfl))
 simp only [Act.put, sA, sZ, sS]
 refine tk 8 ⟨some 13, .load 49 (.tmp 12), 49, "way.go:91", #[⟨7, .data⟩], none⟩ ?_ ?_ hHeld ?_
 rotate_left
 ·(intro w hSw; (try dsimp only at hSw); go_simp; try (with_reducible rfl))
 simp only [Act.put, sA, sZ, sS]
 refine tk 9 ⟨some 14, .slice 49 (.tmp 13) (some (.const (.int .i64 1))) none none, 49, "way.go:91", #[⟨8, .data⟩], none⟩ ?_ ?_ hHeld ?_
 rotate_left
 ·(intro w hSw; (try dsimp only at hSw); go_simp; try (with_reducible rfl))
 simp only [Act.put, sA, sZ, sS]
 refine tk 10 ⟨some 15, .build 154 #[(0, .tmp 11), (1, .tmp 14)], 154, "way.go:91", #[⟨6, .data⟩, ⟨9, .data⟩], none⟩ ?_ ?_ hHeld ?_
 rotate_left
 ·(intro w hSw; (try dsimp only at hSw); go_simp; try (with_reducible rfl))
 simp only [Act.put, sA, sZ, sS]
 refine wpAnyH_ready (rs := [11]) (by kernel_rfl) (by simp) ?_
 refine AllReadyH.cons (o := ⟨none, .store 154 (.tmp 4) (.tmp 15), 0, "way.go:91", #[⟨10, .data⟩, ⟨0, .phase⟩, ⟨1, .phase⟩, ⟨2, .phase⟩, ⟨3, .phase⟩, ⟨4, .phase⟩, ⟨5, .phase⟩, ⟨6, .phase⟩, ⟨7, .phase⟩, ⟨8, .phase⟩, ⟨9, .phase⟩, ⟨10, .phase⟩], none⟩) rfl (fun K hK => ?_) AllReadyH.nil
 rw [if_pos (by rfl)]
 refine wp_store_row 154 _ _ rfl (w.heap.size + 1) #[.iface 346 (.agg #[.int .i64 (b : Int), .int .i64 p]), .slice (some ⟨qb, qo, none⟩) 0 0] rfl rfl 154 _ hrd info154 rfl (by simp [Value.oneCell']) ?_
 refine hK.out _ _ ⟨(cell_keq (hcc _ (by omega))).trans c1, (cell_keq (hcc _ (by omega))).trans cq⟩ (fun hHeld => ?_)
 clear hK K
 simp only [Act.put]
 refine wpAnyH_done (by kernel_rfl) ?_ _
 go_wp2_with fail
 refine bodyPost_ret (v := .agg #[.iface 346 (.agg #[.int .i64 (b : Int), .int .i64 p]), .slice (some ⟨qb, qo, none⟩) 0 0]) (results_cell_row Tryz.results149 _ _ (w.heap.size + 1) 154 _ (0, 0) _ rfl (setRow_heap _ _ _ _ 154 _ hrd) Tryz.underlying154 rfl info154) rfl ?_
 exact ⟨rfl, below_setRow (hbW.drew) (Nat.le_succ _) _⟩
def wayS (n : Nat) : Nat := if n < 4 then n else if n < 68 then 4 else 5
def wayP (n : Nat) : List Nat := if n < 4 then [] else if n < 68 then [n - 4] else [(n - 68) / 64, (n - 68) % 64]
def Plc (w : World) (q : Option Addr) (ps : List Nat) : Prop := ps.length ≤ 2 ∧ (ps ≠ [] → ∃ b o, q = some ⟨b, o, none⟩ ∧ ∀ i, i < ps.length → w.cell? ⟨b, o + i, none⟩ = some (.int .i64 ((ps.getD i 0 : Nat) : Int)))
theorem Plc.nil (w : World) (q : Option Addr) : Plc w q [] := ⟨by simp, fun h => absurd rfl h⟩
theorem Plc.keptIf {w w' : World} {q : Option Addr} {ps : List Nat} (h : Plc w q ps) (hb : ∀ k, Pt.blkOf q = some k → w'.heap[k]? = w.heap[k]?) : Plc w' q ps :=
 ⟨h.1, fun hp => by
  obtain ⟨b, o, rfl, hc⟩ := h.2 hp
  exact ⟨b, o, rfl, fun i hi => (cell_keq (hb b rfl)).trans (hc i hi)⟩⟩
theorem Plc.kept {w w' : World} {q : Option Addr} {ps : List Nat} (h : Plc w q ps) (hb : Below w.heap.size w w') : Plc w' q ps :=
 ⟨h.1, fun hp => by
  obtain ⟨b, o, rfl, hc⟩ := h.2 hp
  exact ⟨b, o, rfl, fun i hi => Mk.cell_kept (hc i hi) hb⟩⟩
theorem next_ok (x : Value) (hx1 : x.oneCell' = true) (q : Option Addr) (b p : Nat) (ps : List Nat) (w : World) (h : Plc w q (p :: ps)) :
  Calls Tryz.prog 149 #[.agg #[x, .slice q (ps.length + 1) (ps.length + 1)], .int .i64 (b : Int)] w fun e w' => ∃ q', e = .returned (.agg #[.iface 346 (.agg #[.int .i64 (b : Int), .int .i64 (p : Int)]), .slice q' ps.length ps.length]) ∧ Plc w' q' ps ∧ (∀ k, Pt.blkOf q' = some k → Pt.blkOf q = some k) ∧ Below w.heap.size w w' := by
 obtain ⟨qb, qo, rfl, hc⟩ := h.2 (by simp)
 have h0 := hc 0 (by simp)
 have hl := h.1
 match ps, h, hc, h0, hl with
 | [], h, hc, h0, hl =>
  refine (next_one x hx1 qb qo b (p : Int) w h0).mono ?_
  rintro e w' ⟨rfl, hb⟩
  exact ⟨_, rfl, Plc.nil _ _, fun k hk => hk, hb⟩
 | [r], h, hc, h0, hl =>
  refine (next_two x hx1 qb qo b (p : Int) w h0).mono ?_
  rintro e w' ⟨rfl, hb⟩
  refine ⟨_, rfl, ⟨by simp, fun _ => ⟨qb, qo + 1, rfl, fun i hi => ?_⟩⟩, fun k hk => hk, hb⟩
  obtain rfl : i = 0 := by simp at hi; exact hi
  exact Mk.cell_kept (hc 1 (by simp)) hb
 | _ :: _ :: _, h, hc, h0, hl => simp at hl
theorem way_nums {n : Nat} (h4 : 68 ≤ n) : ((n : Int) - 68) / 64 = (((n - 68) / 64 : Nat) : Int) ∧ ((n : Int) - 68) % 64 = (((n - 68) % 64 : Nat) : Int) := by omega
theorem wayTo_ok (x n : Nat) (hn : n < 4164) (w : World) : Calls Tryz.prog 80 #[.pointer (some ⟨x, 0, none⟩), .int .i64 (n : Int)] w fun e w' => ∃ q, e = .returned (.agg #[.iface 239 (.agg #[.pointer (some ⟨x, 3 + wayS n, none⟩)]), .slice q (wayP n).length (wayP n).length]) ∧ Plc w' q (wayP n) ∧ (∀ k, Pt.blkOf q = some k → w.heap.size ≤ k ∧ k < w'.heap.size) ∧ Below w.heap.size w w' := by
 go_enter Tryz.func80, Tryz.ntmps80
 go_wp2_with fail
 ·rename_i h4
  have e1 : wayS n = n := if_pos (by omega)
  have e2 : wayP n = [] := if_pos (by omega)
  have hn0 := at_new (w := w) (o := Obj.cells #[.iface 239 (.agg #[.pointer (some ⟨x, 3 + n, none⟩)]), .slice none 0 0] 154) rfl
  refine bodyPost_ret (v := .agg #[.iface 239 (.agg #[.pointer (some ⟨x, 3 + n, none⟩)]), .slice none 0 0]) (results_cell_row Tryz.results80 _ _ w.heap.size 154 _ (0, 0) _ rfl hn0 Tryz.underlying154 rfl info154) rfl ?_
  rw [e1, e2]
  exact ⟨none, rfl, Plc.nil _ _, (fun k hk => by cases hk), Mk.grew_alloc _ _⟩
 ·rename_i h4 h68
  have e1 : wayS n = 4 := (if_neg (by omega)).trans (if_pos (by omega))
  have e2 : wayP n = [n - 4] := (if_neg (by omega)).trans (if_pos (by omega))
  have en : (n : Int) - 4 = ((n - 4 : Nat) : Int) := by omega
  rw [en]
  obtain ⟨o, ho⟩ : ∃ o, Obj.cells #[.iface 239 (.agg #[.pointer (some ⟨x, 7, none⟩)]), .slice (some ⟨w.heap.size + 1, 0, none⟩) 1 1] 154 = o := ⟨_, rfl⟩
  have hn0 : ((w.alloc o).alloc (Obj.cells #[.int .i64 ((n - 4 : Nat) : Int)] 3)).heap[w.heap.size]? = some o := at_old (at_new rfl)
  have hn1 : ((w.alloc o).alloc (Obj.cells #[.int .i64 ((n - 4 : Nat) : Int)] 3)).heap[w.heap.size + 1]? = some (Obj.cells #[.int .i64 ((n - 4 : Nat) : Int)] 3) := at_new (by simp)
  rw [← ho] at hn0
  refine bodyPost_ret (v := .agg #[.iface 239 (.agg #[.pointer (some ⟨x, 7, none⟩)]), .slice (some ⟨w.heap.size + 1, 0, none⟩) 1 1]) (results_cell_row Tryz.results80 _ _ w.heap.size 154 _ (0, 0) _ rfl (by rw [ho]; rw [← ho]; exact hn0) Tryz.underlying154 rfl info154) rfl ?_
  rw [e1, e2]
  refine ⟨some ⟨w.heap.size + 1, 0, none⟩, rfl, ⟨by simp, fun _ => ⟨_, 0, rfl, fun i hi => ?_⟩⟩, (fun k hk => by have : w.heap.size + 1 = k := Option.some.inj hk; exact ⟨by omega, by simp; omega⟩), ((Below.refl _ _).alloc (Nat.le_refl _) _).alloc (by simp) _⟩
  obtain rfl : i = 0 := by simp at hi; exact hi
  rw [ho]
  exact cell_of_row _ _ 0 _ _ _ hn1
 ·rename_i h4 h68
  have e1 : wayS n = 5 := (if_neg (by omega)).trans (if_neg (by omega))
  have e2 : wayP n = [(n - 68) / 64, (n - 68) % 64] := (if_neg (by omega)).trans (if_neg (by omega))
  obtain ⟨m2, m3⟩ := way_nums (n := n) (by omega)
  rw [m2, m3]
  refine bodyPost_ret (v := .agg #[.iface 239 (.agg #[.pointer (some ⟨x, 8, none⟩)]), .slice (some ⟨w.heap.size + 1, 0, none⟩) 2 2]) (results_cell_row Tryz.results80 _ _ w.heap.size 154 _ (0, 0) _ rfl (at_old (at_new rfl)) Tryz.underlying154 rfl info154) rfl ?_
  rw [e1, e2]
  refine ⟨some ⟨w.heap.size + 1, 0, none⟩, rfl, ⟨by simp, fun _ => ⟨_, 0, rfl, fun i hi => ?_⟩⟩, (fun k hk => by have : w.heap.size + 1 = k := Option.some.inj hk; exact ⟨by omega, by simp; omega⟩), ((Below.refl _ _).alloc (Nat.le_refl _) _).alloc (by simp) _⟩
  have hi : i < 2 := hi
  rcases (by omega : i = 0 ∨ i = 1) with rfl | rfl
  ·exact cell_of_row _ _ 0 _ _ _ (at_new (by simp))
  ·exact cell_of_row _ _ 1 _ _ _ (at_new (by simp))
end Go.Proofs.YthdlpeejmmobmaaGreat
