/- adjust.Do of a request of another snapshot. -/
import Derived.Test.YtijbbkkapimljaaGreatGI
import Derived.Deep.DeepCutAuto
namespace Go.Proofs.YtijbbkkapimljaaGreat
open Go.RowKit Go.Maps Go.MuLone
set_option linter.unusedVariables false
set_option maxRecDepth 100000

/-- Block v is a volume that has k blocks. -/
def VHas (w : World) (v : Nat) (k : Int) : Prop := ∃ d, w.cell? ⟨v, 2, none⟩ = some (.pointer (some ⟨d, 0, none⟩)) ∧ w.cell? ⟨d, 0, none⟩ = some (.int .i64 k)
theorem VHas.kept {w w' : World} {v : Nat} {k : Int} (h : VHas w v k) (hb : Below w.heap.size w w') : VHas w' v k := by
  obtain ⟨d, h1, h2⟩ := h
  exact ⟨d, (hb.cell (p := ⟨v, 2, none⟩) (lt_of_cell h1)).trans h1, (hb.cell (p := ⟨d, 0, none⟩) (lt_of_cell h2)).trans h2⟩
theorem VHas.blocks {w : World} {v : Nat} {k : Int} (h : VHas w v k) : Calls Tryz.prog 17 #[.pointer (some ⟨v, 0, none⟩)] w fun e w' => e = .returned (.int .i64 k) ∧ w' = w := by
  obtain ⟨d, h1, h2⟩ := h
  exact vblocks_ok h1 h2

/-- A plea's cells. -/
abbrev plA (v : Nat) (G B I a b c d gen : Int) : Array Value := #[.pointer (some ⟨v, 0, none⟩), .int .i64 G, .int .i64 B, .int .i64 I, .slice none 0 0, .int .i64 a, .int .i64 b, .int .i64 c, .int .i64 d, .int .i64 gen, .slice none 0 0, .slice none 0 0]
/-- Block P is such a plea. -/
structure Pl (w : World) (P v : Nat) (G B I d gen : Int) : Prop where
  c0 : w.cell? ⟨P, 0, none⟩ = some (.pointer (some ⟨v, 0, none⟩))
  c1 : w.cell? ⟨P, 1, none⟩ = some (.int .i64 G)
  c2 : w.cell? ⟨P, 2, none⟩ = some (.int .i64 B)
  c3 : w.cell? ⟨P, 3, none⟩ = some (.int .i64 I)
  c8 : w.cell? ⟨P, 8, none⟩ = some (.int .i64 d)
  c9 : w.cell? ⟨P, 9, none⟩ = some (.int .i64 gen)
theorem pl_of {w : World} {P v : Nat} {G B I a b c d gen : Int} (h : w.heap[P]? = some (.cells (plA v G B I a b c d gen) 69 (0, 0))) : Pl w P v G B I d gen :=
  ⟨cell_of_row _ _ 0 _ _ _ h, cell_of_row _ _ 1 _ _ _ h, cell_of_row _ _ 2 _ _ _ h, cell_of_row _ _ 3 _ _ _ h, cell_of_row _ _ 8 _ _ _ h, cell_of_row _ _ 9 _ _ _ h⟩
theorem Pl.kept {w w' : World} {P v : Nat} {G B I d gen : Int} (h : Pl w P v G B I d gen) (hb : Below w.heap.size w w') : Pl w' P v G B I d gen :=
  have k : ∀ {j : Nat} {u : Value}, w.cell? ⟨P, j, none⟩ = some u → w'.cell? ⟨P, j, none⟩ = some u := fun {j u} hh => (hb.cell (p := ⟨P, j, none⟩) (lt_of_cell hh)).trans hh
  ⟨k h.c0, k h.c1, k h.c2, k h.c3, k h.c8, k h.c9⟩

set_option maxHeartbeats 1000000 in
theorem amade_ok {w : World} {v : Nat} {k : Int} (h : VHas w v k) (hk : 0 < k) : Calls Tryz.prog 16 #[.pointer (some ⟨v, 0, none⟩)] w fun e w' => e = .returned (.bool true) ∧ w' = w := by
  have hb := h.blocks
  go_enter Tryz.func16, Tryz.ntmps16
  go_wp2_with (first | (go_at_call 17; refine same_at hb ?_))
  go_ret
  exact ⟨by simp, rfl⟩

set_option maxHeartbeats 1000000 in
theorem index_no {w : World} {b : Nat} (h : w.cell? ⟨b, 0, none⟩ = some (.bool false)) : Calls Tryz.prog 180 #[.slice (some ⟨b, 0, none⟩) 1 1, .bool true] w fun e w' => e = .returned (.int .i64 (-1)) ∧ w' = w := by
  go_enter Tryz.func180, Tryz.ntmps180
  go_wp2_with fail
  go_loopw [8] (fun i wr => w = wr ∧ (i = .int .i64 0 ∨ i = .int .i64 1)) (fun (i : Value) _ => 1 - (Go.RowKit.intOf i).toNat)
  case atStart => exact ⟨rfl, .inl rfl⟩
  case round =>
    obtain ⟨rfl, rfl | rfl⟩ := hrel
    · go_wp2
      go_roundw
      case rel => exact ⟨trivial, .inr rfl⟩
      case measure => simp [Go.RowKit.intOf]
    · go_wp2
      go_ret
      exact ⟨rfl, rfl⟩

set_option maxHeartbeats 1000000 in
theorem contains_no {w : World} {b : Nat} (h : w.cell? ⟨b, 0, none⟩ = some (.bool false)) : Calls Tryz.prog 126 #[.slice (some ⟨b, 0, none⟩) 1 1, .bool true] w fun e w' => e = .returned (.bool false) ∧ w' = w := by
  have hi := index_no h
  go_enter Tryz.func126, Tryz.ntmps126
  go_wp2_with (first | (go_at_call 180; refine same_at hi ?_))
  go_ret
  exact ⟨rfl, rfl⟩

set_option maxHeartbeats 1000000 in
theorem unless_no {w : World} {b : Nat} (k : Int) (h : w.cell? ⟨b, 0, none⟩ = some (.bool false)) : Calls Tryz.prog 74 #[.int .i64 k, .slice (some ⟨b, 0, none⟩) 1 1] w fun e w' => e = .returned (.int .i64 k) ∧ w' = w := by
  have hi := contains_no h
  go_enter Tryz.func74, Tryz.ntmps74
  go_wp2_with (first | (go_at_call 126; refine same_at hi ?_))
  go_ret
  exact ⟨rfl, rfl⟩

set_option maxHeartbeats 2000000 in
theorem tryGen_no {w : World} {P v : Nat} {G B I d gen : Int} (h : Pl w P v G B I d gen) (hne : ¬ d = gen) : Calls Tryz.prog 35 #[.pointer (some ⟨P, 0, none⟩)] w fun e w' => e = .returned (.int .i64 200) ∧ Below w.heap.size w w' := by
  have hd : Below w.heap.size w w.drew := (Below.refl _ _).drew
  have h2 := h.kept hd
  have q8 := h2.c8
  have q9 := h2.c9
  have hbq : (d == gen) = false := by rw [beq_eq_false_iff_ne]; exact hne
  obtain ⟨W3, hW3⟩ : ∃ W3, w.drew.alloc (.cells #[.bool false] 4) = W3 := ⟨_, rfl⟩
  have hc : W3.cell? ⟨w.heap.size, 0, none⟩ = some (.bool false) := by rw [← hW3]; exact cell_of_row _ _ 0 _ _ _ (at_new rfl)
  have hu := unless_no 200 hc
  have HB : Hid (Below w.heap.size w W3) := by rw [← hW3]; exact hd.alloc hd.size _
  clear h h2 hd
  go_enter Tryz.func35, Tryz.ntmps35
  go_wp2_with fail
  go_region_with (first | (go_at_call 74; refine same_at hu ?_))
  all_goals go_wp2_with fail
  all_goals go_ret
  all_goals exact ⟨rfl, HB.out⟩

set_option maxHeartbeats 2000000 in
theorem tryVolume_ok {w : World} {P v : Nat} {k G B I N d gen : Int} (h : Pl w P v G B I d gen) (hv : VHas w v k) (hk : 0 < k) (hm : Mk.Gm.May G B I) (hN : G * B = N) (hlt : ¬ k < N) : Calls Tryz.prog 34 #[.pointer (some ⟨P, 0, none⟩)] w fun e w' => e = .returned (.int .i64 0) ∧ Below w.heap.size w w' := by
  have p0 := h.c0
  have c1 := amade_ok hv hk
  have hd : Below w.heap.size w w.drew := (Below.refl _ _).drew
  have hv2 := hv.kept hd
  have g2 := h.kept hd
  have q0 := g2.c0
  have q1 := g2.c1
  have q2 := g2.c2
  have q3 := g2.c3
  have hca := Mk.can_ok G B I w.drew
  rw [Mk.Gm.can, if_pos hm] at hca
  have HB : Hid (Below w.heap.size w w.drew) := hd
  have HN : Hid (G * B = N) := hN
  have HM : Hid (Mk.Gm.May G B I) := hm
  clear hm hN hd
  go_enter Tryz.func34, Tryz.ntmps34
  go_wp2_with (first | (go_at_call 16; refine same_at c1 ?_))
  go_region_with (first
    | (go_at_call 72; refine Mk.grew_at hca ?_; intro w2 hb2; have hv3 := hv2.kept hb2; have g3 := g2.kept hb2; have r0 := g3.c0; have r1 := g3.c1; have r2 := g3.c2; have r3 := g3.c3; have hb3 := Mk.blocks_ok G B I w2; rw [Mk.Gm.num, if_pos HM.out, HN.out] at hb3; have cb := hv3.blocks)
    | (go_at_call 17; first | refine same_at cb ?_ | refine same_at cb' ?_)
    | (go_at_call 73; refine Mk.grew_at hb3 ?_; intro w4 hb4; have cb' := (hv3.kept hb4).blocks; have g4 := g3.kept hb4; have s0 := g4.c0; have s1 := g4.c1; have s2 := g4.c2; have s3 := g4.c3))
  all_goals go_wp2_with fail
  all_goals go_ret
  all_goals exact ⟨rfl, Mk.grew_trans (Mk.grew_trans HB.out hb2) hb4⟩
end Go.Proofs.YtijbbkkapimljaaGreat
