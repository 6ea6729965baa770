/- Of all that a patch needs: one patch beneath it. -/
import Derived.Test.YteapkfnklbhdfaaEach
import Derived.Test.YteapkfnklbhdfaaUpp
namespace Go.Proofs.Yteapkfnklbhdfaa
open Go.RowKit Go.Maps
set_option linter.unusedVariables false

/-- One of the set's, its bytes copied elsewhere perhaps. -/
def Tw (P : List Pv) (p : Pv) : Prop := ∃ bp bc, { p with bp := bp, bc := bc } ∈ P

/-- What allNeeds's closure stands in. -/
structure AN (B T : Nat) (w0 w : World) (a mp mb last : Nat) (P : List Pv) (K : Int → Option Value) (p : Pv) (gp gi : Nat) (iv : Value) (I : List Int) : Prop where
  ps : PS B w0 a mp mb last P K
  bel : Below T w0 w
  sz : w0.heap.size = T
  rp : w.heap[gp]? = some (.cells p.cells 44 (0, 0))
  ri : w.heap[gi]? = some (.cells #[iv] 30 (0, 0))
  ids : Nums T w iv I
  lo : T ≤ gp ∧ T ≤ gi

section
variable {B T : Nat} {w0 w w' : World} {a mp mb last : Nat} {P : List Pv} {K : Int → Option Value} {p : Pv} {gp gi : Nat} {iv : Value} {I : List Int}
theorem AN.hT (h : AN B T w0 w a mp mb last P K p gp gi iv I) : T ≤ w.heap.size := by have := h.bel.size; rw [h.sz] at this; exact this
theorem AN.kept (h : AN B T w0 w a mp mb last P K p gp gi iv I) (hb : Below w.heap.size w w') : AN B T w0 w' a mp mb last P K p gp gi iv I := by
  have lt : ∀ {g : Nat} {o : Obj}, w.heap[g]? = some o → g < w.heap.size := fun e => (Array.getElem?_eq_some_iff.1 e).1
  exact ⟨h.ps, h.bel.trans (hb.mono h.hT), h.sz, by rw [hb.block _ (lt h.rp)]; exact h.rp, by rw [hb.block _ (lt h.ri)]; exact h.ri, h.ids.kept hb, h.lo⟩
theorem AN.store {o : Obj} {w5 : World} {v' : Value} {I' : List Int} (h : AN B T w0 w a mp mb last P K p gp gi iv I)
    (hg : (w.alloc o).grownBy w5 iv.ownBlock) (hn : Nums T w5 v' I') : AN B T w0 (w5.setCell ⟨gi, 0, none⟩ v') a mp mb last P K p gp gi v' I' := by
  have hT := h.hT
  have r2 := grown_at h.ids hg h.rp (fun cs e => by simp at e)
  have r4 := grown_at h.ids hg h.ri (fun cs e => by simp at e)
  have hb5 : Below T w0 w5 := (h.bel.alloc hT o).grown hg (by simp; omega) (fun k hk => (World.ownsRow.lt h.ids k hk).1)
  have other : ∀ k, k ≠ gi → (w5.setCell ⟨gi, 0, none⟩ v').heap[k]? = w5.heap[k]? := fun k hk => Below.heap_setCell w5 ⟨gi, 0, none⟩ v' k hk
  refine ⟨h.ps, hb5.setCell (p := ⟨gi, 0, none⟩) h.lo.2 v', h.sz, ?_, one_setCell r4, ?_, h.lo⟩
  · rw [other gp (own_ne r2 r4 (by decide))]; exact r2
  · refine hn.keptAt (fun g hg => ?_)
    obtain ⟨ds, h3⟩ := nums_row hn hg
    exact other g (own_ne h3 r4 (by decide))
end

/-- Lies a patch under another one. -/
def und (p q : Pv) : Bool := decide (q.id < p.id) && (decide (p.off < endP q) && decide (q.off < endP p))
def anI (p q : Pv) (I : List Int) : List Int := if und p q then I ++ [(q.id : Int)] else I

/-- The closure's memory, and the other patch. -/
structure AQ (B T : Nat) (w0 w : World) (a mp mb last : Nat) (P : List Pv) (K : Int → Option Value) (p q : Pv) (gp gi gq : Nat) (iv : Value) (I : List Int) : Prop where
  an : AN B T w0 w a mp mb last P K p gp gi iv I
  rq : w.heap[gq]? = some (.cells q.cells 44 (0, 0))
theorem AQ.kept {B T : Nat} {w0 w w' : World} {a mp mb last : Nat} {P : List Pv} {K : Int → Option Value} {p q : Pv} {gp gi gq : Nat} {iv : Value} {I : List Int} (h : AQ B T w0 w a mp mb last P K p q gp gi gq iv I) (hb : Below w.heap.size w w') : AQ B T w0 w' a mp mb last P K p q gp gi gq iv I :=
  ⟨h.an.kept hb, by rw [hb.block _ (Array.getElem?_eq_some_iff.1 h.rq).1]; exact h.rq⟩
theorem AQ.rds {B T : Nat} {w0 w : World} {a mp mb last : Nat} {P : List Pv} {K : Int → Option Value} {p q : Pv} {gp gi gq : Nat} {iv : Value} {I : List Int} (h : AQ B T w0 w a mp mb last P K p q gp gi gq iv I) : T10 w gp gq p q := by
  obtain ⟨a0, a1, a2, a3, a4⟩ := cells5 h.an.rp
  exact ⟨a0, a1, a2, a3, a4, cells5 h.rq⟩

set_option maxRecDepth 100000 in
set_option maxHeartbeats 4000000 in
theorem an1_no1 {B T : Nat} {w0 w : World} {a mp mb last : Nat} {P : List Pv} {K : Int → Option Value} {p : Pv} {gp gi : Nat} {iv : Value} {I : List Int} (h : AN B T w0 w a mp mb last P K p gp gi iv I) (hp : Tw P p) (q : Pv) (hq : q ∈ P) (h1 : ¬ q.id < p.id) :
    Calls Try.prog 77 #[q.v, .pointer (some ⟨gp, 0, none⟩), .pointer (some ⟨gi, 0, none⟩)] w
      fun e w' => e = .returned (.tuple #[]) ∧ ∃ iv', AN B T w0 w' a mp mb last P K p gp gi iv' (anI p q I) := by
  obtain ⟨W, hW⟩ : ∃ W, w.alloc (.cells q.cells 44) = W := ⟨_, rfl⟩
  have hbW : Below w.heap.size w W := by rw [← hW]; exact (Below.refl _ w).alloc (Nat.le_refl _) _
  have hX : AQ B T w0 W a mp mb last P K p q gp gi w.heap.size iv I := ⟨h.kept hbW, by rw [← hW]; exact at_new rfl⟩
  replace hX := hX.kept ((Below.refl _ _).drew)
  have hv : q.v = .agg q.cells := rfl
  have hpi : 1 ≤ p.id ∧ p.id ≤ last ∧ p.blk ≤ 9223372036854775807 ∧ 1 ≤ p.bs.length ∧ p.off + p.bs.length ≤ 128 := by obtain ⟨_, _, hp⟩ := hp; have := h.ps.ids _ hp; exact this
  have hqi := h.ps.ids q hq
  have hsm := h.ps.sml
  have hen1 : ∀ w, Calls Try.prog 78 #[.agg #[.int .i64 (p.id : Int), .int .i64 (p.blk : Int), .int .i64 (p.off : Int), .slice p.bp p.bs.length p.bc, .slice p.np p.nd.length p.nc]] w fun e w' => e = .returned (.int .i64 (endP p : Int)) ∧ Below w.heap.size w w' := fun w => end_ok p w (by omega)
  have hen2 : ∀ w, Calls Try.prog 78 #[.agg #[.int .i64 (q.id : Int), .int .i64 (q.blk : Int), .int .i64 (q.off : Int), .slice q.bp q.bs.length q.bc, .slice q.np q.nd.length q.nc]] w fun e w' => e = .returned (.int .i64 (endP q : Int)) ∧ Below w.heap.size w w' := fun w => end_ok q w (by omega)
  have hep : endP p ≤ 128 := by unfold endP; omega
  have heq : endP q ≤ 128 := by unfold endP; omega
  clear hbW
  go_enter Try.func77, Try.ntmps77
  go_wp2_with fail
  generalize w.heap.size = gq at *
  clear hW
  obtain ⟨r0, r1, r2, r3, r4, r5, r6, r7, r8, r9⟩ := hX.rds
  have h1' : ¬ (q.id : Int) < (p.id : Int) := by omega
  have HA : Hid (anI p q I = I) := by show _ = _; unfold anI und; simp [h1]
  refine wp_region_noPanic ?_
  refine wp_region_held_drew (S := (fun w' => w'.cell? ⟨gp, 0, none⟩ = some (.int .i64 (p.id : Int)) ∧ w'.cell? ⟨gp, 1, none⟩ = some (.int .i64 (p.blk : Int)) ∧ w'.cell? ⟨gp, 2, none⟩ = some (.int .i64 (p.off : Int)) ∧ w'.cell? ⟨gp, 3, none⟩ = some (.slice p.bp p.bs.length p.bc) ∧ w'.cell? ⟨gp, 4, none⟩ = some (.slice p.np p.nd.length p.nc) ∧
  w'.cell? ⟨gq, 0, none⟩ = some (.int .i64 (q.id : Int)) ∧ w'.cell? ⟨gq, 1, none⟩ = some (.int .i64 (q.blk : Int)) ∧ w'.cell? ⟨gq, 2, none⟩ = some (.int .i64 (q.off : Int)) ∧ w'.cell? ⟨gq, 3, none⟩ = some (.slice q.bp q.bs.length q.bc) ∧ w'.cell? ⟨gq, 4, none⟩ = some (.slice q.np q.nd.length q.nc))) (by kernel_rfl) ⟨r0, r1, r2, r3, r4, r5, r6, r7, r8, r9⟩ (fun hHeld => ?_)
  refine wpAnyH_take (i := 0) (oi := { dst := some 4, op := Op.fieldAddr 44 (Operand.tmp 3) 0, type := 0, pos := "needs.go:113", after := #[], guard := none }) (v := ?_) rfl (by kernel_rfl) (by kernel_rfl) (by kernel_rfl) (fun _ _ _ h => h) (Or.inl ⟨by rfl, ?_⟩) hHeld ?_
  rotate_left
  · (intro w hSw; (try dsimp only at hSw); go_simp; try (with_reducible rfl))
  simp only [Act.put, List.setIfInBounds_toArray, List.set_cons_zero, List.set_cons_succ]
  refine wpAnyH_take (i := 1) (oi := { dst := some 5, op := Op.load 3 (Operand.tmp 4), type := 3, pos := "needs.go:113", after := #[{ on := 0, ground := Ground.data }], guard := none }) (v := ?_) rfl (by kernel_rfl) (by kernel_rfl) (by kernel_rfl) (fun _ _ _ h => h) (Or.inl ⟨by rfl, ?_⟩) hHeld ?_
  rotate_left
  · (intro w hSw; (try dsimp only at hSw); go_simp; try (with_reducible rfl))
  simp only [Act.put, List.setIfInBounds_toArray, List.set_cons_zero, List.set_cons_succ]
  refine wpAnyH_take (i := 2) (oi := { dst := some 6, op := Op.fieldAddr 44 (Operand.tmp 1) 0, type := 0, pos := "needs.go:113", after := #[], guard := none }) (v := ?_) rfl (by kernel_rfl) (by kernel_rfl) (by kernel_rfl) (fun _ _ _ h => h) (Or.inl ⟨by rfl, ?_⟩) hHeld ?_
  rotate_left
  · (intro w hSw; (try dsimp only at hSw); go_simp; try (with_reducible rfl))
  simp only [Act.put, List.setIfInBounds_toArray, List.set_cons_zero, List.set_cons_succ]
  refine wpAnyH_take (i := 3) (oi := { dst := some 7, op := Op.load 3 (Operand.tmp 6), type := 3, pos := "needs.go:113", after := #[{ on := 2, ground := Ground.data }], guard := none }) (v := ?_) rfl (by kernel_rfl) (by kernel_rfl) (by kernel_rfl) (fun _ _ _ h => h) (Or.inl ⟨by rfl, ?_⟩) hHeld ?_
  rotate_left
  · (intro w hSw; (try dsimp only at hSw); go_simp; try (with_reducible rfl))
  simp only [Act.put, List.setIfInBounds_toArray, List.set_cons_zero, List.set_cons_succ]
  refine wpAnyH_take (i := 4) (oi := { dst := some 8, op := Op.binOp BinOp.lss 3 (Operand.tmp 5) (Operand.tmp 7) 3, type := 4, pos := "needs.go:113", after := #[{ on := 1, ground := Ground.data }, { on := 3, ground := Ground.data }], guard := none }) (v := ?_) rfl (by kernel_rfl) (by kernel_rfl) (by kernel_rfl) (fun _ _ _ h => h) (Or.inl ⟨by rfl, ?_⟩) hHeld ?_
  rotate_left
  · (intro w hSw; (try dsimp only at hSw); go_simp; try (with_reducible rfl))
  simp only [Act.put, List.setIfInBounds_toArray, List.set_cons_zero, List.set_cons_succ]
  refine wpAnyH_take (i := 5) (oi := { dst := some 9, op := Op.move (Operand.tmp 8), type := 4, pos := "needs.go:113", after := #[{ on := 4, ground := Ground.data }], guard := none }) (v := ?_) rfl (by kernel_rfl) (by kernel_rfl) (by kernel_rfl) (fun _ _ _ h => h) (Or.inl ⟨by rfl, ?_⟩) hHeld ?_
  rotate_left
  · (intro w hSw; (try dsimp only at hSw); go_simp; try (with_reducible rfl))
  simp only [Act.put, List.setIfInBounds_toArray, List.set_cons_zero, List.set_cons_succ]
  refine wpAnyH_take (i := 6) (oi := { dst := some 10, op := Op.fieldAddr 44 (Operand.tmp 1) 2, type := 0, pos := "needs.go:113", after := #[{ on := 5, ground := Ground.guard }], guard := some (5, true) }) (v := undef) rfl (by kernel_rfl) (by kernel_rfl) (by kernel_rfl) (fun _ _ _ h => h) (Or.inr ⟨by rfl, rfl⟩) hHeld ?_
  simp only [Act.put, List.setIfInBounds_toArray, List.set_cons_zero, List.set_cons_succ]
  refine wpAnyH_take (i := 7) (oi := { dst := some 11, op := Op.load 3 (Operand.tmp 10), type := 3, pos := "needs.go:113", after := #[{ on := 6, ground := Ground.data }, { on := 5, ground := Ground.guard }], guard := some (5, true) }) (v := undef) rfl (by kernel_rfl) (by kernel_rfl) (by kernel_rfl) (fun _ _ _ h => h) (Or.inr ⟨by rfl, rfl⟩) hHeld ?_
  simp only [Act.put, List.setIfInBounds_toArray, List.set_cons_zero, List.set_cons_succ]
  refine wpAnyH_take (i := 8) (oi := { dst := some 12, op := Op.load 44 (Operand.tmp 3), type := 44, pos := "needs.go:113", after := #[{ on := 5, ground := Ground.guard }], guard := some (5, true) }) (v := undef) rfl (by kernel_rfl) (by kernel_rfl) (by kernel_rfl) (fun _ _ _ h => h) (Or.inr ⟨by rfl, rfl⟩) hHeld ?_
  simp only [Act.put, List.setIfInBounds_toArray, List.set_cons_zero, List.set_cons_succ]
  refine wpAnyH_ready (rs := [9]) (by kernel_rfl) (by simp) ?_
  refine AllReadyH.cons (o := { dst := some 13, op := Op.call { callee := Callee.value (Operand.func 78), args := #[Operand.tmp 12], argTypes := #[44] }, type := 3, pos := "needs.go:113", after := #[{ on := 8, ground := Ground.data }, { on := 5, ground := Ground.chain }, { on := 5, ground := Ground.guard }], guard := some (5, true) }) rfl (fun K hK => ?_) AllReadyH.nil
  rw [if_neg (by intro e; cases e)]
  refine hK.out _ _ hHeld (fun hHeld => ?_)
  clear hK K
  try simp only [Act.put, List.setIfInBounds_toArray, List.set_cons_zero, List.set_cons_succ]
  refine wpAnyH_take (i := 10) (oi := { dst := some 14, op := Op.binOp BinOp.lss 3 (Operand.tmp 11) (Operand.tmp 13) 3, type := 4, pos := "needs.go:113", after := #[{ on := 7, ground := Ground.data }, { on := 9, ground := Ground.data }, { on := 5, ground := Ground.guard }], guard := some (5, true) }) (v := undef) rfl (by kernel_rfl) (by kernel_rfl) (by kernel_rfl) (fun _ _ _ h => h) (Or.inr ⟨by rfl, rfl⟩) hHeld ?_
  simp only [Act.put, List.setIfInBounds_toArray, List.set_cons_zero, List.set_cons_succ]
  refine wpAnyH_take (i := 11) (oi := { dst := some 15, op := Op.pick (Operand.tmp 9) (Operand.tmp 14) (Operand.const (Value.bool false)), type := 4, pos := "needs.go:113", after := #[{ on := 5, ground := Ground.data }, { on := 10, ground := Ground.data }], guard := none }) (v := ?_) rfl (by kernel_rfl) (by kernel_rfl) (by kernel_rfl) (fun _ _ _ h => h) (Or.inl ⟨by rfl, ?_⟩) hHeld ?_
  rotate_left
  · (intro w hSw; (try dsimp only at hSw); go_simp; try (with_reducible rfl))
  simp only [Act.put, List.setIfInBounds_toArray, List.set_cons_zero, List.set_cons_succ]
  refine wpAnyH_take (i := 12) (oi := { dst := some 16, op := Op.move (Operand.tmp 15), type := 4, pos := "needs.go:113", after := #[{ on := 11, ground := Ground.data }, { on := 9, ground := Ground.chain }], guard := none }) (v := ?_) rfl (by kernel_rfl) (by kernel_rfl) (by kernel_rfl) (fun _ _ _ h => h) (Or.inl ⟨by rfl, ?_⟩) hHeld ?_
  rotate_left
  · (intro w hSw; (try dsimp only at hSw); go_simp; try (with_reducible rfl))
  simp only [Act.put, List.setIfInBounds_toArray, List.set_cons_zero, List.set_cons_succ]
  refine wpAnyH_take (i := 13) (oi := { dst := some 17, op := Op.fieldAddr 44 (Operand.tmp 3) 2, type := 0, pos := "needs.go:113", after := #[{ on := 12, ground := Ground.guard }], guard := some (12, true) }) (v := undef) rfl (by kernel_rfl) (by kernel_rfl) (by kernel_rfl) (fun _ _ _ h => h) (Or.inr ⟨by rfl, rfl⟩) hHeld ?_
  simp only [Act.put, List.setIfInBounds_toArray, List.set_cons_zero, List.set_cons_succ]
  refine wpAnyH_take (i := 14) (oi := { dst := some 18, op := Op.load 3 (Operand.tmp 17), type := 3, pos := "needs.go:113", after := #[{ on := 13, ground := Ground.data }, { on := 12, ground := Ground.guard }], guard := some (12, true) }) (v := undef) rfl (by kernel_rfl) (by kernel_rfl) (by kernel_rfl) (fun _ _ _ h => h) (Or.inr ⟨by rfl, rfl⟩) hHeld ?_
  simp only [Act.put, List.setIfInBounds_toArray, List.set_cons_zero, List.set_cons_succ]
  refine wpAnyH_take (i := 15) (oi := { dst := some 19, op := Op.load 44 (Operand.tmp 1), type := 44, pos := "needs.go:113", after := #[{ on := 12, ground := Ground.guard }], guard := some (12, true) }) (v := undef) rfl (by kernel_rfl) (by kernel_rfl) (by kernel_rfl) (fun _ _ _ h => h) (Or.inr ⟨by rfl, rfl⟩) hHeld ?_
  simp only [Act.put, List.setIfInBounds_toArray, List.set_cons_zero, List.set_cons_succ]
  refine wpAnyH_ready (rs := [16]) (by kernel_rfl) (by simp) ?_
  refine AllReadyH.cons (o := { dst := some 20, op := Op.call { callee := Callee.value (Operand.func 78), args := #[Operand.tmp 19], argTypes := #[44] }, type := 3, pos := "needs.go:113", after := #[{ on := 15, ground := Ground.data }, { on := 12, ground := Ground.chain }, { on := 12, ground := Ground.guard }], guard := some (12, true) }) rfl (fun K hK => ?_) AllReadyH.nil
  rw [if_neg (by intro e; cases e)]
  refine hK.out _ _ hHeld (fun hHeld => ?_)
  clear hK K
  try simp only [Act.put, List.setIfInBounds_toArray, List.set_cons_zero, List.set_cons_succ]
  refine wpAnyH_take (i := 17) (oi := { dst := some 21, op := Op.binOp BinOp.lss 3 (Operand.tmp 18) (Operand.tmp 20) 3, type := 4, pos := "needs.go:113", after := #[{ on := 14, ground := Ground.data }, { on := 16, ground := Ground.data }, { on := 12, ground := Ground.guard }], guard := some (12, true) }) (v := undef) rfl (by kernel_rfl) (by kernel_rfl) (by kernel_rfl) (fun _ _ _ h => h) (Or.inr ⟨by rfl, rfl⟩) hHeld ?_
  simp only [Act.put, List.setIfInBounds_toArray, List.set_cons_zero, List.set_cons_succ]
  refine wpAnyH_take (i := 18) (oi := { dst := some 22, op := Op.pick (Operand.tmp 16) (Operand.tmp 21) (Operand.const (Value.bool false)), type := 4, pos := "needs.go:113", after := #[{ on := 12, ground := Ground.data }, { on := 17, ground := Ground.data }], guard := none }) (v := ?_) rfl (by kernel_rfl) (by kernel_rfl) (by kernel_rfl) (fun _ _ _ h => h) (Or.inl ⟨by rfl, ?_⟩) hHeld ?_
  rotate_left
  · (intro w hSw; (try dsimp only at hSw); go_simp; try (with_reducible rfl))
  simp only [Act.put, List.setIfInBounds_toArray, List.set_cons_zero, List.set_cons_succ]
  refine wpAnyH_done (by kernel_rfl) ?_ _
  refine NoPanic.normal ?_
  go_wp2
  go_end0
  rw [HA.out]
  exact ⟨rfl, iv, hX.an⟩

set_option maxRecDepth 100000 in
set_option maxHeartbeats 4000000 in
theorem an1_no2 {B T : Nat} {w0 w : World} {a mp mb last : Nat} {P : List Pv} {K : Int → Option Value} {p : Pv} {gp gi : Nat} {iv : Value} {I : List Int} (h : AN B T w0 w a mp mb last P K p gp gi iv I) (hp : Tw P p) (q : Pv) (hq : q ∈ P) (h1 : q.id < p.id) (h2 : ¬ p.off < endP q) :
    Calls Try.prog 77 #[q.v, .pointer (some ⟨gp, 0, none⟩), .pointer (some ⟨gi, 0, none⟩)] w
      fun e w' => e = .returned (.tuple #[]) ∧ ∃ iv', AN B T w0 w' a mp mb last P K p gp gi iv' (anI p q I) := by
  obtain ⟨W, hW⟩ : ∃ W, w.alloc (.cells q.cells 44) = W := ⟨_, rfl⟩
  have hbW : Below w.heap.size w W := by rw [← hW]; exact (Below.refl _ w).alloc (Nat.le_refl _) _
  have hX : AQ B T w0 W a mp mb last P K p q gp gi w.heap.size iv I := ⟨h.kept hbW, by rw [← hW]; exact at_new rfl⟩
  replace hX := hX.kept ((Below.refl _ _).drew)
  have hv : q.v = .agg q.cells := rfl
  have hpi : 1 ≤ p.id ∧ p.id ≤ last ∧ p.blk ≤ 9223372036854775807 ∧ 1 ≤ p.bs.length ∧ p.off + p.bs.length ≤ 128 := by obtain ⟨_, _, hp⟩ := hp; have := h.ps.ids _ hp; exact this
  have hqi := h.ps.ids q hq
  have hsm := h.ps.sml
  have hen1 : ∀ w, Calls Try.prog 78 #[.agg #[.int .i64 (p.id : Int), .int .i64 (p.blk : Int), .int .i64 (p.off : Int), .slice p.bp p.bs.length p.bc, .slice p.np p.nd.length p.nc]] w fun e w' => e = .returned (.int .i64 (endP p : Int)) ∧ Below w.heap.size w w' := fun w => end_ok p w (by omega)
  have hen2 : ∀ w, Calls Try.prog 78 #[.agg #[.int .i64 (q.id : Int), .int .i64 (q.blk : Int), .int .i64 (q.off : Int), .slice q.bp q.bs.length q.bc, .slice q.np q.nd.length q.nc]] w fun e w' => e = .returned (.int .i64 (endP q : Int)) ∧ Below w.heap.size w w' := fun w => end_ok q w (by omega)
  have hep : endP p ≤ 128 := by unfold endP; omega
  have heq : endP q ≤ 128 := by unfold endP; omega
  clear hbW
  go_enter Try.func77, Try.ntmps77
  go_wp2_with fail
  generalize w.heap.size = gq at *
  clear hW
  obtain ⟨r0, r1, r2, r3, r4, r5, r6, r7, r8, r9⟩ := hX.rds
  have h1' : (q.id : Int) < (p.id : Int) := by omega
  have h2' : ¬ (p.off : Int) < (endP q : Int) := by omega
  have HA : Hid (anI p q I = I) := by show _ = _; unfold anI und; simp [h2]
  refine wp_region_noPanic ?_
  refine wp_region_held_drew (S := (fun w' => w'.cell? ⟨gp, 0, none⟩ = some (.int .i64 (p.id : Int)) ∧ w'.cell? ⟨gp, 1, none⟩ = some (.int .i64 (p.blk : Int)) ∧ w'.cell? ⟨gp, 2, none⟩ = some (.int .i64 (p.off : Int)) ∧ w'.cell? ⟨gp, 3, none⟩ = some (.slice p.bp p.bs.length p.bc) ∧ w'.cell? ⟨gp, 4, none⟩ = some (.slice p.np p.nd.length p.nc) ∧
  w'.cell? ⟨gq, 0, none⟩ = some (.int .i64 (q.id : Int)) ∧ w'.cell? ⟨gq, 1, none⟩ = some (.int .i64 (q.blk : Int)) ∧ w'.cell? ⟨gq, 2, none⟩ = some (.int .i64 (q.off : Int)) ∧ w'.cell? ⟨gq, 3, none⟩ = some (.slice q.bp q.bs.length q.bc) ∧ w'.cell? ⟨gq, 4, none⟩ = some (.slice q.np q.nd.length q.nc))) (by kernel_rfl) ⟨r0, r1, r2, r3, r4, r5, r6, r7, r8, r9⟩ (fun hHeld => ?_)
  refine wpAnyH_take (i := 0) (oi := { dst := some 4, op := Op.fieldAddr 44 (Operand.tmp 3) 0, type := 0, pos := "needs.go:113", after := #[], guard := none }) (v := ?_) rfl (by kernel_rfl) (by kernel_rfl) (by kernel_rfl) (fun _ _ _ h => h) (Or.inl ⟨by rfl, ?_⟩) hHeld ?_
  rotate_left
  · (intro w hSw; (try dsimp only at hSw); go_simp; try (with_reducible rfl))
  simp only [Act.put, List.setIfInBounds_toArray, List.set_cons_zero, List.set_cons_succ]
  refine wpAnyH_take (i := 1) (oi := { dst := some 5, op := Op.load 3 (Operand.tmp 4), type := 3, pos := "needs.go:113", after := #[{ on := 0, ground := Ground.data }], guard := none }) (v := ?_) rfl (by kernel_rfl) (by kernel_rfl) (by kernel_rfl) (fun _ _ _ h => h) (Or.inl ⟨by rfl, ?_⟩) hHeld ?_
  rotate_left
  · (intro w hSw; (try dsimp only at hSw); go_simp; try (with_reducible rfl))
  simp only [Act.put, List.setIfInBounds_toArray, List.set_cons_zero, List.set_cons_succ]
  refine wpAnyH_take (i := 2) (oi := { dst := some 6, op := Op.fieldAddr 44 (Operand.tmp 1) 0, type := 0, pos := "needs.go:113", after := #[], guard := none }) (v := ?_) rfl (by kernel_rfl) (by kernel_rfl) (by kernel_rfl) (fun _ _ _ h => h) (Or.inl ⟨by rfl, ?_⟩) hHeld ?_
  rotate_left
  · (intro w hSw; (try dsimp only at hSw); go_simp; try (with_reducible rfl))
  simp only [Act.put, List.setIfInBounds_toArray, List.set_cons_zero, List.set_cons_succ]
  refine wpAnyH_take (i := 3) (oi := { dst := some 7, op := Op.load 3 (Operand.tmp 6), type := 3, pos := "needs.go:113", after := #[{ on := 2, ground := Ground.data }], guard := none }) (v := ?_) rfl (by kernel_rfl) (by kernel_rfl) (by kernel_rfl) (fun _ _ _ h => h) (Or.inl ⟨by rfl, ?_⟩) hHeld ?_
  rotate_left
  · (intro w hSw; (try dsimp only at hSw); go_simp; try (with_reducible rfl))
  simp only [Act.put, List.setIfInBounds_toArray, List.set_cons_zero, List.set_cons_succ]
  refine wpAnyH_take (i := 4) (oi := { dst := some 8, op := Op.binOp BinOp.lss 3 (Operand.tmp 5) (Operand.tmp 7) 3, type := 4, pos := "needs.go:113", after := #[{ on := 1, ground := Ground.data }, { on := 3, ground := Ground.data }], guard := none }) (v := ?_) rfl (by kernel_rfl) (by kernel_rfl) (by kernel_rfl) (fun _ _ _ h => h) (Or.inl ⟨by rfl, ?_⟩) hHeld ?_
  rotate_left
  · (intro w hSw; (try dsimp only at hSw); go_simp; try (with_reducible rfl))
  simp only [Act.put, List.setIfInBounds_toArray, List.set_cons_zero, List.set_cons_succ]
  refine wpAnyH_take (i := 5) (oi := { dst := some 9, op := Op.move (Operand.tmp 8), type := 4, pos := "needs.go:113", after := #[{ on := 4, ground := Ground.data }], guard := none }) (v := ?_) rfl (by kernel_rfl) (by kernel_rfl) (by kernel_rfl) (fun _ _ _ h => h) (Or.inl ⟨by rfl, ?_⟩) hHeld ?_
  rotate_left
  · (intro w hSw; (try dsimp only at hSw); go_simp; try (with_reducible rfl))
  simp only [Act.put, List.setIfInBounds_toArray, List.set_cons_zero, List.set_cons_succ]
  refine wpAnyH_take (i := 6) (oi := { dst := some 10, op := Op.fieldAddr 44 (Operand.tmp 1) 2, type := 0, pos := "needs.go:113", after := #[{ on := 5, ground := Ground.guard }], guard := some (5, true) }) (v := ?_) rfl (by kernel_rfl) (by kernel_rfl) (by kernel_rfl) (fun _ _ _ h => h) (Or.inl ⟨by rfl, ?_⟩) hHeld ?_
  rotate_left
  · (intro w hSw; (try dsimp only at hSw); go_simp; try (with_reducible rfl))
  simp only [Act.put, List.setIfInBounds_toArray, List.set_cons_zero, List.set_cons_succ]
  refine wpAnyH_take (i := 7) (oi := { dst := some 11, op := Op.load 3 (Operand.tmp 10), type := 3, pos := "needs.go:113", after := #[{ on := 6, ground := Ground.data }, { on := 5, ground := Ground.guard }], guard := some (5, true) }) (v := ?_) rfl (by kernel_rfl) (by kernel_rfl) (by kernel_rfl) (fun _ _ _ h => h) (Or.inl ⟨by rfl, ?_⟩) hHeld ?_
  rotate_left
  · (intro w hSw; (try dsimp only at hSw); go_simp; try (with_reducible rfl))
  simp only [Act.put, List.setIfInBounds_toArray, List.set_cons_zero, List.set_cons_succ]
  refine wpAnyH_take (i := 8) (oi := { dst := some 12, op := Op.load 44 (Operand.tmp 3), type := 44, pos := "needs.go:113", after := #[{ on := 5, ground := Ground.guard }], guard := some (5, true) }) (v := ?_) rfl (by kernel_rfl) (by kernel_rfl) (by kernel_rfl) (fun _ _ _ h => h) (Or.inl ⟨by rfl, ?_⟩) hHeld ?_
  rotate_left
  · (intro w hSw; (try dsimp only at hSw); go_simp; try (with_reducible rfl))
  simp only [Act.put, List.setIfInBounds_toArray, List.set_cons_zero, List.set_cons_succ]
  refine wpAnyH_ready (rs := [9]) (by kernel_rfl) (by simp) ?_
  refine AllReadyH.cons (o := { dst := some 13, op := Op.call { callee := Callee.value (Operand.func 78), args := #[Operand.tmp 12], argTypes := #[44] }, type := 3, pos := "needs.go:113", after := #[{ on := 8, ground := Ground.data }, { on := 5, ground := Ground.chain }, { on := 5, ground := Ground.guard }], guard := some (5, true) }) rfl (fun K hK => ?_) AllReadyH.nil
  rw [if_pos (by rfl)]
  go_simp
  refine Calls.mono (hen2 _) ?_
  rintro e wn ⟨rfl, hbn⟩
  dsimp only
  replace hX := hX.kept hbn
  refine hK.out _ _ hX.rds (fun hHeld => ?_)
  clear hK K
  try simp only [Act.put, List.setIfInBounds_toArray, List.set_cons_zero, List.set_cons_succ]
  refine wpAnyH_take (i := 10) (oi := { dst := some 14, op := Op.binOp BinOp.lss 3 (Operand.tmp 11) (Operand.tmp 13) 3, type := 4, pos := "needs.go:113", after := #[{ on := 7, ground := Ground.data }, { on := 9, ground := Ground.data }, { on := 5, ground := Ground.guard }], guard := some (5, true) }) (v := ?_) rfl (by kernel_rfl) (by kernel_rfl) (by kernel_rfl) (fun _ _ _ h => h) (Or.inl ⟨by rfl, ?_⟩) hHeld ?_
  rotate_left
  · (intro w hSw; (try dsimp only at hSw); go_simp; try (with_reducible rfl))
  simp only [Act.put, List.setIfInBounds_toArray, List.set_cons_zero, List.set_cons_succ]
  refine wpAnyH_take (i := 11) (oi := { dst := some 15, op := Op.pick (Operand.tmp 9) (Operand.tmp 14) (Operand.const (Value.bool false)), type := 4, pos := "needs.go:113", after := #[{ on := 5, ground := Ground.data }, { on := 10, ground := Ground.data }], guard := none }) (v := ?_) rfl (by kernel_rfl) (by kernel_rfl) (by kernel_rfl) (fun _ _ _ h => h) (Or.inl ⟨by rfl, ?_⟩) hHeld ?_
  rotate_left
  · (intro w hSw; (try dsimp only at hSw); go_simp; try (with_reducible rfl))
  simp only [Act.put, List.setIfInBounds_toArray, List.set_cons_zero, List.set_cons_succ]
  refine wpAnyH_take (i := 12) (oi := { dst := some 16, op := Op.move (Operand.tmp 15), type := 4, pos := "needs.go:113", after := #[{ on := 11, ground := Ground.data }, { on := 9, ground := Ground.chain }], guard := none }) (v := ?_) rfl (by kernel_rfl) (by kernel_rfl) (by kernel_rfl) (fun _ _ _ h => h) (Or.inl ⟨by rfl, ?_⟩) hHeld ?_
  rotate_left
  · (intro w hSw; (try dsimp only at hSw); go_simp; try (with_reducible rfl))
  simp only [Act.put, List.setIfInBounds_toArray, List.set_cons_zero, List.set_cons_succ]
  refine wpAnyH_take (i := 13) (oi := { dst := some 17, op := Op.fieldAddr 44 (Operand.tmp 3) 2, type := 0, pos := "needs.go:113", after := #[{ on := 12, ground := Ground.guard }], guard := some (12, true) }) (v := undef) rfl (by kernel_rfl) (by kernel_rfl) (by kernel_rfl) (fun _ _ _ h => h) (Or.inr ⟨by rfl, rfl⟩) hHeld ?_
  simp only [Act.put, List.setIfInBounds_toArray, List.set_cons_zero, List.set_cons_succ]
  refine wpAnyH_take (i := 14) (oi := { dst := some 18, op := Op.load 3 (Operand.tmp 17), type := 3, pos := "needs.go:113", after := #[{ on := 13, ground := Ground.data }, { on := 12, ground := Ground.guard }], guard := some (12, true) }) (v := undef) rfl (by kernel_rfl) (by kernel_rfl) (by kernel_rfl) (fun _ _ _ h => h) (Or.inr ⟨by rfl, rfl⟩) hHeld ?_
  simp only [Act.put, List.setIfInBounds_toArray, List.set_cons_zero, List.set_cons_succ]
  refine wpAnyH_take (i := 15) (oi := { dst := some 19, op := Op.load 44 (Operand.tmp 1), type := 44, pos := "needs.go:113", after := #[{ on := 12, ground := Ground.guard }], guard := some (12, true) }) (v := undef) rfl (by kernel_rfl) (by kernel_rfl) (by kernel_rfl) (fun _ _ _ h => h) (Or.inr ⟨by rfl, rfl⟩) hHeld ?_
  simp only [Act.put, List.setIfInBounds_toArray, List.set_cons_zero, List.set_cons_succ]
  refine wpAnyH_ready (rs := [16]) (by kernel_rfl) (by simp) ?_
  refine AllReadyH.cons (o := { dst := some 20, op := Op.call { callee := Callee.value (Operand.func 78), args := #[Operand.tmp 19], argTypes := #[44] }, type := 3, pos := "needs.go:113", after := #[{ on := 15, ground := Ground.data }, { on := 12, ground := Ground.chain }, { on := 12, ground := Ground.guard }], guard := some (12, true) }) rfl (fun K hK => ?_) AllReadyH.nil
  rw [if_neg (by intro e; cases e)]
  refine hK.out _ _ hHeld (fun hHeld => ?_)
  clear hK K
  try simp only [Act.put, List.setIfInBounds_toArray, List.set_cons_zero, List.set_cons_succ]
  refine wpAnyH_take (i := 17) (oi := { dst := some 21, op := Op.binOp BinOp.lss 3 (Operand.tmp 18) (Operand.tmp 20) 3, type := 4, pos := "needs.go:113", after := #[{ on := 14, ground := Ground.data }, { on := 16, ground := Ground.data }, { on := 12, ground := Ground.guard }], guard := some (12, true) }) (v := undef) rfl (by kernel_rfl) (by kernel_rfl) (by kernel_rfl) (fun _ _ _ h => h) (Or.inr ⟨by rfl, rfl⟩) hHeld ?_
  simp only [Act.put, List.setIfInBounds_toArray, List.set_cons_zero, List.set_cons_succ]
  refine wpAnyH_take (i := 18) (oi := { dst := some 22, op := Op.pick (Operand.tmp 16) (Operand.tmp 21) (Operand.const (Value.bool false)), type := 4, pos := "needs.go:113", after := #[{ on := 12, ground := Ground.data }, { on := 17, ground := Ground.data }], guard := none }) (v := ?_) rfl (by kernel_rfl) (by kernel_rfl) (by kernel_rfl) (fun _ _ _ h => h) (Or.inl ⟨by rfl, ?_⟩) hHeld ?_
  rotate_left
  · (intro w hSw; (try dsimp only at hSw); go_simp; try (with_reducible rfl))
  simp only [Act.put, List.setIfInBounds_toArray, List.set_cons_zero, List.set_cons_succ]
  refine wpAnyH_done (by kernel_rfl) ?_ _
  refine NoPanic.normal ?_
  go_wp2
  go_end0
  rw [HA.out]
  exact ⟨rfl, iv, hX.an⟩

set_option maxRecDepth 100000 in
set_option maxHeartbeats 4000000 in
theorem an1_no3 {B T : Nat} {w0 w : World} {a mp mb last : Nat} {P : List Pv} {K : Int → Option Value} {p : Pv} {gp gi : Nat} {iv : Value} {I : List Int} (h : AN B T w0 w a mp mb last P K p gp gi iv I) (hp : Tw P p) (q : Pv) (hq : q ∈ P) (h1 : q.id < p.id) (h2 : p.off < endP q) (h3 : ¬ q.off < endP p) :
    Calls Try.prog 77 #[q.v, .pointer (some ⟨gp, 0, none⟩), .pointer (some ⟨gi, 0, none⟩)] w
      fun e w' => e = .returned (.tuple #[]) ∧ ∃ iv', AN B T w0 w' a mp mb last P K p gp gi iv' (anI p q I) := by
  obtain ⟨W, hW⟩ : ∃ W, w.alloc (.cells q.cells 44) = W := ⟨_, rfl⟩
  have hbW : Below w.heap.size w W := by rw [← hW]; exact (Below.refl _ w).alloc (Nat.le_refl _) _
  have hX : AQ B T w0 W a mp mb last P K p q gp gi w.heap.size iv I := ⟨h.kept hbW, by rw [← hW]; exact at_new rfl⟩
  replace hX := hX.kept ((Below.refl _ _).drew)
  have hv : q.v = .agg q.cells := rfl
  have hpi : 1 ≤ p.id ∧ p.id ≤ last ∧ p.blk ≤ 9223372036854775807 ∧ 1 ≤ p.bs.length ∧ p.off + p.bs.length ≤ 128 := by obtain ⟨_, _, hp⟩ := hp; have := h.ps.ids _ hp; exact this
  have hqi := h.ps.ids q hq
  have hsm := h.ps.sml
  have hen1 : ∀ w, Calls Try.prog 78 #[.agg #[.int .i64 (p.id : Int), .int .i64 (p.blk : Int), .int .i64 (p.off : Int), .slice p.bp p.bs.length p.bc, .slice p.np p.nd.length p.nc]] w fun e w' => e = .returned (.int .i64 (endP p : Int)) ∧ Below w.heap.size w w' := fun w => end_ok p w (by omega)
  have hen2 : ∀ w, Calls Try.prog 78 #[.agg #[.int .i64 (q.id : Int), .int .i64 (q.blk : Int), .int .i64 (q.off : Int), .slice q.bp q.bs.length q.bc, .slice q.np q.nd.length q.nc]] w fun e w' => e = .returned (.int .i64 (endP q : Int)) ∧ Below w.heap.size w w' := fun w => end_ok q w (by omega)
  have hep : endP p ≤ 128 := by unfold endP; omega
  have heq : endP q ≤ 128 := by unfold endP; omega
  clear hbW
  go_enter Try.func77, Try.ntmps77
  go_wp2_with fail
  generalize w.heap.size = gq at *
  clear hW
  obtain ⟨r0, r1, r2, r3, r4, r5, r6, r7, r8, r9⟩ := hX.rds
  have h1' : (q.id : Int) < (p.id : Int) := by omega
  have h2' : (p.off : Int) < (endP q : Int) := by omega
  have h3' : ¬ (q.off : Int) < (endP p : Int) := by omega
  have HA : Hid (anI p q I = I) := by show _ = _; unfold anI und; simp [h3]
  refine wp_region_noPanic ?_
  refine wp_region_held_drew (S := (fun w' => w'.cell? ⟨gp, 0, none⟩ = some (.int .i64 (p.id : Int)) ∧ w'.cell? ⟨gp, 1, none⟩ = some (.int .i64 (p.blk : Int)) ∧ w'.cell? ⟨gp, 2, none⟩ = some (.int .i64 (p.off : Int)) ∧ w'.cell? ⟨gp, 3, none⟩ = some (.slice p.bp p.bs.length p.bc) ∧ w'.cell? ⟨gp, 4, none⟩ = some (.slice p.np p.nd.length p.nc) ∧
  w'.cell? ⟨gq, 0, none⟩ = some (.int .i64 (q.id : Int)) ∧ w'.cell? ⟨gq, 1, none⟩ = some (.int .i64 (q.blk : Int)) ∧ w'.cell? ⟨gq, 2, none⟩ = some (.int .i64 (q.off : Int)) ∧ w'.cell? ⟨gq, 3, none⟩ = some (.slice q.bp q.bs.length q.bc) ∧ w'.cell? ⟨gq, 4, none⟩ = some (.slice q.np q.nd.length q.nc))) (by kernel_rfl) ⟨r0, r1, r2, r3, r4, r5, r6, r7, r8, r9⟩ (fun hHeld => ?_)
  refine wpAnyH_take (i := 0) (oi := { dst := some 4, op := Op.fieldAddr 44 (Operand.tmp 3) 0, type := 0, pos := "needs.go:113", after := #[], guard := none }) (v := ?_) rfl (by kernel_rfl) (by kernel_rfl) (by kernel_rfl) (fun _ _ _ h => h) (Or.inl ⟨by rfl, ?_⟩) hHeld ?_
  rotate_left
  · (intro w hSw; (try dsimp only at hSw); go_simp; try (with_reducible rfl))
  simp only [Act.put, List.setIfInBounds_toArray, List.set_cons_zero, List.set_cons_succ]
  refine wpAnyH_take (i := 1) (oi := { dst := some 5, op := Op.load 3 (Operand.tmp 4), type := 3, pos := "needs.go:113", after := #[{ on := 0, ground := Ground.data }], guard := none }) (v := ?_) rfl (by kernel_rfl) (by kernel_rfl) (by kernel_rfl) (fun _ _ _ h => h) (Or.inl ⟨by rfl, ?_⟩) hHeld ?_
  rotate_left
  · (intro w hSw; (try dsimp only at hSw); go_simp; try (with_reducible rfl))
  simp only [Act.put, List.setIfInBounds_toArray, List.set_cons_zero, List.set_cons_succ]
  refine wpAnyH_take (i := 2) (oi := { dst := some 6, op := Op.fieldAddr 44 (Operand.tmp 1) 0, type := 0, pos := "needs.go:113", after := #[], guard := none }) (v := ?_) rfl (by kernel_rfl) (by kernel_rfl) (by kernel_rfl) (fun _ _ _ h => h) (Or.inl ⟨by rfl, ?_⟩) hHeld ?_
  rotate_left
  · (intro w hSw; (try dsimp only at hSw); go_simp; try (with_reducible rfl))
  simp only [Act.put, List.setIfInBounds_toArray, List.set_cons_zero, List.set_cons_succ]
  refine wpAnyH_take (i := 3) (oi := { dst := some 7, op := Op.load 3 (Operand.tmp 6), type := 3, pos := "needs.go:113", after := #[{ on := 2, ground := Ground.data }], guard := none }) (v := ?_) rfl (by kernel_rfl) (by kernel_rfl) (by kernel_rfl) (fun _ _ _ h => h) (Or.inl ⟨by rfl, ?_⟩) hHeld ?_
  rotate_left
  · (intro w hSw; (try dsimp only at hSw); go_simp; try (with_reducible rfl))
  simp only [Act.put, List.setIfInBounds_toArray, List.set_cons_zero, List.set_cons_succ]
  refine wpAnyH_take (i := 4) (oi := { dst := some 8, op := Op.binOp BinOp.lss 3 (Operand.tmp 5) (Operand.tmp 7) 3, type := 4, pos := "needs.go:113", after := #[{ on := 1, ground := Ground.data }, { on := 3, ground := Ground.data }], guard := none }) (v := ?_) rfl (by kernel_rfl) (by kernel_rfl) (by kernel_rfl) (fun _ _ _ h => h) (Or.inl ⟨by rfl, ?_⟩) hHeld ?_
  rotate_left
  · (intro w hSw; (try dsimp only at hSw); go_simp; try (with_reducible rfl))
  simp only [Act.put, List.setIfInBounds_toArray, List.set_cons_zero, List.set_cons_succ]
  refine wpAnyH_take (i := 5) (oi := { dst := some 9, op := Op.move (Operand.tmp 8), type := 4, pos := "needs.go:113", after := #[{ on := 4, ground := Ground.data }], guard := none }) (v := ?_) rfl (by kernel_rfl) (by kernel_rfl) (by kernel_rfl) (fun _ _ _ h => h) (Or.inl ⟨by rfl, ?_⟩) hHeld ?_
  rotate_left
  · (intro w hSw; (try dsimp only at hSw); go_simp; try (with_reducible rfl))
  simp only [Act.put, List.setIfInBounds_toArray, List.set_cons_zero, List.set_cons_succ]
  refine wpAnyH_take (i := 6) (oi := { dst := some 10, op := Op.fieldAddr 44 (Operand.tmp 1) 2, type := 0, pos := "needs.go:113", after := #[{ on := 5, ground := Ground.guard }], guard := some (5, true) }) (v := ?_) rfl (by kernel_rfl) (by kernel_rfl) (by kernel_rfl) (fun _ _ _ h => h) (Or.inl ⟨by rfl, ?_⟩) hHeld ?_
  rotate_left
  · (intro w hSw; (try dsimp only at hSw); go_simp; try (with_reducible rfl))
  simp only [Act.put, List.setIfInBounds_toArray, List.set_cons_zero, List.set_cons_succ]
  refine wpAnyH_take (i := 7) (oi := { dst := some 11, op := Op.load 3 (Operand.tmp 10), type := 3, pos := "needs.go:113", after := #[{ on := 6, ground := Ground.data }, { on := 5, ground := Ground.guard }], guard := some (5, true) }) (v := ?_) rfl (by kernel_rfl) (by kernel_rfl) (by kernel_rfl) (fun _ _ _ h => h) (Or.inl ⟨by rfl, ?_⟩) hHeld ?_
  rotate_left
  · (intro w hSw; (try dsimp only at hSw); go_simp; try (with_reducible rfl))
  simp only [Act.put, List.setIfInBounds_toArray, List.set_cons_zero, List.set_cons_succ]
  refine wpAnyH_take (i := 8) (oi := { dst := some 12, op := Op.load 44 (Operand.tmp 3), type := 44, pos := "needs.go:113", after := #[{ on := 5, ground := Ground.guard }], guard := some (5, true) }) (v := ?_) rfl (by kernel_rfl) (by kernel_rfl) (by kernel_rfl) (fun _ _ _ h => h) (Or.inl ⟨by rfl, ?_⟩) hHeld ?_
  rotate_left
  · (intro w hSw; (try dsimp only at hSw); go_simp; try (with_reducible rfl))
  simp only [Act.put, List.setIfInBounds_toArray, List.set_cons_zero, List.set_cons_succ]
  refine wpAnyH_ready (rs := [9]) (by kernel_rfl) (by simp) ?_
  refine AllReadyH.cons (o := { dst := some 13, op := Op.call { callee := Callee.value (Operand.func 78), args := #[Operand.tmp 12], argTypes := #[44] }, type := 3, pos := "needs.go:113", after := #[{ on := 8, ground := Ground.data }, { on := 5, ground := Ground.chain }, { on := 5, ground := Ground.guard }], guard := some (5, true) }) rfl (fun K hK => ?_) AllReadyH.nil
  rw [if_pos (by rfl)]
  go_simp
  refine Calls.mono (hen2 _) ?_
  rintro e wn ⟨rfl, hbn⟩
  dsimp only
  replace hX := hX.kept hbn
  refine hK.out _ _ hX.rds (fun hHeld => ?_)
  clear hK K
  try simp only [Act.put, List.setIfInBounds_toArray, List.set_cons_zero, List.set_cons_succ]
  refine wpAnyH_take (i := 10) (oi := { dst := some 14, op := Op.binOp BinOp.lss 3 (Operand.tmp 11) (Operand.tmp 13) 3, type := 4, pos := "needs.go:113", after := #[{ on := 7, ground := Ground.data }, { on := 9, ground := Ground.data }, { on := 5, ground := Ground.guard }], guard := some (5, true) }) (v := ?_) rfl (by kernel_rfl) (by kernel_rfl) (by kernel_rfl) (fun _ _ _ h => h) (Or.inl ⟨by rfl, ?_⟩) hHeld ?_
  rotate_left
  · (intro w hSw; (try dsimp only at hSw); go_simp; try (with_reducible rfl))
  simp only [Act.put, List.setIfInBounds_toArray, List.set_cons_zero, List.set_cons_succ]
  refine wpAnyH_take (i := 11) (oi := { dst := some 15, op := Op.pick (Operand.tmp 9) (Operand.tmp 14) (Operand.const (Value.bool false)), type := 4, pos := "needs.go:113", after := #[{ on := 5, ground := Ground.data }, { on := 10, ground := Ground.data }], guard := none }) (v := ?_) rfl (by kernel_rfl) (by kernel_rfl) (by kernel_rfl) (fun _ _ _ h => h) (Or.inl ⟨by rfl, ?_⟩) hHeld ?_
  rotate_left
  · (intro w hSw; (try dsimp only at hSw); go_simp; try (with_reducible rfl))
  simp only [Act.put, List.setIfInBounds_toArray, List.set_cons_zero, List.set_cons_succ]
  refine wpAnyH_take (i := 12) (oi := { dst := some 16, op := Op.move (Operand.tmp 15), type := 4, pos := "needs.go:113", after := #[{ on := 11, ground := Ground.data }, { on := 9, ground := Ground.chain }], guard := none }) (v := ?_) rfl (by kernel_rfl) (by kernel_rfl) (by kernel_rfl) (fun _ _ _ h => h) (Or.inl ⟨by rfl, ?_⟩) hHeld ?_
  rotate_left
  · (intro w hSw; (try dsimp only at hSw); go_simp; try (with_reducible rfl))
  simp only [Act.put, List.setIfInBounds_toArray, List.set_cons_zero, List.set_cons_succ]
  refine wpAnyH_take (i := 13) (oi := { dst := some 17, op := Op.fieldAddr 44 (Operand.tmp 3) 2, type := 0, pos := "needs.go:113", after := #[{ on := 12, ground := Ground.guard }], guard := some (12, true) }) (v := ?_) rfl (by kernel_rfl) (by kernel_rfl) (by kernel_rfl) (fun _ _ _ h => h) (Or.inl ⟨by rfl, ?_⟩) hHeld ?_
  rotate_left
  · (intro w hSw; (try dsimp only at hSw); go_simp; try (with_reducible rfl))
  simp only [Act.put, List.setIfInBounds_toArray, List.set_cons_zero, List.set_cons_succ]
  refine wpAnyH_take (i := 14) (oi := { dst := some 18, op := Op.load 3 (Operand.tmp 17), type := 3, pos := "needs.go:113", after := #[{ on := 13, ground := Ground.data }, { on := 12, ground := Ground.guard }], guard := some (12, true) }) (v := ?_) rfl (by kernel_rfl) (by kernel_rfl) (by kernel_rfl) (fun _ _ _ h => h) (Or.inl ⟨by rfl, ?_⟩) hHeld ?_
  rotate_left
  · (intro w hSw; (try dsimp only at hSw); go_simp; try (with_reducible rfl))
  simp only [Act.put, List.setIfInBounds_toArray, List.set_cons_zero, List.set_cons_succ]
  refine wpAnyH_take (i := 15) (oi := { dst := some 19, op := Op.load 44 (Operand.tmp 1), type := 44, pos := "needs.go:113", after := #[{ on := 12, ground := Ground.guard }], guard := some (12, true) }) (v := ?_) rfl (by kernel_rfl) (by kernel_rfl) (by kernel_rfl) (fun _ _ _ h => h) (Or.inl ⟨by rfl, ?_⟩) hHeld ?_
  rotate_left
  · (intro w hSw; (try dsimp only at hSw); go_simp; try (with_reducible rfl))
  simp only [Act.put, List.setIfInBounds_toArray, List.set_cons_zero, List.set_cons_succ]
  refine wpAnyH_ready (rs := [16]) (by kernel_rfl) (by simp) ?_
  refine AllReadyH.cons (o := { dst := some 20, op := Op.call { callee := Callee.value (Operand.func 78), args := #[Operand.tmp 19], argTypes := #[44] }, type := 3, pos := "needs.go:113", after := #[{ on := 15, ground := Ground.data }, { on := 12, ground := Ground.chain }, { on := 12, ground := Ground.guard }], guard := some (12, true) }) rfl (fun K hK => ?_) AllReadyH.nil
  rw [if_pos (by rfl)]
  go_simp
  refine Calls.mono (hen1 _) ?_
  rintro e wn ⟨rfl, hbn⟩
  dsimp only
  replace hX := hX.kept hbn
  refine hK.out _ _ hX.rds (fun hHeld => ?_)
  clear hK K
  try simp only [Act.put, List.setIfInBounds_toArray, List.set_cons_zero, List.set_cons_succ]
  refine wpAnyH_take (i := 17) (oi := { dst := some 21, op := Op.binOp BinOp.lss 3 (Operand.tmp 18) (Operand.tmp 20) 3, type := 4, pos := "needs.go:113", after := #[{ on := 14, ground := Ground.data }, { on := 16, ground := Ground.data }, { on := 12, ground := Ground.guard }], guard := some (12, true) }) (v := ?_) rfl (by kernel_rfl) (by kernel_rfl) (by kernel_rfl) (fun _ _ _ h => h) (Or.inl ⟨by rfl, ?_⟩) hHeld ?_
  rotate_left
  · (intro w hSw; (try dsimp only at hSw); go_simp; try (with_reducible rfl))
  simp only [Act.put, List.setIfInBounds_toArray, List.set_cons_zero, List.set_cons_succ]
  refine wpAnyH_take (i := 18) (oi := { dst := some 22, op := Op.pick (Operand.tmp 16) (Operand.tmp 21) (Operand.const (Value.bool false)), type := 4, pos := "needs.go:113", after := #[{ on := 12, ground := Ground.data }, { on := 17, ground := Ground.data }], guard := none }) (v := ?_) rfl (by kernel_rfl) (by kernel_rfl) (by kernel_rfl) (fun _ _ _ h => h) (Or.inl ⟨by rfl, ?_⟩) hHeld ?_
  rotate_left
  · (intro w hSw; (try dsimp only at hSw); go_simp; try (with_reducible rfl))
  simp only [Act.put, List.setIfInBounds_toArray, List.set_cons_zero, List.set_cons_succ]
  refine wpAnyH_done (by kernel_rfl) ?_ _
  refine NoPanic.normal ?_
  go_wp2
  go_end0
  rw [HA.out]
  exact ⟨rfl, iv, hX.an⟩

set_option maxRecDepth 100000 in
set_option maxHeartbeats 4000000 in
theorem an1_yes {B T : Nat} {w0 w : World} {a mp mb last : Nat} {P : List Pv} {K : Int → Option Value} {p : Pv} {gp gi : Nat} {iv : Value} {I : List Int} (h : AN B T w0 w a mp mb last P K p gp gi iv I) (hp : Tw P p) (q : Pv) (hq : q ∈ P) (hI : I.length ≤ 100000) (h1 : q.id < p.id) (h2 : p.off < endP q) (h3 : q.off < endP p) :
    Calls Try.prog 77 #[q.v, .pointer (some ⟨gp, 0, none⟩), .pointer (some ⟨gi, 0, none⟩)] w
      fun e w' => e = .returned (.tuple #[]) ∧ ∃ iv', AN B T w0 w' a mp mb last P K p gp gi iv' (anI p q I) := by
  obtain ⟨W, hW⟩ : ∃ W, w.alloc (.cells q.cells 44) = W := ⟨_, rfl⟩
  have hbW : Below w.heap.size w W := by rw [← hW]; exact (Below.refl _ w).alloc (Nat.le_refl _) _
  have hX : AQ B T w0 W a mp mb last P K p q gp gi w.heap.size iv I := ⟨h.kept hbW, by rw [← hW]; exact at_new rfl⟩
  replace hX := hX.kept ((Below.refl _ _).drew)
  have hv : q.v = .agg q.cells := rfl
  have hpi : 1 ≤ p.id ∧ p.id ≤ last ∧ p.blk ≤ 9223372036854775807 ∧ 1 ≤ p.bs.length ∧ p.off + p.bs.length ≤ 128 := by obtain ⟨_, _, hp⟩ := hp; have := h.ps.ids _ hp; exact this
  have hqi := h.ps.ids q hq
  have hsm := h.ps.sml
  have hen1 : ∀ w, Calls Try.prog 78 #[.agg #[.int .i64 (p.id : Int), .int .i64 (p.blk : Int), .int .i64 (p.off : Int), .slice p.bp p.bs.length p.bc, .slice p.np p.nd.length p.nc]] w fun e w' => e = .returned (.int .i64 (endP p : Int)) ∧ Below w.heap.size w w' := fun w => end_ok p w (by omega)
  have hen2 : ∀ w, Calls Try.prog 78 #[.agg #[.int .i64 (q.id : Int), .int .i64 (q.blk : Int), .int .i64 (q.off : Int), .slice q.bp q.bs.length q.bc, .slice q.np q.nd.length q.nc]] w fun e w' => e = .returned (.int .i64 (endP q : Int)) ∧ Below w.heap.size w w' := fun w => end_ok q w (by omega)
  have hep : endP p ≤ 128 := by unfold endP; omega
  have heq : endP q ≤ 128 := by unfold endP; omega
  clear hbW
  go_enter Try.func77, Try.ntmps77
  go_wp2_with fail
  generalize w.heap.size = gq at *
  clear hW
  obtain ⟨r0, r1, r2, r3, r4, r5, r6, r7, r8, r9⟩ := hX.rds
  have h1' : (q.id : Int) < (p.id : Int) := by omega
  have h2' : (p.off : Int) < (endP q : Int) := by omega
  have h3' : (q.off : Int) < (endP p : Int) := by omega
  refine wp_region_noPanic ?_
  refine wp_region_held_drew (S := (fun w' => w'.cell? ⟨gp, 0, none⟩ = some (.int .i64 (p.id : Int)) ∧ w'.cell? ⟨gp, 1, none⟩ = some (.int .i64 (p.blk : Int)) ∧ w'.cell? ⟨gp, 2, none⟩ = some (.int .i64 (p.off : Int)) ∧ w'.cell? ⟨gp, 3, none⟩ = some (.slice p.bp p.bs.length p.bc) ∧ w'.cell? ⟨gp, 4, none⟩ = some (.slice p.np p.nd.length p.nc) ∧
  w'.cell? ⟨gq, 0, none⟩ = some (.int .i64 (q.id : Int)) ∧ w'.cell? ⟨gq, 1, none⟩ = some (.int .i64 (q.blk : Int)) ∧ w'.cell? ⟨gq, 2, none⟩ = some (.int .i64 (q.off : Int)) ∧ w'.cell? ⟨gq, 3, none⟩ = some (.slice q.bp q.bs.length q.bc) ∧ w'.cell? ⟨gq, 4, none⟩ = some (.slice q.np q.nd.length q.nc))) (by kernel_rfl) ⟨r0, r1, r2, r3, r4, r5, r6, r7, r8, r9⟩ (fun hHeld => ?_)
  refine wpAnyH_take (i := 0) (oi := { dst := some 4, op := Op.fieldAddr 44 (Operand.tmp 3) 0, type := 0, pos := "needs.go:113", after := #[], guard := none }) (v := ?_) rfl (by kernel_rfl) (by kernel_rfl) (by kernel_rfl) (fun _ _ _ h => h) (Or.inl ⟨by rfl, ?_⟩) hHeld ?_
  rotate_left
  · (intro w hSw; (try dsimp only at hSw); go_simp; try (with_reducible rfl))
  simp only [Act.put, List.setIfInBounds_toArray, List.set_cons_zero, List.set_cons_succ]
  refine wpAnyH_take (i := 1) (oi := { dst := some 5, op := Op.load 3 (Operand.tmp 4), type := 3, pos := "needs.go:113", after := #[{ on := 0, ground := Ground.data }], guard := none }) (v := ?_) rfl (by kernel_rfl) (by kernel_rfl) (by kernel_rfl) (fun _ _ _ h => h) (Or.inl ⟨by rfl, ?_⟩) hHeld ?_
  rotate_left
  · (intro w hSw; (try dsimp only at hSw); go_simp; try (with_reducible rfl))
  simp only [Act.put, List.setIfInBounds_toArray, List.set_cons_zero, List.set_cons_succ]
  refine wpAnyH_take (i := 2) (oi := { dst := some 6, op := Op.fieldAddr 44 (Operand.tmp 1) 0, type := 0, pos := "needs.go:113", after := #[], guard := none }) (v := ?_) rfl (by kernel_rfl) (by kernel_rfl) (by kernel_rfl) (fun _ _ _ h => h) (Or.inl ⟨by rfl, ?_⟩) hHeld ?_
  rotate_left
  · (intro w hSw; (try dsimp only at hSw); go_simp; try (with_reducible rfl))
  simp only [Act.put, List.setIfInBounds_toArray, List.set_cons_zero, List.set_cons_succ]
  refine wpAnyH_take (i := 3) (oi := { dst := some 7, op := Op.load 3 (Operand.tmp 6), type := 3, pos := "needs.go:113", after := #[{ on := 2, ground := Ground.data }], guard := none }) (v := ?_) rfl (by kernel_rfl) (by kernel_rfl) (by kernel_rfl) (fun _ _ _ h => h) (Or.inl ⟨by rfl, ?_⟩) hHeld ?_
  rotate_left
  · (intro w hSw; (try dsimp only at hSw); go_simp; try (with_reducible rfl))
  simp only [Act.put, List.setIfInBounds_toArray, List.set_cons_zero, List.set_cons_succ]
  refine wpAnyH_take (i := 4) (oi := { dst := some 8, op := Op.binOp BinOp.lss 3 (Operand.tmp 5) (Operand.tmp 7) 3, type := 4, pos := "needs.go:113", after := #[{ on := 1, ground := Ground.data }, { on := 3, ground := Ground.data }], guard := none }) (v := ?_) rfl (by kernel_rfl) (by kernel_rfl) (by kernel_rfl) (fun _ _ _ h => h) (Or.inl ⟨by rfl, ?_⟩) hHeld ?_
  rotate_left
  · (intro w hSw; (try dsimp only at hSw); go_simp; try (with_reducible rfl))
  simp only [Act.put, List.setIfInBounds_toArray, List.set_cons_zero, List.set_cons_succ]
  refine wpAnyH_take (i := 5) (oi := { dst := some 9, op := Op.move (Operand.tmp 8), type := 4, pos := "needs.go:113", after := #[{ on := 4, ground := Ground.data }], guard := none }) (v := ?_) rfl (by kernel_rfl) (by kernel_rfl) (by kernel_rfl) (fun _ _ _ h => h) (Or.inl ⟨by rfl, ?_⟩) hHeld ?_
  rotate_left
  · (intro w hSw; (try dsimp only at hSw); go_simp; try (with_reducible rfl))
  simp only [Act.put, List.setIfInBounds_toArray, List.set_cons_zero, List.set_cons_succ]
  refine wpAnyH_take (i := 6) (oi := { dst := some 10, op := Op.fieldAddr 44 (Operand.tmp 1) 2, type := 0, pos := "needs.go:113", after := #[{ on := 5, ground := Ground.guard }], guard := some (5, true) }) (v := ?_) rfl (by kernel_rfl) (by kernel_rfl) (by kernel_rfl) (fun _ _ _ h => h) (Or.inl ⟨by rfl, ?_⟩) hHeld ?_
  rotate_left
  · (intro w hSw; (try dsimp only at hSw); go_simp; try (with_reducible rfl))
  simp only [Act.put, List.setIfInBounds_toArray, List.set_cons_zero, List.set_cons_succ]
  refine wpAnyH_take (i := 7) (oi := { dst := some 11, op := Op.load 3 (Operand.tmp 10), type := 3, pos := "needs.go:113", after := #[{ on := 6, ground := Ground.data }, { on := 5, ground := Ground.guard }], guard := some (5, true) }) (v := ?_) rfl (by kernel_rfl) (by kernel_rfl) (by kernel_rfl) (fun _ _ _ h => h) (Or.inl ⟨by rfl, ?_⟩) hHeld ?_
  rotate_left
  · (intro w hSw; (try dsimp only at hSw); go_simp; try (with_reducible rfl))
  simp only [Act.put, List.setIfInBounds_toArray, List.set_cons_zero, List.set_cons_succ]
  refine wpAnyH_take (i := 8) (oi := { dst := some 12, op := Op.load 44 (Operand.tmp 3), type := 44, pos := "needs.go:113", after := #[{ on := 5, ground := Ground.guard }], guard := some (5, true) }) (v := ?_) rfl (by kernel_rfl) (by kernel_rfl) (by kernel_rfl) (fun _ _ _ h => h) (Or.inl ⟨by rfl, ?_⟩) hHeld ?_
  rotate_left
  · (intro w hSw; (try dsimp only at hSw); go_simp; try (with_reducible rfl))
  simp only [Act.put, List.setIfInBounds_toArray, List.set_cons_zero, List.set_cons_succ]
  refine wpAnyH_ready (rs := [9]) (by kernel_rfl) (by simp) ?_
  refine AllReadyH.cons (o := { dst := some 13, op := Op.call { callee := Callee.value (Operand.func 78), args := #[Operand.tmp 12], argTypes := #[44] }, type := 3, pos := "needs.go:113", after := #[{ on := 8, ground := Ground.data }, { on := 5, ground := Ground.chain }, { on := 5, ground := Ground.guard }], guard := some (5, true) }) rfl (fun K hK => ?_) AllReadyH.nil
  rw [if_pos (by rfl)]
  go_simp
  refine Calls.mono (hen2 _) ?_
  rintro e wn ⟨rfl, hbn⟩
  dsimp only
  replace hX := hX.kept hbn
  refine hK.out _ _ hX.rds (fun hHeld => ?_)
  clear hK K
  try simp only [Act.put, List.setIfInBounds_toArray, List.set_cons_zero, List.set_cons_succ]
  refine wpAnyH_take (i := 10) (oi := { dst := some 14, op := Op.binOp BinOp.lss 3 (Operand.tmp 11) (Operand.tmp 13) 3, type := 4, pos := "needs.go:113", after := #[{ on := 7, ground := Ground.data }, { on := 9, ground := Ground.data }, { on := 5, ground := Ground.guard }], guard := some (5, true) }) (v := ?_) rfl (by kernel_rfl) (by kernel_rfl) (by kernel_rfl) (fun _ _ _ h => h) (Or.inl ⟨by rfl, ?_⟩) hHeld ?_
  rotate_left
  · (intro w hSw; (try dsimp only at hSw); go_simp; try (with_reducible rfl))
  simp only [Act.put, List.setIfInBounds_toArray, List.set_cons_zero, List.set_cons_succ]
  refine wpAnyH_take (i := 11) (oi := { dst := some 15, op := Op.pick (Operand.tmp 9) (Operand.tmp 14) (Operand.const (Value.bool false)), type := 4, pos := "needs.go:113", after := #[{ on := 5, ground := Ground.data }, { on := 10, ground := Ground.data }], guard := none }) (v := ?_) rfl (by kernel_rfl) (by kernel_rfl) (by kernel_rfl) (fun _ _ _ h => h) (Or.inl ⟨by rfl, ?_⟩) hHeld ?_
  rotate_left
  · (intro w hSw; (try dsimp only at hSw); go_simp; try (with_reducible rfl))
  simp only [Act.put, List.setIfInBounds_toArray, List.set_cons_zero, List.set_cons_succ]
  refine wpAnyH_take (i := 12) (oi := { dst := some 16, op := Op.move (Operand.tmp 15), type := 4, pos := "needs.go:113", after := #[{ on := 11, ground := Ground.data }, { on := 9, ground := Ground.chain }], guard := none }) (v := ?_) rfl (by kernel_rfl) (by kernel_rfl) (by kernel_rfl) (fun _ _ _ h => h) (Or.inl ⟨by rfl, ?_⟩) hHeld ?_
  rotate_left
  · (intro w hSw; (try dsimp only at hSw); go_simp; try (with_reducible rfl))
  simp only [Act.put, List.setIfInBounds_toArray, List.set_cons_zero, List.set_cons_succ]
  refine wpAnyH_take (i := 13) (oi := { dst := some 17, op := Op.fieldAddr 44 (Operand.tmp 3) 2, type := 0, pos := "needs.go:113", after := #[{ on := 12, ground := Ground.guard }], guard := some (12, true) }) (v := ?_) rfl (by kernel_rfl) (by kernel_rfl) (by kernel_rfl) (fun _ _ _ h => h) (Or.inl ⟨by rfl, ?_⟩) hHeld ?_
  rotate_left
  · (intro w hSw; (try dsimp only at hSw); go_simp; try (with_reducible rfl))
  simp only [Act.put, List.setIfInBounds_toArray, List.set_cons_zero, List.set_cons_succ]
  refine wpAnyH_take (i := 14) (oi := { dst := some 18, op := Op.load 3 (Operand.tmp 17), type := 3, pos := "needs.go:113", after := #[{ on := 13, ground := Ground.data }, { on := 12, ground := Ground.guard }], guard := some (12, true) }) (v := ?_) rfl (by kernel_rfl) (by kernel_rfl) (by kernel_rfl) (fun _ _ _ h => h) (Or.inl ⟨by rfl, ?_⟩) hHeld ?_
  rotate_left
  · (intro w hSw; (try dsimp only at hSw); go_simp; try (with_reducible rfl))
  simp only [Act.put, List.setIfInBounds_toArray, List.set_cons_zero, List.set_cons_succ]
  refine wpAnyH_take (i := 15) (oi := { dst := some 19, op := Op.load 44 (Operand.tmp 1), type := 44, pos := "needs.go:113", after := #[{ on := 12, ground := Ground.guard }], guard := some (12, true) }) (v := ?_) rfl (by kernel_rfl) (by kernel_rfl) (by kernel_rfl) (fun _ _ _ h => h) (Or.inl ⟨by rfl, ?_⟩) hHeld ?_
  rotate_left
  · (intro w hSw; (try dsimp only at hSw); go_simp; try (with_reducible rfl))
  simp only [Act.put, List.setIfInBounds_toArray, List.set_cons_zero, List.set_cons_succ]
  refine wpAnyH_ready (rs := [16]) (by kernel_rfl) (by simp) ?_
  refine AllReadyH.cons (o := { dst := some 20, op := Op.call { callee := Callee.value (Operand.func 78), args := #[Operand.tmp 19], argTypes := #[44] }, type := 3, pos := "needs.go:113", after := #[{ on := 15, ground := Ground.data }, { on := 12, ground := Ground.chain }, { on := 12, ground := Ground.guard }], guard := some (12, true) }) rfl (fun K hK => ?_) AllReadyH.nil
  rw [if_pos (by rfl)]
  go_simp
  refine Calls.mono (hen1 _) ?_
  rintro e wn ⟨rfl, hbn⟩
  dsimp only
  replace hX := hX.kept hbn
  refine hK.out _ _ hX.rds (fun hHeld => ?_)
  clear hK K
  try simp only [Act.put, List.setIfInBounds_toArray, List.set_cons_zero, List.set_cons_succ]
  refine wpAnyH_take (i := 17) (oi := { dst := some 21, op := Op.binOp BinOp.lss 3 (Operand.tmp 18) (Operand.tmp 20) 3, type := 4, pos := "needs.go:113", after := #[{ on := 14, ground := Ground.data }, { on := 16, ground := Ground.data }, { on := 12, ground := Ground.guard }], guard := some (12, true) }) (v := ?_) rfl (by kernel_rfl) (by kernel_rfl) (by kernel_rfl) (fun _ _ _ h => h) (Or.inl ⟨by rfl, ?_⟩) hHeld ?_
  rotate_left
  · (intro w hSw; (try dsimp only at hSw); go_simp; try (with_reducible rfl))
  simp only [Act.put, List.setIfInBounds_toArray, List.set_cons_zero, List.set_cons_succ]
  refine wpAnyH_take (i := 18) (oi := { dst := some 22, op := Op.pick (Operand.tmp 16) (Operand.tmp 21) (Operand.const (Value.bool false)), type := 4, pos := "needs.go:113", after := #[{ on := 12, ground := Ground.data }, { on := 17, ground := Ground.data }], guard := none }) (v := ?_) rfl (by kernel_rfl) (by kernel_rfl) (by kernel_rfl) (fun _ _ _ h => h) (Or.inl ⟨by rfl, ?_⟩) hHeld ?_
  rotate_left
  · (intro w hSw; (try dsimp only at hSw); go_simp; try (with_reducible rfl))
  simp only [Act.put, List.setIfInBounds_toArray, List.set_cons_zero, List.set_cons_succ]
  refine wpAnyH_done (by kernel_rfl) ?_ _
  refine NoPanic.normal ?_
  clear hHeld
  have HA : Hid (anI p q I = I ++ [(q.id : Int)]) := by show _ = _; unfold anI und; simp [h1, h2, h3]
  have cg : wn.cell? ⟨gi, 0, none⟩ = some iv := by rw [cell_of_row _ _ 0 _ 30 _ hX.an.ri]; rfl
  have cq : wn.cell? ⟨gq, 0, none⟩ = some (.int .i64 (q.id : Int)) := (cells5 hX.rq).1
  have hN := hX.an.ids
  have hT := hX.an.hT
  obtain ⟨i0, hi, hz0, hz1, hz2⟩ := info_parts info3
  clear r0 r1 r2 r3 r4 r5 r6 r7 r8 r9 hen1 hen2
  go_wp2_with (first
    | (at_builtin; refine wpList_append_own _ rfl _ _ 30 rfl T 3 i0 (.int .i64 0) 1 8 Try.underlying30 hi hz0 hz1 hz2 rfl (by decide) _ _ _ rfl (World.ownsRow.alloc hN _) ⟨wn.heap.size, 0, none⟩ 1 1 [.int .i64 (q.id : Int)] rfl rfl (cell_one_new _ _ _) (by simp [Value.oneCell']) (by unfold maxLen; omega) (by omega) (by simp; omega) ?_; intro v' w5 hown hgrow _; have hown := Nums.snoc hown; obtain ⟨g', cap', rfl⟩ := Nums.succ hown; have hgrow' : (wn.alloc (.cells #[.int .i64 (q.id : Int)] 3)).grownBy w5 iv.ownBlock := hgrow; have r5 := grown_at hN hgrow' hX.an.ri (fun cs e => by simp at e); have c5 : w5.cell? ⟨gi, 0, none⟩ = some iv := (by rw [cell_of_row _ _ 0 _ 30 _ r5]; rfl); have f5 : w5.frozen? ⟨gi, 0, none⟩ = false := (by simp [World.frozen?, r5])))
  go_end0
  refine ⟨rfl, .slice (some ⟨g', 0, none⟩) (I.length + 1) cap', ?_⟩
  rw [HA.out]
  exact hX.an.store hgrow' hown

theorem an1_ok {B T : Nat} {w0 w : World} {a mp mb last : Nat} {P : List Pv} {K : Int → Option Value} {p : Pv} {gp gi : Nat} {iv : Value} {I : List Int} (h : AN B T w0 w a mp mb last P K p gp gi iv I) (hp : Tw P p) (q : Pv) (hq : q ∈ P) (hI : I.length ≤ 100000) :
    Calls Try.prog 77 #[q.v, .pointer (some ⟨gp, 0, none⟩), .pointer (some ⟨gi, 0, none⟩)] w
      fun e w' => e = .returned (.tuple #[]) ∧ ∃ iv', AN B T w0 w' a mp mb last P K p gp gi iv' (anI p q I) := by
  by_cases h1 : q.id < p.id
  · by_cases h2 : p.off < endP q
    · by_cases h3 : q.off < endP p
      · exact an1_yes h hp q hq hI h1 h2 h3
      · exact an1_no3 h hp q hq h1 h2 h3
    · exact an1_no2 h hp q hq h1 h2
  · exact an1_no1 h hp q hq h1
end Go.Proofs.Yteapkfnklbhdfaa
