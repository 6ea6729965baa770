/- InodeNobody: what is lacking in the texts of InodeClears. -/
import Derived.Test.YthdlpeejmmobmaaGreatYC01
import Derived.Test.YthdlpeejmmobmaaGreatYC02
import Derived.Test.YthdlpeejmmobmaaGreatYC03
import Derived.Test.YthdlpeejmmobmaaGreatYC04
import Derived.Test.YthdlpeejmmobmaaGreatYC05
import Derived.Test.YthdlpeejmmobmaaGreatYC06
import Derived.Test.YthdlpeejmmobmaaGreatYC07
import Derived.Test.YthdlpeejmmobmaaGreatYC08
import Derived.Test.YthdlpeejmmobmaaGreatYC09
import Derived.Test.YthdlpeejmmobmaaGreatYC10
import Derived.Test.YthdlpeejmmobmaaGreatYC11
import Derived.Test.YthdlpeejmmobmaaGreatYC12
import Derived.Test.YthdlpeejmmobmaaGreatYC13
import Derived.Test.YthdlpeejmmobmaaGreatYC14
import Derived.Test.YthdlpeejmmobmaaGreatYC15
import Derived.Test.YthdlpeejmmobmaaGreatYC16
import Derived.Test.YthdlpeejmmobmaaGreatYC17
import Derived.Test.YthdlpeejmmobmaaGreatYC18
import Derived.Test.YthdlpeejmmobmaaGreatYC19
import Derived.Test.YthdlpeejmmobmaaGreatYC20
import Derived.Test.YthdlpeejmmobmaaGreatYC21
import Derived.Test.YthdlpeejmmobmaaGreatYC22
import Derived.Test.YthdlpeejmmobmaaGreatYC23
import Derived.Test.YthdlpeejmmobmaaGreatYC24
import Derived.Test.YthdlpeejmmobmaaGreatYC25
import Derived.Test.YthdlpeejmmobmaaGreatYC26
import Derived.Test.YthdlpeejmmobmaaGreatYC27
import Derived.Test.YthdlpeejmmobmaaGreatYC28
import Derived.Test.YthdlpeejmmobmaaGreatYC29
import Derived.Test.YthdlpeejmmobmaaGreatYC30
import Derived.Test.YthdlpeejmmobmaaGreatYC31
import Derived.Test.YthdlpeejmmobmaaGreatYC32
import Derived.Test.YthdlpeejmmobmaaGreatYC33
import Derived.Test.YthdlpeejmmobmaaGreatYC34
import Derived.Test.YthdlpeejmmobmaaGreatYC35
import Derived.Test.YthdlpeejmmobmaaGreatYC36
import Derived.Test.YthdlpeejmmobmaaGreatYC37
import Derived.Test.YthdlpeejmmobmaaGreatYC38
import Derived.Test.YthdlpeejmmobmaaGreatYC39
import Derived.Test.YthdlpeejmmobmaaGreatYC40
import Derived.Test.YthdlpeejmmobmaaGreatYC41
import Derived.Test.YthdlpeejmmobmaaGreatYC42
import Derived.Test.YthdlpeejmmobmaaGreatYC43
import Derived.Test.YthdlpeejmmobmaaGreatYC44
import Derived.Test.YthdlpeejmmobmaaGreatYC45
import Derived.Test.YthdlpeejmmobmaaGreatYC46
namespace Go.Proofs.YthdlpeejmmobmaaGreat
open Go.RowKit Go.Maps Go.MuLone
set_option linter.unusedVariables false
set_option maxRecDepth 100000

def VVoid (w : World) (v : Value) : Prop := v = .pointer none ∨ ∃ z, v = .pointer (some ⟨z, 0, none⟩) ∧ w.cell? ⟨z, 2, none⟩ = some (.pointer none)

section
variable {w : World} {v : Value}
set_option maxHeartbeats 400000 in
theorem vmade_void (h : VVoid w v) : Calls Tryz.prog 46 #[v] w fun e w' => e = .returned (.bool false) ∧ w' = w := by
  rcases h with rfl | ⟨z, rfl, hc⟩
  · go_enter Tryz.func46, Tryz.ntmps46
    go_wp2
    go_ret
    exact ⟨rfl, rfl⟩
  · go_enter Tryz.func46, Tryz.ntmps46
    go_wp2
    go_ret
    exact ⟨rfl, rfl⟩
set_option maxHeartbeats 400000 in
theorem vblocks_void (h : VVoid w v)  : Calls Tryz.prog 13 #[v] w fun e w' => e = .returned (.int .i64 0) ∧ w' = w := by
  have hm := vmade_void h
  go_enter Tryz.func13, Tryz.ntmps13
  go_wp2_with (first | (go_at_call 46; refine same_at hm ?_))
  go_ret
  exact ⟨rfl, rfl⟩
end
theorem VVoid.kept {w w' : World} {v : Value} (h : VVoid w v) (hb : Below w.heap.size w w') : VVoid w' v := by
  rcases h with rfl | ⟨z, rfl, hc⟩
  · exact .inl rfl
  · exact .inr ⟨z, rfl, (hb.cell (p := ⟨z, 2, none⟩) (lt_of_cell hc)).trans hc⟩
abbrev dZ : Value := Mk.dinV 0 0 0 0 0 0 0 0 0

abbrev dinA : Array Value := #[.int .i64 0, .int .i64 0, .int .i64 0, .int .i64 0, .int .i64 0, .int .i64 0, .int .i64 0, .int .i64 0, .int .i64 0]
abbrev dinZ : Obj := .cells dinA 75
section
variable {w : World} {v : Value} {G B I : Int}
set_option maxHeartbeats 400000 in
theorem irefusal_void (h : VVoid w v) : Calls Tryz.prog 88 #[v, Mk.geomV G B I] w fun e w' => e = .returned (.int .i64 2) ∧ Below w.heap.size w w' := by
  have hb1 : Below w.heap.size w (w.alloc (Mk.geomO G B I)) := Mk.grew_alloc _ _
  have hv := vblocks_void (h.kept hb1)
  go_enter Tryz.func88, Tryz.ntmps88
  go_wp2_with (first | (go_at_call 13; refine same_at hv ?_))
  go_ret
  exact ⟨rfl, hb1⟩
set_option maxHeartbeats 400000 in
theorem irefusalInode_void (h : VVoid w v) (n m : Int) : Calls Tryz.prog 75 #[v, Mk.geomV G B I, .int .i64 n, .int .i64 m] w fun e w' => e = .returned (.int .i64 2) ∧ Below w.heap.size w w' := by
  obtain ⟨W1, hW1⟩ : ∃ W1, w.alloc (Mk.geomO G B I) = W1 := ⟨_, rfl⟩
  have hb1 : Below w.heap.size w W1 := by rw [← hW1]; exact Mk.grew_alloc _ _
  have hg1 : W1.heap[w.heap.size]? = some (Mk.geomO G B I) := by rw [← hW1]; exact at_new rfl
  have hv := irefusal_void (G := G) (B := B) (I := I) (h.kept hb1)
  have c0 := (g3_of hg1).c0
  have c1 := (g3_of hg1).c1
  have c2 := (g3_of hg1).c2
  go_enter Tryz.func75, Tryz.ntmps75
  go_wp2_with fail
  refine Mk.grew_at hv ?_
  intro w2 hb2
  have HB : Hid (Below w.heap.size w w2) := Mk.grew_trans hb1 hb2
  clear hv hg1 hb1 hb2 c0 c1 c2
  dsimp only
  go_wp2_with fail
  go_ret
  exact ⟨rfl, HB.out⟩
set_option maxHeartbeats 400000 in
theorem iget_void (h : VVoid w v) (n : Int) : Calls Tryz.prog 29 #[v, Mk.geomV G B I, .int .i64 n] w fun e w' => e = .returned (.tuple #[dZ, .int .i64 2]) ∧ Below w.heap.size w w' := by
  obtain ⟨W1, hW1⟩ : ∃ W1, (w.alloc (Mk.geomO G B I)).alloc dinZ = W1 := ⟨_, rfl⟩
  have hb1 : Below w.heap.size w W1 := by rw [← hW1]; exact ((Below.refl _ _).alloc (Nat.le_refl _) _).alloc (by simp) _
  have hg1 : W1.heap[w.heap.size]? = some (Mk.geomO G B I) := by rw [← hW1]; exact at_old (at_new rfl)
  have hd1 : W1.heap[w.heap.size + 1]? = some dinZ := by rw [← hW1]; exact at_new (by simp)
  have hv := irefusalInode_void (G := G) (B := B) (I := I) (h.kept hb1) n 0
  have c0 := (g3_of hg1).c0
  have c1 := (g3_of hg1).c1
  have c2 := (g3_of hg1).c2
  go_enter Tryz.func29, Tryz.ntmps29
  go_wp2_with fail
  refine Mk.grew_at hv ?_
  intro w2 hb2
  have HB : Hid (Below w.heap.size w w2) := Mk.grew_trans hb1 hb2
  have hd2 : w2.heap[w.heap.size + 1]? = some dinZ := (hb2.block _ (Array.getElem?_eq_some_iff.1 hd1).1).trans hd1
  clear hd1
  clear hv hg1 hb1 hb2 c0 c1 c2
  dsimp only
  go_wp2_with (first
    | (refine wpList_store_row rfl 75 _ _ rfl (w.heap.size + 1) dinA rfl rfl 75 _ hd2 (dinC_info 0 0 0 (fun _ => 0)) rfl (dinC_one 0 0 0 (fun _ => 0)) ?_))
  refine bodyPost_ret (v := .tuple #[dZ, .int .i64 2]) (Mk.results_cell_tmp_row (p := 6) (u := 7) (ty := 75) Tryz.results29 _ _ (w.heap.size + 1) 75 _ (0, 0) _ rfl (setRow_heap _ _ _ _ 75 _ hd2) Tryz.underlying75 rfl (dinC_info 0 0 0 (fun _ => 0))) rfl ?_
  exact ⟨rfl, below_setRow HB.out (by omega) _⟩
set_option maxHeartbeats 400000 in
theorem iput_void (h : VVoid w v) (n : Int) : Calls Tryz.prog 32 #[v, Mk.geomV G B I, .int .i64 n, dZ, .slice none 0 0] w fun e w' => e = .returned (.tuple #[.int .i64 0, .int .i64 2]) ∧ Below w.heap.size w w' := by
  obtain ⟨W1, hW1⟩ : ∃ W1, (w.alloc (Mk.geomO G B I)).alloc dinZ = W1 := ⟨_, rfl⟩
  have hb1 : Below w.heap.size w W1 := by rw [← hW1]; exact ((Below.refl _ _).alloc (Nat.le_refl _) _).alloc (by simp) _
  have hg1 : W1.heap[w.heap.size]? = some (Mk.geomO G B I) := by rw [← hW1]; exact at_old (at_new rfl)
  have hv := irefusalInode_void (G := G) (B := B) (I := I) (h.kept hb1) n 0
  have c0 := (g3_of hg1).c0
  have c1 := (g3_of hg1).c1
  have c2 := (g3_of hg1).c2
  go_enter Tryz.func32, Tryz.ntmps32
  go_wp2_with fail
  refine Mk.grew_at hv ?_
  intro w2 hb2
  have HB : Hid (Below w.heap.size w w2) := Mk.grew_trans hb1 hb2
  clear hv hg1 hb1 hb2 c0 c1 c2
  dsimp only
  go_wp2_with fail
  go_ret2
  exact ⟨rfl, HB.out⟩
set_option maxHeartbeats 400000 in
theorem iaddr_void (h : VVoid w v) (n : Int) : Calls Tryz.prog 33 #[v, Mk.geomV G B I, dZ, .int .i64 n] w fun e w' => e = .returned (.tuple #[.int .i64 0, .int .i64 2]) ∧ Below w.heap.size w w' := by
  obtain ⟨W1, hW1⟩ : ∃ W1, (w.alloc (Mk.geomO G B I)).alloc dinZ = W1 := ⟨_, rfl⟩
  have hb1 : Below w.heap.size w W1 := by rw [← hW1]; exact ((Below.refl _ _).alloc (Nat.le_refl _) _).alloc (by simp) _
  have hg1 : W1.heap[w.heap.size]? = some (Mk.geomO G B I) := by rw [← hW1]; exact at_old (at_new rfl)
  have hv := irefusal_void (G := G) (B := B) (I := I) (h.kept hb1)
  have c0 := (g3_of hg1).c0
  have c1 := (g3_of hg1).c1
  have c2 := (g3_of hg1).c2
  go_enter Tryz.func33, Tryz.ntmps33
  go_wp2_with fail
  refine Mk.grew_at hv ?_
  intro w2 hb2
  have HB : Hid (Below w.heap.size w w2) := Mk.grew_trans hb1 hb2
  clear hv hg1 hb1 hb2 c0 c1 c2
  dsimp only
  go_wp2_with fail
  go_ret2
  exact ⟨rfl, HB.out⟩
set_option maxHeartbeats 400000 in
theorem ispan_void (h : VVoid w v) : Calls Tryz.prog 34 #[v, Mk.geomV G B I, dZ] w fun e w' => e = .returned (.tuple #[.slice none 0 0, .int .i64 2]) ∧ Below w.heap.size w w' := by
  obtain ⟨W1, hW1⟩ : ∃ W1, (w.alloc (Mk.geomO G B I)).alloc dinZ = W1 := ⟨_, rfl⟩
  have hb1 : Below w.heap.size w W1 := by rw [← hW1]; exact ((Below.refl _ _).alloc (Nat.le_refl _) _).alloc (by simp) _
  have hg1 : W1.heap[w.heap.size]? = some (Mk.geomO G B I) := by rw [← hW1]; exact at_old (at_new rfl)
  have hv := irefusal_void (G := G) (B := B) (I := I) (h.kept hb1)
  have c0 := (g3_of hg1).c0
  have c1 := (g3_of hg1).c1
  have c2 := (g3_of hg1).c2
  go_enter Tryz.func34, Tryz.ntmps34
  go_wp2_with fail
  refine Mk.grew_at hv ?_
  intro w2 hb2
  have HB : Hid (Below w.heap.size w w2) := Mk.grew_trans hb1 hb2
  clear hv hg1 hb1 hb2 c0 c1 c2
  dsimp only
  go_wp2_with fail
  go_ret2
  exact ⟨rfl, HB.out⟩
set_option maxHeartbeats 400000 in
theorem igrow_void (h : VVoid w v) (n m : Int) : Calls Tryz.prog 30 #[v, Mk.geomV G B I, .int .i64 n, dZ, .int .i64 m] w fun e w' => e = .returned (.tuple #[.int .i64 0, dZ, .slice none 0 0, .int .i64 2]) ∧ Below w.heap.size w w' := by
  obtain ⟨W1, hW1⟩ : ∃ W1, ((w.alloc (Mk.geomO G B I)).alloc dinZ).alloc dinZ = W1 := ⟨_, rfl⟩
  have hb1 : Below w.heap.size w W1 := by rw [← hW1]; exact (((Below.refl _ _).alloc (Nat.le_refl _) _).alloc (by simp) _).alloc (by simp only [World.size_alloc]; omega) _
  have hg1 : W1.heap[w.heap.size]? = some (Mk.geomO G B I) := by rw [← hW1]; exact at_old (at_old (at_new rfl))
  have hd1 : W1.heap[w.heap.size + 1 + 1]? = some dinZ := by rw [← hW1]; exact at_new (by simp)
  have hv := irefusalInode_void (G := G) (B := B) (I := I) (h.kept hb1) n 0
  have c0 := (g3_of hg1).c0
  have c1 := (g3_of hg1).c1
  have c2 := (g3_of hg1).c2
  go_enter Tryz.func30, Tryz.ntmps30
  go_wp2_with fail
  refine Mk.grew_at hv ?_
  intro w2 hb2
  have HB : Hid (Below w.heap.size w w2) := Mk.grew_trans hb1 hb2
  have hd2 : w2.heap[w.heap.size + 1 + 1]? = some dinZ := (hb2.block _ (Array.getElem?_eq_some_iff.1 hd1).1).trans hd1
  clear hd1
  clear hv hg1 hb1 hb2 c0 c1 c2
  dsimp only
  go_wp2_with (first
    | (refine wpList_store_row rfl 75 _ _ rfl (w.heap.size + 1 + 1) dinA rfl rfl 75 _ hd2 (dinC_info 0 0 0 (fun _ => 0)) rfl (dinC_one 0 0 0 (fun _ => 0)) ?_))
  refine bodyPost_ret (v := .tuple #[.int .i64 0, dZ, .slice none 0 0, .int .i64 2]) (results_tctt (a := 10) (p := 11) (u := 12) (z := 13) (ty := 75) Tryz.results30 _ _ (w.heap.size + 1 + 1) 75 _ (0, 0) _ rfl (setRow_heap _ _ _ _ 75 _ hd2) Tryz.underlying75 rfl (dinC_info 0 0 0 (fun _ => 0))) rfl ?_
  exact ⟨rfl, below_setRow HB.out (by omega) _⟩
set_option maxHeartbeats 400000 in
theorem iclear_void (h : VVoid w v) (n : Int) : Calls Tryz.prog 36 #[v, Mk.geomV G B I, .int .i64 n, .slice none 0 0] w fun e w' => e = .returned (.tuple #[.int .i64 0, .int .i64 2]) ∧ Below w.heap.size w w' := by
  obtain ⟨W1, hW1⟩ : ∃ W1, w.alloc (Mk.geomO G B I) = W1 := ⟨_, rfl⟩
  have hb1 : Below w.heap.size w W1 := by rw [← hW1]; exact Mk.grew_alloc _ _
  have hg1 : W1.heap[w.heap.size]? = some (Mk.geomO G B I) := by rw [← hW1]; exact at_new rfl
  have hv := irefusalInode_void (G := G) (B := B) (I := I) (h.kept hb1) n 3
  have c0 := (g3_of hg1).c0
  have c1 := (g3_of hg1).c1
  have c2 := (g3_of hg1).c2
  go_enter Tryz.func36, Tryz.ntmps36
  go_wp2_with fail
  refine Mk.grew_at hv ?_
  intro w2 hb2
  have HB : Hid (Below w.heap.size w w2) := Mk.grew_trans hb1 hb2
  clear hv hg1 hb1 hb2 c0 c1 c2
  dsimp only
  go_wp2_with fail
  go_ret2
  exact ⟨rfl, HB.out⟩
end
structure Two (w w' : World) (H : Nat) : Prop where
  c0 : w'.cell? ⟨H + 1, 0, none⟩ = some (.pointer none)
  c1 : w'.cell? ⟨H + 1, 1, none⟩ = some (.pointer (some ⟨H, 0, none⟩))
  cz : w'.cell? ⟨H, 2, none⟩ = some (.pointer none)
  b : Below w.heap.size w w'
  s : H + 1 < w'.heap.size
theorem Two.kept {w w' w'' : World} {H : Nat} (h : Two w w' H) (hb : Below w'.heap.size w' w'') : Two w w'' H :=
  ⟨(hb.cell (p := ⟨H + 1, 0, none⟩) h.s).trans h.c0, (hb.cell (p := ⟨H + 1, 1, none⟩) h.s).trans h.c1, (hb.cell (p := ⟨H, 2, none⟩) (by have := h.s; show H < _; omega)).trans h.cz, h.b.trans (hb.mono h.b.size), Nat.lt_of_lt_of_le h.s hb.size⟩
abbrev vZ : Obj := .cells #[.int .i32 0, .int .u32 0, .pointer none, .pointer none, .pointer none, .map none, .pointer none] 98
theorem two_vol (w : World) {w0 : World} (hb : Below w0.heap.size w0 w) (t : TypeId) : Two w0 ((w.alloc vZ).alloc (.cells #[.pointer none, .pointer (some ⟨w.heap.size, 0, none⟩)] t)) w.heap.size := by
  have b0 : Below w.heap.size w (w.alloc vZ) := (Below.refl _ w).alloc (Nat.le_refl _) _
  have b1 := b0.alloc (show w.heap.size ≤ _ by simp) (.cells #[.pointer none, .pointer (some ⟨w.heap.size, 0, none⟩)] t)
  have hrow := heap_alloc_new (w.alloc vZ) (.cells #[.pointer none, .pointer (some ⟨w.heap.size, 0, none⟩)] t)
  rw [World.size_alloc] at hrow
  have hz := (Below.heap_alloc (w.alloc vZ) (.cells #[.pointer none, .pointer (some ⟨w.heap.size, 0, none⟩)] t) w.heap.size (by simp)).trans (heap_alloc_new w _)
  exact ⟨cell_of_row _ _ 0 _ t _ hrow, cell_of_row _ _ 1 _ t _ hrow, cell_of_row _ _ 2 _ 98 _ hz, hb.trans (b1.mono hb.size), by simp⟩
theorem Two.void {w w' : World} {H j : Nat} (h : Two w w' H) (hj : j < 2) : ∃ v, (∀ w', Two w w' H → VVoid w' (.pointer v)) ∧ w'.cell? ⟨H + 1, j, none⟩ = some (.pointer v) := by
  rcases (by omega : j = 0 ∨ j = 1) with rfl | rfl
  · exact ⟨none, fun _ _ => .inl rfl, h.c0⟩
  · exact ⟨_, fun w' h => .inr ⟨_, rfl, h.cz⟩, h.c1⟩
structure NbW (w wr : World) (H : Nat) (G B I : Int) : Prop where
  t : Two w wr H
  g : wr.heap[w.heap.size]? = some (Mk.geomO G B I)
  l : w.heap.size < wr.heap.size
theorem NbW.kept {w wr wx : World} {H : Nat} {G B I : Int} (h : NbW w wr H G B I) (hb : Below wr.heap.size wr wx) : NbW w wx H G B I := ⟨h.t.kept hb, (hb.block _ h.l).trans h.g, by have := hb.size; have := h.l; omega⟩

set_option maxHeartbeats 4000000 in
theorem inodeNobody_walk (G B I n m : Int) (w : World) : Calls Tryz.prog 9 #[Mk.geomV G B I, .int .i64 n, .int .i64 m] w fun e w' => e = .returned (.bool true) ∧ Below w.heap.size w w' := by
  obtain ⟨W1, hW1⟩ : ∃ W1, w.alloc (Mk.geomO G B I) = W1 := ⟨_, rfl⟩
  have hb1 : Below w.heap.size w W1 := by rw [← hW1]; exact Mk.grew_alloc _ _
  have hg1 : W1.heap[w.heap.size]? = some (Mk.geomO G B I) := by rw [← hW1]; exact at_new rfl
  have hs1 : W1.heap.size = w.heap.size + 1 := by rw [← hW1]; simp
  go_enter Tryz.func9, Tryz.ntmps9
  go_wp2_with fail
  have hT0 := two_vol W1 hb1 29
  have hG0 : ((W1.alloc vZ).alloc (.cells #[.pointer none, .pointer (some ⟨W1.heap.size, 0, none⟩)] 29)).heap[w.heap.size]? = some (Mk.geomO G B I) := at_old (at_old hg1)
  rw [hs1] at hT0 hG0
  obtain ⟨H, hH⟩ : ∃ H, w.heap.size + 1 = H := ⟨_, rfl⟩
  rw [hH] at hT0 hG0 ⊢
  have hsz : w.heap.size < ((W1.alloc vZ).alloc (.cells #[.pointer none, .pointer (some ⟨H, 0, none⟩)] 29)).heap.size := by simp; omega
  obtain ⟨W2, hW2⟩ : ∃ W2, (W1.alloc vZ).alloc (.cells #[.pointer none, .pointer (some ⟨H, 0, none⟩)] 29) = W2 := ⟨_, rfl⟩
  rw [hW2] at hT0 hG0 hsz
  have hN0 : NbW w W2 H G B I := ⟨hT0, hG0, hsz⟩
  rw [hW2]
  clear hT0 hG0 hb1 hg1 hW1 hs1 hW2 hH hsz
  go_loopw [29] (fun i wr => ∃ j : Nat, j ≤ 2 ∧ i = .int .i64 (j : Int) ∧ NbW w wr H G B I) (fun i _ => 2 - (intOf i).toNat)
  case atStart => exact ⟨0, by omega, rfl, hN0⟩
  case round =>
    clear hN0
    obtain ⟨j, hj, rfl, hN⟩ := hrel
    by_cases hlt : j < 2
    · obtain ⟨v, hv, hcell⟩ := hN.t.void hlt
      have HD : Hid (∀ w', Two w w' H → VVoid w' (.pointer v)) := hv
      have hjI : (j : Int) < 2 := by omega
      have hj0 : (0 : Int) ≤ (j : Int) := by omega
      have c0 := (g3_of hN.g).c0
      have c1 := (g3_of hN.g).c1
      have c2 := (g3_of hN.g).c2
      have HN : Hid (NbW w wr H G B I) := hN
      clear hv hN
      go_wp2_with fail
      refine Mk.grew_at (iget_void (G := G) (B := B) (I := I) (HD.out _ HN.out.t) n) ?_
      intro u0 hb0
      obtain ⟨U0, hU0⟩ : ∃ U0, (u0.alloc dinZ).setRow u0.heap.size dinA = U0 := ⟨_, rfl⟩
      have hbU : Below wr.heap.size wr U0 := by rw [← hU0]; exact below_setRow (hb0.alloc hb0.size _) hb0.size _
      have hd0 : (u0.alloc dinZ).heap[u0.heap.size]? = some dinZ := at_new rfl
      have HU : Hid (NbW w U0 H G B I) := HN.out.kept hbU
      have c0 := (g3_of HU.out.g).c0
      have c1 := (g3_of HU.out.g).c1
      have c2 := (g3_of HU.out.g).c2
      clear hb0 hbU HN hcell
      dsimp only
      go_wp2_with (first
        | (refine wpList_store_row rfl 75 _ _ rfl u0.heap.size dinA rfl rfl 75 _ hd0 (dinC_info 0 0 0 (fun _ => 0)) rfl (dinC_one 0 0 0 (fun _ => 0)) ?_; rw [hU0]; clear hd0 hU0))
      refine Mk.grew_at (iput_void (G := G) (B := B) (I := I) (HD.out _ HU.out.t) n) ?_
      intro u1 hb1
      have HU1 : Hid (NbW w u1 H G B I) := HU.out.kept hb1
      have c0 := (g3_of HU1.out.g).c0
      have c1 := (g3_of HU1.out.g).c1
      have c2 := (g3_of HU1.out.g).c2
      clear hb1 HU
      dsimp only
      go_wp2_with fail
      refine Mk.grew_at (iaddr_void (G := G) (B := B) (I := I) (HD.out _ HU1.out.t) m) ?_
      intro u2 hb2
      have HU2 : Hid (NbW w u2 H G B I) := HU1.out.kept hb2
      have c0 := (g3_of HU2.out.g).c0
      have c1 := (g3_of HU2.out.g).c1
      have c2 := (g3_of HU2.out.g).c2
      clear hb2 HU1
      dsimp only
      go_wp2_with fail
      refine Mk.grew_at (ispan_void (G := G) (B := B) (I := I) (HD.out _ HU2.out.t)) ?_
      intro u3 hb3
      have HU3 : Hid (NbW w u3 H G B I) := HU2.out.kept hb3
      have c0 := (g3_of HU3.out.g).c0
      have c1 := (g3_of HU3.out.g).c1
      have c2 := (g3_of HU3.out.g).c2
      clear hb3 HU2
      dsimp only
      go_wp2_with fail
      refine Mk.grew_at (igrow_void (G := G) (B := B) (I := I) (HD.out _ HU3.out.t) n m) ?_
      intro u4 hb4
      obtain ⟨U4, hU4⟩ : ∃ U4, (u4.alloc dinZ).setRow u4.heap.size dinA = U4 := ⟨_, rfl⟩
      have hbU : Below u3.heap.size u3 U4 := by rw [← hU4]; exact below_setRow (hb4.alloc hb4.size _) hb4.size _
      have hd4 : (u4.alloc dinZ).heap[u4.heap.size]? = some dinZ := at_new rfl
      have HU4 : Hid (NbW w U4 H G B I) := HU3.out.kept hbU
      have c0 := (g3_of HU4.out.g).c0
      have c1 := (g3_of HU4.out.g).c1
      have c2 := (g3_of HU4.out.g).c2
      clear hb4 hbU HU3
      dsimp only
      go_wp2_with (first
        | (refine wpList_store_row rfl 75 _ _ rfl u4.heap.size dinA rfl rfl 75 _ hd4 (dinC_info 0 0 0 (fun _ => 0)) rfl (dinC_one 0 0 0 (fun _ => 0)) ?_; rw [hU4]; clear hd4 hU4))
      refine Mk.grew_at (iclear_void (G := G) (B := B) (I := I) (HD.out _ HU4.out.t) n) ?_
      intro u5 hb5
      have HU5 : Hid (NbW w u5 H G B I) := HU4.out.kept hb5
      clear hb5 HU4 c0 c1 c2
      dsimp only
      go_wp2_with fail
      have hX := heap_alloc_new u5 (.cells #[.int .i64 2, .int .i64 2, .int .i64 2, .int .i64 2, .int .i64 2, .int .i64 2] 36)
      have hbX : Below u5.heap.size u5 (u5.alloc (.cells #[.int .i64 2, .int .i64 2, .int .i64 2, .int .i64 2, .int .i64 2, .int .i64 2] 36)) := Mk.grew_alloc _ _
      obtain ⟨X5, hX5⟩ : ∃ X5, u5.alloc (.cells #[.int .i64 2, .int .i64 2, .int .i64 2, .int .i64 2, .int .i64 2, .int .i64 2] 36) = X5 := ⟨_, rfl⟩
      rw [hX5] at hX hbX ⊢
      have hc : ∀ k, k < 6 → X5.cell? ⟨u5.heap.size, k, none⟩ = some (.int .i64 2) := fun k hk => by
        rcases (by omega : k = 0 ∨ k = 1 ∨ k = 2 ∨ k = 3 ∨ k = 4 ∨ k = 5) with rfl | rfl | rfl | rfl | rfl | rfl <;> exact cell_of_row _ _ _ _ _ _ hX
      have HX : Hid (NbW w X5 H G B I) := HU5.out.kept hbX
      clear hX hbX hX5 HU5
      go_loopw [89] (fun iv wz => ∃ k : Nat, k ≤ 6 ∧ iv = .int .i64 (k : Int) ∧ wz = X5) (fun iv _ => 6 - (intOf iv).toNat)
      case atStart => exact ⟨0, by omega, rfl, rfl⟩
      case round =>
        obtain ⟨k, hk, rfl, rfl⟩ := hrel
        by_cases hk6 : k < 6
        · have hck := hc k hk6
          have hkI : (k : Int) < 6 := by omega
          have hk0 : (0 : Int) ≤ (k : Int) := by omega
          clear hc
          go_wp2_with fail
          go_roundw
          case rel => exact ⟨k + 1, by omega, by push_cast; rfl, trivial⟩
          case measure => simp [intOf]; omega
        · obtain rfl : k = 6 := by omega
          clear hc
          go_wp2_with fail
          go_roundw
          case rel => exact ⟨j + 1, by omega, by push_cast; rfl, HX.out⟩
          case measure => simp [intOf]; omega
    · obtain rfl : j = 2 := by omega
      have hN1 := hN.t.b
      have hsl := hN.l
      clear hN
      go_wp2_with fail
      have hrow := heap_alloc_new wr (.cells #[.int .i64 0, .int .i64 5] 3)
      have hbW : Below wr.heap.size wr (wr.alloc (.cells #[.int .i64 0, .int .i64 5] 3)) := Mk.grew_alloc _ _
      obtain ⟨Wz, hWz⟩ : ∃ Wz, wr.alloc (.cells #[.int .i64 0, .int .i64 5] 3) = Wz := ⟨_, rfl⟩
      rw [hWz] at hrow hbW ⊢
      have hii : Pt.II Wz (some ⟨wr.heap.size, 0, none⟩) 2 [0, 5] := ⟨rfl, by omega, fun y hy => by
        rcases List.mem_cons.1 hy with rfl | hy
        · exact ⟨by omega, by omega⟩
        · rw [List.mem_singleton] at hy; rw [hy]; exact ⟨by omega, by omega⟩, fun _ => ⟨_, 0, rfl, fun k hk => by
          rcases (by omega : k = 0 ∨ k = 1) with rfl | rfl <;> exact cell_of_row _ _ _ _ _ _ hrow⟩⟩
      have hbe : Below w.heap.size w Wz := hN1.trans (hbW.mono hN1.size)
      have hse := hbe.size
      clear hrow hbW hWz hN1 hsl
      refine Calls.mono (inodeClears_walk 1 32 8 _ 2 2 [0, 5] Wz hii) ?_
      rintro e w9 ⟨rfl, hb9⟩
      have hbz : Below w.heap.size w w9 := hbe.trans (hb9.mono hse)
      clear hii hbe hb9 hse
      dsimp only
      go_wp2_with fail
      go_ret
      exact ⟨rfl, hbz⟩
end Go.Proofs.YthdlpeejmmobmaaGreat
