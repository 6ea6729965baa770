/- A file created in a new tree, and opened. -/
import Derived.Test.YtfchclpglcogoaaC8
import Derived.Deep.DeepCutAuto
namespace Go.Proofs.Ytfchclpglcogoaa
open Go.RowKit Go.Maps
set_option linter.unusedVariables false
set_option maxRecDepth 100000

section
variable {w w' : World} {a mb n nm f pm : Nat}
theorem AT.drew {nd : Int} (h : AT w a mb n nm f pm nd) : AT w.drew a mb n nm f pm nd := ⟨h.row, h.nodes.kept rfl, h.root, h.names.kept rfl, h.file, h.pcs, h.ne⟩
theorem AT.a0 {nd : Int} (h : AT w a mb n nm f pm nd) : w.cell? ⟨a, 0, none⟩ = some (.map (some mb)) := (cell_of_row w a 0 _ 44 _ h.row).trans (by simp [treeC, noF])
theorem AT.n2 {nd : Int} (h : AT w a mb n nm f pm nd) : w.cell? ⟨n, 2, none⟩ = some (.map (some nm)) := (cell_of_row w n 2 _ 58 _ h.root).trans rfl
theorem AT.look1 {nd : Int} (h : AT w a mb n nm f pm nd) : (Instr.lookup 41 (.map (some mb)) (.int .i64 1) false).run Try.prog w = .ok (.pointer (some ⟨n, 0, none⟩)) w := by
  have hl := h.nodes.get (t := 41) (e := 39) Try.underlying41 (zeroV39 w) (zd := .agg []) rfl (1 : Int) ⟨by omega, by omega⟩
  rw [fput_other _ (by omega), fput_same] at hl
  exact hl
theorem AT.look2 {nd : Int} (h : AT w a mb n nm f pm nd) : (Instr.lookup 41 (.map (some mb)) (.int .i64 2) false).run Try.prog w = .ok (.pointer (some ⟨f, 0, none⟩)) w := by
  have hl := h.nodes.get (t := 41) (e := 39) Try.underlying41 (zeroV39 w) (zd := .agg []) rfl (2 : Int) ⟨by omega, by omega⟩
  rw [fput_same] at hl
  exact hl

/-- What is left of it that is asked for. -/
structure BT (w : World) (a mb f pm : Nat) : Prop where
  row : w.heap[a]? = some (.cells (treeC mb 2 noF) 44 (0, 0))
  nodes : ∃ M g, Mf kI w mb M g ∧ g 2 = some (.pointer (some ⟨f, 0, none⟩))
  file : w.heap[f]? = some (.cells (fileC 1 pm) 58 (0, 0))
  pcs : w.heap[pm]? = some (.map #[] 0)
  ne : pm ≠ mb

set_option maxHeartbeats 4000000 in
theorem name_ok (h : AT w a mb n nm f pm 0) (g : Nat) (hc : w.cell? ⟨g, 0, none⟩ = some (.int .i64 1)) :
    Calls Try.prog 27 #[.pointer (some ⟨a, 0, none⟩), .agg (spotC g), .int .i64 2] w fun e w' => e = .returned (.tuple #[]) ∧ BT w' a mb f pm ∧ Fr (fun k => k = nm ∨ k = f) w w' := by
  unfold spotC
  obtain ⟨W4, hW4⟩ : ∃ W4, w.alloc (.cells #[.slice (some ⟨g, 0, none⟩) 1 1, .string sF] 61) = W4 := ⟨_, rfl⟩
  have hb4 : Below w.heap.size w W4 := by rw [← hW4]; exact grew_alloc w _
  have hr4 : W4.heap[w.heap.size]? = some (.cells #[.slice (some ⟨g, 0, none⟩) 1 1, .string sF] 61 (0, 0)) := by rw [← hW4]; exact at_new rfl
  have h4d := (h.kept hb4).drew
  have a4 := h4d.a0
  have l4 := h4d.look1
  have m4 := h4d.look2
  have k0 : W4.drew.cell? ⟨w.heap.size, 0, none⟩ = some (.slice (some ⟨g, 0, none⟩) 1 1) := (cell_of_row W4.drew _ 0 _ 61 _ hr4).trans rfl
  have k1 : W4.drew.cell? ⟨w.heap.size, 1, none⟩ = some (.string sF) := (cell_of_row W4.drew _ 1 _ 61 _ hr4).trans rfl
  have c4 : W4.drew.cell? ⟨g, 0, none⟩ = some (.int .i64 1) := (hb4.cell (p := ⟨g, 0, none⟩) (lt_of_cell hc)).trans hc
  have hdi := dir_ok g sF c4
  have HB4 : Hid (Below w.heap.size w W4.drew) := hb4.trans ((Below.refl _ _).drew.mono hb4.size)
  have hr4d : W4.drew.heap[w.heap.size]? = some (.cells #[.slice (some ⟨g, 0, none⟩) 1 1, .string sF] 61 (0, 0)) := hr4
  clear hb4 hr4
  go_enter Try.func27, Try.ntmps27
  go_upto_region 1 with fail
  go_cut [6, 7] (fun v6 v7 wx => v6 = .pointer (some ⟨n, 0, none⟩) ∧ v7 = .pointer (some ⟨f, 0, none⟩) ∧ Below W4.drew.heap.size W4.drew wx)
  case first =>
    go_region_held3 (fun w' => w'.cell? ⟨a, 0, none⟩ = some (.map (some mb)) ∧ w'.cell? ⟨w.heap.size, 0, none⟩ = some (.slice (some ⟨g, 0, none⟩) 1 1) ∧ w'.cell? ⟨w.heap.size, 1, none⟩ = some (.string sF) ∧ (Instr.lookup 41 (.map (some mb)) (.int .i64 1) false).run Try.prog w' = .ok (.pointer (some ⟨n, 0, none⟩)) w' ∧ (Instr.lookup 41 (.map (some mb)) (.int .i64 2) false).run Try.prog w' = .ok (.pointer (some ⟨f, 0, none⟩)) w')
      (first | exact ⟨a4, k0, k1, l4, m4⟩ | exact ⟨a5, k05, k15, l5, m5⟩)
      (first
        | (go_at_call 25; refine Calls.mono hdi ?_; rintro e w5 ⟨rfl, hb5⟩; have h5 := h4d.kept hb5; have a5 := h5.a0; have l5 := h5.look1; have m5 := h5.look2; have k05 := (hb5.cell (p := ⟨w.heap.size, 0, none⟩) (lt_of_cell k0)).trans k0; have k15 := (hb5.cell (p := ⟨w.heap.size, 1, none⟩) (lt_of_cell k0)).trans k1))
    all_goals go_wp2_with fail
    all_goals go_meet
    all_goals exact ⟨rfl, rfl, hb5⟩
  case rest =>
  obtain ⟨rfl, rfl, hb5⟩ := hcut
  rename World => w5
  have h5 := h4d.kept hb5
  have k05 := (hb5.cell (p := ⟨w.heap.size, 0, none⟩) (lt_of_cell k0)).trans k0
  have k15 := (hb5.cell (p := ⟨w.heap.size, 1, none⟩) (lt_of_cell k0)).trans k1
  have h5d := h5.drew
  have n5 := h5d.n2
  have k16 : w5.drew.cell? ⟨w.heap.size, 1, none⟩ = some (.string sF) := k15
  obtain ⟨w6, hup, hM6, hg6⟩ := h5d.names.put (by omega) (t := 53) (e := 3) Try.underlying53 sF okF (.int .i64 2) (d := .lit (.int .i64 2)) rfl
  simp only [kS] at hup
  have hnn : n ≠ nm := by
    rintro rfl
    obtain ⟨es, c, hm⟩ := h5d.names.isMap
    rw [h5d.root] at hm
    cases hm
  have hfn : f ≠ nm := by
    rintro rfl
    obtain ⟨es, c, hm⟩ := h5d.names.isMap
    rw [h5d.file] at hm
    cases hm
  have hwn : w.heap.size ≠ nm := fun e => by have := h.names.lt; omega
  have hk6 : ∀ k, k < w5.heap.size → k ≠ nm → w6.heap[k]? = w5.heap[k]? := fun k hk hn => hg6.block k hk (fun e => hn (Option.some.inj e))
  have lt : ∀ {k o}, w5.heap[k]? = some o → k < w5.heap.size := fun e => (Array.getElem?_eq_some_iff.1 e).1
  have hro6 := (hk6 n (lt h5.root) hnn).trans h5.root
  have n6 : w6.cell? ⟨n, 2, none⟩ = some (.map (some nm)) := (cell_of_row w6 n 2 _ 58 _ hro6).trans rfl
  have k17 : w6.cell? ⟨w.heap.size, 1, none⟩ = some (.string sF) := (World.cell?_of_block (w := w5) (hk6 w.heap.size (lt_of_cell k05) hwn)).trans k15
  have hfi6 := (hk6 f (lt h5.file) hfn).trans h5.file
  have f61 : w6.cell? ⟨f, 1, none⟩ = some (.int .i64 0) := (cell_of_row w6 f 1 _ 58 _ hfi6).trans rfl
  have fz6 : w6.frozen? ⟨f, 1, none⟩ = false := by simp [World.frozen?, hfi6]
  obtain ⟨W7, hW7⟩ : ∃ W7, w6.setCell ⟨f, 1, none⟩ (.int .i64 1) = W7 := ⟨_, rfl⟩
  have ho7 : ∀ k, k ≠ f → W7.heap[k]? = w6.heap[k]? := fun k hk => by rw [← hW7]; exact Below.heap_setCell _ _ _ _ hk
  have hf7 : W7.heap[f]? = some (.cells (fileC 1 pm) 58 (0, 0)) := by rw [← hW7, heap_setCell_same w6 f 1 _ 58 _ hfi6]; rfl
  have f70 : W7.cell? ⟨f, 0, none⟩ = some (.int .i64 1) := (cell_of_row W7 f 0 _ 58 _ hf7).trans rfl
  have hid := isDir_ok f 1 f70
  have HR : Hid (BT W7 a mb f pm ∧ Fr (fun k => k = nm ∨ k = f) w W7) := by
    have han : a ≠ nm := by
      rintro rfl
      obtain ⟨es, c, hm⟩ := h5.names.isMap
      rw [h5.row] at hm
      cases hm
    have haf : a ≠ f := by
      rintro rfl
      have e := h5.row
      rw [h5.file] at e
      simp at e
    have hmn : mb ≠ nm := by
      rintro rfl
      obtain ⟨c, hc⟩ := mf_empty h5.names
      exact mf_full h5.nodes (k := (1 : Int)) (v := .pointer (some ⟨n, 0, none⟩)) ⟨by omega, by omega⟩ (by rw [fput_other _ (by omega), fput_same]) c hc
    have hmf : mb ≠ f := by
      rintro rfl
      obtain ⟨es, c, hm⟩ := h5.nodes.isMap
      rw [h5.file] at hm
      cases hm
    have hpf : pm ≠ f := by
      rintro rfl
      have e := h5.pcs
      rw [h5.file] at e
      cases e
    refine ⟨⟨(ho7 a haf).trans ((hk6 a (lt h5.row) han).trans h5.row), ⟨2, _, h5.nodes.kept ((ho7 mb hmf).trans (hk6 mb h5.nodes.lt hmn)), fput_same _ _ _⟩, hf7, (ho7 pm hpf).trans ((hk6 pm (lt h5.pcs) h5.ne.2.2).trans h5.pcs), h5.ne.1⟩, ?_⟩
    have hB5 : Below w.heap.size w w5 := HB4.out.trans (hb5.mono HB4.out.size)
    exact (Fr.below (X := fun k => k = nm ∨ k = f) hB5).trans ⟨by rw [← hW7]; exact hg6.os, by rw [← hW7]; exact hg6.tape, by rw [← hW7]; exact hg6.output, by rw [← hW7]; simpa using hg6.size, fun k hk hn => (ho7 k (fun e => hn (.inr e))).trans (hk6 k hk (fun e => hn (.inl e)))⟩
  clear hM6 hg6 hk6 lt hro6 hfi6 ho7 hf7 h5 h5d h4d h hr4d HB4 hnn hfn hwn
  go_wp2_with fail
  go_region_held3 (fun w' => w'.cell? ⟨n, 2, none⟩ = some (.map (some nm)) ∧ w'.cell? ⟨w.heap.size, 1, none⟩ = some (.string sF)) (first | exact ⟨n5, k16⟩ | exact ⟨n6, k17⟩) (fail)
  go_wp2_with (first | (go_at_call 32; refine same_at hid ?_))
  go_end0
  exact ⟨rfl, HR.out⟩
end
end Go.Proofs.Ytfchclpglcogoaa
