/- create, in a new tree. -/
import Derived.Test.YtfchclpglcogoaaC9
namespace Go.Proofs.Ytfchclpglcogoaa
open Go.RowKit Go.Maps
set_option linter.unusedVariables false
set_option maxRecDepth 100000

section
variable {w w' : World} {a mb n nm f pm : Nat}
theorem mf_none {κ : Type} (S : Ky κ) {w : World} {m : Nat} (h : w.heap[m]? = some (.map #[] 0)) : Mf S w m 0 (fun _ => none) :=
  ⟨.map [], ⟨#[], 0, h, ⟨by simp, Go.MapKept.stamped_empty 0, by simp⟩, Nat.zero_le _, rfl⟩, Nat.zero_le _, fun k _ => ⟨fun _ => rfl, fun v hv => by cases hv⟩⟩
theorem pcF_nil : pcF [] = fun _ => none := by
  funext k
  unfold pcF
  split
  · unfold pV
    rw [if_pos]
    refine ext128 (pcL_len _ _) (by simp [zz]) (fun i hi => ?_)
    rw [pcL_at _ _ _ hi]
    unfold zz
    rw [List.getD_eq_getElem?_getD, List.getD_eq_getElem?_getD, List.getElem?_replicate]
    simp [hi]
  · rfl

set_option maxHeartbeats 4000000 in
theorem create_ok (h : NT w a mb n nm) : Calls Try.prog 11 #[.pointer (some ⟨a, 0, none⟩), .string sSF] w fun e w' => e = .returned (.tuple #[ansV 0 (.slice none 0 0), .int .i64 0]) ∧ ∃ f pm, FT w' a mb f pm 0 [] ∧ w.heap.size ≤ f ∧ w.heap.size ≤ pm ∧ Fr (fun k => k = a ∨ k = mb ∨ k = nm) w w' := by
  obtain ⟨W1, hW1⟩ : ∃ W1, w.alloc (.cells #[.int .i64 0, .slice none 0 0, .slice none 0 0, .int .i64 0, .int .i64 0, .int .i64 0] 27) = W1 := ⟨_, rfl⟩
  have hb1 : Below w.heap.size w W1 := by rw [← hW1]; exact grew_alloc w _
  have hs1 : W1.heap.size = w.heap.size + 1 := by rw [← hW1]; simp
  have hr1 : W1.heap[w.heap.size]? = some (.cells (ansC 0 (.slice none 0 0)) 27 (0, 0)) := by rw [← hW1]; exact at_new rfl
  have h1 := h.kept hb1
  have hva := vacant_ok h1
  have hal : a < w.heap.size := (Array.getElem?_eq_some_iff.1 h.row).1
  have hml := h.nodes.lt
  have hnl := h.names.lt
  have hnn : n < w.heap.size := (Array.getElem?_eq_some_iff.1 h.root).1
  go_enter Try.func11, Try.ntmps11
  go_wp2_with fail
  refine Calls.mono hva ?_
  rintro e w2 ⟨g, rfl, hc2, hg2, hb2⟩
  have h2 := h1.kept hb2
  obtain ⟨W3, hW3⟩ : ∃ W3, w2.alloc (.cells #[.slice (some ⟨g, 0, none⟩) 1 1, .string sF] 61) = W3 := ⟨_, rfl⟩
  have hb3 : Below w2.heap.size w2 W3 := by rw [← hW3]; exact grew_alloc w2 _
  have hr3 : W3.heap[w2.heap.size]? = some (.cells #[.slice (some ⟨g, 0, none⟩) 1 1, .string sF] 61 (0, 0)) := by rw [← hW3]; exact at_new rfl
  have hs3 : W3.heap.size = w2.heap.size + 1 := by rw [← hW3]; simp
  have h3 := h2.kept hb3
  have hfr := free_ok h3
  have hnf := newFile_ok W3
  have hi61 : (Try.prog.info? 61).map (·.size) = some (#[Value.slice (some ⟨g, 0, none⟩) 1 1, .string sF] : Array Value).size := info61
  clear hva
  unfold spotC
  dsimp only
  go_wp2_with (first | (go_at_call 29; refine same_at hfr ?_))
  refine Calls.mono hnf ?_
  rintro e w4 ⟨f, pm, rfl, hf4, hp4, hpl, hfl, hb4⟩
  have hz2 : w2.heap.size ≥ W1.heap.size := hb2.size
  have hadd := add_ok (h3.kept hb4) f pm hf4 hp4 ⟨by omega, by omega, by omega⟩
  have hr4 := (hb4.block w2.heap.size (by omega)).trans hr3
  have hc4 := (hb4.cell (p := ⟨g, 0, none⟩) (Nat.lt_of_lt_of_le (lt_of_cell hc2) hb3.size)).trans ((hb3.cell (p := ⟨g, 0, none⟩) (lt_of_cell hc2)).trans hc2)
  have hB4 : Below w.heap.size w w4 := ((hb1.trans (hb2.mono hb1.size)).trans (hb3.mono (Nat.le_trans hb1.size hb2.size))).trans (hb4.mono (by omega))
  have hz4 : w4.heap[w.heap.size]? = some (.cells (ansC 0 (.slice none 0 0)) 27 (0, 0)) := (hb4.block w.heap.size (by omega)).trans ((hb3.block w.heap.size (by omega)).trans ((hb2.block w.heap.size (by omega)).trans hr1))
  have hlt4 : W3.heap.size ≤ w4.heap.size := hb4.size
  clear hnf hfr
  dsimp only
  go_wp2_with fail
  refine Calls.mono hadd ?_
  rintro e w5 ⟨rfl, h5, hF5⟩
  have k5 : ∀ k, w.heap.size ≤ k → k < w4.heap.size → w5.heap[k]? = w4.heap[k]? := fun k hk hl => hF5.block k hl (fun e => by omega)
  have hgl : w.heap.size ≤ g := by omega
  have hr5 := (k5 w2.heap.size (by omega) (by omega)).trans hr4
  have hc5 : w5.cell? ⟨g, 0, none⟩ = some (.int .i64 1) := (World.cell?_of_block (w := w4) (k5 g hgl (lt_of_cell hc4))).trans hc4
  have hz5 := (k5 w.heap.size (Nat.le_refl _) (by omega)).trans hz4
  have hnam := name_ok h5 g hc5
  clear hadd
  unfold spotC at hnam
  dsimp only
  go_wp2_with (first | (refine wpList_load_row rfl 61 (.tmp 6) rfl w2.heap.size rfl 61 _ (0, 0) _ hr5 Try.underlying61 rfl hi61 ?_))
  refine Calls.mono hnam ?_
  rintro e w6 ⟨rfl, h6, hF6⟩
  have hsz5 := hF5.size
  have a62 : w6.cell? ⟨a, 2, none⟩ = some (.int .i64 0) := (cell_of_row w6 a 2 _ 44 _ h6.row).trans (by simp [treeC, noF])
  have fz6 : w6.frozen? ⟨a, 2, none⟩ = false := by simp [World.frozen?, h6.row]
  obtain ⟨W7, hW7⟩ : ∃ W7, w6.setCell ⟨a, 2, none⟩ (.int .i64 2) = W7 := ⟨_, rfl⟩
  have ho7 : ∀ k, k ≠ a → W7.heap[k]? = w6.heap[k]? := fun k hk => by rw [← hW7]; exact Below.heap_setCell _ _ _ _ hk
  have hra7 : W7.heap[a]? = some (.cells (treeC mb 2 oneF) 44 (0, 0)) := by
    rw [← hW7, heap_setCell_same w6 a 2 _ 44 _ h6.row]
    simp [treeC, noF, oneF]
  have hz6 : W7.heap[w.heap.size]? = some (.cells (ansC 0 (.slice none 0 0)) 27 (0, 0)) := (ho7 _ (by omega)).trans ((hF6.block w.heap.size (by omega) (fun e => by omega)).trans hz5)
  have HR : Hid (FT (W7.setRow w.heap.size (ansC 0 (.slice none 0 0))) a mb f pm 0 [] ∧ w.heap.size ≤ f ∧ w.heap.size ≤ pm ∧ Fr (fun k => k = a ∨ k = mb ∨ k = nm) w (W7.setRow w.heap.size (ansC 0 (.slice none 0 0)))) := by
    have hs7 : W7.heap.size = w6.heap.size := by rw [← hW7]; simp
    have hpa : pm ≠ a := by omega
    have hfa : f ≠ a := by omega
    have hmba : mb ≠ a := by
      rintro rfl
      obtain ⟨es, c, hm⟩ := h.nodes.isMap
      rw [h.row] at hm
      cases hm
    have so : ∀ k, k ≠ w.heap.size → (W7.setRow w.heap.size (ansC 0 (.slice none 0 0))).heap[k]? = W7.heap[k]? := fun k hk => setRow_other _ _ _ _ hk
    obtain ⟨M, gg, hm, hg⟩ := h6.nodes
    refine ⟨⟨(so a (by omega)).trans hra7, ⟨M, gg, hm.kept ((so mb (by omega)).trans (ho7 mb hmba)), hg⟩, ⟨((so f (by omega)).trans (ho7 f hfa)).trans h6.file, ?_, fun i => by simp⟩, fun e => h6.ne e.symm⟩, by omega, by omega, ?_⟩
    · rw [pcF_nil]
      exact mf_none kI (((so pm (by omega)).trans (ho7 pm hpa)).trans h6.pcs)
    · have hA := (Fr.below (X := fun k => k = a ∨ k = mb ∨ k = nm) hB4)
      refine ⟨?_, ?_, ?_, ?_, fun k hk hn => ?_⟩
      · show W7.os = w.os; rw [← hW7]; exact hF6.os.trans (hF5.os.trans hA.os)
      · show W7.tape = w.tape; rw [← hW7]; exact hF6.tape.trans (hF5.tape.trans hA.tape)
      · show W7.output = w.output; rw [← hW7]; exact hF6.output.trans (hF5.output.trans hA.output)
      · have := hF6.size; have := hA.size; simp; omega
      · have hka : k ≠ a := fun e => hn (.inl e)
        have hkm : k ≠ mb := fun e => hn (.inr (.inl e))
        have hkn : k ≠ nm := fun e => hn (.inr (.inr e))
        exact (so k (by omega)).trans ((ho7 k hka).trans ((hF6.block k (by omega) (fun e => e.elim hkn (by omega))).trans ((hF5.block k (by omega) (fun e => e.elim hka hkm)).trans (hA.block k hk hn))))
  clear hnam hF6 h6 hra7 ho7
  dsimp only
  go_wp2_with (first | (refine wpList_store_row rfl 27 (.tmp 4) _ rfl w.heap.size (ansC 0 (.slice none 0 0)) rfl rfl 27 _ hz6 info27 rfl (ans_one _ _ _ _) ?_))
  refine bodyPost_ret (v := .tuple #[ansV 0 (.slice none 0 0), .int .i64 0]) (results_cell_tmp_row (p := 4) (u := 5) (ty := 27) Try.results11 _ _ w.heap.size 27 _ (0, 0) _ rfl (setRow_heap _ _ _ _ _ _ hz6) Try.underlying27 rfl info27) rfl ?_
  exact ⟨rfl, f, pm, HR.out⟩
end
end Go.Proofs.Ytfchclpglcogoaa
