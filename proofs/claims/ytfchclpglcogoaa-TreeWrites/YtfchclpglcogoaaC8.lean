/- A new tree: a file created. -/
import Derived.Test.YtfchclpglcogoaaC7
namespace Go.Proofs.Ytfchclpglcogoaa
open Go.RowKit Go.Maps
set_option linter.unusedVariables false
set_option maxRecDepth 100000

section
variable {w w' : World} {a mb n nm : Nat}
theorem zeroV3 (w : World) : (zeroValue 3).run Try.prog w = .ok (.int .i64 0) w := by kernel_rfl
theorem okF : kS.ok sF := by show sF.size ≤ maxLen; decide
theorem NT.drew (h : NT w a mb n nm) : NT w.drew a mb n nm := ⟨h.row, h.nodes.kept rfl, h.root, h.names.kept rfl⟩
theorem NT.gone (h : NT w a mb n nm) : (Instr.lookup 53 (.map (some nm)) (.string sF) true).run Try.prog w = .ok (.tuple #[.int .i64 0, .bool false]) w :=
  h.names.look (t := 53) (e := 3) Try.underlying53 (zeroV3 w) (zd := .lit (.int .i64 0)) rfl sF okF

set_option maxHeartbeats 2000000 in
theorem at_ok (h : NT w a mb n nm) (g : Nat) (hc : w.cell? ⟨g, 0, none⟩ = some (.int .i64 1)) : Calls Try.prog 42 #[.pointer (some ⟨a, 0, none⟩), .agg (spotC g)] w fun e w' => e = .returned (.tuple #[.int .i64 0, .bool false]) ∧ Below w.heap.size w w' := by
  unfold spotC
  obtain ⟨W4, hW4⟩ : ∃ W4, w.alloc (.cells #[.slice (some ⟨g, 0, none⟩) 1 1, .string sF] 61) = W4 := ⟨_, rfl⟩
  have hb4 : Below w.heap.size w W4 := by rw [← hW4]; exact grew_alloc w _
  have hr4 : W4.heap[w.heap.size]? = some (.cells #[.slice (some ⟨g, 0, none⟩) 1 1, .string sF] 61 (0, 0)) := by rw [← hW4]; exact at_new rfl
  have h4d := (h.kept hb4).drew
  have a4 := h4d.a0
  have l4 := h4d.look
  have n4 := h4d.n2
  have o4 := h4d.gone
  have k0 : W4.drew.cell? ⟨w.heap.size, 0, none⟩ = some (.slice (some ⟨g, 0, none⟩) 1 1) := (cell_of_row W4.drew _ 0 _ 61 _ hr4).trans rfl
  have k1 : W4.drew.cell? ⟨w.heap.size, 1, none⟩ = some (.string sF) := (cell_of_row W4.drew _ 1 _ 61 _ hr4).trans rfl
  have c4 : W4.drew.cell? ⟨g, 0, none⟩ = some (.int .i64 1) := (hb4.cell (p := ⟨g, 0, none⟩) (lt_of_cell hc)).trans hc
  have hdi := dir_ok g sF c4
  have HB4 : Hid (Below w.heap.size w W4.drew) := hb4.trans ((Below.refl _ _).drew.mono hb4.size)
  clear hb4 hr4
  go_enter Try.func42, Try.ntmps42
  go_wp2_with fail
  go_region_held3 (fun w' => w'.cell? ⟨a, 0, none⟩ = some (.map (some mb)) ∧ w'.cell? ⟨w.heap.size, 0, none⟩ = some (.slice (some ⟨g, 0, none⟩) 1 1) ∧ w'.cell? ⟨w.heap.size, 1, none⟩ = some (.string sF) ∧ (Instr.lookup 41 (.map (some mb)) (.int .i64 1) false).run Try.prog w' = .ok (.pointer (some ⟨n, 0, none⟩)) w' ∧ w'.cell? ⟨n, 2, none⟩ = some (.map (some nm)) ∧ (Instr.lookup 53 (.map (some nm)) (.string sF) true).run Try.prog w' = .ok (.tuple #[.int .i64 0, .bool false]) w')
    (first | exact ⟨a4, k0, k1, l4, n4, o4⟩ | exact ⟨a5, k05, k15, l5, n5, o5⟩)
    (first
      | (go_at_call 25; refine Calls.mono hdi ?_; rintro e w5 ⟨rfl, hb5⟩; have h5 := h4d.kept hb5; have a5 := h5.a0; have l5 := h5.look; have n5 := h5.n2; have o5 := h5.gone; have k05 := (hb5.cell (p := ⟨w.heap.size, 0, none⟩) (lt_of_cell k0)).trans k0; have k15 := (hb5.cell (p := ⟨w.heap.size, 1, none⟩) (lt_of_cell k0)).trans k1))
  go_wp2_with fail
  go_ret2
  exact ⟨rfl, HB4.out.trans (hb5.mono HB4.out.size)⟩

set_option maxHeartbeats 2000000 in
theorem vacant_ok (h : NT w a mb n nm) : Calls Try.prog 24 #[.pointer (some ⟨a, 0, none⟩), .string sSF] w fun e w' => ∃ g, e = .returned (.tuple #[.agg (spotC g), .int .i64 0]) ∧ w'.cell? ⟨g, 0, none⟩ = some (.int .i64 1) ∧ w.heap.size ≤ g ∧ Below w.heap.size w w' := by
  obtain ⟨W1, hW1⟩ : ∃ W1, w.alloc (.cells #[.slice none 0 0, .string ⟨#[]⟩] 61) = W1 := ⟨_, rfl⟩
  have hb1 : Below w.heap.size w W1 := by rw [← hW1]; exact (Below.refl _ _).alloc (Nat.le_refl _) _
  have hs1 : W1.heap.size = w.heap.size + 1 := by rw [← hW1]; simp
  have hr1 : W1.heap[w.heap.size]? = some (.cells #[.slice none 0 0, .string ⟨#[]⟩] 61 (0, 0)) := by rw [← hW1]; exact at_new rfl
  have h1 := h.kept hb1
  have hpa := parent_ok h1
  have hne : (sSF.toList == [47]) = false := by rw [Lib.toList_data]; decide
  go_enter Try.func24, Try.ntmps24
  go_wp2_with fail
  refine Calls.mono hpa ?_
  rintro e w2 ⟨g, rfl, hc2, hg2, hb2⟩
  have h2 := h1.kept hb2
  have hr2 := (hb2.block w.heap.size (by omega)).trans hr1
  obtain ⟨W3, hW3⟩ : ∃ W3, w2.alloc (.cells #[.slice (some ⟨g, 0, none⟩) 1 1, .string sF] 61) = W3 := ⟨_, rfl⟩
  have hb3 : Below w2.heap.size w2 W3 := by rw [← hW3]; exact grew_alloc w2 _
  have hr3 : W3.heap[w2.heap.size]? = some (.cells #[.slice (some ⟨g, 0, none⟩) 1 1, .string sF] 61 (0, 0)) := by rw [← hW3]; exact at_new rfl
  have c3 := (hb3.cell (p := ⟨g, 0, none⟩) (lt_of_cell hc2)).trans hc2
  have hat := at_ok (h2.kept hb3) g c3
  have hz3 := (hb3.block w.heap.size (Array.getElem?_eq_some_iff.1 hr2).1).trans hr2
  have hi61 : (Try.prog.info? 61).map (·.size) = some (#[Value.slice (some ⟨g, 0, none⟩) 1 1, .string sF] : Array Value).size := info61
  have ho61 : (#[Value.slice (some ⟨g, 0, none⟩) 1 1, .string sF] : Array Value).all (·.oneCell') = true := by simp [Value.oneCell']
  have HB : Hid (Below w.heap.size w W3 ∧ w.heap.size < g) := ⟨(hb1.trans (hb2.mono hb1.size)).trans (hb3.mono (Nat.le_trans hb1.size hb2.size)), by omega⟩
  clear hpa
  unfold spotC at hat ⊢
  dsimp only
  go_wp2_with (first | (refine wpList_load_row rfl 61 (.tmp 6) rfl w2.heap.size rfl 61 _ (0, 0) _ hr3 Try.underlying61 rfl hi61 ?_))
  refine Calls.mono hat ?_
  rintro e w4 ⟨rfl, hb4⟩
  have hr4 := (hb4.block w2.heap.size (Array.getElem?_eq_some_iff.1 hr3).1).trans hr3
  have hz4 := (hb4.block w.heap.size (Array.getElem?_eq_some_iff.1 hz3).1).trans hz3
  have c4 := (hb4.cell (p := ⟨g, 0, none⟩) (lt_of_cell c3)).trans c3
  clear hat
  dsimp only
  go_wp2_with (first
    | (refine wpList_load_row rfl 61 (.tmp 6) rfl w2.heap.size rfl 61 _ (0, 0) _ hr4 Try.underlying61 rfl hi61 ?_)
    | (refine wpList_store_row rfl 61 (.tmp 4) _ rfl w.heap.size #[.slice (some ⟨g, 0, none⟩) 1 1, .string sF] rfl rfl 61 _ hz4 hi61 rfl ho61 ?_))
  refine bodyPost_ret (v := .tuple #[.agg (spotC g), .int .i64 0]) (results_cell_tmp_row (p := 4) (u := 5) (ty := 61) Try.results24 _ _ w.heap.size 61 _ (0, 0) _ rfl (setRow_heap _ _ _ _ _ _ hz4) Try.underlying61 rfl hi61) rfl ?_
  refine ⟨g, rfl, ?_, Nat.le_of_lt HB.out.2, below_setRow (HB.out.1.trans (hb4.mono HB.out.1.size)) (Nat.le_refl _) _⟩
  rw [World.cell?_of_block (setRow_other _ _ _ _ (Nat.ne_of_gt HB.out.2))]
  exact c4

set_option maxHeartbeats 1000000 in
theorem index_zero (b o : Nat) (hc : w.cell? ⟨b, o, none⟩ = some (.int .i64 0)) : Calls Try.prog 47 #[.slice (some ⟨b, o, none⟩) 16 16, .int .i64 0] w fun e w' => e = .returned (.int .i64 0) ∧ w' = w := by
  go_enter Try.func47, Try.ntmps47
  go_wp2_with fail
  go_loopw [8] (fun iv wr => iv = .int .i64 0 ∧ wr = w) (fun _ _ => 0)
  case atStart => exact ⟨rfl, rfl⟩
  case round =>
    obtain ⟨rfl, hwr⟩ := hrel
    subst hwr
    go_wp2_with fail
    go_ret
    exact ⟨rfl, rfl⟩

set_option maxHeartbeats 1000000 in
theorem free_ok (h : NT w a mb n nm) : Calls Try.prog 29 #[.pointer (some ⟨a, 0, none⟩)] w fun e w' => e = .returned (.tuple #[.int .i64 0, .bool true]) ∧ w' = w := by
  have hx := index_zero a 2 h.a2
  go_enter Try.func29, Try.ntmps29
  go_wp2_with (first | (go_at_call 47; refine same_at hx ?_))
  go_ret2
  exact ⟨rfl, rfl⟩

theorem info56 : (Try.prog.info? 56).map (·.size) = some 2 := by kernel_rfl
set_option maxHeartbeats 1000000 in
theorem newContent_ok (w : World) : Calls Try.prog 48 #[] w fun e w' => ∃ pm, e = .returned (.agg #[.int .i64 0, .map (some pm)]) ∧ w'.heap[pm]? = some (.map #[] 0) ∧ w.heap.size ≤ pm ∧ Below w.heap.size w w' := by
  have hmm := @run_makeMap Try.prog
  have hrow : ((w.alloc (.cells #[.int .i64 0, .map (some (w.heap.size + 1))] 56)).alloc (.map #[] 0)).heap[w.heap.size]? = some (.cells #[.int .i64 0, .map (some (w.heap.size + 1))] 56 (0, 0)) := at_old (at_new rfl)
  have hi56 : (Try.prog.info? 56).map (·.size) = some (#[Value.int .i64 0, .map (some (w.heap.size + 1))] : Array Value).size := info56
  go_enter Try.func48, Try.ntmps48
  go_wp2_with fail
  refine bodyPost_ret (v := .agg #[.int .i64 0, .map (some (w.heap.size + 1))]) (results_cell_row (p := 0) (ty := 56) Try.results48 _ _ w.heap.size 56 _ (0, 0) _ rfl hrow Try.underlying56 rfl hi56) rfl ?_
  exact ⟨w.heap.size + 1, rfl, at_new (by simp), by omega, (grew_alloc w _).alloc (by simp) _⟩

/-- A file's node, so often named. -/
def fileC (nd : Int) (pm : Nat) : Array Value := #[.int .i64 1, .int .i64 nd, .map none, .int .i64 0, .int .i64 0, .map (some pm)]
set_option maxHeartbeats 1000000 in
theorem newFile_ok (w : World) : Calls Try.prog 30 #[] w fun e w' => ∃ f pm, e = .returned (.pointer (some ⟨f, 0, none⟩)) ∧ w'.heap[f]? = some (.cells (fileC 0 pm) 58 (0, 0)) ∧ w'.heap[pm]? = some (.map #[] 0) ∧ w.heap.size ≤ pm ∧ w.heap.size ≤ f ∧ Below w.heap.size w w' := by
  have hn := newContent_ok w
  go_enter Try.func30, Try.ntmps30
  go_wp2_with fail
  refine Calls.mono hn ?_
  rintro e w1 ⟨pm, rfl, hp1, hg1, hb1⟩
  clear hn
  dsimp only
  go_wp2_with fail
  go_ret
  have hpl : pm < w1.heap.size := (Array.getElem?_eq_some_iff.1 hp1).1
  exact ⟨w1.heap.size, pm, rfl, at_new rfl, at_old hp1, hg1, hb1.size, hb1.trans ((grew_alloc w1 _).mono hb1.size)⟩

theorem mf_empty {κ : Type} {S : Ky κ} {w : World} {m : Nat} {g : κ → Option Value} (h : Mf S w m 0 g) : ∃ c, w.heap[m]? = some (.map #[] c) := by
  obtain ⟨D, ⟨es, c, hb, F, hs, rfl⟩, hN, _⟩ := h
  rw [size_eq, length_sorted] at hN
  have : es = #[] := Array.eq_empty_of_size_eq_zero (by simpa using hN)
  subst this
  exact ⟨c, hb⟩
theorem mf_full {κ : Type} {S : Ky κ} {w : World} {m N : Nat} {g : κ → Option Value} (h : Mf S w m N g) {k : κ} {v : Value} (hk : S.ok k) (hv : g k = some v) (c : Nat) : w.heap[m]? ≠ some (.map #[] c) := by
  intro e
  obtain ⟨D, ⟨es, c', hb, F, hs, rfl⟩, hN, hp⟩ := h
  rw [e] at hb
  cases hb
  have := ((hp k hk).2 v hv).1
  simp [has] at this
theorem NT.apart (h : NT w a mb n nm) : nm ≠ mb := by
  rintro rfl
  obtain ⟨c, hc⟩ := mf_empty h.names
  exact mf_full h.nodes (k := (1 : Int)) (v := .pointer (some ⟨n, 0, none⟩)) ⟨by omega, by omega⟩ (fput_same _ _ _) c hc
/-- A tree with a root and a node more. -/
structure AT (w : World) (a mb n nm f pm : Nat) (nd : Int) : Prop where
  row : w.heap[a]? = some (.cells (treeC mb 2 noF) 44 (0, 0))
  nodes : Mf kI w mb 2 (fput (fput (fun _ => none) 1 (some (.pointer (some ⟨n, 0, none⟩)))) 2 (some (.pointer (some ⟨f, 0, none⟩))))
  root : w.heap[n]? = some (.cells (dirC nm) 58 (0, 0))
  names : Mf kS w nm 0 (fun _ => none)
  file : w.heap[f]? = some (.cells (fileC nd pm) 58 (0, 0))
  pcs : w.heap[pm]? = some (.map #[] 0)
  ne : pm ≠ mb ∧ f ≠ n ∧ pm ≠ nm
theorem AT.kept {f pm : Nat} {nd : Int} (h : AT w a mb n nm f pm nd) (hb : Below w.heap.size w w') : AT w' a mb n nm f pm nd :=
  ⟨(hb.block a (Array.getElem?_eq_some_iff.1 h.row).1).trans h.row, h.nodes.kept (hb.block mb h.nodes.lt), (hb.block n (Array.getElem?_eq_some_iff.1 h.root).1).trans h.root, h.names.kept (hb.block nm h.names.lt), (hb.block f (Array.getElem?_eq_some_iff.1 h.file).1).trans h.file, (hb.block pm (Array.getElem?_eq_some_iff.1 h.pcs).1).trans h.pcs, h.ne⟩

set_option maxHeartbeats 2000000 in
theorem add_ok (h : NT w a mb n nm) (f pm : Nat) (hf : w.heap[f]? = some (.cells (fileC 0 pm) 58 (0, 0))) (hp : w.heap[pm]? = some (.map #[] 0)) (hne : pm ≠ mb ∧ f ≠ n ∧ pm ≠ nm) :
    Calls Try.prog 28 #[.pointer (some ⟨a, 0, none⟩), .pointer (some ⟨f, 0, none⟩)] w fun e w' => e = .returned (.int .i64 2) ∧ AT w' a mb n nm f pm 0 ∧ Fr (fun k => k = a ∨ k = mb) w w' := by
  have a1 := h.a1
  have fz1 : w.frozen? ⟨a, 1, none⟩ = false := by simp [World.frozen?, h.row]
  obtain ⟨W1, hW1⟩ : ∃ W1, w.setCell ⟨a, 1, none⟩ (.int .i64 2) = W1 := ⟨_, rfl⟩
  have ho : ∀ k, k ≠ a → W1.heap[k]? = w.heap[k]? := fun k hk => by rw [← hW1]; exact Below.heap_setCell _ _ _ _ hk
  have hra : W1.heap[a]? = some (.cells (treeC mb 2 noF) 44 (0, 0)) := by
    rw [← hW1, heap_setCell_same w a 1 _ 44 _ h.row]
    simp [treeC, noF]
  have hma : mb ≠ a := by
    rintro rfl
    obtain ⟨es, c, hm⟩ := h.nodes.isMap
    rw [h.row] at hm
    cases hm
  have hM1 := h.nodes.kept (ho mb hma)
  obtain ⟨w2, hup, hM2, hg2⟩ := (show Mf kI W1.drew mb 1 _ from hM1.kept rfl).put (by omega) (t := 41) (e := 39) Try.underlying41 (2 : Int) ⟨by omega, by omega⟩ (.pointer (some ⟨f, 0, none⟩)) (ptr_vR f)
  simp only [kI] at hup
  have d0 : W1.drew.cell? ⟨a, 0, none⟩ = some (.map (some mb)) := (cell_of_row W1.drew a 0 _ 44 _ hra).trans (by simp [treeC, noF])
  have d1 : W1.drew.cell? ⟨a, 1, none⟩ = some (.int .i64 2) := (cell_of_row W1.drew a 1 _ 44 _ hra).trans (by simp [treeC, noF])
  have hal : a < W1.heap.size := (Array.getElem?_eq_some_iff.1 hra).1
  have hra2 : w2.heap[a]? = some (.cells (treeC mb 2 noF) 44 (0, 0)) := (hg2.block a hal (fun e => hma (Option.some.inj e).symm)).trans hra
  have e0 : w2.cell? ⟨a, 0, none⟩ = some (.map (some mb)) := (cell_of_row w2 a 0 _ 44 _ hra2).trans (by simp [treeC, noF])
  have e1 : w2.cell? ⟨a, 1, none⟩ = some (.int .i64 2) := (cell_of_row w2 a 1 _ 44 _ hra2).trans (by simp [treeC, noF])
  have HR : Hid (AT w2 a mb n nm f pm 0 ∧ Fr (fun k => k = a ∨ k = mb) w w2) := by
    have hk : ∀ k, k < w.heap.size → k ≠ a → k ≠ mb → w2.heap[k]? = w.heap[k]? := fun k hk h1 h2 => (hg2.block k (by show k < W1.heap.size; rw [← hW1]; simpa using hk) (fun e => h2 (Option.some.inj e))).trans (ho k h1)
    have lt : ∀ {k o}, w.heap[k]? = some o → k < w.heap.size := fun e => (Array.getElem?_eq_some_iff.1 e).1
    have cne : ∀ {k cs t}, w.heap[k]? = some (.cells cs t (0, 0)) → k ≠ mb := fun e h2 => by
      subst h2
      obtain ⟨es, c, hm⟩ := h.nodes.isMap
      rw [e] at hm
      cases hm
    have tne : ∀ {k cs}, w.heap[k]? = some (.cells cs 58 (0, 0)) → k ≠ a := fun e h2 => by
      subst h2
      rw [h.row] at e
      simp at e
    have mne : ∀ {k es c}, w.heap[k]? = some (.map es c) → k ≠ a := fun e h2 => by
      subst h2
      rw [h.row] at e
      cases e
    obtain ⟨es, c, hnm⟩ := h.names.isMap
    refine ⟨⟨hra2, ?_, (hk n (lt h.root) (tne h.root) (cne h.root)).trans h.root, h.names.kept (hk nm h.names.lt (mne hnm) ?_), (hk f (lt hf) (tne hf) (cne hf)).trans hf, (hk pm (lt hp) (mne hp) hne.1).trans hp, hne⟩, ⟨hg2.os.trans (by rw [← hW1]; rfl), hg2.tape.trans (by rw [← hW1]; rfl), hg2.output.trans (by rw [← hW1]; rfl), Nat.le_trans (by rw [← hW1]; simp) hg2.size, fun k hk' hn => hk k hk' (fun e => hn (.inl e)) (fun e => hn (.inr e))⟩⟩
    · obtain ⟨D, h1, h2, h3⟩ := hM2
      refine ⟨D, h1, ?_, h3⟩
      split at h2 <;> omega
    · exact h.apart
  clear hM1 hM2 hra hra2 hg2 hal h hf hp ho
  go_enter Try.func28, Try.ntmps28
  go_wp2_with fail
  go_region_held3 (fun w' => w'.cell? ⟨a, 0, none⟩ = some (.map (some mb)) ∧ w'.cell? ⟨a, 1, none⟩ = some (.int .i64 2)) (first | exact ⟨d0, d1⟩ | exact ⟨e0, e1⟩) (fail)
  go_wp2_with fail
  go_ret
  exact ⟨rfl, HR.out⟩
end
end Go.Proofs.Ytfchclpglcogoaa
