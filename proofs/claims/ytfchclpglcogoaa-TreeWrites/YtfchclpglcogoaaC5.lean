/- A tree with one file that is open: write and read. -/
import Derived.Test.YtfchclpglcogoaaC4
import Derived.Laws.ResultCell
namespace Go.Proofs.Ytfchclpglcogoaa
open Go.RowKit Go.Maps
set_option linter.unusedVariables false
set_option maxRecDepth 100000

/-- The descriptors' files: the first one has node 2. -/
def oneF : Array Value := #[.int .i64 2, .int .i64 0, .int .i64 0, .int .i64 0, .int .i64 0, .int .i64 0, .int .i64 0, .int .i64 0, .int .i64 0, .int .i64 0, .int .i64 0, .int .i64 0, .int .i64 0, .int .i64 0, .int .i64 0, .int .i64 0]
/-- Block a is a tree whose descriptor 0 has the file f, of the bytes xs. -/
structure FT (w : World) (a mb f pm N : Nat) (xs : List Int) : Prop where
  row : w.heap[a]? = some (.cells (treeC mb 2 oneF) 44 (0, 0))
  nodes : ∃ M g, Mf kI w mb M g ∧ g 2 = some (.pointer (some ⟨f, 0, none⟩))
  ct : CT w f pm N (.int .i64 1) (.int .i64 1) (.map none) (.int .i64 0) xs
  ne : mb ≠ pm
section
variable {w w' : World} {a mb f pm N : Nat} {xs : List Int}
theorem FT.a0 (h : FT w a mb f pm N xs) : w.cell? ⟨a, 0, none⟩ = some (.map (some mb)) := (cell_of_row w a 0 _ 44 _ h.row).trans (by simp [treeC, oneF])
theorem FT.a2 (h : FT w a mb f pm N xs) : w.cell? ⟨a, 2, none⟩ = some (.int .i64 2) := (cell_of_row w a 2 _ 44 _ h.row).trans (by simp [treeC, oneF])
theorem FT.af (h : FT w a mb f pm N xs) : a ≠ f := by
  rintro rfl
  have h1 := h.row
  rw [h.ct.row] at h1
  simp at h1
theorem FT.apm (h : FT w a mb f pm N xs) : a ≠ pm := by
  rintro rfl
  obtain ⟨es, c, hm⟩ := h.ct.mf.isMap
  rw [h.row] at hm
  cases hm
theorem FT.mf (h : FT w a mb f pm N xs) : mb ≠ f := by
  rintro rfl
  obtain ⟨M, g, hm, _⟩ := h.nodes
  obtain ⟨es, c, hm⟩ := hm.isMap
  rw [h.ct.row] at hm
  cases hm
theorem FT.kept (h : FT w a mb f pm N xs) (hb : Below w.heap.size w w') : FT w' a mb f pm N xs := by
  obtain ⟨M, g, hm, hg⟩ := h.nodes
  exact ⟨(hb.block a (Array.getElem?_eq_some_iff.1 h.row).1).trans h.row, ⟨M, g, hm.kept (hb.block mb hm.lt), hg⟩, h.ct.kept hb, h.ne⟩
theorem FT.turn {N' : Nat} {ys : List Int} (h : FT w a mb f pm N xs) (hc : CT w' f pm N' (.int .i64 1) (.int .i64 1) (.map none) (.int .i64 0) ys) (hF : Fr (fun k => k = f ∨ k = pm) w w') : FT w' a mb f pm N' ys := by
  obtain ⟨M, g, hm, hg⟩ := h.nodes
  exact ⟨(hF.block a (Array.getElem?_eq_some_iff.1 h.row).1 (fun e => e.elim h.af h.apm)).trans h.row, ⟨M, g, hm.kept (hF.block mb hm.lt (fun e => e.elim h.mf h.ne)), hg⟩, hc, h.ne⟩

theorem zeroV39 (w : World) : (zeroValue 39).run Try.prog w = .ok (.pointer none) w := by kernel_rfl

set_option maxHeartbeats 1000000 in
theorem file_ok (h : FT w a mb f pm N xs) : Calls Try.prog 33 #[.pointer (some ⟨a, 0, none⟩), .int .i64 0] w fun e w' => e = .returned (.tuple #[.pointer (some ⟨f, 4, none⟩), .int .i64 0]) ∧ Below w.heap.size w w' := by
  have a0 := h.a0
  have a2 := h.a2
  obtain ⟨M, g, hm, hg⟩ := h.nodes
  have hl := (show Mf kI w.drew mb M g from hm.kept rfl).get (t := 41) (e := 39) Try.underlying41 (zeroV39 w.drew) (zd := .agg []) rfl (2 : Int) ⟨by omega, by omega⟩
  rw [hg] at hl
  simp only [kI] at hl
  have hl2 : (Instr.lookup 41 (.map (some mb)) (.int .i64 2) false).run Try.prog w.drew = .ok (.pointer (some ⟨f, 0, none⟩)) w.drew := hl
  have a0d : w.drew.cell? ⟨a, 0, none⟩ = some (.map (some mb)) := a0
  have a2d : w.drew.cell? ⟨a, 2, none⟩ = some (.int .i64 2) := a2
  clear hl hg hm h
  go_enter Try.func33, Try.ntmps33
  go_wp2_with fail
  go_region_held3 (fun w' => w'.cell? ⟨a, 0, none⟩ = some (.map (some mb)) ∧ w'.cell? ⟨a, 2, none⟩ = some (.int .i64 2) ∧ (Instr.lookup 41 (.map (some mb)) (.int .i64 2) false).run Try.prog w' = .ok (.pointer (some ⟨f, 0, none⟩)) w') (exact ⟨a0d, a2d, hl2⟩) (fail)
  go_wp2_with fail
  go_ret2
  exact ⟨rfl, (Below.refl _ _).drew⟩

/-- An answer that tells a number, and bytes. -/
def ansC (n : Int) (b : Value) : Array Value := #[.int .i64 n, b, .slice none 0 0, .int .i64 0, .int .i64 0, .int .i64 0]
def ansV (n : Int) (b : Value) : Value := .agg (ansC n b)
theorem info27 : (Try.prog.info? 27).map (·.size) = some 6 := by kernel_rfl
theorem ans_one (n : Int) (p : Option Addr) (l c : Nat) : (ansC n (.slice p l c)).all (·.oneCell') = true := by simp [ansC, Value.oneCell']
theorem results_cell_tmp_row {P : Program} {fn : Func} {p u : Tmp} {ty : TypeId} (h : fn.results = #[.cell p ty, .tmp u]) (tmps : Array Value) (w : World) (g : Nat) (t : TypeId) (cs : Array Value) (fr : Nat × Nat) (d : TypeDesc)
    (hp : tmps.getD p undef = .pointer (some ⟨g, 0, none⟩)) (hg : w.heap[g]? = some (.cells cs t fr))
    (hu : P.underlying ty = some d) (hd : (match d with | .struct _ | .array _ _ => true | _ => false) = true) (hi : (P.info? ty).map (·.size) = some cs.size) :
    (results fn tmps).run P w = .ok (.tuple #[.agg cs, tmps.getD u undef]) w := by
  rw [results_cell_tmp h, hp]
  simp [asAddr, run_loadVar_row w g t ty cs fr d hg hu hd hi]


set_option maxHeartbeats 1000000 in
theorem twrite_ok (h : FT w a mb f pm N xs) (off : Nat) (p : Option Addr) (n c : Nat) (b : List Int) (hb : BI w p n b) (hcap : n ≤ c ∧ c ≤ 9223372036854775807) (hp : ∀ g o, p = some ⟨g, o, none⟩ → g ≠ f ∧ g ≠ pm) (ho : off ≤ 5000) (hN : N ≤ 100000000000) :
    Calls Try.prog 15 #[.pointer (some ⟨a, 0, none⟩), .int .i64 0, .int .i64 (off : Int), .slice p n c] w fun e w' =>
      (532992 < off + n → e = .returned (.tuple #[ansV 0 (.slice none 0 0), .int .i64 150]) ∧ Below w.heap.size w w') ∧
      (off + n ≤ 532992 → e = .returned (.tuple #[ansV (n : Int) (.slice none 0 0), .int .i64 0]) ∧ FT w' a mb f pm (N + n) (wrt xs off b) ∧ Fr (fun k => k = f ∨ k = pm) w w') := by
  have hbig := hb.big
  obtain ⟨W1, hW1⟩ : ∃ W1, w.alloc (.cells #[.int .i64 0, .slice none 0 0, .slice none 0 0, .int .i64 0, .int .i64 0, .int .i64 0] 27) = W1 := ⟨_, rfl⟩
  have hb1 : Below w.heap.size w W1 := by rw [← hW1]; exact (Below.refl _ _).alloc (Nat.le_refl _) _
  have hr1 : W1.heap[w.heap.size]? = some (.cells #[.int .i64 0, .slice none 0 0, .slice none 0 0, .int .i64 0, .int .i64 0, .int .i64 0] 27 (0, 0)) := by rw [← hW1]; exact at_new rfl
  have h1 := h.kept hb1
  have hfi := file_ok h1
  have hw1 : IntKind.i64.wrap (532992 - (n : Int)) = 532992 - (n : Int) := IntWalk.i64_in _ (by omega)
  have ho0 : ¬ (off : Int) < 0 := by omega
  have hr1' : W1.heap[w.heap.size]? = some (.cells (ansC 0 (.slice none 0 0)) 27 (0, 0)) := hr1
  by_cases hgt : 532992 < off + n
  · have hgI : 532992 - (n : Int) < (off : Int) := by omega
    go_enter Try.func15, Try.ntmps15
    go_wp2_with fail
    refine Calls.mono hfi ?_
    rintro e w2 ⟨rfl, hb2⟩
    have hr2 := (hb2.block w.heap.size (Array.getElem?_eq_some_iff.1 hr1').1).trans hr1'
    have hB2 := hb1.trans (hb2.mono hb1.size)
    clear hfi
    dsimp only
    go_wp2_with (first | (refine wpList_store_row rfl 27 (.tmp 8) _ rfl w.heap.size (ansC 0 (.slice none 0 0)) rfl rfl 27 _ hr2 info27 rfl (ans_one _ _ _ _) ?_))
    refine bodyPost_ret (v := .tuple #[ansV 0 (.slice none 0 0), .int .i64 150]) (results_cell_tmp_row (p := 8) (u := 9) (ty := 27) Try.results15 _ _ w.heap.size 27 _ (0, 0) _ rfl (setRow_heap _ _ _ _ _ _ hr2) Try.underlying27 rfl info27) rfl ?_
    exact ⟨fun _ => ⟨rfl, below_setRow hB2 (Nat.le_refl _) _⟩, fun hc => absurd hc (by omega)⟩
  · have hgI : ¬ 532992 - (n : Int) < (off : Int) := by omega
    go_enter Try.func15, Try.ntmps15
    go_wp2_with fail
    refine Calls.mono hfi ?_
    rintro e w2 ⟨rfl, hb2⟩
    have hr2 := (hb2.block w.heap.size (Array.getElem?_eq_some_iff.1 hr1').1).trans hr1'
    have hB2 := hb1.trans (hb2.mono hb1.size)
    have h2 := h1.kept hb2
    have hcw := cwrite_ok h2.ct off p n c b (hb.kept hB2) hcap hp (by omega) hN
    clear hfi
    dsimp only
    go_wp2_with fail
    refine Calls.mono hcw ?_
    rintro e w3 ⟨rfl, hC3, hF3⟩
    have hfl : f < w.heap.size := (Array.getElem?_eq_some_iff.1 h.ct.row).1
    have hpl : pm < w.heap.size := h.ct.mf.lt
    have hwl : w.heap.size < w2.heap.size := (Array.getElem?_eq_some_iff.1 hr2).1
    have hr3 := (hF3.block w.heap.size hwl (fun e => by omega)).trans hr2
    have h3 := h2.turn hC3 hF3
    have hb4 : ∀ cs, Below w3.heap.size w3 w3 → Fr (fun k => k = f ∨ k = pm) w (w3.setRow w.heap.size cs) := fun cs _ => by
      have hF := (Fr.below (X := fun k => k = f ∨ k = pm) hB2).trans hF3
      exact ⟨hF.os, hF.tape, hF.output, by simpa using hF.size, fun k hk hn => (setRow_other _ _ _ _ (by omega)).trans (hF.block k hk hn)⟩
    have hne : ∀ cs, FT (w3.setRow w.heap.size cs) a mb f pm (N + n) (wrt xs off b) := fun cs => by
      obtain ⟨M, g, hm, hg⟩ := h3.nodes
      have hal : a < w.heap.size := (Array.getElem?_eq_some_iff.1 h.row).1
      obtain ⟨M0, g0, hm0, _⟩ := h.nodes
      have hml := hm0.lt
      exact ⟨(setRow_other _ _ _ _ (by omega)).trans h3.row, ⟨M, g, hm.kept (setRow_other _ _ _ _ (by omega)), hg⟩, ⟨(setRow_other _ _ _ _ (by omega)).trans h3.ct.row, h3.ct.mf.kept (setRow_other _ _ _ _ (by omega)), h3.ct.byt⟩, h3.ne⟩
    have HR : Hid (FT (w3.setRow w.heap.size (ansC (n : Int) (.slice none 0 0))) a mb f pm (N + n) (wrt xs off b) ∧ Fr (fun k => k = f ∨ k = pm) w (w3.setRow w.heap.size (ansC (n : Int) (.slice none 0 0)))) := ⟨hne _, hb4 _ (Below.refl _ _)⟩
    have hi27 : (Try.prog.info? 27).map (·.size) = some (ansC (n : Int) (.slice none 0 0)).size := info27
    clear hcw hne hb4 h3 hC3 hF3 h2
    dsimp only
    go_wp2_with (first | (refine wpList_store_row rfl 27 (.tmp 8) _ rfl w.heap.size (ansC (n : Int) (.slice none 0 0)) rfl rfl 27 _ hr3 hi27 rfl (ans_one _ _ _ _) ?_))
    refine bodyPost_ret (v := .tuple #[ansV (n : Int) (.slice none 0 0), .int .i64 0]) (results_cell_tmp_row (p := 8) (u := 9) (ty := 27) Try.results15 _ _ w.heap.size 27 _ (0, 0) _ rfl (setRow_heap _ _ _ _ _ _ hr3) Try.underlying27 rfl hi27) rfl ?_
    exact ⟨fun hc => absurd hc hgt, fun _ => ⟨rfl, HR.out⟩⟩
end
end Go.Proofs.Ytfchclpglcogoaa
