/- Do: write and read of an open file. -/
import Derived.Test.YtfchclpglcogoaaC5
namespace Go.Proofs.Ytfchclpglcogoaa
open Go.RowKit Go.Maps
set_option linter.unusedVariables false
set_option maxRecDepth 100000

theorem mapIsNil {P : Program} {t k e : TypeId} (h : P.underlying t = some (.map k e)) (n : Nat) (p : Option Nat) (w : World) : (Op.equalIn (n + 1) t (.map p) (.map none)).run P w = .ok p.isNone w := by
  cases p <;> simp [Op.equalIn, run_underlying h]
theorem mapNeqNil {P : Program} {t k e : TypeId} (h : P.underlying t = some (.map k e)) (p : Option Nat) (w : World) : (binOp .neq t (.map p) (.map none)).run P w = .ok (.bool p.isSome) w := by
  have h1 := mapIsNil h 9999 p w
  have h2 : Op.equal t (.map p) (.map none) = Op.equalIn (9999 + 1) t (.map p) (.map none) := rfl
  simp only [binOp, h2]
  generalize Op.equalIn (9999 + 1) t (.map p) (.map none) = s at h1
  cases p <;> simp [h1]
section
variable {w w' : World} {a mb f pm N : Nat} {xs : List Int}
set_option maxHeartbeats 400000 in
theorem made_ok (ha : w.cell? ⟨a, 0, none⟩ = some (.map (some mb))) : Calls Try.prog 9 #[.pointer (some ⟨a, 0, none⟩)] w fun e w' => e = .returned (.bool true) ∧ w' = w := by
  have hn := mapNeqNil Try.underlying41 (some mb) w
  go_enter Try.func9, Try.ntmps9
  go_wp2
  go_ret
  exact ⟨rfl, rfl⟩

set_option maxHeartbeats 1000000 in
theorem tread_ok (h : FT w a mb f pm N xs) (hx : xs.length ≤ 600000) (n : Nat) (hn : n ≤ 2147483648) (m : Nat) (hm : m = min n xs.length) :
    Calls Try.prog 14 #[.pointer (some ⟨a, 0, none⟩), .int .i64 0, .int .i64 0, .int .i64 (n : Int)] w fun e w' => ∃ g, e = .returned (.tuple #[ansV (m : Int) (.slice (some ⟨g, 0, none⟩) m m), .int .i64 0]) ∧ BI w' (some ⟨g, 0, none⟩) m (xs.take m) ∧ w.heap.size ≤ g ∧ Below w.heap.size w w' := by
  obtain ⟨W1, hW1⟩ : ∃ W1, w.alloc (.cells #[.int .i64 0, .slice none 0 0, .slice none 0 0, .int .i64 0, .int .i64 0, .int .i64 0] 27) = W1 := ⟨_, rfl⟩
  have hb1 : Below w.heap.size w W1 := by rw [← hW1]; exact (Below.refl _ _).alloc (Nat.le_refl _) _
  have hr1 : W1.heap[w.heap.size]? = some (.cells (ansC 0 (.slice none 0 0)) 27 (0, 0)) := by rw [← hW1]; exact at_new rfl
  have h1 := h.kept hb1
  have hfi := file_ok h1
  have hn0 : ¬ (n : Int) < 0 := by omega
  have HM : Hid (m = min n xs.length) := hm
  clear hm
  go_enter Try.func14, Try.ntmps14
  go_wp2_with fail
  refine Calls.mono hfi ?_
  rintro e w2 ⟨rfl, hb2⟩
  have hr2 := (hb2.block w.heap.size (Array.getElem?_eq_some_iff.1 hr1).1).trans hr1
  have h2 := h1.kept hb2
  have hcr := cread_ok h2.ct hx 0 n m (by rw [Nat.sub_zero]; exact HM.out) (by omega) hn
  rw [List.drop_zero] at hcr
  clear hfi
  dsimp only
  go_wp2_with fail
  refine Calls.mono hcr ?_
  rintro e w3 ⟨g, rfl, hB3, hg3, hb3⟩
  have hr3 := (hb3.block w.heap.size (Array.getElem?_eq_some_iff.1 hr2).1).trans hr2
  have hbb := (hb1.trans (hb2.mono hb1.size)).trans (hb3.mono (Nat.le_trans hb1.size hb2.size))
  have hwl : w.heap.size < w2.heap.size := (Array.getElem?_eq_some_iff.1 hr2).1
  have hi27 : (Try.prog.info? 27).map (·.size) = some (ansC (m : Int) (.slice (some ⟨g, 0, none⟩) m m)).size := info27
  clear hcr
  dsimp only
  go_wp2_with (first | (refine wpList_store_row rfl 27 (.tmp 8) _ rfl w.heap.size (ansC (m : Int) (.slice (some ⟨g, 0, none⟩) m m)) rfl rfl 27 _ hr3 hi27 rfl (ans_one _ _ _ _) ?_))
  refine bodyPost_ret (v := .tuple #[ansV (m : Int) (.slice (some ⟨g, 0, none⟩) m m), .int .i64 0]) (results_cell_tmp_row (p := 8) (u := 9) (ty := 27) Try.results14 _ _ w.heap.size 27 _ (0, 0) _ rfl (setRow_heap _ _ _ _ _ _ hr3) Try.underlying27 rfl hi27) rfl ?_
  refine ⟨g, rfl, ?_, by omega, below_setRow hbb (Nat.le_refl _) _⟩
  exact bi_same hB3 (fun b o e _ => by cases e; exact setRow_other _ _ _ _ (by omega))

/-- A call's cells. -/
def callC (k fd off n : Int) (p q : ByteArray) (s : Value) : Array Value := #[.int .i64 k, .int .i64 fd, .int .i64 off, .int .i64 n, .string p, .string q, s]

set_option maxHeartbeats 2000000 in
theorem dowrite_ok (h : FT w a mb f pm N xs) (off : Nat) (p : Option Addr) (n c : Nat) (b : List Int) (hb : BI w p n b) (hcap : n ≤ c ∧ c ≤ 9223372036854775807) (hp : ∀ g o, p = some ⟨g, o, none⟩ → g ≠ f ∧ g ≠ pm) (ho : off ≤ 5000) (hN : N ≤ 100000000000) :
    Calls Try.prog 5 #[.pointer (some ⟨a, 0, none⟩), .agg #[.int .i64 6, .int .i64 0, .int .i64 (off : Int), .int .i64 0, .string ⟨#[]⟩, .string ⟨#[]⟩, .slice p n c]] w fun e w' =>
      (532992 < off + n → e = .returned (.tuple #[ansV 0 (.slice none 0 0), .int .i64 150]) ∧ Below w.heap.size w w') ∧
      (off + n ≤ 532992 → e = .returned (.tuple #[ansV (n : Int) (.slice none 0 0), .int .i64 0]) ∧ FT w' a mb f pm (N + n) (wrt xs off b) ∧ Fr (fun k => k = f ∨ k = pm) w w') := by
  obtain ⟨W1, hW1⟩ : ∃ W1, (w.alloc (.cells #[.int .i64 6, .int .i64 0, .int .i64 (off : Int), .int .i64 0, .string ⟨#[]⟩, .string ⟨#[]⟩, .slice p n c] 32)).alloc (.cells #[.int .i64 0, .slice none 0 0, .slice none 0 0, .int .i64 0, .int .i64 0, .int .i64 0] 27) = W1 := ⟨_, rfl⟩
  have hb1 : Below w.heap.size w W1 := by rw [← hW1]; exact ((Below.refl _ _).alloc (Nat.le_refl _) _).alloc (by simp) _
  have hs1 : W1.heap.size = w.heap.size + 2 := by rw [← hW1]; simp
  have hr1 : W1.heap[w.heap.size + 1]? = some (.cells (ansC 0 (.slice none 0 0)) 27 (0, 0)) := by rw [← hW1]; exact at_new (by simp)
  have hrc : W1.heap[w.heap.size]? = some (.cells #[.int .i64 6, .int .i64 0, .int .i64 (off : Int), .int .i64 0, .string ⟨#[]⟩, .string ⟨#[]⟩, .slice p n c] 32 (0, 0)) := by rw [← hW1]; exact at_old (at_new rfl)
  have k0 : W1.cell? ⟨w.heap.size, 0, none⟩ = some (.int .i64 6) := (cell_of_row _ _ 0 _ 32 _ hrc).trans rfl
  have k1 : W1.cell? ⟨w.heap.size, 1, none⟩ = some (.int .i64 0) := (cell_of_row _ _ 1 _ 32 _ hrc).trans rfl
  have k2 : W1.cell? ⟨w.heap.size, 2, none⟩ = some (.int .i64 (off : Int)) := (cell_of_row _ _ 2 _ 32 _ hrc).trans rfl
  have k6 : W1.cell? ⟨w.heap.size, 6, none⟩ = some (.slice p n c) := (cell_of_row _ _ 6 _ 32 _ hrc).trans rfl
  have h1 := h.kept hb1
  have hmd := made_ok h1.a0
  have htw := twrite_ok h1 off p n c b (hb.kept hb1) hcap hp ho hN
  have hfl : f < w.heap.size := (Array.getElem?_eq_some_iff.1 h.ct.row).1
  have hpl : pm < w.heap.size := h.ct.mf.lt
  have HS : Hid (W1.heap.size = w.heap.size + 2 ∧ f < w.heap.size ∧ pm < w.heap.size) := ⟨hs1, hfl, hpl⟩
  clear hs1 hfl hpl hrc hb
  go_enter Try.func5, Try.ntmps5
  go_wp2_with (first | (go_at_call 9; refine same_at hmd ?_))
  refine Calls.mono htw ?_
  rintro e w3 ⟨hbig, hfit⟩
  by_cases hgt : 532992 < off + n
  · obtain ⟨rfl, hb3⟩ := hbig hgt
    have hr3 := (hb3.block (w.heap.size + 1) (by have := HS.out; omega)).trans hr1
    have hB := hb1.trans (hb3.mono hb1.size)
    clear htw hbig hfit
    unfold ansV
    dsimp only
    go_wp2_with (first | (refine wpList_store_row rfl 27 (.tmp 4) _ rfl (w.heap.size + 1) (ansC 0 (.slice none 0 0)) rfl rfl 27 _ hr3 info27 rfl (ans_one _ _ _ _) ?_))
    refine bodyPost_ret (v := .tuple #[ansV 0 (.slice none 0 0), .int .i64 150]) (results_cell_tmp_row (p := 4) (u := 5) (ty := 27) Try.results5 _ _ (w.heap.size + 1) 27 _ (0, 0) _ rfl (setRow_heap _ _ _ _ _ _ hr3) Try.underlying27 rfl info27) rfl ?_
    exact ⟨fun _ => ⟨rfl, below_setRow hB (by omega) _⟩, fun hc => absurd hc (by omega)⟩
  · obtain ⟨rfl, h3, hF3⟩ := hfit (by omega)
    have hr3 := (hF3.block (w.heap.size + 1) (by have := HS.out; omega) (fun e => by have := HS.out; omega)).trans hr1
    have hi27 : (Try.prog.info? 27).map (·.size) = some (ansC (n : Int) (.slice none 0 0)).size := info27
    clear htw hbig hfit
    unfold ansV
    dsimp only
    go_wp2_with (first | (refine wpList_store_row rfl 27 (.tmp 4) _ rfl (w.heap.size + 1) (ansC (n : Int) (.slice none 0 0)) rfl rfl 27 _ hr3 hi27 rfl (ans_one _ _ _ _) ?_))
    refine bodyPost_ret (v := .tuple #[ansV (n : Int) (.slice none 0 0), .int .i64 0]) (results_cell_tmp_row (p := 4) (u := 5) (ty := 27) Try.results5 _ _ (w.heap.size + 1) 27 _ (0, 0) _ rfl (setRow_heap _ _ _ _ _ _ hr3) Try.underlying27 rfl hi27) rfl ?_
    refine ⟨fun hc => absurd hc hgt, fun _ => ⟨rfl, ?_, ?_⟩⟩
    · obtain ⟨M, g, hm, hg⟩ := h3.nodes
      have hal : a < w.heap.size := (Array.getElem?_eq_some_iff.1 h.row).1
      obtain ⟨M0, g0, hm0, _⟩ := h.nodes
      have hml := hm0.lt
      have hs := HS.out
      exact ⟨(setRow_other _ _ _ _ (by omega)).trans h3.row, ⟨M, g, hm.kept (setRow_other _ _ _ _ (by omega)), hg⟩, ⟨(setRow_other _ _ _ _ (by omega)).trans h3.ct.row, h3.ct.mf.kept (setRow_other _ _ _ _ (by omega)), h3.ct.byt⟩, h3.ne⟩
    · have hF := (Fr.below (X := fun k => k = f ∨ k = pm) hb1).trans hF3
      exact ⟨hF.os, hF.tape, hF.output, by simpa using hF.size, fun k hk hn => (setRow_other _ _ _ _ (by omega)).trans (hF.block k hk hn)⟩

set_option maxHeartbeats 2000000 in
theorem doread_ok (h : FT w a mb f pm N xs) (hx : xs.length ≤ 600000) (n : Nat) (hn : n ≤ 2147483648) (m : Nat) (hm : m = min n xs.length) :
    Calls Try.prog 5 #[.pointer (some ⟨a, 0, none⟩), .agg #[.int .i64 5, .int .i64 0, .int .i64 0, .int .i64 (n : Int), .string ⟨#[]⟩, .string ⟨#[]⟩, .slice none 0 0]] w fun e w' => ∃ g, e = .returned (.tuple #[ansV (m : Int) (.slice (some ⟨g, 0, none⟩) m m), .int .i64 0]) ∧ BI w' (some ⟨g, 0, none⟩) m (xs.take m) ∧ Below w.heap.size w w' := by
  obtain ⟨W1, hW1⟩ : ∃ W1, (w.alloc (.cells #[.int .i64 5, .int .i64 0, .int .i64 0, .int .i64 (n : Int), .string ⟨#[]⟩, .string ⟨#[]⟩, .slice none 0 0] 32)).alloc (.cells #[.int .i64 0, .slice none 0 0, .slice none 0 0, .int .i64 0, .int .i64 0, .int .i64 0] 27) = W1 := ⟨_, rfl⟩
  have hb1 : Below w.heap.size w W1 := by rw [← hW1]; exact ((Below.refl _ _).alloc (Nat.le_refl _) _).alloc (by simp) _
  have hs1 : W1.heap.size = w.heap.size + 2 := by rw [← hW1]; simp
  have hr1 : W1.heap[w.heap.size + 1]? = some (.cells (ansC 0 (.slice none 0 0)) 27 (0, 0)) := by rw [← hW1]; exact at_new (by simp)
  have hrc : W1.heap[w.heap.size]? = some (.cells #[.int .i64 5, .int .i64 0, .int .i64 0, .int .i64 (n : Int), .string ⟨#[]⟩, .string ⟨#[]⟩, .slice none 0 0] 32 (0, 0)) := by rw [← hW1]; exact at_old (at_new rfl)
  have k0 : W1.cell? ⟨w.heap.size, 0, none⟩ = some (.int .i64 5) := (cell_of_row _ _ 0 _ 32 _ hrc).trans rfl
  have k1 : W1.cell? ⟨w.heap.size, 1, none⟩ = some (.int .i64 0) := (cell_of_row _ _ 1 _ 32 _ hrc).trans rfl
  have k2 : W1.cell? ⟨w.heap.size, 2, none⟩ = some (.int .i64 0) := (cell_of_row _ _ 2 _ 32 _ hrc).trans rfl
  have k3 : W1.cell? ⟨w.heap.size, 3, none⟩ = some (.int .i64 (n : Int)) := (cell_of_row _ _ 3 _ 32 _ hrc).trans rfl
  have h1 := h.kept hb1
  have hmd := made_ok h1.a0
  have htr := tread_ok h1 hx n hn m hm
  have HS : Hid (W1.heap.size = w.heap.size + 2) := hs1
  clear hs1 hrc hm
  go_enter Try.func5, Try.ntmps5
  go_wp2_with (first | (go_at_call 9; refine same_at hmd ?_))
  refine Calls.mono htr ?_
  rintro e w3 ⟨g, rfl, hB3, hgl, hb3⟩
  have hr3 := (hb3.block (w.heap.size + 1) (by have := HS.out; omega)).trans hr1
  have hB := hb1.trans (hb3.mono hb1.size)
  have hi27 : (Try.prog.info? 27).map (·.size) = some (ansC (m : Int) (.slice (some ⟨g, 0, none⟩) m m)).size := info27
  have HT : Hid (∀ cs, w.heap.size + 1 ≠ g → BI (w3.setRow (w.heap.size + 1) cs) (some ⟨g, 0, none⟩) m (xs.take m)) := fun cs hne => bi_same hB3 (fun b o e _ => by cases e; exact setRow_other _ _ _ _ (by omega))
  clear htr
  unfold ansV
  dsimp only
  go_wp2_with (first | (refine wpList_store_row rfl 27 (.tmp 4) _ rfl (w.heap.size + 1) (ansC (m : Int) (.slice (some ⟨g, 0, none⟩) m m)) rfl rfl 27 _ hr3 hi27 rfl (ans_one _ _ _ _) ?_))
  refine bodyPost_ret (v := .tuple #[ansV (m : Int) (.slice (some ⟨g, 0, none⟩) m m), .int .i64 0]) (results_cell_tmp_row (p := 4) (u := 5) (ty := 27) Try.results5 _ _ (w.heap.size + 1) 27 _ (0, 0) _ rfl (setRow_heap _ _ _ _ _ _ hr3) Try.underlying27 rfl hi27) rfl ?_
  refine ⟨g, rfl, HT.out _ (by have := HS.out; omega), below_setRow hB (by omega) _⟩
end
end Go.Proofs.Ytfchclpglcogoaa
