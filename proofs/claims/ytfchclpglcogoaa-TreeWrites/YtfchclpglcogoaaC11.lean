/- Do's create; bytes.Clone and bytes.Equal. -/
import Derived.Test.YtfchclpglcogoaaC10
namespace Go.Proofs.Ytfchclpglcogoaa
open Go.RowKit Go.Maps
set_option linter.unusedVariables false
set_option maxRecDepth 100000

theorem eqlNil (w : World) (a : Option Addr) (n c n' c' : Nat) : (binOp .eql 22 (.slice a n c) (.slice none n' c')).run Try.prog w = .ok (.bool a.isNone) w := Lib.run_eql_slice_nil w _ _ a n c n' c' Try.underlying22
set_option maxHeartbeats 400000 in
theorem bclone_some (a : Addr) (n c : Nat) (xs : List Int) (w : World) (h : BI w (some a) n xs) :
    Calls Try.prog 6 #[.slice (some a) n c] w fun e w' => ∃ g cap, e = .returned (.slice (some ⟨g, 0, none⟩) n cap) ∧ Own w.heap.size w' g n cap xs ∧ Below w.heap.size w w' := by
  obtain ⟨i0, hi, hz0, hz1, hz2⟩ := info_parts info5
  have hbig := h.big
  have hlen := h.len
  have q22 := eqlNil
  have hb0 := (Below.refl w.heap.size w).alloc (Nat.le_refl _) (Obj.cells #[] 5)
  go_enter Try.func6, Try.ntmps6
  go_wp2_with (at_builtin; refine wpList_append_own _ rfl _ _ 22 rfl w.heap.size 5 i0 (.int .u8 0) 1 1 Try.underlying22 hi hz0 hz1 hz2 rfl (by decide) _ _ _ rfl (World.ownsRow_made w #[] 0 (Nat.le_refl _) (Nat.zero_le _) rfl) a n c (xs.map (Value.int .u8)) rfl ?c1 ?c2 ?c3 ?c4 ?c5 ?c6 ?_)
  case c1 => simp [hlen]
  case c2 => exact (h.kept hb0).src'
  case c3 => exact one_cells xs
  case c4 => unfold maxLen; omega
  case c5 => omega
  case c6 => simp
  intro v' w1 hown hgrow hnil
  obtain ⟨g, cap, hv, ho⟩ := own_shape hown (by first | exact hnil | (intro e; exact absurd (hnil.1 e).1 (by simp)))
  rw [hv]
  clear hown hnil
  have hb1 := hb0.grown hgrow (by simp) (by intro k hk; simp [Value.ownBlock] at hk; omega)
  go_wp2
  go_ret
  exact ⟨g, cap, rfl, ho, hb1⟩
set_option maxHeartbeats 400000 in
theorem bclone_nil (n c : Nat) (w : World) :
    Calls Try.prog 6 #[.slice none n c] w fun e w' => e = .returned (.slice none 0 0) ∧ w' = w := by
  have q22 := eqlNil
  go_enter Try.func6, Try.ntmps6
  go_wp2
  go_ret
  exact ⟨rfl, rfl⟩
set_option maxHeartbeats 400000 in
theorem equal_any (p q : Option Addr) (n c m d : Nat) (xs ys : List Int) (w : World) (h : BI w p n xs) (k : BI w q m ys) :
    Calls Try.prog 7 #[.slice p n c, .slice q m d] w fun e w' => e = .returned (.bool (xs == ys)) ∧ w' = w := by
  have h1 := h.conv c
  have h2 := k.conv d
  go_enter Try.func7, Try.ntmps7
  go_wp2
  go_ret
  exact ⟨ret_bool (str_beq h.byt k.byt), rfl⟩
theorem equal_same (p q : Option Addr) (n c m d : Nat) (xs : List Int) (w : World) (h : BI w p n xs) (k : BI w q m xs) :
    Calls Try.prog 7 #[.slice p n c, .slice q m d] w fun e w' => e = .returned (.bool true) ∧ w' = w :=
  (equal_any p q n c m d xs xs w h k).mono fun e w' ⟨he, hw⟩ => ⟨by rw [he]; simp, hw⟩

theorem bclone_ok (p : Option Addr) (n c : Nat) (xs : List Int) (w : World) (h : BI w p n xs) :
    Calls Try.prog 6 #[.slice p n c] w fun e w' => ∃ q m d, e = .returned (.slice q m d) ∧ m ≤ d ∧ d ≤ 9223372036854775807 ∧ n = m ∧ BI w' q m xs ∧ (∀ g o, q = some ⟨g, o, none⟩ → w.heap.size ≤ g) ∧ Below w.heap.size w w' := by
  cases p with
  | none =>
    have hn : n = 0 := by
      rcases Nat.eq_zero_or_pos n with h0 | h0
      · exact h0
      · obtain ⟨b, o, e, _⟩ := h.cells h0; cases e
    subst hn
    refine (bclone_nil 0 c w).mono ?_
    rintro e w' ⟨rfl, rfl⟩
    exact ⟨none, 0, 0, rfl, Nat.le_refl _, by omega, rfl, h, (fun g o e => by cases e), Below.refl _ _⟩
  | some a =>
    refine (bclone_some a n c xs w h).mono ?_
    rintro e w' ⟨g, cap, rfl, hO, hb⟩
    have hcap : n ≤ cap ∧ cap ≤ 9223372036854775807 := by
      rcases hO.2 with ⟨e, _⟩ | ⟨g', cap', cur, e, _, _, h1, h2, _⟩
      · cases e
      · injection e with _ _ e
        subst e
        unfold maxLen at h2
        exact ⟨h1, by omega⟩
    have hge : w.heap.size ≤ g := by
      rcases hO.2 with ⟨e, _⟩ | ⟨g', cap', cur, e, hh, _⟩
      · cases e
      · cases e; exact hh
    exact ⟨_, n, cap, rfl, hcap.1, hcap.2, rfl, hO.bi h.big h.byt, (fun g' o e => by cases e; exact hge), hb⟩


section
variable {w w' : World} {a mb n nm f pm : Nat}
set_option maxHeartbeats 2000000 in
theorem docreate_ok (h : NT w a mb n nm) :
    Calls Try.prog 5 #[.pointer (some ⟨a, 0, none⟩), .agg #[.int .i64 2, .int .i64 0, .int .i64 0, .int .i64 0, .string sSF, .string ⟨#[]⟩, .slice none 0 0]] w fun e w' => e = .returned (.tuple #[ansV 0 (.slice none 0 0), .int .i64 0]) ∧ ∃ f pm, FT w' a mb f pm 0 [] ∧ w.heap.size ≤ f ∧ w.heap.size ≤ pm ∧ Fr (fun k => k = a ∨ k = mb ∨ k = nm) w w' := by
  obtain ⟨W1, hW1⟩ : ∃ W1, (w.alloc (.cells #[.int .i64 2, .int .i64 0, .int .i64 0, .int .i64 0, .string sSF, .string ⟨#[]⟩, .slice none 0 0] 32)).alloc (.cells #[.int .i64 0, .slice none 0 0, .slice none 0 0, .int .i64 0, .int .i64 0, .int .i64 0] 27) = W1 := ⟨_, rfl⟩
  have hb1 : Below w.heap.size w W1 := by rw [← hW1]; exact ((Below.refl _ _).alloc (Nat.le_refl _) _).alloc (by simp) _
  have hs1 : W1.heap.size = w.heap.size + 2 := by rw [← hW1]; simp
  have hr1 : W1.heap[w.heap.size + 1]? = some (.cells (ansC 0 (.slice none 0 0)) 27 (0, 0)) := by rw [← hW1]; exact at_new (by simp)
  have hrc : W1.heap[w.heap.size]? = some (.cells #[.int .i64 2, .int .i64 0, .int .i64 0, .int .i64 0, .string sSF, .string ⟨#[]⟩, .slice none 0 0] 32 (0, 0)) := by rw [← hW1]; exact at_old (at_new rfl)
  have k0 : W1.cell? ⟨w.heap.size, 0, none⟩ = some (.int .i64 2) := (cell_of_row _ _ 0 _ 32 _ hrc).trans rfl
  have k4 : W1.cell? ⟨w.heap.size, 4, none⟩ = some (.string sSF) := (cell_of_row _ _ 4 _ 32 _ hrc).trans rfl
  have h1 := h.kept hb1
  have hmd := made_ok h1.a0
  have htr := create_ok h1
  have hal : a < w.heap.size := (Array.getElem?_eq_some_iff.1 h.row).1
  have hml := h.nodes.lt
  have hnl := h.names.lt
  have HS : Hid (W1.heap.size = w.heap.size + 2 ∧ a < w.heap.size ∧ mb < w.heap.size ∧ nm < w.heap.size) := ⟨hs1, hal, hml, hnl⟩
  clear hs1 hrc hal hml hnl
  go_enter Try.func5, Try.ntmps5
  go_wp2_with (first | (go_at_call 9; refine same_at hmd ?_))
  refine Calls.mono htr ?_
  rintro e w3 ⟨rfl, f, pm, h3, hf3, hp3, hF3⟩
  have hs := HS.out
  have hr3 := (hF3.block (w.heap.size + 1) (by omega) (fun e => by omega)).trans hr1
  have so : ∀ k, k ≠ w.heap.size + 1 → (w3.setRow (w.heap.size + 1) (ansC 0 (.slice none 0 0))).heap[k]? = w3.heap[k]? := fun k hk => setRow_other _ _ _ _ hk
  have HR : Hid (FT (w3.setRow (w.heap.size + 1) (ansC 0 (.slice none 0 0))) a mb f pm 0 [] ∧ w.heap.size ≤ f ∧ w.heap.size ≤ pm ∧ Fr (fun k => k = a ∨ k = mb ∨ k = nm) w (w3.setRow (w.heap.size + 1) (ansC 0 (.slice none 0 0)))) := by
    obtain ⟨M, gg, hm, hg⟩ := h3.nodes
    refine ⟨⟨(so a (by omega)).trans h3.row, ⟨M, gg, hm.kept (so mb (by omega)), hg⟩, ⟨(so f (by omega)).trans h3.ct.row, h3.ct.mf.kept (so pm (by omega)), h3.ct.byt⟩, h3.ne⟩, by omega, by omega, ?_⟩
    have hF := (Fr.below (X := fun k => k = a ∨ k = mb ∨ k = nm) hb1).trans hF3
    exact ⟨hF.os, hF.tape, hF.output, by simpa using hF.size, fun k hk hn => (so k (by omega)).trans (hF.block k hk hn)⟩
  clear htr hs so
  unfold ansV
  dsimp only
  go_wp2_with (first | (refine wpList_store_row rfl 27 (.tmp 4) _ rfl (w.heap.size + 1) (ansC 0 (.slice none 0 0)) rfl rfl 27 _ hr3 info27 rfl (ans_one _ _ _ _) ?_))
  refine bodyPost_ret (v := .tuple #[ansV 0 (.slice none 0 0), .int .i64 0]) (results_cell_tmp_row (p := 4) (u := 5) (ty := 27) Try.results5 _ _ (w.heap.size + 1) 27 _ (0, 0) _ rfl (setRow_heap _ _ _ _ _ _ hr3) Try.underlying27 rfl info27) rfl ?_
  exact ⟨rfl, f, pm, HR.out⟩
end
end Go.Proofs.Ytfchclpglcogoaa
