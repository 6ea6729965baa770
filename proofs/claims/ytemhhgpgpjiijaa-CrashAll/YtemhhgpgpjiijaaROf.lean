/- The document's Of. -/
import Derived.Test.YtemhhgpgpjiijaaDOf
namespace Go.Proofs.Ytemhhgpgpjiijaa
open Go.RowKit Go.Maps

set_option maxHeartbeats 400000 in
theorem rof_range (p : Option Addr) (n c : Nat) (hn : n < 1 ∨ 2048 < n) (w : World) : Calls Try.prog 20 #[.slice p n c] w fun e w' => e = .returned (.tuple #[.pointer none, .int .i64 1]) ∧ w' = w := by
  by_cases h1 : n < 1
  · have h1I : (n : Int) < 1 := by omega
    go_enter Try.func20, Try.ntmps20
    go_wp2
    go_ret2
    exact ⟨rfl, rfl⟩
  · have h1I : ¬ (n : Int) < 1 := by omega
    have h2I : 2048 < (n : Int) := by omega
    go_enter Try.func20, Try.ntmps20
    go_wp2
    go_ret2
    exact ⟨rfl, rfl⟩

set_option maxRecDepth 10000 in
set_option maxHeartbeats 2000000 in
theorem rof_ok (p : Option Addr) (n c : Nat) (L : List (List Int)) (w : World) (h : IB w p n L) (h1 : 1 ≤ n) (h2 : n ≤ 2048) : Calls Try.prog 20 #[.slice p n c] w fun e w' => Below w.heap.size w w' ∧ (((∀ xs ∈ L, xs.length = 128) ∧ ∃ x bv fv gB, e = .returned (.tuple #[.pointer (some ⟨x, 0, none⟩), .int .i64 0]) ∧ RI w.heap.size w' x bv (.slice none 0 0) fv gB [] ⟨n, part L n, [], 0, fun _ => 0⟩) ∨ ((∃ xs ∈ L, xs.length ≠ 128) ∧ e = .returned (.tuple #[.pointer none, .int .i64 1]))) := by
  obtain ⟨i3, hi3, hy0, hy1, hy2⟩ := info_parts info3
  obtain ⟨i9, hi9, hx0, hx1, hx2⟩ := info_parts info30
  have hlen := h.len
  have hi1 : (1 : Int) ≤ (n : Int) := by omega
  have hi2 : (n : Int) ≤ 2048 := by omega
  have hn0 : n = 0 → False := by omega
  go_enter Try.func20, Try.ntmps20
  go_wp2_with (at_make; refine wpList_make_full _ rfl _ _ 37 rfl w.heap.size 3 i3 (.int .i64 0) 1 Try.underlying37 hi3 hy0 hy1 .i64 .i64 _ _ n rfl rfl rfl rfl (by rw [hy2]; omega) (by unfold maxLen; omega) (Nat.le_refl _) ?_; intro w1 hown1 hgrow1; have hb1 := (Below.refl w.heap.size w).grown hgrow1 (Nat.le_refl _) (by intro k hk; cases hk); clear hgrow1)
  rw [made_list _ _ rfl] at hown1
  have hb2 := hb1.alloc hb1.size (.cells #[.slice none 0 0, .slice none 0 0, .slice (some ⟨w.heap.size, 0, none⟩) n n, .int .i64 0] 92)
  have hn1 : RN w.heap.size (w1.alloc (.cells #[.slice none 0 0, .slice none 0 0, .slice (some ⟨w.heap.size, 0, none⟩) n n, .int .i64 0] 92)) w1.heap.size n 0 (.slice none 0 0) (.slice (some ⟨w.heap.size, 0, none⟩) n n) [] (part L n) :=
    ⟨at_new rfl, World.ownsRow_nil _ _ _ _, by simp, ownsRow_kept hown1 (fun k hk => Below.heap_alloc _ _ _ (hown1.lt k hk).2), hb1.size⟩
  obtain ⟨x, hx⟩ : ∃ x, w1.heap.size = x := ⟨_, rfl⟩
  rw [hx] at hn1 ⊢
  clear hx hown1 hb1
  go_loopw [22] (fun i wr => ∃ (j : Nat) (bv : Value) (gB : List (Nat × Nat)), j ≤ n ∧ i = .int .i64 (j : Int) ∧ RN w.heap.size wr x n j bv (.slice (some ⟨w.heap.size, 0, none⟩) n n) gB (part L n) ∧ (∀ xs ∈ L.take j, xs.length = 128) ∧ Below w.heap.size w wr) (fun i _ => n - (intOf i).toNat)
  case atStart => exact ⟨0, _, _, by omega, rfl, hn1, by simp, hb2⟩
  case round =>
    clear hn1 hb2
    obtain ⟨j, bv, gB, hj, rfl, hr, hall, hb⟩ := hrel
    by_cases hlt : j < n
    · obtain ⟨bb, oo, rfl, hic⟩ := h.cells (by omega)
      obtain ⟨xs, hxs⟩ : ∃ xs, L[j]? = some xs := ⟨L[j], List.getElem?_eq_getElem (by omega)⟩
      obtain ⟨q, m, d, hcell, hbi⟩ := hic j xs hxs
      have hcell' := (hb.cell (p := ⟨bb, oo + j, none⟩) (lt_of_cell hcell)).trans hcell
      have hbi' := hbi.kept hb
      have hml := hbi.len
      clear hic hcell
      have hjI : (j : Int) < (n : Int) := by omega
      by_cases hm : m = 128
      · subst hm
        obtain ⟨qb, qo, rfl, _⟩ := hbi.cells (by omega)
        have hpj : part L n j = xs := by
          unfold part
          rw [if_pos hlt, List.getD_eq_getElem?_getD, hxs]
          rfl
        have hrd := hr.later (Below.refl _ _).drew
        have hc0 := cell_of_row _ x 0 _ _ _ hrd.row
        simp only [List.getElem?_toArray, List.getElem?_cons_zero] at hc0
        have hbid := hbi'.kept (Below.refl _ _).drew
        have hmax : j + 1 ≤ maxLen := by unfold maxLen; omega
        have hone : ∀ (g3 c3 : Nat), ∀ u ∈ [slc (g3, c3)], u.oneCell' = true := by intro g3 c3 u hu; simp at hu; subst hu; rfl
        have HO := (show Hid _ from hone)
        obtain ⟨LL, HLL⟩ : ∃ LL, Hid (gB.map slc = LL) := ⟨_, rfl⟩
        clear hone
        go_wp2_with fail
        go_region_law
          (first
            | (refine step_append_lies _ (by rfl) _ _ _ (by rfl) w.heap.size 42 i9 (.slice none 0 0) 1 24 Try.underlying22 hi9 hx0 hx1 hx2 (by rfl) (by omega) bv j LL (by rfl) hbs ⟨w3.heap.size, 0, none⟩ 1 1 [slc (g3, c3)] (by rfl) rfl HNW.out (HO.out g3 c3) (by omega) hmax (by omega) hB3 (w3.heap.size + 1) (by simp) ?_; intro g cap w4 hown4 hgrow4 hat4 hlt4; rw [← HLL.out] at hown4; have hfin := hr3a.push (p := (g3, c3)) (by rw [hpj]; exact ho3a) hown4 hgrow4; obtain ⟨hc4, hf4⟩ := hr3a.at0 hgrow4; have hb4 := hbwa.grown hgrow4 hbwa.size (fun k hk => (hr3a.bs.lt k hk).1))
            | (rw [if_pos (by rfl)]; go_simp; refine Calls.mono (copied_ok _ 128 d xs _ hbid) ?_; rintro e w3 ⟨g3, c3, rfl, ho3, hb3⟩; have hr3 := hrd.later hb3; have hc0' := cell_of_row _ x 0 _ _ _ hr3.row; simp only [List.getElem?_toArray, List.getElem?_cons_zero] at hc0'; have hba := (Below.refl w3.heap.size w3).alloc (Nat.le_refl _) (.cells #[.slice (some ⟨g3, 0, none⟩) 128 c3] 42); have hr3a := hr3.later hba; have hc0a := cell_of_row _ x 0 _ _ _ hr3a.row; simp only [List.getElem?_toArray, List.getElem?_cons_zero] at hc0a; have ho3a := (ho3.kept hba).base (B' := w.heap.size) hb.size; have hbs := hr3a.bs; rw [HLL.out] at hbs; have hbwa := (hb.drew.trans (hb3.mono hb.size)).trans (hba.mono (Nat.le_trans hb.size hb3.size)); have hB3 := hbwa.size; have HNW := (show Hid (∀ i u, [slc (g3, c3)][i]? = some u → (w3.alloc (.cells #[.slice (some ⟨g3, 0, none⟩) 128 c3] 42)).cell? ((⟨w3.heap.size, 0, none⟩ : Addr).add i) = some u) from World.news_of_block (cs := #[slc (g3, c3)]) (t := 42) (fr := (0, 0)) (at_new rfl)); dsimp only))
        all_goals (
          have hbw := hb4.setCell (p := ⟨x, 0, none⟩) hr.lo (.slice (some ⟨g, 0, none⟩) (j + 1) cap)
          clear hown4 hgrow4 hat4 hr3a hr3 hrd ho3 ho3a hbs HNW hr hb4 hc0 hc0' hc0a hc4 hf4
          go_wp2
          go_roundw
          case rel =>
            refine ⟨j + 1, _, _, by omega, by go_num, hfin, fun ys hy => ?_, hbw⟩
            rw [List.take_add_one, hxs] at hy
            rcases List.mem_append.1 hy with h' | h'
            · exact hall ys h'
            · simp at h'
              subst h'
              exact hml
          case measure => simp [intOf]; omega)
      · have hmI : ¬ (m : Int) = 128 := by omega
        go_wp2
        go_ret2
        exact ⟨hb, .inr ⟨⟨xs, List.mem_of_getElem? hxs, by omega⟩, rfl⟩⟩
    · obtain rfl : n = j := by omega
      rw [List.take_of_length_le (by omega)] at hall
      go_wp2
      go_ret2
      exact ⟨hb, .inl ⟨hall, _, _, _, _, rfl, hr.ri⟩⟩
end Go.Proofs.Ytemhhgpgpjiijaa
