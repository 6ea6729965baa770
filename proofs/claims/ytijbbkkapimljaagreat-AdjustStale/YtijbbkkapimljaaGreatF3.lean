/- bollardplain.Of: a pair of volumes over an image. -/
import Derived.Test.YtijbbkkapimljaaGreatF2
namespace Go.Proofs.YtijbbkkapimljaaGreat
open Go.RowKit Go.Maps Go.MuLone
set_option linter.unusedVariables false

set_option maxRecDepth 10000 in
set_option maxHeartbeats 2000000 in
theorem of64_ok (p : Option Addr) (n c : Nat) (L : List (List Int)) (w : World) (h : IB w p n L) (h1 : 1 ≤ n) (h2 : n ≤ 2048) (hL : ∀ xs ∈ L, xs.length = 128) :
    Calls Tryz.prog 10 #[.slice p n c, .int .i64 64] w fun e w' => OfP w n L e w' := by
  obtain ⟨W1, hW1⟩ : ∃ W1, w.alloc (.cells #[.pointer none, .pointer none, .pointer none, .pointer none] 56) = W1 := ⟨_, rfl⟩
  have hb1 : Below w.heap.size w W1 := by rw [← hW1]; exact (Below.refl _ w).alloc (Nat.le_refl _) _
  have hp1 : W1.heap[w.heap.size]? = some (.cells #[.pointer none, .pointer none, .pointer none, .pointer none] 56 (0, 0)) := by rw [← hW1]; exact at_new rfl
  have hib1 : IB W1 p n L := by
    refine ⟨h.len, h.big, fun h0 => ?_⟩
    obtain ⟨b, o, e, hc⟩ := h.cells h0
    refine ⟨b, o, e, fun i x hx => ?_⟩
    obtain ⟨q, m, cc, e1, e2⟩ := hc i x hx
    exact ⟨q, m, cc, (hb1.cell (p := ⟨b, o + i, none⟩) (lt_of_cell e1)).trans e1, e2.kept hb1⟩
  have c1 := pimage_ok p n c L W1 hib1 (by omega)
  have HB1 : Hid (Below w.heap.size w W1) := hb1
  have HP1 : Hid (W1.heap[w.heap.size]? = some (.cells #[.pointer none, .pointer none, .pointer none, .pointer none] 56 (0, 0))) := hp1
  have HI : Hid (IB W1 p n L) := hib1
  clear hb1 hp1 hib1
  go_enter Tryz.func10, Tryz.ntmps10
  go_wp2_with fail
  refine Calls.mono c1 ?_
  rintro e w2 ⟨v2, vs2, rfl, hPI, hb2⟩
  obtain ⟨p2, k2, rfl, hib2⟩ := hPI.ib (by omega)
  clear c1
  dsimp only
  go_wp2_with fail
  refine Calls.mono (of_ok p2 n k2 L w2 hib2 h1 h2) ?_
  rintro e w3 ⟨hb3, hx⟩
  rcases hx with ⟨_, d, dm, df, rfl, hD⟩ | ⟨⟨xs, hm, hne⟩, _⟩
  case inr => exact absurd (hL xs hm) hne
  have hb13 : Below W1.heap.size W1 w3 := hb2.trans (hb3.mono hb2.size)
  have hib3 : IB w3 p n L := by
    have h := HI.out
    refine ⟨h.len, h.big, fun h0 => ?_⟩
    obtain ⟨b, o, e, hc⟩ := h.cells h0
    refine ⟨b, o, e, fun i x hx => ?_⟩
    obtain ⟨q, m, cc, e1, e2⟩ := hc i x hx
    exact ⟨q, m, cc, (hb13.cell (p := ⟨b, o + i, none⟩) (lt_of_cell e1)).trans e1, e2.kept hb13⟩
  dsimp only
  go_wp2_with fail
  refine Calls.mono (rof_ok p n c L w3 hib3 h1 h2) ?_
  rintro e w4 ⟨hb4, hx⟩
  rcases hx with ⟨_, xd, rfl⟩ | ⟨⟨xs, hm, hne⟩, _⟩
  case inr => exact absurd (hL xs hm) hne
  have hD4 := hD.later hb4
  have HD4 : Hid (DI w2.heap.size w4 d dm df (.slice none 0 0) ⟨n, part L n, [], 0, fun _ => 0⟩) := hD4
  have c5 := vopenF_ok hD4
  clear hD hD4 hib3
  dsimp only
  go_wp2_with fail
  refine Calls.mono c5 ?_
  rintro e w5 ⟨v, c5', s, m, mc, q1, q2, rfl, hF, hLo, hb5⟩
  clear c5
  dsimp only
  go_wp2_with fail
  refine Calls.mono (rvopen_ok xd w5) ?_
  rintro e w6 ⟨y, rfl, hb6⟩
  have hb46 : Below w4.heap.size w4 w6 := hb5.trans (hb6.mono hb5.size)
  have hb14 : Below W1.heap.size W1 w4 := hb13.trans (hb4.mono hb13.size)
  have hb16 : Below W1.heap.size W1 w6 := hb14.trans (hb46.mono hb14.size)
  have hF6 := hF.kept hb6
  have hD6 := HD4.out.later hb46
  have hp6 := (hb16.block _ (Array.getElem?_eq_some_iff.1 HP1.out).1).trans HP1.out
  have hB := HB1.out.trans (hb16.mono HB1.out.size)
  have f0 : w6.frozen? ⟨w.heap.size, 0, none⟩ = false := by simp [World.frozen?, hp6]
  have f1 : w6.frozen? ⟨w.heap.size, 1, none⟩ = false := by simp [World.frozen?, hp6]
  have f2 : w6.frozen? ⟨w.heap.size, 2, none⟩ = false := by simp [World.frozen?, hp6]
  have f3 : w6.frozen? ⟨w.heap.size, 3, none⟩ = false := by simp [World.frozen?, hp6]
  have k0 : w6.cell? ⟨w.heap.size, 0, none⟩ = some (.pointer none) := cell_of_row _ _ 0 _ _ _ hp6
  have k1 : w6.cell? ⟨w.heap.size, 1, none⟩ = some (.pointer none) := cell_of_row _ _ 1 _ _ _ hp6
  have k2 : w6.cell? ⟨w.heap.size, 2, none⟩ = some (.pointer none) := cell_of_row _ _ 2 _ _ _ hp6
  have k3 : w6.cell? ⟨w.heap.size, 3, none⟩ = some (.pointer none) := cell_of_row _ _ 3 _ _ _ hp6
  have HF : Hid (FV w6 v d c5' s m mc q1 q2 none ∧ DI w2.heap.size w6 d dm df (.slice none 0 0) ⟨n, part L n, [], 0, fun _ => 0⟩ ∧ w6.heap[w.heap.size]? = some (.cells #[.pointer none, .pointer none, .pointer none, .pointer none] 56 (0, 0)) ∧ Below w.heap.size w w6 ∧ w.heap.size < w2.heap.size ∧ w6.heap.size > w.heap.size ∧ FLo w.heap.size v c5' s m mc q1 q2) := ⟨hF6, hD6, hp6, hB, Nat.lt_of_lt_of_le (Array.getElem?_eq_some_iff.1 HP1.out).1 hb2.size, (Array.getElem?_eq_some_iff.1 hp6).1, by
    have e : w.heap.size ≤ w4.heap.size := Nat.le_trans HB1.out.size hb14.size
    obtain ⟨a1, a2, a3, a4, a5, a6, a7, a8⟩ := hLo
    exact ⟨by omega, by omega, by omega, by omega, by omega, by omega, by omega, a8⟩⟩
  clear hLo hF6 hD6 hp6 hB hb16 hb14 hb46 hF hb5 hb6 hb4 hb3 hb2 hb13 HB1 HP1 HI HD4 hPI hib2 hL h
  dsimp only
  go_wp2
  go_ret2
  obtain ⟨hF6, hD6, hp6, hB, hsz, hgt, hLo⟩ := HF.out
  obtain ⟨W7, hW7⟩ : ∃ W7, (((w6.setCell ⟨w.heap.size, 0, none⟩ (.pointer (some ⟨d, 0, none⟩))).setCell ⟨w.heap.size, 1, none⟩ (.pointer (some ⟨v, 0, none⟩))).setCell ⟨w.heap.size, 2, none⟩ (.pointer (some ⟨xd, 0, none⟩))).setCell ⟨w.heap.size, 3, none⟩ (.pointer (some ⟨y, 0, none⟩)) = W7 := ⟨_, rfl⟩
  rw [hW7]
  have so : ∀ b, b ≠ w.heap.size → W7.heap[b]? = w6.heap[b]? := fun b hb => by
    rw [← hW7]
    rw [Below.heap_setCell _ _ _ _ hb, Below.heap_setCell _ _ _ _ hb, Below.heap_setCell _ _ _ _ hb, Below.heap_setCell _ _ _ _ hb]
  have g1 := row_set hp6 0 (.pointer (some ⟨d, 0, none⟩))
  have g2 := row_set g1 1 (.pointer (some ⟨v, 0, none⟩))
  have g3 := row_set g2 2 (.pointer (some ⟨xd, 0, none⟩))
  have g4 := row_set g3 3 (.pointer (some ⟨y, 0, none⟩))
  rw [hW7] at g4
  have hb7 : Below w.heap.size w W7 := by
    rw [← hW7]
    exact (((hB.setCell (Nat.le_refl _) _).setCell (Nat.le_refl _) _).setCell (Nat.le_refl _) _).setCell (Nat.le_refl _) _
  have ne : ∀ {b : Nat} {o : Obj}, w6.heap[b]? = some o → o ≠ (.cells #[.pointer none, .pointer none, .pointer none, .pointer none] 56 (0, 0)) → W7.heap[b]? = some o := fun {b o} hh ho => by
    rw [so b (fun e => by rw [e, hp6] at hh; cases hh; exact ho rfl)]
    exact hh
  refine ⟨w.heap.size, d, v, xd, y, c5', s, m, mc, q1, q2, dm, df, w2.heap.size, rfl, g4, ⟨ne hF6.row (by simp), ne hF6.cac (by simp), ne hF6.cm (by simp), ne hF6.set (by simp), ne hF6.pm1 (by simp), ne hF6.pm2 (by simp)⟩, hLo, Nat.le_of_lt hsz, hD6.kept (fun k hk => ?_), hb7⟩
  have := (hD6.in k hk).1
  exact so k (by omega)
end Go.Proofs.YtijbbkkapimljaaGreat
