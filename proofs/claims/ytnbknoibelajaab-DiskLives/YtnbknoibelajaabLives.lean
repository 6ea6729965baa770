/- DiskLives: the walk. -/
import Derived.Test.YtnbknoibelajaabDoesW
namespace Go.Proofs.Ytnbknoibelajaab
open Go.RowKit Go.Maps

set_option maxRecDepth 10000 in
set_option maxHeartbeats 2000000 in
theorem lives_walk (blocks : Int) (p : Option Addr) (n c : Nat) (D : List DoV) (w : World) (h : DoI w p n D) :
    Calls Try.prog 3 #[.int .i64 blocks, .slice p n c] w fun e w' => e = .returned (.bool true) ∧ Below w.heap.size w w' := by
  have hbig := h.big
  have hlen := h.len
  by_cases hr : blocks < 1 ∨ 2048 < blocks
  · go_enter Try.func3, Try.ntmps3
    go_wp2_with fail
    refine same_at (new_arg blocks hr w) ?_
    go_wp2_with fail
    refine same_at (rnew_arg blocks hr w) ?_
    go_wp2_with fail
    go_loopw [33] (fun i wr => i = .int .i64 0 ∧ Below w.heap.size w wr) (fun _ _ => 0)
    case atStart => exact ⟨rfl, Below.refl _ _⟩
    case round =>
      obtain ⟨rfl, hb⟩ := hrel
      by_cases hn : 0 < n
      · obtain ⟨bb, oo, rfl, hat⟩ := h.cells hn
        obtain ⟨x, hx⟩ : ∃ x, D[0]? = some x := ⟨D[0]'(by omega), List.getElem?_eq_getElem (by omega)⟩
        obtain ⟨k0, k1, k2, ⟨xp, xm, xc, k3, x1, x2, x3⟩, ⟨yp, ym, yc, k4, y1, y2, y3⟩, r0, r1, r2⟩ := (hat 0 x hx).kept' hb
        rw [Nat.zero_mul, Nat.add_zero] at k0 k1 k2 k3 k4
        have hnI : (0 : Int) < (n : Int) := by omega
        go_wp2
        go_ret
        exact ⟨by first | rfl | exact ret_bool (by simp), hb.alloc hb.size _⟩
      · obtain rfl : n = 0 := by omega
        go_wp2
        go_ret
        exact ⟨by first | rfl | exact ret_bool (by simp), hb⟩
  · obtain ⟨N, rfl⟩ : ∃ N : Nat, blocks = N := ⟨blocks.toNat, by omega⟩
    go_enter Try.func3, Try.ntmps3
    go_wp2_with fail
    refine (new_ok N (by omega) (by omega) w).mono ?_
    rintro e w1 ⟨a, mb, fb, rfl, hd1, hb1⟩
    go_wp2_with fail
    refine (rnew_ok N (by omega) (by omega) w1).mono ?_
    rintro e w2 ⟨x, bv, fv, gB, rfl, hr2, hb2⟩
    have hd2 := hd1.later hb2
    have hr2' : RI w.heap.size w2 x bv (.slice none 0 0) fv gB [] ⟨N, fun _ => zer, [], 0, fun _ => 0⟩ := hr2.base hb1.size
    have hbw := hb1.trans (hb2.mono hb1.size)
    clear hd1 hr2 hb1 hb2
    go_wp2_with fail
    go_loopw [33] (fun i wr => ∃ (j : Nat) (dq qv fv : Value) (gB gQ : List (Nat × Nat)) (S : St), j ≤ n ∧ i = .int .i64 (j : Int) ∧ DI w.heap.size wr a mb fb dq S ∧ RI w.heap.size wr x bv qv fv gB gQ S ∧ S.last ≤ j ∧ Below w.heap.size w wr) (fun i _ => n - (intOf i).toNat)
    case atStart => exact ⟨0, _, _, _, _, _, _, by omega, rfl, hd2, hr2', Int.le_refl _, hbw⟩
    case round =>
      clear hd2 hr2' hbw
      obtain ⟨j, dq, qv, fv, gB, gQ, S, hj, rfl, hd, hr, hl, hb⟩ := hrel
      by_cases hlt : j < n
      · obtain ⟨bb, oo, rfl, hat⟩ := h.cells (by omega)
        obtain ⟨k, hk⟩ : ∃ k, D[j]? = some k := ⟨D[j], List.getElem?_eq_getElem (by omega)⟩
        obtain ⟨k0, k1, k2, ⟨xp, xm, xc, k3, x1, x2, x3⟩, ⟨yp, ym, yc, k4, y1, y2, y3⟩, r0, r1, r2⟩ := hat j k hk
        have hbl := lt_of_cell k0
        have e0 := (hb.cell (p := ⟨bb, oo + j * 5, none⟩) hbl).trans k0
        have e1 := (hb.cell (p := ⟨bb, oo + j * 5 + 1, none⟩) hbl).trans k1
        have e2 := (hb.cell (p := ⟨bb, oo + j * 5 + 2, none⟩) hbl).trans k2
        have e3 := (hb.cell (p := ⟨bb, oo + j * 5 + 3, none⟩) hbl).trans k3
        have e4 := (hb.cell (p := ⟨bb, oo + j * 5 + 4, none⟩) hbl).trans k4
        clear k0 k1 k2 k3 k4 hat
        have hjI : (j : Int) < (n : Int) := by omega
        have ba := (Below.refl wr.heap.size wr).alloc (Nat.le_refl _) (.cells #[.int .i64 k.op, .int .i64 k.b, .int .i64 k.n, .slice xp xm xc, .slice yp ym yc] 33)
        have cd := does_ok (hd.later ba) (hr.later ba) (hb.trans (ba.mono hb.size)) k xp xm xc x3 yp ym yc y3 (by omega)
        have CD := (show Hid _ from cd)
        clear cd x3 y3 hd hr
        go_wp2_with fail
        refine Calls.mono CD.out ?_
        rintro e w3 ⟨dq3, qv3, fv3, gB3, gQ3, S3, rfl, hd3, hr3, hl3, hb3⟩
        clear CD
        go_wp2_with fail
        refine (same_ok hd3 hr3).mono ?_
        rintro e w4 ⟨rfl, hb4⟩
        have hd4 := hd3.later hb4
        have hr4 := hr3.later hb4
        have hbw4 := hb3.trans (hb4.mono hb3.size)
        clear hd3 hr3 hb4 e0 e1 e2 e3 e4
        go_wp2
        go_roundw
        case rel => exact ⟨j + 1, _, _, _, _, _, _, by omega, by go_num, hd4, hr4, by omega, hbw4⟩
        case measure => simp [intOf]; omega
      · obtain rfl : n = j := by omega
        go_wp2_with fail
        refine (same_ok hd hr).mono ?_
        rintro e w4 ⟨rfl, hb4⟩
        go_wp2
        go_ret
        exact ⟨by first | rfl | exact ret_bool (by simp), hb.trans (hb4.mono hb.size)⟩
end Go.Proofs.Ytnbknoibelajaab
