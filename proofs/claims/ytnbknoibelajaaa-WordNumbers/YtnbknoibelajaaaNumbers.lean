/- WordNumbers: numbers in bytes, and bytes with one, are what the document says, or the error, and the bytes that were handed in stay, whatever the arguments are. -/
import Derived.Test.YtnbknoibelajaaaSums
namespace Go.Proofs.Ytnbknoibelajaaa
open Go.RowKit

theorem seven_cells (w : World) : BI (w.alloc (.cells #[.int .u8 7] 5)) (some ⟨w.heap.size, 0, none⟩) 1 [7] := by
  refine ⟨rfl, by omega, fun i => ?_, fun _ => ⟨_, _, rfl, fun i hi => ?_⟩⟩
  · cases i with
    | zero => simp
    | succ i => simp
  · obtain rfl : i = 0 := by omega
    simp

theorem get_seven (w : World) (p : Option Addr) (c : Nat) (h : BI w p 1 [7]) : Calls Try.prog 10 #[.slice p 1 c, .int .i64 0, .int .i64 1] w fun e w' => e = .returned (.tuple #[.int .i64 7, .int .i64 0]) ∧ w' = w :=
  get_any p 1 c [7] 0 1 w h

set_option maxHeartbeats 800000 in
theorem numbers_err (p : Option Addr) (n c : Nat) (xs : List Int) (at_ wd v : Int) (w : World) (h : BI w p n xs) (h0 : Num.pE n at_ wd v ≠ 0) :
    Calls Try.prog 3 #[.slice p n c, .int .i64 at_, .int .i64 wd, .int .i64 v] w fun e w' => e = .returned (.bool true) ∧ Below w.heap.size w w' := by
  have hbig := h.big
  go_enter Try.func3, Try.ntmps3
  go_wp2_with fail
  refine (bclone_any p n c xs w h).mono ?_
  rintro e w3 ⟨p1, cap1, rfl, hc1, hg3, hb1⟩
  have h3 := h.kept hb1
  have c1 := (show Hid _ from get_any p1 n cap1 xs at_ wd w3 hg3)
  have c2 := (show Hid _ from rget_any p n c xs at_ wd w3 h3)
  have c3 := (show Hid _ from put_err p1 n cap1 at_ wd v w3 hbig h0)
  have c4 := (show Hid _ from rput_err p n c at_ wd v w3 hbig h0)
  clear h0
  generalize Num.gN n xs at_ wd = N at *
  generalize Num.gE n at_ wd = E at *
  generalize Num.pE n at_ wd v = F at *
  go_wp2_with fail
  refine same_at c1.out ?_
  go_wp2_with fail
  refine same_at c2.out ?_
  go_wp2_with fail
  refine same_at c3.out ?_
  go_wp2_with fail
  refine same_at c4.out ?_
  go_wp2_with fail
  refine same_at (equal_same _ _ 0 0 0 0 _ w3 (BI.none w3 none) (BI.none w3 none)) ?_
  go_wp2_with fail
  refine wp_loop_rounds 1 ?_
  rw [rounds_succ]
  go_wp2_with fail
  have hb4 := (Below.refl w3.heap.size w3).alloc (Nat.le_refl _) (.cells #[.int .u8 7] 5)
  refine same_at (get_seven _ _ _ (seven_cells w3)) ?_
  go_wp2_with fail
  refine same_at (equal_same _ _ n cap1 n c _ _ (hg3.kept hb4) (h3.kept hb4)) ?_
  go_wp2
  go_ret
  exact ⟨rfl, hb1.trans (hb4.mono hb1.size)⟩

set_option maxHeartbeats 800000 in
theorem numbers_yes (p : Option Addr) (n c : Nat) (xs : List Int) (at_ wd v : Int) (w : World) (h : BI w p n xs) (h0 : Num.pE n at_ wd v = 0) :
    Calls Try.prog 3 #[.slice p n c, .int .i64 at_, .int .i64 wd, .int .i64 v] w fun e w' => e = .returned (.bool true) ∧ Below w.heap.size w w' := by
  have hbig := h.big
  have H0 : Hid (Num.pE n at_ wd v = 0) := h0
  clear h0
  go_enter Try.func3, Try.ntmps3
  go_wp2_with fail
  refine (bclone_any p n c xs w h).mono ?_
  rintro e w1 ⟨p1, cap1, rfl, hc1, hg1, hb1⟩
  have h1 := h.kept hb1
  have c1 := (show Hid _ from get_any p1 n cap1 xs at_ wd w1 hg1)
  have c2 := (show Hid _ from rget_any p n c xs at_ wd w1 h1)
  generalize Num.gN n xs at_ wd = N at *
  generalize Num.gE n at_ wd = E at *
  go_wp2_with fail
  refine same_at c1.out ?_
  go_wp2_with fail
  refine same_at c2.out ?_
  go_wp2_with fail
  refine (put_yes p1 n cap1 xs at_ wd v w1 hg1 H0.out).mono ?_
  rintro e w2 ⟨g2, cap2, rfl, ho2, hb2⟩
  go_wp2_with fail
  refine (rput_yes p n c xs at_ wd v w2 (h1.kept hb2) H0.out).mono ?_
  rintro e w3 ⟨g3, cap3, rfl, ho3, hb3⟩
  have hx3 := (ho2.kept hb3).bi hbig (Num.putTo_byt h.byt _ _ _)
  have hy3 := ho3.bi hbig (Num.putTo_byt h.byt _ _ _)
  have hbel : Below w1.heap.size w1 w3 := hb2.trans (hb3.mono hb2.size)
  have hown := ho2.kept hb3
  clear ho2 ho3 hb2 hb3
  go_wp2_with fail
  refine same_at (equal_same _ _ n cap2 n cap3 _ w3 hx3 hy3) ?_
  clear hx3 hy3
  go_wp2_with fail
  go_loopw [73] (fun i wr => ∃ j : Nat, j ≤ n ∧ i = .int .i64 j ∧ (∃ ys, Own w1.heap.size wr g2 n cap2 ys) ∧ Below w1.heap.size w1 wr) (fun i _ => n - (intOf i).toNat)
  case atStart => exact ⟨0, Nat.zero_le _, rfl, ⟨_, hown⟩, hbel⟩
  case round =>
    obtain ⟨j, hj, rfl, ⟨ys, ho⟩, hb⟩ := hrel
    by_cases hlt : j < n
    · have hc1 := ho.cell j hlt
      generalize ys.getD j 0 = y at hc1
      have hf1 := World.ownsRow.frozenAt ho j
      have ho2 := ho.set j (bits BinOp.xor IntKind.u8 y 255)
      have hb2 := hb.setCell (p := ⟨g2, j, none⟩) ho.spot.1 (.int .u8 (bits BinOp.xor IntKind.u8 y 255))
      go_wp2
      go_roundw
      case rel => exact ⟨j + 1, by omega, by go_num, ⟨_, ho2⟩, hb2⟩
      case measure => simp [intOf]; omega
    · go_wp2_with fail
      have hb4 := (Below.refl wr.heap.size wr).alloc (Nat.le_refl _) (.cells #[.int .u8 7] 5)
      refine same_at (get_seven _ _ _ (seven_cells wr)) ?_
      go_wp2_with fail
      refine same_at (equal_same _ _ n cap1 n c _ _ ((hg1.kept hb).kept hb4) ((h1.kept hb).kept hb4)) ?_
      go_wp2
      go_ret
      exact ⟨rfl, hb1.trans ((hb.mono hb1.size).trans (hb4.mono (Nat.le_trans hb1.size hb.size)))⟩

theorem numbers_walk (p : Option Addr) (n c : Nat) (xs : List Int) (at_ wd v : Int) (w : World) (h : BI w p n xs) (_hnc : n ≤ c) :
    Calls Try.prog 3 #[.slice p n c, .int .i64 at_, .int .i64 wd, .int .i64 v] w fun e w' => e = .returned (.bool true) ∧ Below w.heap.size w w' := by
  by_cases h0 : Num.pE n at_ wd v = 0
  · exact numbers_yes p n c xs at_ wd v w h h0
  · exact numbers_err p n c xs at_ wd v w h h0
end Go.Proofs.Ytnbknoibelajaaa
