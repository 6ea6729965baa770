/- WordSums: the sum of bytes, their sealing, and whether they are sealed are what the document says, whatever the bytes are. -/
import Derived.Test.YtnbknoibelajaaaFns
namespace Go.Proofs.Ytnbknoibelajaaa
open Go.RowKit

theorem BI.none (w : World) (p : Option Addr) : BI w p 0 [] := ⟨rfl, by omega, fun i => by simp, fun h => by omega⟩

theorem same_at {P : Program} {f : FuncId} {args : Array Value} {w : World} {v : Value} {Q : Ending → World → Prop} (h : Calls P f args w fun e w' => e = .returned v ∧ w' = w) (hq : Q (.returned v) w) : Calls P f args w Q :=
  h.mono (by rintro e w' ⟨rfl, rfl⟩; exact hq)

theorem sum_zero (w : World) : Calls Try.prog 17 #[.slice none 0 0] w fun e w' => e = .returned (.int .i64 1) ∧ w' = w := sum_none none 0 w

set_option maxHeartbeats 800000 in
theorem sums_ok (p : Option Addr) (n c : Nat) (xs : List Int) (w : World) (h : BI w p n xs) (hnc : n ≤ c) (hn : 4 ≤ n) :
    Calls Try.prog 4 #[.slice p n c] w fun e w' => e = .returned (.bool true) ∧ Below w.heap.size w w' := by
  have hbig := h.big
  go_enter Try.func4, Try.ntmps4
  go_wp2_with fail
  refine (bclone_any p n c xs w h).mono ?_
  rintro e w1 ⟨p1, cap1, rfl, hc1, hg1, hb1⟩
  go_wp2_with fail
  refine (seal_ok p1 n cap1 xs w1 hg1 hc1 hn).mono ?_
  rintro e w2 ⟨g2, cap2, rfl, ho2, hb2⟩
  have h2 := (h.kept hb1).kept hb2
  have hg2 := hg1.kept hb2
  go_wp2_with fail
  refine (rseal_ok p n c xs w2 h2 hnc hn).mono ?_
  rintro e w3 ⟨g3, cap3, rfl, ho3, hb3⟩
  have h3 := h2.kept hb3
  have hg3 := hg2.kept hb3
  have hx3 := (ho2.kept hb3).bi hbig (Num.putTo_byt h.byt _ _ _)
  have hy3 := ho3.bi hbig (Num.putTo_byt h.byt _ _ _)
  have hbel : Below w.heap.size w w3 := hb1.trans ((hb2.mono hb1.size).trans (hb3.mono (Nat.le_trans hb1.size hb2.size)))
  clear ho2 ho3 hb1 hb2 hb3 h2 hg2 hg1
  have c1 := (show Hid _ from sum_any p1 n cap1 xs w3 hg3)
  have c2 := (show Hid _ from rsum_any p n c xs w3 h3)
  have c3 := (show Hid _ from sealed_ok p1 n cap1 xs w3 hg3 hc1 hn)
  have c4 := (show Hid _ from rsealed_ok p n c xs w3 h3 hnc hn)
  generalize Num.sum xs n = S at *
  generalize (Num.numD xs (n - 4) 4 == Num.sum xs (n - 4)) = B at *
  go_wp2_with fail
  refine same_at c1.out ?_
  go_wp2_with fail
  refine same_at c2.out ?_
  go_wp2_with fail
  refine same_at (equal_same _ _ n cap2 n cap3 _ w3 hx3 hy3) ?_
  go_wp2_with fail
  refine same_at c3.out ?_
  go_wp2_with fail
  refine same_at c4.out ?_
  go_wp2_with fail
  refine same_at (equal_same _ _ n cap1 n c _ w3 hg3 h3) ?_
  go_wp2_with fail
  refine same_at (sum_zero w3) ?_
  go_wp2
  go_ret
  exact ⟨rfl, hbel⟩

set_option maxHeartbeats 800000 in
theorem sums_past (p : Option Addr) (n c : Nat) (xs : List Int) (w : World) (h : BI w p n xs) (hn : n < 4) :
    Calls Try.prog 4 #[.slice p n c] w fun e w' => e = .returned (.bool true) ∧ Below w.heap.size w w' := by
  have hbig := h.big
  go_enter Try.func4, Try.ntmps4
  go_wp2_with fail
  refine (bclone_any p n c xs w h).mono ?_
  rintro e w3 ⟨p1, cap1, rfl, hc1, hg3, hb1⟩
  have h3 := h.kept hb1
  have c1 := (show Hid _ from sum_any p1 n cap1 xs w3 hg3)
  have c2 := (show Hid _ from rsum_any p n c xs w3 h3)
  generalize Num.sum xs n = S at *
  go_wp2_with fail
  refine same_at (seal_past p1 n cap1 w3 hn) ?_
  go_wp2_with fail
  refine same_at (rseal_past p n c w3 hn) ?_
  go_wp2_with fail
  refine same_at c1.out ?_
  go_wp2_with fail
  refine same_at c2.out ?_
  go_wp2_with fail
  refine same_at (equal_same _ _ 0 0 0 0 _ w3 (BI.none w3 none) (BI.none w3 none)) ?_
  go_wp2_with fail
  refine same_at (sealed_past p1 n cap1 w3 hn) ?_
  go_wp2_with fail
  refine same_at (rsealed_past p n c w3 hn) ?_
  go_wp2_with fail
  refine same_at (equal_same _ _ n cap1 n c _ w3 hg3 h3) ?_
  go_wp2_with fail
  refine same_at (sum_zero w3) ?_
  go_wp2
  go_ret
  exact ⟨rfl, hb1⟩

theorem sums_walk (p : Option Addr) (n c : Nat) (xs : List Int) (w : World) (h : BI w p n xs) (hnc : n ≤ c) :
    Calls Try.prog 4 #[.slice p n c] w fun e w' => e = .returned (.bool true) ∧ Below w.heap.size w w' := by
  by_cases hn : n < 4
  · exact sums_past p n c xs w h hn
  · exact sums_ok p n c xs w h hnc (by omega)
end Go.Proofs.Ytnbknoibelajaaa
