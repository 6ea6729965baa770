/- DirsBack: what was put in and taken out again leaves the block. -/
import Derived.Test.YthfnldclpommlaaD20
namespace Go.Proofs.Ythfnldclpommlaa
open Go.RowKit
set_option linter.unusedVariables false

/-- Entries and an error. -/
def PD (w : World) (n : Nat) (xs : List Int) (e : Ending) (w' : World) : Prop := ∃ q m d, e = .returned (.tuple #[.slice q m d, .int .i64 (deX n xs)]) ∧ EI w' q m (El n xs) ∧ Below w.heap.size w w' ∧ m ≤ d ∧ d ≤ 9223372036854775807

set_option maxRecDepth 20000 in
set_option maxHeartbeats 1000000 in
theorem Decode_ok (p : Option Addr) (n c : Nat) (xs : List Int) (w : World) (h : BI w p n xs) (hnc : n ≤ c) (hc2 : c ≤ 9223372036854775807) :
    Calls Try.prog 6 #[.slice p n c] w fun e w' => PD w n xs e w' := by
  have hre := read_ok p n c xs w h hnc hc2
  by_cases hm : mayB n xs
  · rw [decide_eq_true hm] at hre
    go_enter Try.func6, Try.ntmps6
    go_wp2_with fail
    refine grew_at hre ?_
    intro w1 hb1
    clear hre
    obtain ⟨W, hW⟩ := boxed w1 n xs
    have hWe := hW.eq
    have hi53 := info53' n xs
    have hs53 := size53' n xs
    have hone := flat2_all (dec8 n xs)
    have HW : Hid _ := And.intro hW.pg (And.intro (grew_trans hb1 hW.bel) hm)
    clear hW hm hb1
    dsimp only
    go_wp2_with (refine wpList_store_row rfl 37 _ _ rfl w1.heap.size (flat2 (dec8 n xs)).toArray rfl rfl 37 _ (heap_new w1 _) hi53 hs53 hone ?_; rw [hWe])
    go_ret2
    refine ⟨some ⟨w1.heap.size, 0, none⟩, 8, 8, by rw [deX_yes HW.out.2.2]; rfl, ?_, HW.out.2.1, Nat.le_refl _, by omega⟩
    rw [El_yes HW.out.2.2]
    refine ⟨dec8_len n xs, by omega, fun _ => ⟨_, 0, rfl, fun i e he => ?_⟩⟩
    rw [Nat.zero_add]
    exact ⟨HW.out.1.c0 he, HW.out.1.c1 he⟩
  · rw [decide_eq_false hm] at hre
    go_enter Try.func6, Try.ntmps6
    go_wp2_with fail
    refine grew_at hre ?_
    intro w1 hb1
    clear hre
    obtain ⟨W, hW⟩ := boxed w1 n xs
    have hWe := hW.eq
    have hi53 := info53' n xs
    have hs53 := size53' n xs
    have hone := flat2_all (dec8 n xs)
    have HW : Hid _ := And.intro (grew_trans hb1 hW.bel) hm
    clear hW hm hb1
    dsimp only
    go_wp2_with (refine wpList_store_row rfl 37 _ _ rfl w1.heap.size (flat2 (dec8 n xs)).toArray rfl rfl 37 _ (heap_new w1 _) hi53 hs53 hone ?_; rw [hWe])
    go_ret2
    refine ⟨none, 0, 0, by rw [deX_no HW.out.2]; rfl, ?_, HW.out.1, Nat.le_refl _, by omega⟩
    rw [El_no HW.out.2]
    exact ⟨rfl, by omega, fun h => by omega⟩

set_option maxRecDepth 20000 in
set_option maxHeartbeats 1000000 in
theorem eequal_same (p q : Option Addr) (n m c d : Nat) (L : List En) (w : World) (h : EI w p n L) (k : EI w q m L) :
    Calls Try.prog 10 #[.slice p n c, .slice q m d] w fun e w' => e = .returned (.bool true) ∧ Below w.heap.size w w' := by
  have hn := h.len
  have hm := k.len
  have hbig := h.big
  obtain rfl : n = m := by omega
  go_enter Try.func10, Try.ntmps10
  go_wp2_with fail
  go_loopw [13] (fun i wr => ∃ j : Nat, j ≤ n ∧ i = .int .i64 (j : Int) ∧ Below w.heap.size w wr) (fun i _ => n - (intOf i).toNat)
  case atStart => exact ⟨0, by omega, rfl, Below.refl _ _⟩
  case round =>
    obtain ⟨j, hj, rfl, hb⟩ := hrel
    by_cases hlt : j < n
    · obtain ⟨b, o, rfl, hcs⟩ := (h.kept hb).cells (by omega)
      obtain ⟨b', o', rfl, hcs'⟩ := (k.kept hb).cells (by omega)
      obtain ⟨N, S, hs⟩ : ∃ N S, L[j]? = some ⟨N, S⟩ := ⟨_, _, List.getElem?_eq_getElem (by omega)⟩
      obtain ⟨c0, c1⟩ := hcs j _ hs
      obtain ⟨d0, d1⟩ := hcs' j _ hs
      have hjI : (j : Int) < (n : Int) := by omega
      have hj0 : (0 : Int) ≤ (j : Int) := by omega
      have HB : Hid _ := hb
      clear hcs hcs' hs hb
      go_wp2_with fail
      go_quiet (fail)
      go_wp2_with fail
      go_roundw
      case rel => exact ⟨j + 1, by omega, by go_num, below_drewN HB.out _⟩
      case measure => simp [intOf]; omega
    · obtain rfl : j = n := by omega
      have hnt : ¬ (j : Int) < (j : Int) := by omega
      go_wp2_with fail
      go_ret
      exact ⟨rfl, hb⟩
end Go.Proofs.Ythfnldclpommlaa
