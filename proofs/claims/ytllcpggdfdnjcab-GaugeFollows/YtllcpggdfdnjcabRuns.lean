/- Mean and Broken, the program's and the document's; GaugeRuns. -/
import Derived.Test.YtllcpggdfdnjcabSum
namespace Go.Proofs.Ytllcpggdfdnjcab
open Go.RowKit
set_option linter.unusedVariables false

def isum (xs : List Int) (n : Nat) : Option Nat := osum (fun k => fi (xs.getD k 0)) n
def oMean (xs : List Int) (n : Nat) : Option Nat := ob .quo (isum xs n) (fi n)
/-- The greatest of the first k; 0 of none. -/
def lg (xs : List Int) : Nat → Int
  | 0 => 0
  | k + 1 => if k = 0 ∨ lg xs k < xs.getD k 0 then xs.getD k 0 else lg xs k
def oBroken (xs : List Int) (n : Nat) : Option Nat := ob .sub (some 4607182418800017408) (ob .quo (fi (lg xs n)) (isum xs n))

theorem mean_ok (p : Option Addr) (n c : Nat) (xs : List Int) (w : World) (h : II w p n xs) :
    Calls Try.prog 26 #[.slice p n c] w fun e w' => e = .returned (.int .u64 (tl (oMean xs n))) ∧ Below w.heap.size w w' := by
  have hq := fun (w : World) (t : TypeId) (x y : Nat) => run_fop (P := Try.prog) w Fop.quo t x y
  have ht := told_ok
  have hs := together_ok p n c xs w h
  go_enter Try.func26, Try.ntmps26
  go_wp2_with (first | (go_at_call 62; refine hs.mono ?_; rintro e w' ⟨x, rfl, hx, hb⟩) | (go_at_call 60; refine same_at (ht _ _) ?_))
  go_ret
  exact ⟨by rw [fc_fv, fc_fi, hx.out]; rfl, below_drewN hb _⟩

theorem rsum_ok (p : Option Addr) (n c : Nat) (xs : List Int) (w : World) (h : II w p n xs) :
    Calls Try.prog 63 #[.slice p n c] w fun e w' => ∃ x, e = .returned (.float .f64 x) ∧ Hid (fc x = isum xs n) ∧ ∃ q, w' = w.drewN q := by
  have ha := fun (w : World) (t : TypeId) (x y : Nat) => run_fop (P := Try.prog) w Fop.add t x y
  have hbig := h.big
  go_enter Try.func63, Try.ntmps63
  go_wp2_with fail
  go_loopw [3, 8] (fun s j wr => ∃ (k : Nat) (x q : Nat), k ≤ n ∧ j = .int .i64 (k : Int) ∧ s = .float .f64 x ∧ Hid (fc x = isum xs k) ∧ wr = w.drewN q) (fun s j _ => n - (intOf j).toNat)
  case atStart => exact ⟨0, 0, 0, by omega, rfl, rfl, fc_nought, rfl⟩
  case round =>
    obtain ⟨k, x, q, hk, rfl, rfl, hx, rfl⟩ := hrel
    by_cases hlt : k < n
    · obtain ⟨b1, o1, rfl, hc1⟩ := h.cells (by omega)
      have e1 := hc1 k hlt
      clear hc1
      have hs : isum xs (k + 1) = ob .add (isum xs k) (fi (xs.getD k 0)) := rfl
      generalize xs.getD k 0 = y at e1 hs
      have HS : Hid _ := hs
      clear hs
      have hkI : (k : Int) < (n : Int) := by omega
      have hk0 : (0 : Int) ≤ (k : Int) := by omega
      go_wp2
      go_roundw
      case rel => exact ⟨k + 1, _, _, by omega, by go_num, rfl, (by show fc _ = _; rw [HS.out, fc_fv, hx.out, fc_fi]), rfl⟩
      case measure => simp [intOf]; omega
    · obtain rfl : k = n := by omega
      go_wp2
      go_ret
      exact ⟨_, rfl, hx, _, rfl⟩

theorem rmean_ok (p : Option Addr) (n c : Nat) (xs : List Int) (w : World) (h : II w p n xs) :
    Calls Try.prog 27 #[.slice p n c] w fun e w' => e = .returned (.int .u64 (tl (oMean xs n))) ∧ Below w.heap.size w w' := by
  have hq := fun (w : World) (t : TypeId) (x y : Nat) => run_fop (P := Try.prog) w Fop.quo t x y
  have ht := rbits_ok
  have hs := rsum_ok p n c xs w h
  go_enter Try.func27, Try.ntmps27
  go_wp2_with (first | (go_at_call 63; refine hs.mono ?_; rintro e w' ⟨x, rfl, hx, q, rfl⟩) | (go_at_call 61; refine same_at (ht _ _) ?_))
  go_ret
  exact ⟨by rw [fc_fv, fc_fi, hx.out]; rfl, below_drewN (Below.refl _ _) _⟩

set_option maxHeartbeats 400000 in
theorem max_ok (p : Option Addr) (n c : Nat) (xs : List Int) (w : World) (h : II w p n xs) (hn : 0 < n) :
    Calls Try.prog 64 #[.slice p n c] w fun e w' => e = .returned (.int .i64 (lg xs n)) ∧ w' = w := by
  have hbig := h.big
  obtain ⟨b1, o1, rfl, hc1⟩ := h.cells (by omega)
  have e0 := hc1 0 hn
  have hl1 : lg xs 1 = xs.getD 0 0 := by simp [lg]
  rw [← hl1] at e0
  have HL : Hid _ := hl1
  clear hl1
  have hnI : (0 : Int) < (n : Int) := by omega
  have hn1 : (1 : Int) ≤ (n : Int) := by omega
  rw [Nat.add_zero] at e0
  go_enter Try.func64, Try.ntmps64
  go_wp2_with fail
  go_loopw [3, 4] (fun s j wr => ∃ (k : Nat), 1 ≤ k ∧ k ≤ n ∧ j = .int .i64 (k : Int) ∧ s = .int .i64 (lg xs k) ∧ wr = w) (fun s j _ => n - (intOf j).toNat)
  case atStart => exact ⟨1, by omega, by omega, rfl, rfl, rfl⟩
  case round =>
    obtain ⟨k, hk1, hk, rfl, rfl, rfl⟩ := hrel
    by_cases hlt : k < n
    · have e1 := hc1 k hlt
      have hs : lg xs (k + 1) = if k = 0 ∨ lg xs k < xs.getD k 0 then xs.getD k 0 else lg xs k := rfl
      clear hc1
      generalize xs.getD k 0 = y at e1 hs
      have HS : Hid _ := hs
      clear hs
      have hkI : (k : Int) < (n : Int) := by omega
      have hk0 : (0 : Int) ≤ (k : Int) := by omega
      go_wp2
      go_roundw
      case rel =>
        refine ⟨k + 1, by omega, by omega, by go_num, ?_, trivial⟩
        rw [HS.out]
        have hk0' : ¬ k = 0 := by omega
        simp only [hk0', false_or]
      case measure => simp [intOf]; omega
    · obtain rfl : k = n := by omega
      go_wp2
      go_ret
      exact ⟨rfl, rfl⟩

theorem broken_ok (p : Option Addr) (n c : Nat) (xs : List Int) (w : World) (h : II w p n xs) :
    Calls Try.prog 28 #[.slice p n c] w fun e w' => e = .returned (.int .u64 (tl (oBroken xs n))) ∧ Below w.heap.size w w' := by
  have hq := fun (w : World) (t : TypeId) (x y : Nat) => run_fop (P := Try.prog) w Fop.quo t x y
  have hm := fun (w : World) (t : TypeId) (x y : Nat) => run_fop (P := Try.prog) w Fop.sub t x y
  have ht := told_ok
  have hs := together_ok p n c xs w h
  rcases Nat.eq_zero_or_pos n with h0 | h0
  · have hI : ¬ (0 : Int) < (n : Int) := by omega
    have hL : lg xs n = 0 := by rw [h0]; rfl
    have HL : Hid _ := hL
    clear hL h0
    go_enter Try.func28, Try.ntmps28
    go_wp2_with (first | (go_at_call 62; refine hs.mono ?_; rintro e w' ⟨x, rfl, hx, hb⟩) | (go_at_call 60; refine same_at (ht _ _) ?_))
    go_ret
    refine ⟨?_, below_drewN hb _⟩
    simp only [oBroken, isum, fc_fv, fc_fi, hx.out, fc_one, HL.out]
    rfl
  · have hI : (0 : Int) < (n : Int) := by omega
    have hx := max_ok p n c xs w h h0
    go_enter Try.func28, Try.ntmps28
    go_wp2_with (first | (go_at_call 64; refine same_at hx ?_) | (go_at_call 62; refine hs.mono ?_; rintro e w' ⟨x, rfl, hx, hb⟩) | (go_at_call 60; refine same_at (ht _ _) ?_))
    go_ret
    refine ⟨?_, below_drewN hb _⟩
    simp only [oBroken, isum, fc_fv, fc_fi, hx.out, fc_one]
    rfl

set_option maxHeartbeats 400000 in
theorem rbroken_ok (p : Option Addr) (n c : Nat) (xs : List Int) (w : World) (h : II w p n xs) :
    Calls Try.prog 29 #[.slice p n c] w fun e w' => e = .returned (.int .u64 (tl (oBroken xs n))) ∧ Below w.heap.size w w' := by
  have hq := fun (w : World) (t : TypeId) (x y : Nat) => run_fop (P := Try.prog) w Fop.quo t x y
  have hm := fun (w : World) (t : TypeId) (x y : Nat) => run_fop (P := Try.prog) w Fop.sub t x y
  have ht := rbits_ok
  have hs := rsum_ok p n c xs w h
  have hbig := h.big
  go_enter Try.func29, Try.ntmps29
  go_wp2_with fail
  go_loopw [3, 9] (fun s j wr => ∃ (k : Nat), k ≤ n ∧ j = .int .i64 (k : Int) ∧ s = .int .i64 (lg xs k) ∧ wr = w) (fun s j _ => n - (intOf j).toNat)
  case atStart => exact ⟨0, by omega, rfl, rfl, rfl⟩
  case round =>
    obtain ⟨k, hk, rfl, rfl, rfl⟩ := hrel
    by_cases hlt : k < n
    · clear hs
      obtain ⟨b1, o1, rfl, hc1⟩ := h.cells (by omega)
      have e1 := hc1 k hlt
      have hs : lg xs (k + 1) = if k = 0 ∨ lg xs k < xs.getD k 0 then xs.getD k 0 else lg xs k := rfl
      clear hc1
      generalize xs.getD k 0 = y at e1 hs
      have hkI : (k : Int) < (n : Int) := by omega
      have hk0 : (0 : Int) ≤ (k : Int) := by omega
      rcases Nat.eq_zero_or_pos k with hz | hz
      · subst hz
        rw [Nat.add_zero] at e1
        have HS : Hid _ := hs
        clear hs
        go_wp2
        go_roundw
        case rel => exact ⟨1, by omega, rfl, by rw [HS.out]; simp, trivial⟩
        case measure => simp [intOf]; omega
      · have hz1 : ¬ ((k : Int) = 0) := by omega
        have hz2 : ¬ k = 0 := by omega
        by_cases hy : lg xs k < y
        · have HS : Hid _ := hs
          clear hs
          go_wp2
          go_roundw
          case rel => exact ⟨k + 1, by omega, by go_num, by rw [HS.out, if_pos (Or.inr hy)], trivial⟩
          case measure => simp [intOf]; omega
        · have HS : Hid _ := hs
          clear hs
          go_wp2
          go_roundw
          case rel => exact ⟨k + 1, by omega, by go_num, by rw [HS.out, if_neg (by omega)], trivial⟩
          case measure => simp [intOf]; omega
    · obtain rfl : k = n := by omega
      go_wp2_with (first | (go_at_call 63; refine hs.mono ?_; rintro e w' ⟨x, rfl, hx, q, rfl⟩) | (go_at_call 61; refine same_at (ht _ _) ?_))
      go_ret
      refine ⟨?_, below_drewN (Below.refl _ _) _⟩
      simp only [oBroken, fc_fv, fc_fi, hx.out, fc_one]
      rfl

theorem below_on {a b c : World} (h : Below a.heap.size a b) (k : Below b.heap.size b c) : Below a.heap.size a c := h.trans (k.mono h.size)

theorem below_at {P : Program} {f : FuncId} {args : Array Value} {w : World} {v : Value} {Q : Ending → World → Prop} (h : Calls P f args w fun e w' => e = .returned v ∧ Below w.heap.size w w') (hq : ∀ w', Below w.heap.size w w' → Q (.returned v) w') : Calls P f args w Q :=
  h.mono fun _ _ ⟨he, hb⟩ => by rw [he]; exact hq _ hb

set_option maxHeartbeats 1000000 in
theorem gaugeRuns_walk (p : Option Addr) (n c : Nat) (xs : List Int) (w : World) (h : II w p n xs) (h8 : n * 8 ≤ 140737488355328) :
    Calls Try.prog 5 #[.slice p n c] w fun e w' => e = .returned (.bool true) ∧ Below w.heap.size w w' := by
  have hc := numsclone_ok p n c xs w h h8
  have f1 : ∀ q k w, II w q n xs → Calls Try.prog 26 #[.slice q n k] w fun e w' => e = .returned (.int .u64 (tl (oMean xs n))) ∧ Below w.heap.size w w' := fun q k w h => mean_ok q n k xs w h
  have f2 : ∀ q k w, II w q n xs → Calls Try.prog 27 #[.slice q n k] w fun e w' => e = .returned (.int .u64 (tl (oMean xs n))) ∧ Below w.heap.size w w' := fun q k w h => rmean_ok q n k xs w h
  have f3 : ∀ q k w, II w q n xs → Calls Try.prog 28 #[.slice q n k] w fun e w' => e = .returned (.int .u64 (tl (oBroken xs n))) ∧ Below w.heap.size w w' := fun q k w h => broken_ok q n k xs w h
  have f4 : ∀ q k w, II w q n xs → Calls Try.prog 29 #[.slice q n k] w fun e w' => e = .returned (.int .u64 (tl (oBroken xs n))) ∧ Below w.heap.size w w' := fun q k w h => rbroken_ok q n k xs w h
  have f5 := fun q1 q2 k1 k2 w h1 h2 => numsequal_same q1 q2 n k1 k2 xs w h1 h2
  have hbig := h.big
  clear h8
  go_enter Try.func5, Try.ntmps5
  go_wp2_with (first | (go_at_call 25; refine hc.mono ?_; rintro e w1 ⟨p', c', rfl, h', hb1⟩))
  have h1 := h.kept hb1
  go_wp2_with (first | (go_at_call 26; refine below_at (f1 _ _ _ h') ?_; intro w2 hb2))
  have h2 := h1.kept hb2
  have h2' := h'.kept hb2
  go_wp2_with (first | (go_at_call 27; refine below_at (f2 _ _ _ h2) ?_; intro w3 hb3))
  have h3 := h2.kept hb3
  have h3' := h2'.kept hb3
  go_wp2_with (first | (go_at_call 28; refine below_at (f3 _ _ _ h3') ?_; intro w4 hb4))
  have h4 := h3.kept hb4
  have h4' := h3'.kept hb4
  go_wp2_with (first | (go_at_call 29; refine below_at (f4 _ _ _ h4) ?_; intro w5 hb5))
  have h5 := h4.kept hb5
  have h5' := h4'.kept hb5
  go_wp2_with (first | (go_at_call 30; refine below_at (f5 _ _ _ _ _ h5' h5) ?_; intro w6 hb6))
  go_ret
  exact ⟨rfl, below_on (below_on (below_on (below_on (below_on hb1 hb2) hb3) hb4) hb5) hb6⟩
end Go.Proofs.Ytllcpggdfdnjcab
