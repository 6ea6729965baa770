/- Numbers taken one behind the other. -/
import Derived.Test.YtkmijjipnepnoabRDin
namespace Go.Proofs.Ytkmijjipnepnoab
open Go.RowKit
set_option linter.unusedVariables false

/-- Nothing but two blocks has turned. -/
structure Two (w w' : World) (rb ib : Nat) : Prop where
  os : w'.os = w.os
  tape : w'.tape = w.tape
  output : w'.output = w.output
  size : w.heap.size ≤ w'.heap.size
  block : ∀ k, k < w.heap.size → k ≠ rb → k ≠ ib → w'.heap[k]? = w.heap[k]?
theorem Two.refl (w : World) (rb ib : Nat) : Two w w rb ib := ⟨rfl, rfl, rfl, Nat.le_refl _, fun _ _ _ _ => rfl⟩
theorem Two.grown {w w1 w2 : World} {rb ib : Nat} (h : Two w w1 rb ib) (g : w1.grownBy w2 (some rb)) : Two w w2 rb ib :=
  ⟨g.os.trans h.os, g.tape.trans h.tape, g.output.trans h.output, Nat.le_trans h.size g.size, fun k hk h1 h2 => (g.block k (Nat.lt_of_lt_of_le hk h.size) (by simpa using h1)).trans (h.block k hk h1 h2)⟩
theorem Two.set {w w1 : World} {rb ib : Nat} (h : Two w w1 rb ib) (i : Nat) (v : Value) : Two w (w1.setCell ⟨ib, i, none⟩ v) rb ib :=
  ⟨h.os, h.tape, h.output, by simpa [World.setCell] using h.size, fun k hk h1 h2 => (Below.heap_setCell _ _ _ _ h2).trans (h.block k hk h1 h2)⟩
theorem Two.below {w w1 : World} {rb ib : Nat} (h : Two w w1 rb ib) {B : Nat} (h1 : B ≤ rb) (h2 : B ≤ ib) (h3 : B ≤ w.heap.size) : Below B w w1 :=
  ⟨h.os, h.tape, h.output, h.size, fun k hk => h.block k (by omega) (by omega) (by omega)⟩

/-- Cells of which some were written anew. -/
def fill (cs : Array Value) (o : Nat) (f : Nat → Int) : Nat → Array Value
  | 0 => cs
  | j + 1 => (fill cs o f j).setIfInBounds (o + j) (.int .i64 (f j))
theorem fill_size (cs : Array Value) (o : Nat) (f : Nat → Int) (j : Nat) : (fill cs o f j).size = cs.size := by
  induction j with
  | zero => rfl
  | succ j ih => rw [fill, Array.size_setIfInBounds, ih]
theorem fill_no {cs : Array Value} (hno : ∀ (x : Int) (j : Nat), cs[j]? ≠ some (Value.int .u8 x)) (o : Nat) (f : Nat → Int) (n : Nat) : ∀ (x : Int) (j : Nat), (fill cs o f n)[j]? ≠ some (Value.int .u8 x) := by
  induction n with
  | zero => exact hno
  | succ n ih =>
    intro x j
    rw [fill, Array.getElem?_setIfInBounds]
    split
    · split
      · simp
      · simp
    · exact ih x j
theorem fill_after (cs : Array Value) (o : Nat) (f : Nat → Int) (n k : Nat) (hk : o + n ≤ k) : (fill cs o f n)[k]? = cs[k]? := by
  induction n with
  | zero => rfl
  | succ n ih => rw [fill, Array.getElem?_setIfInBounds_ne (by omega), ih (by omega)]

set_option maxHeartbeats 400000 in
theorem takeAll_ok (w : World) (rb ib o n k N cap : Nat) (xs : List Int) (cs : Array Value) (t : TypeId) (h : Rest w rb N xs 0) (hc : w.heap[ib]? = some (.cells cs t (0, 0))) (hno : ∀ (x : Int) (j : Nat), cs[j]? ≠ some (Value.int .u8 x)) (hne : rb ≠ ib)
    (h1 : 1 ≤ k) (h4 : k ≤ 4) (hN : k * n ≤ N) (hn : n ≤ 4096) (hcs : ∀ j, j < n → ∃ z, cs[o + j]? = some (.int .i64 z)) :
    Calls Try.prog 75 #[.pointer (some ⟨rb, 0, none⟩), .int .i64 (k : Int), .slice (some ⟨ib, o, none⟩) n cap] w fun e w' => e = .returned (.tuple #[]) ∧ w'.heap[ib]? = some (.cells (fill cs o (fun j => Num.numD xs (k * j) k) n) t (0, 0)) ∧ Rest w' rb (N - k * n) (xs.drop (k * n)) 0 ∧ Two w w' rb ib := by
  go_enter Try.func75, Try.ntmps75
  go_wp2_with fail
  go_loopw [9] (fun x wr => ∃ j : Nat, j ≤ n ∧ x = .int .i64 (j : Int) ∧ wr.heap[ib]? = some (.cells (fill cs o (fun j => Num.numD xs (k * j) k) j) t (0, 0)) ∧ Rest wr rb (N - k * j) (xs.drop (k * j)) 0 ∧ Two w wr rb ib) (fun x _ => n - (intOf x).toNat)
  case atStart => exact ⟨0, by omega, rfl, hc, h, Two.refl _ _ _⟩
  case round =>
    obtain ⟨j, hj, rfl, hi, hr, ht⟩ := hrel
    by_cases hlt : j < n
    · obtain ⟨z, hz⟩ := hcs j hlt
      have hle : k * (j + 1) ≤ k * n := Nat.mul_le_mul_left k hlt
      rw [Nat.mul_succ] at hle
      have tk := take_yes wr rb (N - k * j) k _ hr h1 h4 (by omega)
      rw [numD_drop xs (k * j) k 0] at tk
      have hfz := fill_after cs o (fun j => Num.numD xs (k * j) k) j (o + j) (by omega)
      have hfn := fill_no hno o (fun j => Num.numD xs (k * j) k) j
      have hst : fill cs o (fun j => Num.numD xs (k * j) k) (j + 1) = (fill cs o (fun j => Num.numD xs (k * j) k) j).setIfInBounds (o + j) (.int .i64 (Num.numD xs (k * j) k)) := rfl
      rw [Nat.add_zero] at tk
      generalize fill cs o (fun j => Num.numD xs (k * j) k) j = F at *
      generalize Num.numD xs (k * j) k = v at *
      have hjI : (j : Int) < (n : Int) := by omega
      rw [hz] at hfz
      have HF := (show Hid _ from hfn)
      have HS := (show Hid _ from hst)
      have HZ := (show Hid _ from hz)
      clear hz hfn hst hcs h hc hno
      go_wp2_with (first | (go_at_call 72; refine Calls.mono tk ?_; rintro e wm ⟨rfl, hg, hr2⟩; have hi2 := grown_cells hg hi (fun e => hne e.symm); have hcell := cell_row hi2 (o + j) _ hfz; have hfr := frozen_of_row _ _ (o + j) _ _ hi2))
      go_roundw
      case rel =>
        refine ⟨j + 1, by omega, by go_num, ?_, ?_, (ht.grown hg).set _ _⟩
        · rw [heap_set hi2, HS.out]
        · rw [Nat.mul_succ, ← Nat.sub_sub, ← List.drop_drop]
          exact rest_set hr2 hi2 HF.out hne _ _
      case measure => simp [intOf]; omega
    · obtain rfl : j = n := by omega
      go_wp2
      go_end0
      exact ⟨rfl, hi, hr, ht⟩
end Go.Proofs.Ytkmijjipnepnoab
