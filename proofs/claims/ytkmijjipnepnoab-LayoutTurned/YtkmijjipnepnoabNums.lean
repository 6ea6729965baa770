/- Numbers that are written one behind the other, and lists of numbers in memory. -/
import Derived.Test.YtkmijjipnepnoabPage
namespace Go.Proofs.Ytkmijjipnepnoab
open Go.RowKit

/-- The slice at p, of n numbers, holds zs. -/
structure II (w : World) (p : Option Addr) (n : Nat) (zs : List Int) : Prop where
  len : zs.length = n
  big : n ≤ 140737488355328
  cells : 0 < n → ∃ b o, p = some ⟨b, o, none⟩ ∧ ∀ i, i < n → w.cell? ⟨b, o + i, none⟩ = some (.int .i64 (zs.getD i 0))

theorem II.kept {w w' : World} {p : Option Addr} {n : Nat} {xs : List Int} (h : II w p n xs) (hb : Below w.heap.size w w') : II w' p n xs := by
  refine ⟨h.len, h.big, fun hn => ?_⟩
  obtain ⟨b, o, rfl, hc⟩ := h.cells hn
  refine ⟨b, o, rfl, fun i hi => ?_⟩
  rw [hb.cell (p := ⟨b, o + i, none⟩) (lt_of_cell (hc i hi))]
  exact hc i hi

theorem ii_under {B : Nat} {w w' : World} {p : Option Addr} {n : Nat} {xs : List Int} (h : II w p n xs) (hb : Below B w w') (hq : ∀ b o, p = some ⟨b, o, none⟩ → b < B) : II w' p n xs := by
  refine ⟨h.len, h.big, fun hn => ?_⟩
  obtain ⟨b, o, rfl, hc⟩ := h.cells hn
  refine ⟨b, o, rfl, fun i hi => ?_⟩
  rw [hb.cell (p := ⟨b, o + i, none⟩) (hq b o rfl)]
  exact hc i hi

/-- xs with the first j numbers of zs put from a on, each k bytes wide. -/
def putsTo (xs : List Int) (a k : Nat) (zs : List Int) : Nat → List Int
  | 0 => xs
  | j + 1 => Num.putTo (putsTo xs a k zs j) (a + k * j) (zs.getD j 0) k

theorem putsTo_len (xs : List Int) (a k : Nat) (zs : List Int) (j : Nat) : (putsTo xs a k zs j).length = xs.length := by
  induction j with
  | zero => rfl
  | succ j ih => rw [putsTo, Num.putTo_length, ih]
theorem putsTo_byt {xs : List Int} (h : Num.Byt xs) (a k : Nat) (zs : List Int) (j : Nat) : Num.Byt (putsTo xs a k zs j) := by
  induction j with
  | zero => exact h
  | succ j ih => exact Num.putTo_byt ih _ _ _

set_option maxHeartbeats 400000 in
theorem pnums_ok {B : Nat} {w : World} {pb g N a : Nat} {xs : List Int} (h : Pg B w pb g N a xs) (k : Nat) (h1 : 1 ≤ k) (h4 : k ≤ 4) (p : Option Addr) (n c : Nat) (zs : List Int) (hz : II w p n zs) (hq : ∀ b o, p = some ⟨b, o, none⟩ → b < B)
    (h2 : a + k * n ≤ N) (hv : ∀ j, j < n → 0 ≤ zs.getD j 0 ∧ zs.getD j 0 < 256 ^ k) :
    Calls Try.prog 52 #[.pointer (some ⟨pb, 0, none⟩), .int .i64 (k : Int), .slice p n c] w fun e w' => e = .returned (.tuple #[]) ∧ Pg B w' pb g N (a + k * n) (putsTo xs a k zs n) ∧ Below B w w' := by
  have hbig := hz.big
  go_enter Try.func52, Try.ntmps52
  go_wp2_with fail
  go_loopw [10] (fun i wr => ∃ j : Nat, j ≤ n ∧ i = .int .i64 (j : Int) ∧ Pg B wr pb g N (a + k * j) (putsTo xs a k zs j) ∧ Below B w wr) (fun i _ => n - (intOf i).toNat)
  case atStart => exact ⟨0, by omega, rfl, h, Below.refl _ _⟩
  case round =>
    obtain ⟨j, hj, rfl, hp, hb⟩ := hrel
    by_cases hlt : j < n
    · obtain ⟨b, o, rfl, hc⟩ := hz.cells (by omega)
      have hcell := hc j hlt
      rw [← hb.cell (p := ⟨b, o + j, none⟩) (hq b o rfl)] at hcell
      have hv0 := (hv j hlt).1
      have hv1 := (hv j hlt).2
      have hle : k * (j + 1) ≤ k * n := Nat.mul_le_mul_left k hlt
      have hcon := pnum_ok hp k (zs.getD j 0) h1 h4 (by rw [Nat.mul_succ] at hle; omega) hv0 hv1
      have hjI : (j : Int) < (n : Int) := by omega
      have hst : putsTo xs a k zs (j + 1) = Num.putTo (putsTo xs a k zs j) (a + k * j) (zs.getD j 0) k := rfl
      have HS : Hid (putsTo xs a k zs (j + 1) = Num.putTo (putsTo xs a k zs j) (a + k * j) (zs.getD j 0) k) := hst
      have HC : Hid (Calls Try.prog 41 #[.pointer (some ⟨pb, 0, none⟩), .int .i64 (k : Int), .int .i64 (zs.getD j 0)] wr fun e w' => e = .returned (.tuple #[]) ∧ Pg B w' pb g N (a + k * j + k) (Num.putTo (putsTo xs a k zs j) (a + k * j) (zs.getD j 0) k) ∧ Below B wr w') := hcon
      clear hst hcon hv0 hv1 hle
      generalize zs.getD j 0 = z at *
      go_wp2_with fail
      refine Calls.mono HC.out ?_
      rintro e w1 ⟨rfl, p1, b1⟩
      rw [← HS.out, Nat.add_assoc, ← Nat.mul_succ] at p1
      go_wp2
      go_roundw
      case rel => exact ⟨j + 1, by omega, by go_num, p1, hb.trans b1⟩
      case measure => simp [intOf]; omega
    · obtain rfl : j = n := by omega
      go_wp2
      go_end0
      exact ⟨rfl, hp, hb⟩
end Go.Proofs.Ytkmijjipnepnoab
