/- A number of thousandths as digits with a point. -/
import Derived.Test.YtllcpggdfdnjcabDoorFmt
namespace Go.Proofs.YtllcpggdfdnjcabDoor
open Go.RowKit
set_option linter.unusedVariables false

/-- A number's digits, at least four. -/
def padB (u : Nat) : ByteArray := ⟨(Lib.repeatL [48] (4 - Lib.nDigits u)).toArray⟩ ++ ⟨(Lib.decDigits u).toArray⟩
/-- .. with a point ahead of the last three. -/
def pnt (P : ByteArray) : ByteArray := P.extract 0 (P.size - 3) ++ ⟨#[46]⟩ ++ P.extract (P.size - 3) P.size

set_option maxHeartbeats 1000000 in
set_option maxRecDepth 100000 in
theorem pointed_ok (u : Nat) (hu64 : u < 18446744073709551616) (w : World) (htab : Lib.TabIs Tryd.prog w "internal/strconv.uint64pow10" .u64 Lib.pow10Tab) :
    Calls Tryd.prog 17 #[.int .u64 (u : Int)] w fun e w' => e = .returned (.string (pnt (padB u))) ∧ Below w.heap.size w w' := by
  have hf := fmt_ok u hu64 w htab
  obtain ⟨T, hT⟩ : ∃ T : ByteArray, T = ⟨(Lib.decDigits u).toArray⟩ := ⟨_, rfl⟩
  rw [← hT] at hf
  have hTs : T.size = Lib.nDigits u := by rw [hT]; show (Lib.decDigits u).toArray.size = _; rw [List.size_toArray, Lib.decDigits_length]
  have hnd : 1 ≤ Lib.nDigits u := Lib.nDigits_pos u
  have HT : Hid _ := hT
  clear hT
  have hn20 : Lib.nDigits u ≤ 20 := by
    rcases Nat.eq_zero_or_pos u with h | h
    · rw [h, Lib.nDigits_small (by omega)]; omega
    · have := Lib.numDigits_eq u h hu64; split at this <;> omega
  have hmax : max (4 - (Lib.nDigits u : Int)) 0 = ((4 - Lib.nDigits u : Nat) : Int) := by omega
  have hr := fun w => sh_strings_Repeat ⟨#[48]⟩ (4 - Lib.nDigits u) w (by omega) (by show 1 * _ ≤ _; omega)
  obtain ⟨Z, hZ⟩ : ∃ Z : ByteArray, Z = ⟨(Lib.repeatL [48] (4 - Lib.nDigits u)).toArray⟩ := ⟨_, rfl⟩
  have hZs : Z.size = 4 - Lib.nDigits u := by rw [hZ]; show (Lib.repeatL [48] _).toArray.size = _; rw [List.size_toArray, Lib.repeatL_length]; simp
  have hr' : ∀ w, Calls Tryd.prog 26 #[.string ⟨#[48]⟩, .int .i64 ((4 - Lib.nDigits u : Nat) : Int)] w fun e w' => e = .returned (.string Z) ∧ Below w.heap.size w w' := by
    intro w; rw [hZ]; exact hr w
  clear hr
  have HZ : Hid _ := hZ
  clear hZ
  obtain ⟨P, hP⟩ : ∃ P : ByteArray, Z ++ T = P := ⟨_, rfl⟩
  obtain ⟨j, hj⟩ : ∃ j, j = max 4 (Lib.nDigits u) - 3 := ⟨_, rfl⟩
  have hPs : P.size = j + 3 := by rw [← hP, ByteArray.size_append]; omega
  have hj1 : 1 ≤ j := by omega
  have hj2 : j ≤ 17 := by omega
  clear hj
  have HP : Hid (pnt (padB u) = P.extract 0 j ++ ⟨#[46]⟩ ++ P.extract j (j + 3)) := by
    show pnt (padB u) = _
    have e : padB u = P := by rw [← hP, HZ.out, HT.out]; rfl
    rw [e]
    unfold pnt
    rw [hPs]
    rfl
  generalize Lib.nDigits u = nd at *
  generalize 4 - nd = z at *
  go_enter Tryd.func17, Tryd.ntmps17
  go_wp2_with (first | (go_at_call 25; refine hf.mono ?_; rintro e w' ⟨rfl, hb⟩))
  go_wp2_with (first | (go_at_call 26; refine (hr' _).mono ?_; rintro e w'' ⟨rfl, hb'⟩))
  have hjP : (j : Int) ≤ ((j + 3 : Nat) : Int) := by omega
  go_quiet (fail)
  go_wp2
  go_ret
  exact ⟨by rw [HP.out]; rfl, below_drewN (hb.trans (hb'.mono hb.size)) _⟩

theorem padB_size (u : Nat) : (padB u).size = max 4 (Lib.nDigits u) := by
  unfold padB
  rw [ByteArray.size_append]
  have h1 : (⟨(Lib.repeatL [48] (4 - Lib.nDigits u)).toArray⟩ : ByteArray).size = 4 - Lib.nDigits u := by show (Lib.repeatL [48] _).toArray.size = _; rw [List.size_toArray, Lib.repeatL_length]; simp
  have h2 : (⟨(Lib.decDigits u).toArray⟩ : ByteArray).size = Lib.nDigits u := by show (Lib.decDigits u).toArray.size = _; rw [List.size_toArray, Lib.decDigits_length]
  rw [h1, h2]; omega

theorem nd20 (u : Nat) (hu64 : u < 18446744073709551616) : Lib.nDigits u ≤ 20 := by
  rcases Nat.eq_zero_or_pos u with h | h
  · rw [h, Lib.nDigits_small (by omega)]; omega
  · have := Lib.numDigits_eq u h hu64; split at this <;> omega

theorem pnt_size (u : Nat) (hu64 : u < 18446744073709551616) : (pnt (padB u)).size ≤ 21 := by
  have h1 := padB_size u
  have h2 := nd20 u hu64
  unfold pnt
  rw [ByteArray.size_append, ByteArray.size_append, ByteArray.size_extract, ByteArray.size_extract]
  have h3 : (⟨#[46]⟩ : ByteArray).size = 1 := rfl
  rw [h3]
  omega
end Go.Proofs.YtllcpggdfdnjcabDoor
