/- Names. -/
import Derived.Test.YtfchclpglcogoaaLays
namespace Go.Proofs.Ytfchclpglcogoaa
open Go.RowKit
set_option linter.unusedVariables false

def Letter (v : Int) : Prop := 33 ≤ v ∧ v ≤ 126 ∧ v ≠ 47
instance (v : Int) : Decidable (Letter v) := by unfold Letter; infer_instance
def dots (s : ByteArray) : Bool := s.toList == [46] || s.toList == [46, 46]
/-- A name. -/
def Nm (s : ByteArray) : Prop := 1 ≤ s.size ∧ s.size ≤ 13 ∧ dots s = false ∧ ∀ v ∈ numsOf s, Letter v
instance (s : ByteArray) : Decidable (Nm s) := by unfold Nm; infer_instance

theorem isLetter_ok (v : Int) (w : World) (h0 : 0 ≤ v) (h1 : v < 256) : Calls Try.prog 70 #[.int .u8 v] w fun e w' => e = .returned (.bool (decide (Letter v))) ∧ w' = w := by
  go_enter Try.func70, Try.ntmps70
  go_wp2
  all_goals
    go_ret
    refine ⟨ret_bool ?_, rfl⟩
    rw [Bool.eq_iff_iff, decide_eq_true_iff]
    unfold Letter
    simp
    try omega
theorem isDots_ok (s : ByteArray) (w : World) : Calls Try.prog 69 #[.string s] w fun e w' => e = .returned (.bool (dots s)) ∧ w' = w := by
  go_enter Try.func69, Try.ntmps69
  go_wp2
  all_goals
    go_ret
    refine ⟨ret_bool ?_, rfl⟩
    unfold dots
    simp [*]
theorem nums_at (s : ByteArray) (j : Nat) (h : j < s.size) : (numsOf s)[j]? = some (s[j].toNat : Int) := by
  unfold numsOf
  rw [List.getElem?_map, Array.getElem?_toList, Array.getElem?_eq_getElem (by exact h)]
  rfl
theorem letters_next {s : ByteArray} {j : Nat} {v : Int} (hz : (numsOf s)[j]? = some v) (hA : ∀ v ∈ (numsOf s).take j, Letter v) (hok : Letter v) : ∀ v ∈ (numsOf s).take (j + 1), Letter v := by
  intro y hy
  rw [List.take_add_one, hz] at hy
  rcases List.mem_append.1 hy with h' | h'
  · exact hA y h'
  · simp at h'
    subst h'
    exact hok
set_option maxHeartbeats 400000 in
theorem isName_ok (s : ByteArray) (w : World) (hs : s.size ≤ 140737488355328) : Calls Try.prog 61 #[.string s] w fun e w' => e = .returned (.bool (decide (Nm s))) ∧ w' = w := by
  have hd := isDots_ok s w
  have hw := within_ok s.size 1 13 w
  by_cases h1 : 1 ≤ s.size ∧ s.size ≤ 13
  · rw [decide_eq_true (by omega)] at hw
    by_cases h2 : dots s = true
    · have hn : ¬ Nm s := fun k => by rw [k.2.2.1] at h2; cases h2
      rw [h2] at hd
      go_enter Try.func61, Try.ntmps61
      go_wp2_with (first | (go_at_call 68; refine same_at hw ?_) | (go_at_call 69; refine same_at hd ?_))
      go_ret
      rw [decide_eq_false hn]
      exact ⟨rfl, rfl⟩
    · rw [Bool.eq_false_iff.2 h2] at hd
      go_enter Try.func61, Try.ntmps61
      go_wp2_with (first | (go_at_call 68; refine same_at hw ?_) | (go_at_call 69; refine same_at hd ?_))
      go_loopw [14] (fun i wr => ∃ j : Nat, j ≤ s.size ∧ i = .int .i64 (j : Int) ∧ (∀ v ∈ (numsOf s).take j, Letter v) ∧ wr = w) (fun i _ => s.size - (intOf i).toNat)
      case atStart => exact ⟨0, by omega, rfl, by simp, rfl⟩
      case round =>
        obtain ⟨j, hj, rfl, hA, rfl⟩ := hrel
        by_cases hlt : j < s.size
        · have hjI : (j : Int) < (s.size : Int) := by omega
          have hz := nums_at s j hlt
          have hlo : (0 : Int) ≤ (s[j].toNat : Int) := by omega
          have hhi : (s[j].toNat : Int) < 256 := by have := s[j].toNat_lt; omega
          have hlet := isLetter_ok (s[j].toNat : Int) wr hlo hhi
          have HZ := (show Hid _ from hz)
          clear hz hlo hhi
          by_cases hok : Letter (s[j].toNat : Int)
          · rw [decide_eq_true hok] at hlet
            have hA2 := letters_next HZ.out hA hok
            clear hok hA
            go_wp2_with (first | (go_at_call 70; refine same_at hlet ?_))
            go_roundw
            case rel => exact ⟨j + 1, by omega, by go_num, hA2, by first | rfl | trivial⟩
            case measure => simp [intOf]; omega
          · rw [decide_eq_false hok] at hlet
            have hn : ¬ Nm s := fun k => hok (k.2.2.2 _ (List.mem_of_getElem? HZ.out))
            clear hok hA
            go_wp2_with (first | (go_at_call 70; refine same_at hlet ?_))
            go_ret
            rw [decide_eq_false hn]
            exact ⟨rfl, rfl⟩
        · obtain rfl : j = s.size := by omega
          rw [List.take_of_length_le (by rw [numsOf_len]; omega)] at hA
          go_wp2
          go_ret
          have hn : Nm s := ⟨h1.1, h1.2, Bool.eq_false_iff.2 h2, hA⟩
          rw [decide_eq_true hn]
          exact ⟨rfl, rfl⟩
  · rw [decide_eq_false (by omega)] at hw
    have hn : ¬ Nm s := fun k => h1 ⟨k.1, k.2.1⟩
    go_enter Try.func61, Try.ntmps61
    go_wp2_with (first | (go_at_call 68; refine same_at hw ?_))
    go_ret
    rw [decide_eq_false hn]
    exact ⟨rfl, rfl⟩

theorem toList_nil (s : ByteArray) : (s.toList == []) = decide (s.size = 0) := by
  rw [Bool.eq_iff_iff, beq_iff_eq, decide_eq_true_iff, Lib.toList_data, ← List.length_eq_zero_iff, Array.length_toList]
  rfl
end Go.Proofs.Ytfchclpglcogoaa
