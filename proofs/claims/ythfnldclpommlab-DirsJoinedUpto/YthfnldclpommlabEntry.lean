/- Entries. -/
import Derived.Test.YthfnldclpommlabName
namespace Go.Proofs.Ythfnldclpommlab
open Go.RowKit
set_option linter.unusedVariables false

abbrev entV (N : Int) (s : ByteArray) : Value := .agg #[.int .i64 N, .string s]
abbrev entO (N : Int) (s : ByteArray) : Obj := .cells #[.int .i64 N, .string s] 32
/-- Whether an entry may be. -/
def EMay (N : Int) (s : ByteArray) : Prop := (N = 0 ∧ s.size = 0) ∨ ((1 ≤ N ∧ N ≤ 511) ∧ (dots s = true ∨ Nm s))
instance (N : Int) (s : ByteArray) : Decidable (EMay N s) := by unfold EMay; infer_instance

theorem toList_empty {s : ByteArray} (h : s.size = 0) : s.toList = [] := by
  have := toList_nil s
  rw [decide_eq_true h, beq_iff_eq] at this
  exact this
theorem toList_not {s : ByteArray} (h : ¬ s.size = 0) : ¬ s.toList = [] := by
  have := toList_nil s
  rw [decide_eq_false h] at this
  exact beq_eq_false_iff_ne.1 this

set_option maxHeartbeats 400000 in
theorem entryMay_ok (N : Int) (s : ByteArray) (w : World) (hs : s.size ≤ 140737488355328) : Calls Try.prog 54 #[entV N s] w fun e w' => e = .returned (.bool (decide (EMay N s))) ∧ Below w.heap.size w w' := by
  have HB := grew_alloc w (entO N s)
  have hw := within_ok N 1 511 (w.alloc (entO N s))
  have hd := isDots_ok s (w.alloc (entO N s))
  have hn := isName_ok s (w.alloc (entO N s)) hs
  have c0 : (w.alloc (entO N s)).cell? ⟨w.heap.size, 0, none⟩ = some (.int .i64 N) := cell_row (heap_new w _) 0 _ rfl
  have c1 : (w.alloc (entO N s)).cell? ⟨w.heap.size, 1, none⟩ = some (.string s) := cell_row (heap_new w _) 1 _ rfl
  by_cases h0 : N = 0
  · subst h0
    by_cases h1 : s.size = 0
    · have hl := toList_empty h1
      rw [show decide (EMay 0 s) = true from decide_eq_true (Or.inl ⟨rfl, h1⟩)]
      clear h1
      go_enter Try.func54, Try.ntmps54
      go_wp2_with fail
      go_ret
      exact ⟨rfl, HB⟩
    · have hl := toList_not h1
      rw [show decide (EMay 0 s) = false from decide_eq_false (by unfold EMay; omega)]
      rw [decide_eq_false (by omega)] at hw
      clear h1
      go_enter Try.func54, Try.ntmps54
      go_wp2_with (first | (go_at_call 49; refine same_at hw ?_))
      go_ret
      exact ⟨rfl, HB⟩
  · by_cases h1 : 1 ≤ N ∧ N ≤ 511
    · rw [decide_eq_true h1] at hw
      by_cases h2 : dots s = true
      · rw [show decide (EMay N s) = true from decide_eq_true (Or.inr ⟨h1, Or.inl h2⟩)]
        rw [h2] at hd
        go_enter Try.func54, Try.ntmps54
        go_wp2_with (first | (go_at_call 49; refine same_at hw ?_) | (go_at_call 50; refine same_at hd ?_))
        go_ret
        exact ⟨rfl, HB⟩
      · rw [show decide (EMay N s) = decide (Nm s) from decide_eq_decide.2 ⟨fun k => by rcases k with k | k; exact absurd k.1 h0; exact k.2.resolve_left h2, fun k => Or.inr ⟨h1, Or.inr k⟩⟩]
        rw [Bool.eq_false_iff.2 h2] at hd
        go_enter Try.func54, Try.ntmps54
        go_wp2_with (first | (go_at_call 49; refine same_at hw ?_) | (go_at_call 50; refine same_at hd ?_) | (go_at_call 39; refine same_at hn ?_))
        go_ret
        exact ⟨rfl, HB⟩
    · rw [decide_eq_false h1] at hw
      rw [show decide (EMay N s) = false from decide_eq_false (by unfold EMay; omega)]
      go_enter Try.func54, Try.ntmps54
      go_wp2_with (first | (go_at_call 49; refine same_at hw ?_))
      go_ret
      exact ⟨rfl, HB⟩

/-- An entry's bytes. -/
def entL (N : Int) (s : ByteArray) : List Int := splice (Num.putTo (Num.putTo (zers 16) 0 N 2) 2 (s.size : Int) 1) 3 (numsOf s)
theorem emay_size {N : Int} {s : ByteArray} (h : EMay N s) : s.size ≤ 13 := by
  rcases h with h | ⟨_, h | h⟩
  · omega
  · have : s.toList.length = s.size := by rw [Lib.toList_data, Array.length_toList]; rfl
    rcases guard_name h with e | e <;> rw [e] at this <;> simp at this <;> omega
  · exact h.2.1
theorem emay_ino {N : Int} {s : ByteArray} (h : EMay N s) : 0 ≤ N ∧ N ≤ 511 := by
  rcases h with h | ⟨h, _⟩ <;> omega
theorem entL_len (N : Int) (s : ByteArray) (h : s.size ≤ 13) : (entL N s).length = 16 := by
  unfold entL
  rw [splice_len _ _ _ (by rw [numsOf_len, Num.putTo_length, Num.putTo_length, zers_len]; omega), Num.putTo_length, Num.putTo_length, zers_len]
theorem entL_byt (N : Int) (s : ByteArray) : Num.Byt (entL N s) := splice_byt (Num.putTo_byt (Num.putTo_byt (zers_byt 16) _ _ _) _ _ _) (numsOf_byt s) _
theorem entL_none (s : ByteArray) (h : s.size = 0) : entL 0 s = zers 16 := by
  unfold entL
  have : numsOf s = [] := List.eq_nil_of_length_eq_zero (by rw [numsOf_len]; exact h)
  rw [this, h]
  decide
end Go.Proofs.Ythfnldclpommlab
