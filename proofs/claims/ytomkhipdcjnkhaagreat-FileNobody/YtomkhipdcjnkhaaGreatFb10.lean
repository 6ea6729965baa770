/- KName KEntry KEEnt -/
import Derived.Test.YtomkhipdcjnkhaaGreatFb09

/- Names. -/
namespace Go.Proofs.YtomkhipdcjnkhaaGreat.Mk
open Go.RowKit
set_option maxRecDepth 100000
set_option linter.unusedVariables false

def Letter (v : Int) : Prop := 33 ≤ v ∧ v ≤ 126 ∧ v ≠ 47
instance (v : Int) : Decidable (Letter v) := by unfold Letter; infer_instance
def dots (s : ByteArray) : Bool := s.toList == [46] || s.toList == [46, 46]
/-- A name. -/
def Nm (s : ByteArray) : Prop := 1 ≤ s.size ∧ s.size ≤ 13 ∧ dots s = false ∧ ∀ v ∈ numsOf s, Letter v
instance (s : ByteArray) : Decidable (Nm s) := by unfold Nm; infer_instance

theorem isLetter_ok (v : Int) (w : World) (h0 : 0 ≤ v) (h1 : v < 256) : Calls Tryz.prog 270 #[.int .u8 v] w fun e w' => e = .returned (.bool (decide (Letter v))) ∧ w' = w := by
  go_enter Tryz.func270, Tryz.ntmps270
  go_wp2
  all_goals
    go_ret
    refine ⟨ret_bool ?_, rfl⟩
    rw [Bool.eq_iff_iff, decide_eq_true_iff]
    unfold Letter
    simp
    try omega
theorem isDots_ok (s : ByteArray) (w : World) : Calls Tryz.prog 269 #[.string s] w fun e w' => e = .returned (.bool (dots s)) ∧ w' = w := by
  go_enter Tryz.func269, Tryz.ntmps269
  go_wp2
  all_goals
    go_ret
    refine ⟨ret_bool ?_, rfl⟩
    unfold dots
    simp [*]
theorem nums_at (s : ByteArray) (j : Nat) (h : j < s.size) : (numsOf s)[j]? = some (s[j].toNat : Int) := by
  unfold numsOf
  rw [List.getElem?_map, Array.getElem?_toList, Array.getElem?_eq_getElem (by exact h)]
  rfl
theorem letters_next {s : ByteArray} {j : Nat} {v : Int} (hz : (numsOf s)[j]? = some v) (hA : ∀ v ∈ (numsOf s).take j, Letter v) (hok : Letter v) : ∀ v ∈ (numsOf s).take (j + 1), Letter v := by
  intro y hy
  rw [List.take_add_one, hz] at hy
  rcases List.mem_append.1 hy with h' | h'
  · exact hA y h'
  · simp at h'
    subst h'
    exact hok
set_option maxHeartbeats 400000 in
theorem isName_ok (s : ByteArray) (w : World) (hs : s.size ≤ 140737488355328) : Calls Tryz.prog 158 #[.string s] w fun e w' => e = .returned (.bool (decide (Nm s))) ∧ w' = w := by
  have hd := isDots_ok s w
  have hw := within_ok s.size 1 13 w
  by_cases h1 : 1 ≤ s.size ∧ s.size ≤ 13
  · rw [decide_eq_true (by omega)] at hw
    by_cases h2 : dots s = true
    · have hn : ¬ Nm s := fun k => by rw [k.2.2.1] at h2; cases h2
      rw [h2] at hd
      go_enter Tryz.func158, Tryz.ntmps158
      go_wp2_with (first | (go_at_call 229; refine same_at hw ?_) | (go_at_call 269; refine same_at hd ?_))
      go_ret
      rw [decide_eq_false hn]
      exact ⟨rfl, rfl⟩
    · rw [Bool.eq_false_iff.2 h2] at hd
      go_enter Tryz.func158, Tryz.ntmps158
      go_wp2_with (first | (go_at_call 229; refine same_at hw ?_) | (go_at_call 269; refine same_at hd ?_))
      go_loopw [14] (fun i wr => ∃ j : Nat, j ≤ s.size ∧ i = .int .i64 (j : Int) ∧ (∀ v ∈ (numsOf s).take j, Letter v) ∧ wr = w) (fun i _ => s.size - (intOf i).toNat)
      case atStart => exact ⟨0, by omega, rfl, by simp, rfl⟩
      case round =>
        obtain ⟨j, hj, rfl, hA, rfl⟩ := hrel
        by_cases hlt : j < s.size
        · have hjI : (j : Int) < (s.size : Int) := by omega
          have hz := nums_at s j hlt
          have hlo : (0 : Int) ≤ (s[j].toNat : Int) := by omega
          have hhi : (s[j].toNat : Int) < 256 := by have := s[j].toNat_lt; omega
          have hlet := isLetter_ok (s[j].toNat : Int) wr hlo hhi
          have HZ := (show Hid _ from hz)
          clear hz hlo hhi
          by_cases hok : Letter (s[j].toNat : Int)
          · rw [decide_eq_true hok] at hlet
            have hA2 := letters_next HZ.out hA hok
            clear hok hA
            go_wp2_with (first | (go_at_call 270; refine same_at hlet ?_))
            go_roundw
            case rel => exact ⟨j + 1, by omega, by go_num, hA2, by first | rfl | trivial⟩
            case measure => simp [intOf]; omega
          · rw [decide_eq_false hok] at hlet
            have hn : ¬ Nm s := fun k => hok (k.2.2.2 _ (List.mem_of_getElem? HZ.out))
            clear hok hA
            go_wp2_with (first | (go_at_call 270; refine same_at hlet ?_))
            go_ret
            rw [decide_eq_false hn]
            exact ⟨rfl, rfl⟩
        · obtain rfl : j = s.size := by omega
          rw [List.take_of_length_le (by rw [numsOf_len]; omega)] at hA
          go_wp2
          go_ret
          have hn : Nm s := ⟨h1.1, h1.2, Bool.eq_false_iff.2 h2, hA⟩
          rw [decide_eq_true hn]
          exact ⟨rfl, rfl⟩
  · rw [decide_eq_false (by omega)] at hw
    have hn : ¬ Nm s := fun k => h1 ⟨k.1, k.2.1⟩
    go_enter Tryz.func158, Tryz.ntmps158
    go_wp2_with (first | (go_at_call 229; refine same_at hw ?_))
    go_ret
    rw [decide_eq_false hn]
    exact ⟨rfl, rfl⟩

theorem toList_nil (s : ByteArray) : (s.toList == []) = decide (s.size = 0) := by
  rw [Bool.eq_iff_iff, beq_iff_eq, decide_eq_true_iff, Lib.toList_data, ← List.length_eq_zero_iff, Array.length_toList]
  rfl
theorem guard_name {s : ByteArray} (h : dots s = true) : s.toList = [46] ∨ s.toList = [46, 46] := by
  unfold dots at h
  simpa using h
set_option maxRecDepth 10000 in
set_option maxHeartbeats 1000000 in
theorem risName_ok (s : ByteArray) (w : World) (hs : s.size ≤ 140737488355328) : Calls Tryz.prog 310 #[.string s] w fun e w' => e = .returned (.bool (decide (Nm s))) ∧ w' = w := by
  have hes := toList_nil s
  by_cases h1 : 1 ≤ s.size ∧ s.size ≤ 13
  · have hI : ¬ (13 : Int) < (s.size : Int) := by omega
    rw [decide_eq_false (by omega)] at hes
    by_cases h2 : dots s = true
    · have hn : ¬ Nm s := fun k => by rw [k.2.2.1] at h2; cases h2
      unfold dots at h2
      go_enter Tryz.func310, Tryz.ntmps310
      go_wp2_with fail
      all_goals
        go_ret
        exact ⟨rfl, rfl⟩
    · have h3 : (s.toList == [46]) = false := by
        unfold dots at h2
        simp at h2
        simpa using h2.1
      have h4 : (s.toList == [46, 46]) = false := by
        unfold dots at h2
        simp at h2
        simpa using h2.2
      go_enter Tryz.func310, Tryz.ntmps310
      go_wp2_with fail
      go_loopw [3] (fun i wr => ∃ j : Nat, j ≤ s.size ∧ i = .int .i64 (j : Int) ∧ (∀ v ∈ (numsOf s).take j, Letter v) ∧ wr = w) (fun i _ => s.size - (intOf i).toNat)
      case atStart => exact ⟨0, by omega, rfl, by simp, rfl⟩
      case round =>
        obtain ⟨j, hj, rfl, hA, rfl⟩ := hrel
        by_cases hlt : j < s.size
        · have hjI : (j : Int) < (s.size : Int) := by omega
          have hz := nums_at s j hlt
          have HZ := (show Hid _ from hz)
          clear hz
          by_cases hok : Letter (s[j].toNat : Int)
          · have hA2 := letters_next HZ.out hA hok
            unfold Letter at hok
            obtain ⟨k1, k2, k3⟩ := hok
            have k1' : ¬ (s[j].toNat : Int) < 33 := by omega
            have k2' : ¬ (126 : Int) < (s[j].toNat : Int) := by omega
            have k3' : ((s[j].toNat : Int) == 47) = false := by simpa using k3
            clear k1 k2 k3 hA
            go_wp2_with fail
            go_roundw
            case rel => exact ⟨j + 1, by omega, by go_num, hA2, by first | rfl | trivial⟩
            case measure => simp [intOf]; omega
          · have hn : ¬ Nm s := fun k => hok (k.2.2.2 _ (List.mem_of_getElem? HZ.out))
            unfold Letter at hok
            clear hA
            by_cases k1 : (s[j].toNat : Int) < 33
            · clear hok
              go_wp2_with fail
              go_ret
              exact ⟨by first | rfl | (rw [decide_eq_false hn]; rfl), rfl⟩
            · by_cases k2 : (126 : Int) < (s[j].toNat : Int)
              · clear hok
                go_wp2_with fail
                go_ret
                exact ⟨by first | rfl | (rw [decide_eq_false hn]; rfl), rfl⟩
              · have k3 : ((s[j].toNat : Int) == 47) = true := by rw [beq_iff_eq]; omega
                clear hok
                go_wp2_with fail
                go_ret
                exact ⟨by first | rfl | (rw [decide_eq_false hn]; rfl), rfl⟩
        · obtain rfl : j = s.size := by omega
          rw [List.take_of_length_le (by rw [numsOf_len]; omega)] at hA
          have hn : Nm s := ⟨h1.1, h1.2, Bool.eq_false_iff.2 h2, hA⟩
          clear hA
          go_wp2
          go_ret
          exact ⟨by first | rfl | (rw [decide_eq_true hn]; rfl), rfl⟩
  · have hn : ¬ Nm s := fun k => h1 ⟨k.1, k.2.1⟩
    by_cases h5 : s.size = 0
    · rw [decide_eq_true h5] at hes
      go_enter Tryz.func310, Tryz.ntmps310
      go_wp2_with fail
      go_ret
      exact ⟨by first | rfl | (rw [decide_eq_false hn]; rfl), rfl⟩
    · rw [decide_eq_false h5] at hes
      have hI : (13 : Int) < (s.size : Int) := by omega
      go_enter Tryz.func310, Tryz.ntmps310
      go_wp2_with fail
      go_ret
      exact ⟨by first | rfl | (rw [decide_eq_false hn]; rfl), rfl⟩
end Go.Proofs.YtomkhipdcjnkhaaGreat.Mk

/- Entries. -/
namespace Go.Proofs.YtomkhipdcjnkhaaGreat.Mk
open Go.RowKit
set_option maxRecDepth 100000
set_option linter.unusedVariables false

abbrev entV (N : Int) (s : ByteArray) : Value := .agg #[.int .i64 N, .string s]
abbrev entO (N : Int) (s : ByteArray) : Obj := .cells #[.int .i64 N, .string s] 93
/-- Whether an entry may be. -/
def EMay (N : Int) (s : ByteArray) : Prop := (N = 0 ∧ s.size = 0) ∨ ((1 ≤ N ∧ N ≤ 511) ∧ (dots s = true ∨ Nm s))
instance (N : Int) (s : ByteArray) : Decidable (EMay N s) := by unfold EMay; infer_instance

theorem toList_empty {s : ByteArray} (h : s.size = 0) : s.toList = [] := by
  have := toList_nil s
  rw [decide_eq_true h, beq_iff_eq] at this
  exact this
theorem toList_not {s : ByteArray} (h : ¬ s.size = 0) : ¬ s.toList = [] := by
  have := toList_nil s
  rw [decide_eq_false h] at this
  exact beq_eq_false_iff_ne.1 this

set_option maxHeartbeats 400000 in
theorem entryMay_ok (N : Int) (s : ByteArray) (w : World) (hs : s.size ≤ 140737488355328) : Calls Tryz.prog 162 #[entV N s] w fun e w' => e = .returned (.bool (decide (EMay N s))) ∧ Below w.heap.size w w' := by
  have HB := grew_alloc w (entO N s)
  have hw := within_ok N 1 511 (w.alloc (entO N s))
  have hd := isDots_ok s (w.alloc (entO N s))
  have hn := isName_ok s (w.alloc (entO N s)) hs
  have c0 : (w.alloc (entO N s)).cell? ⟨w.heap.size, 0, none⟩ = some (.int .i64 N) := cell_row (heap_new w _) 0 _ rfl
  have c1 : (w.alloc (entO N s)).cell? ⟨w.heap.size, 1, none⟩ = some (.string s) := cell_row (heap_new w _) 1 _ rfl
  by_cases h0 : N = 0
  · subst h0
    by_cases h1 : s.size = 0
    · have hl := toList_empty h1
      rw [show decide (EMay 0 s) = true from decide_eq_true (Or.inl ⟨rfl, h1⟩)]
      clear h1
      go_enter Tryz.func162, Tryz.ntmps162
      go_wp2_with fail
      go_ret
      exact ⟨rfl, HB⟩
    · have hl := toList_not h1
      rw [show decide (EMay 0 s) = false from decide_eq_false (by unfold EMay; omega)]
      rw [decide_eq_false (by omega)] at hw
      clear h1
      go_enter Tryz.func162, Tryz.ntmps162
      go_wp2_with (first | (go_at_call 229; refine same_at hw ?_))
      go_ret
      exact ⟨rfl, HB⟩
  · by_cases h1 : 1 ≤ N ∧ N ≤ 511
    · rw [decide_eq_true h1] at hw
      by_cases h2 : dots s = true
      · rw [show decide (EMay N s) = true from decide_eq_true (Or.inr ⟨h1, Or.inl h2⟩)]
        rw [h2] at hd
        go_enter Tryz.func162, Tryz.ntmps162
        go_wp2_with (first | (go_at_call 229; refine same_at hw ?_) | (go_at_call 269; refine same_at hd ?_))
        go_ret
        exact ⟨rfl, HB⟩
      · rw [show decide (EMay N s) = decide (Nm s) from decide_eq_decide.2 ⟨fun k => by rcases k with k | k; exact absurd k.1 h0; exact k.2.resolve_left h2, fun k => Or.inr ⟨h1, Or.inr k⟩⟩]
        rw [Bool.eq_false_iff.2 h2] at hd
        go_enter Tryz.func162, Tryz.ntmps162
        go_wp2_with (first | (go_at_call 229; refine same_at hw ?_) | (go_at_call 269; refine same_at hd ?_) | (go_at_call 158; refine same_at hn ?_))
        go_ret
        exact ⟨rfl, HB⟩
    · rw [decide_eq_false h1] at hw
      rw [show decide (EMay N s) = false from decide_eq_false (by unfold EMay; omega)]
      go_enter Tryz.func162, Tryz.ntmps162
      go_wp2_with (first | (go_at_call 229; refine same_at hw ?_))
      go_ret
      exact ⟨rfl, HB⟩

/-- An entry's bytes. -/
def entL (N : Int) (s : ByteArray) : List Int := splice (Num.putTo (Num.putTo (zers 16) 0 N 2) 2 (s.size : Int) 1) 3 (numsOf s)
theorem emay_size {N : Int} {s : ByteArray} (h : EMay N s) : s.size ≤ 13 := by
  rcases h with h | ⟨_, h | h⟩
  · omega
  · have : s.toList.length = s.size := by rw [Lib.toList_data, Array.length_toList]; rfl
    rcases guard_name h with e | e <;> rw [e] at this <;> simp at this <;> omega
  · exact h.2.1
theorem emay_ino {N : Int} {s : ByteArray} (h : EMay N s) : 0 ≤ N ∧ N ≤ 511 := by
  rcases h with h | ⟨h, _⟩ <;> omega
theorem entL_len (N : Int) (s : ByteArray) (h : s.size ≤ 13) : (entL N s).length = 16 := by
  unfold entL
  rw [splice_len _ _ _ (by rw [numsOf_len, Num.putTo_length, Num.putTo_length, zers_len]; omega), Num.putTo_length, Num.putTo_length, zers_len]
theorem entL_byt (N : Int) (s : ByteArray) : Num.Byt (entL N s) := splice_byt (Num.putTo_byt (Num.putTo_byt (zers_byt 16) _ _ _) _ _ _) (numsOf_byt s) _
theorem entL_none (s : ByteArray) (h : s.size = 0) : entL 0 s = zers 16 := by
  unfold entL
  have : numsOf s = [] := List.eq_nil_of_length_eq_zero (by rw [numsOf_len]; exact h)
  rw [this, h]
  decide
end Go.Proofs.YtomkhipdcjnkhaaGreat.Mk

/- Entries as bytes, by the program. -/
namespace Go.Proofs.YtomkhipdcjnkhaaGreat.Mk
open Go.RowKit
set_option maxRecDepth 100000
set_option linter.unusedVariables false

theorem info90 : (Tryz.prog.info? 256).map (·.size) = some 16 := by kernel_rfl
theorem array90 (p : Option Addr) (c : Nat) (w : World) : (Instr.arrayAt 256 (.slice p 16 c)).run Tryz.prog w = .ok (.pointer p) w := by
  simp [Instr.arrayAt, Sem.run_bind, run_underlying Tryz.underlying256]
abbrev rawA (xs : List Int) : Array Value := (xs.map (Value.int .u8)).toArray
theorem zero90 : rawA (zers 16) = #[.int .u8 0, .int .u8 0, .int .u8 0, .int .u8 0, .int .u8 0, .int .u8 0, .int .u8 0, .int .u8 0, .int .u8 0, .int .u8 0, .int .u8 0, .int .u8 0, .int .u8 0, .int .u8 0, .int .u8 0, .int .u8 0] := rfl
theorem raw_one (xs : List Int) : (rawA xs).all (·.oneCell') = true := by
  rw [Array.all_eq_true]
  intro i hi
  simp
  rfl

theorem raw_bi {w : World} {b n : Nat} {xs : List Int} {t : TypeId} (h : w.heap[b]? = some (.cells (rawA xs) t (0, 0))) (hl : xs.length = n) (hn : n ≤ 140737488355328) (hy : Num.Byt xs) : BI w (some ⟨b, 0, none⟩) n xs := by
  refine ⟨hl, hn, hy, fun _ => ⟨_, _, rfl, fun i hi => ?_⟩⟩
  rw [Nat.zero_add]
  refine cell_row h i _ ?_
  have e : xs[i]? = some (xs.getD i 0) := by rw [List.getD_eq_getElem?_getD, List.getElem?_eq_getElem (by omega)]; rfl
  generalize xs.getD i 0 = z at *
  unfold rawA
  rw [List.getElem?_toArray, List.getElem?_map, e]
  rfl
theorem ptext_any {B : Nat} {w : World} {pb g N a : Nat} {xs : List Int} (h : Pg B w pb g N a xs) (t : ByteArray) (h2 : a + t.size ≤ N) :
    Calls Tryz.prog 231 #[.pointer (some ⟨pb, 0, none⟩), .string t] w fun e w' => e = .returned (.tuple #[]) ∧ Pg B w' pb g N (a + t.size) (splice xs a (numsOf t)) ∧ Below B w w' := by
  by_cases h0 : t.size = 0
  · have e1 : numsOf t = [] := List.eq_nil_of_length_eq_zero (by rw [numsOf_len]; exact h0)
    have e2 : splice xs a [] = xs := by unfold splice; simp
    rw [e1, e2, h0, Nat.add_zero]
    exact ptext_none h t h0 (by omega)
  · exact ptext_ok h t (by omega) h2

set_option maxRecDepth 10000 in
set_option maxHeartbeats 1000000 in
theorem writeEntry_ok (N : Int) (s : ByteArray) (h : EMay N s) (w : World) : Calls Tryz.prog 163 #[entV N s] w fun e w' => e = .returned (.agg (rawA (entL N s))) ∧ Below w.heap.size w w' := by
  have hi := emay_ino h
  have hsz := emay_size h
  have HB0 := grew_alloc w (entO N s)
  have hx0 := heap_new w (entO N s)
  have hB1 := grew_trans HB0 (grew_alloc (w.alloc (entO N s)) (.cells (rawA (zers 16)) 256))
  have hx1 : ((w.alloc (entO N s)).alloc (.cells (rawA (zers 16)) 256)).heap[w.heap.size]? = some (entO N s) := by
    rw [Below.heap_alloc _ _ _ (by rw [size_alloc]; omega)]; exact hx0
  have hz1 : ((w.alloc (entO N s)).alloc (.cells (rawA (zers 16)) 256)).heap[w.heap.size + 1]? = some (.cells (rawA (zers 16)) 256 (0, 0)) := by
    have := heap_new (w.alloc (entO N s)) (.cells (rawA (zers 16)) 256)
    rwa [size_alloc] at this
  clear hx0 HB0 h
  rw [zero90] at *
  go_enter Tryz.func163, Tryz.ntmps163
  go_wp2_with fail
  rw [← zero90] at *
  have hsz2 : w.heap.size + 2 = ((w.alloc (entO N s)).alloc (.cells (rawA (zers 16)) 256)).heap.size := by rw [size_alloc, size_alloc]
  generalize (w.alloc (entO N s)).alloc (.cells (rawA (zers 16)) 256) = w2 at *
  have hle : w.heap.size ≤ w2.heap.size := by omega
  have hl1 : w.heap.size < w2.heap.size := by omega
  have hl2 : w.heap.size + 1 < w2.heap.size := by omega
  clear hsz2
  refine Calls.mono (newPage_ok 16 (by omega) w2.heap.size w2 (Nat.le_refl _)) ?_
  rintro e w3 ⟨pb, g, rfl, hp, hb⟩
  have c0 : w3.cell? ⟨w.heap.size, 0, none⟩ = some (.int .i64 N) := cell_row ((hb.block _ hl1).trans hx1) 0 _ rfl
  have hB3 := grew_trans hB1 hb
  have k1 := pnum_ok hp 2 N (by omega) (by omega) (by omega) (by omega) (by omega)
  go_wp2_with fail
  refine Calls.mono k1 ?_
  clear k1 c0
  rintro e w4 ⟨rfl, hp4, hb4⟩
  have c1 : w4.cell? ⟨w.heap.size, 1, none⟩ = some (.string s) := cell_row (((hb.trans hb4).block _ hl1).trans hx1) 1 _ rfl
  have k2 := pnum_ok hp4 1 (s.size : Int) (by omega) (by omega) (by omega) (by omega) (by omega)
  go_wp2_with fail
  refine Calls.mono k2 ?_
  clear k2 c1
  rintro e w5 ⟨rfl, hp5, hb5⟩
  have c1 : w5.cell? ⟨w.heap.size, 1, none⟩ = some (.string s) := cell_row ((((hb.trans hb4).trans hb5).block _ hl1).trans hx1) 1 _ rfl
  have k3 := ptext_any hp5 s (by omega)
  go_wp2_with fail
  refine Calls.mono k3 ?_
  clear k3 c1
  rintro e w6 ⟨rfl, hp6, hb6⟩
  have hbb := ((hb.trans hb4).trans hb5).trans hb6
  have hz6 : w6.heap[w.heap.size + 1]? = some (.cells (rawA (zers 16)) 256 (0, 0)) := (hbb.block _ hl2).trans hz1
  have hB6 := grew_trans hB1 hbb
  have hr6 := bi_range hp6.bi
  have c06 := hp6.c0
  have hat := array90
  have hee : splice (Num.putTo (Num.putTo (zers 16) 0 N 2) (0 + 2) (s.size : Int) 1) (0 + 2 + 1) (numsOf s) = entL N s := rfl
  rw [hee] at hr6
  have hll := entL_len N s hsz
  clear hee hp hp4 hp5 hp6 hb hb4 hb5 hb6 hbb hx1 hz1 hB1 hB3 hi hsz
  generalize hL : entL N s = L at *
  have HL := (show Hid _ from hL)
  clear hL
  have hi36 : (Tryz.prog.info? 256).map (·.size) = some (L.map (Value.int .u8)).length := by rw [List.length_map, hll]; exact info90
  go_wp2_with (first
    | (refine wpList_load_mid rfl 256 _ rfl g 0 rfl _ _ hr6 Tryz.underlying256 rfl hi36 ?_)
    | (refine wpList_store_row rfl 256 _ _ rfl (w.heap.size + 1) _ rfl rfl 256 _ hz6 (by rw [hi36]; simp) (by simp [zers_len, hll]) (raw_one L) ?_))
  refine bodyPost_ret (v := .agg (rawA L)) (results_cell_row (p := 2) (ty := 256) Tryz.results163 _ _ (w.heap.size + 1) 256 _ (0, 0) _ rfl (setRow_heap _ _ _ _ _ _ hz6) Tryz.underlying256 rfl (by rw [hi36]; simp)) rfl ?_
  exact ⟨by rw [HL.out], below_setRow hB6 (by omega) _⟩

set_option maxHeartbeats 400000 in
theorem encodeEntry_no (N : Int) (s : ByteArray) (hs : s.size ≤ 140737488355328) (h : ¬ EMay N s) (w : World) : Calls Tryz.prog 88 #[entV N s] w fun e w' => e = .returned (.tuple #[.slice none 0 0, .int .i64 1]) ∧ Below w.heap.size w w' := by
  have HB := grew_alloc w (entO N s)
  have hm := entryMay_ok N s (w.alloc (entO N s)) hs
  rw [decide_eq_false h] at hm
  go_enter Tryz.func88, Tryz.ntmps88
  go_wp2_with (first | (go_at_call 162; refine grew_at hm ?_; intro wn hbn; have HB := grew_trans HB hbn))
  go_ret2
  exact ⟨rfl, HB⟩
set_option maxRecDepth 10000 in
set_option maxHeartbeats 1000000 in
theorem encodeEntry_yes (N : Int) (s : ByteArray) (h : EMay N s) (w : World) : Calls Tryz.prog 88 #[entV N s] w fun e w' => ∃ p c, e = .returned (.tuple #[.slice p 16 c, .int .i64 0]) ∧ BI w' p 16 (entL N s) ∧ Below w.heap.size w w' := by
  have HB := grew_alloc w (entO N s)
  have hsz := emay_size h
  have hm := entryMay_ok N s (w.alloc (entO N s)) (by omega)
  have hx := heap_new w (entO N s)
  rw [decide_eq_true h] at hm
  have hw := writeEntry_ok N s h
  have hll := entL_len N s hsz
  have hby := entL_byt N s
  generalize hL : entL N s = L at *
  have HL := (show Hid _ from hL)
  clear hL h
  have hi36 : (Tryz.prog.info? 256).map (·.size) = some (rawA L).size := by rw [show (rawA L).size = 16 by simp [hll]]; exact info90
  have hs16 : (rawA (zers 16)).size = (rawA L).size := by simp [zers_len, hll]
  rw [zero90] at hs16
  have hone := raw_one L
  go_enter Tryz.func88, Tryz.ntmps88
  go_wp2_with (first
    | (go_at_call 162; refine grew_at hm ?_; intro wn hbn; have HB := grew_trans HB hbn; have hx : wn.heap[w.heap.size]? = some (entO N s) := (hbn.block _ (Array.getElem?_eq_some_iff.1 hx).1).trans hx)
    | (refine wpList_load_row rfl 93 (.tmp 1) rfl w.heap.size rfl 93 _ (0, 0) _ hx Tryz.underlying93 rfl (by kernel_rfl) ?_)
    | (go_at_call 163; refine grew_at (hw _) ?_; intro wm hbm; have HB := grew_trans HB hbm)
    | (refine wpList_store_row rfl 256 (.tmp 4) (.tmp 9) rfl wm.heap.size _ rfl rfl 256 _ (heap_new wm _) hi36 hs16 hone ?_))
  go_ret2
  rw [← zero90]
  refine ⟨_, _, rfl, raw_bi (setRow_heap _ _ _ _ _ _ (heap_new wm _)) hll (by omega) hby, below_setRow (grew_trans HB (grew_alloc wm _)) HB.size _⟩
end Go.Proofs.YtomkhipdcjnkhaaGreat.Mk
