/- A2 KName KEntry KEEnt -/
import Derived.Test.YthdlpeejmmobmaaGreatYG24
import Derived.Test.YthdlpeejmmobmaaGreatYG23

namespace Go.Proofs.YthdlpeejmmobmaaGreat.Mk.Al
open Go.RowKit
set_option maxRecDepth 100000
set_option linter.unusedVariables false
def putY (r : Bool) (ys : List Int) (i : Nat) (b : Bool) : List Int := splice ys (rAt r) (Bit.put (rowOf r ys) i b)
theorem putY_len (r : Bool) {ys : List Int} (hl : ys.length = 40) (i : Nat) (b : Bool) : (putY r ys i b).length = 40 := by
 unfold putY
 rw [splice_len _ _ _ (by rw [Bit.put_len, row_len r hl, hl]; unfold rAt rLen; cases r <;> simp), hl]
theorem row_byt (r : Bool) {ys : List Int} (hy : Num.Byt ys) : Num.Byt (rowOf r ys) := byt_take (byt_drop hy _) _
theorem putY_byt (r : Bool) {ys : List Int} (hy : Num.Byt ys) (i : Nat) (b : Bool) : Num.Byt (putY r ys i b) := splice_byt hy (Bit.put_byt (row_byt r hy) i b) _
theorem row_put (r : Bool) {ys : List Int} (hl : ys.length = 40) (i : Nat) (b : Bool) : rowOf r (putY r ys i b) = Bit.put (rowOf r ys) i b := by
 have h1 : (Bit.put (rowOf r ys) i b).length = rLen r := by rw [Bit.put_len, row_len r hl]
 unfold putY
 generalize Bit.put (rowOf r ys) i b = zs at *
 unfold rowOf splice
 cases r <;> simp [rAt, rLen] at h1 ⊢ <;> simp [hl, h1]
theorem row_other (r : Bool) {ys : List Int} (hl : ys.length = 40) (i : Nat) (b : Bool) : rowOf (!r) (putY r ys i b) = rowOf (!r) ys := by
 have h1 : (Bit.put (rowOf r ys) i b).length = rLen r := by rw [Bit.put_len, row_len r hl]
 unfold putY
 generalize Bit.put (rowOf r ys) i b = zs at *
 unfold rowOf splice
 cases r <;> simp [rAt, rLen] at h1 ⊢ <;> simp [hl, h1]
theorem row_getD (r : Bool) {ys : List Int} (hl : ys.length = 40) {j : Nat} (hj : j < rLen r) : (rowOf r ys).getD j 0 = ys.getD (rAt r + j) 0 := by
 unfold rowOf
 rw [List.getD_eq_getElem?_getD, List.getD_eq_getElem?_getD, List.getElem?_take_of_lt hj, List.getElem?_drop]
theorem putY_set (r : Bool) {ys : List Int} (hl : ys.length = 40) {i : Nat} (hi : i / 8 < rLen r) (b : Bool) : putY r ys i b = ys.set (rAt r + i / 8) (Bit.turn (ys.getD (rAt r + i / 8) 0) (Bit.mk i) b) := by
 have h1 : (Bit.put (rowOf r ys) i b).length = rLen r := by rw [Bit.put_len, row_len r hl]
 have h2 : rAt r + rLen r ≤ 40 := by unfold rAt rLen; cases r <;> simp
 refine List.ext_getElem? fun k => ?_
 unfold putY splice
 have hrow : ∀ k, (rowOf r ys)[k]? = if k < rLen r then ys[rAt r + k]? else none := by
  intro k
  unfold rowOf
  by_cases hk : k < rLen r
  ·rw [List.getElem?_take_of_lt hk, List.getElem?_drop, if_pos hk]
  ·rw [if_neg hk, List.getElem?_eq_none (by simp; omega)]
 have hput : ∀ k, (Bit.put (rowOf r ys) i b)[k]? = if k = i / 8 then some (Bit.turn (ys.getD (rAt r + i / 8) 0) (Bit.mk i) b) else (rowOf r ys)[k]? := by
  intro k
  unfold Bit.put
  rw [List.getElem?_set]
  by_cases hk : k = i / 8
  ·subst hk
   rw [if_pos rfl, if_pos rfl, if_pos (by rw [row_len r hl]; exact hi), row_getD r hl hi]
  ·rw [if_neg (fun e => hk e.symm), if_neg hk]
 by_cases hk : k < rAt r
 ·rw [List.getElem?_append_left (by rw [List.length_take]; omega), List.getElem?_take_of_lt hk, List.getElem?_set_ne (by omega)]
 ·obtain ⟨d, rfl⟩ : ∃ d, k = rAt r + d := ⟨k - rAt r, by omega⟩
  rw [List.getElem?_append_right (by rw [List.length_take]; omega), List.length_take, show min (rAt r) ys.length = rAt r by omega, show rAt r + d - rAt r = d by omega]
  by_cases hd : d < rLen r
  ·rw [List.getElem?_append_left (by omega), hput]
   by_cases he : d = i / 8
   ·subst he
    rw [if_pos rfl, List.getElem?_set_self (by omega)]
   ·rw [if_neg he, hrow, if_pos hd, List.getElem?_set_ne (by omega)]
  ·rw [List.getElem?_append_right (by omega), h1, List.getElem?_drop, List.getElem?_set_ne (by omega), show rAt r + rLen r + (d - rLen r) = rAt r + d by omega]
def kAt (r : Bool) (i : Nat) : Nat := (4 + rAt r + i / 8) * 8 + i % 8
theorem kAt_div (r : Bool) (i : Nat) : kAt r i / 8 = 4 + rAt r + i / 8 := by unfold kAt; omega
theorem kAt_mk (r : Bool) (i : Nat) : Bit.mk (kAt r i) = Bit.mk i := by unfold Bit.mk kAt; congr 1; omega
theorem groupL_getD (n : Int) {ys : List Int} (hl : ys.length = 40) (h : GMay n) {j : Nat} (hj : j < 40) : (groupL n ys).getD (4 + j) 0 = ys.getD j 0 := by
 rw [groupL_eq n ys hl h, getD_append, if_pos (by simp; omega), getD_append, if_neg (by simp)]
 simp
theorem groupL_set (n : Int) {ys : List Int} (hl : ys.length = 40) (h : GMay n) {j : Nat} (hj : j < 40) (x : Int) : groupL n (ys.set j x) = (groupL n ys).set (4 + j) x := by
 rw [groupL_eq n ys hl h, groupL_eq n _ (by simp [hl]) h, List.append_assoc, List.append_assoc, List.set_append_right _ _ (by simp)]
 congr 1
 rw [List.set_append_left _ _ (by simp; omega)]
 simp
theorem groupL_put (n : Int) (r : Bool) {ys : List Int} (hl : ys.length = 40) (h : GMay n) {i : Nat} (hi : i / 8 < rLen r) (b : Bool) : groupL n (putY r ys i b) = Bit.put (groupL n ys) (kAt r i) b := by
 have h2 : rAt r + rLen r ≤ 40 := by unfold rAt rLen; cases r <;> simp
 rw [putY_set r hl hi, groupL_set n hl h (by omega)]
 unfold Bit.put
 rw [kAt_div, kAt_mk, show 4 + rAt r + i / 8 = 4 + (rAt r + i / 8) by omega, groupL_getD n hl h (by omega)]
theorem apart_same {xs ys : List Int} : ∀ {m : Nat}, (∀ j, j < m → Bit.on xs j = Bit.on ys j) → Bit.apart xs ys m = []
 | 0, _ => rfl
 | m + 1, h => by
  simp only [Bit.apart]
  rw [if_pos (h m (by omega)), apart_same fun j hj => h j (by omega)]
theorem apart_at {xs ys : List Int} {K : Nat} (h : ∀ j, ¬ j = K → Bit.on xs j = Bit.on ys j) (hK : ¬ Bit.on xs K = Bit.on ys K) : ∀ {m : Nat}, K < m → Bit.apart xs ys m = [(K : Int)]
 | 0, hm => by omega
 | m + 1, hm => by
  simp only [Bit.apart]
  by_cases e : m = K
  ·subst e
   rw [if_neg hK, apart_same fun j hj => h j (by omega)]
   rfl
  ·rw [if_pos (h m e), apart_at h hK (by omega)]
theorem apart_put {xs : List Int} (hx : Num.Byt xs) {K : Nat} (hK : K / 8 < xs.length) {m : Nat} (hm : K < m) : Bit.apart xs (Bit.put xs K (!Bit.on xs K)) m = [(K : Int)] :=
 apart_at (fun j hj => (Bit.put_other hx hK _ hj).symm) (by rw [Bit.put_on hx hK]; cases Bit.on xs K <;> simp) hm
theorem on_row (n : Int) (r : Bool) {ys : List Int} (hl : ys.length = 40) (h : GMay n) {i : Nat} (hi : i / 8 < rLen r) : Bit.on (groupL n ys) (kAt r i) = Bit.on (rowOf r ys) i := by
 have h2 : rAt r + rLen r ≤ 40 := by unfold rAt rLen; cases r <;> simp
 unfold Bit.on
 rw [kAt_div, kAt_mk, row_getD r hl hi, show 4 + rAt r + i / 8 = 4 + (rAt r + i / 8) by omega, groupL_getD n hl h (by omega)]
end Go.Proofs.YthdlpeejmmobmaaGreat.Mk.Al

namespace Go.Proofs.YthdlpeejmmobmaaGreat.Mk
open Go.RowKit
set_option maxRecDepth 100000
set_option linter.unusedVariables false
def Letter (v : Int) : Prop := 33 ≤ v ∧ v ≤ 126 ∧ v ≠ 47
instance (v : Int) : Decidable (Letter v) := by unfold Letter; infer_instance
def dots (s : ByteArray) : Bool := s.toList == [46] || s.toList == [46, 46]
def Nm (s : ByteArray) : Prop := 1 ≤ s.size ∧ s.size ≤ 13 ∧ dots s = false ∧ ∀ v ∈ numsOf s, Letter v
instance (s : ByteArray) : Decidable (Nm s) := by unfold Nm; infer_instance
theorem isLetter_ok (v : Int) (w : World) (h0 : 0 ≤ v) (h1 : v < 256) : Calls Tryz.prog 285 #[.int .u8 v] w fun e w' => e = .returned (.bool (decide (Letter v))) ∧ w' = w := by
 go_enter Tryz.func285, Tryz.ntmps285
 go_wp2
 all_goals
  go_ret
  refine ⟨ret_bool ?_, rfl⟩
  rw [Bool.eq_iff_iff, decide_eq_true_iff]
  unfold Letter
  simp
  try omega
theorem isDots_ok (s : ByteArray) (w : World) : Calls Tryz.prog 245 #[.string s] w fun e w' => e = .returned (.bool (dots s)) ∧ w' = w := by
 go_enter Tryz.func245, Tryz.ntmps245
 go_wp2
 all_goals
  go_ret
  refine ⟨ret_bool ?_, rfl⟩
  unfold dots
  simp [*]
theorem nums_at (s : ByteArray) (j : Nat) (h : j < s.size) : (numsOf s)[j]? = some (s[j].toNat : Int) := by
 unfold numsOf
 rw [List.getElem?_map, Array.getElem?_toList, Array.getElem?_eq_getElem (by exact h)]
 rfl
theorem letters_next {s : ByteArray} {j : Nat} {v : Int} (hz : (numsOf s)[j]? = some v) (hA : ∀ v ∈ (numsOf s).take j, Letter v) (hok : Letter v) : ∀ v ∈ (numsOf s).take (j + 1), Letter v := by
 intro y hy
 rw [List.take_add_one, hz] at hy
 rcases List.mem_append.1 hy with h' | h'
 ·exact hA y h'
 ·simp at h'
  subst h'
  exact hok
set_option maxHeartbeats 400000 in
theorem isName_ok (s : ByteArray) (w : World) (hs : s.size ≤ 140737488355328) : Calls Tryz.prog 246 #[.string s] w fun e w' => e = .returned (.bool (decide (Nm s))) ∧ w' = w := by
 have hd := isDots_ok s w
 have hw := within_ok s.size 1 13 w
 by_cases h1 : 1 ≤ s.size ∧ s.size ≤ 13
 ·rw [decide_eq_true (by omega)] at hw
  by_cases h2 : dots s = true
  ·have hn : ¬ Nm s := fun k => by rw [k.2.2.1] at h2; cases h2
   rw [h2] at hd
   go_enter Tryz.func246, Tryz.ntmps246
   go_wp2_with (first | (go_at_call 230; refine same_at hw ?_) | (go_at_call 245; refine same_at hd ?_))
   go_ret
   rw [decide_eq_false hn]
   exact ⟨rfl, rfl⟩
  ·rw [Bool.eq_false_iff.2 h2] at hd
   go_enter Tryz.func246, Tryz.ntmps246
   go_wp2_with (first | (go_at_call 230; refine same_at hw ?_) | (go_at_call 245; refine same_at hd ?_))
   go_loopw [14] (fun i wr => ∃ j : Nat, j ≤ s.size ∧ i = .int .i64 (j : Int) ∧ (∀ v ∈ (numsOf s).take j, Letter v) ∧ wr = w) (fun i _ => s.size - (intOf i).toNat)
   case atStart => exact ⟨0, by omega, rfl, by simp, rfl⟩
   case round =>
    obtain ⟨j, hj, rfl, hA, rfl⟩ := hrel
    by_cases hlt : j < s.size
    ·have hjI : (j : Int) < (s.size : Int) := by omega
     have hz := nums_at s j hlt
     have hlo : (0 : Int) ≤ (s[j].toNat : Int) := by omega
     have hhi : (s[j].toNat : Int) < 256 := by have := s[j].toNat_lt; omega
     have hlet := isLetter_ok (s[j].toNat : Int) wr hlo hhi
     have HZ := (show Hid _ from hz)
     clear hz hlo hhi
     by_cases hok : Letter (s[j].toNat : Int)
     ·rw [decide_eq_true hok] at hlet
      have hA2 := letters_next HZ.out hA hok
      clear hok hA
      go_wp2_with (first | (go_at_call 285; refine same_at hlet ?_))
      go_roundw
      case rel => exact ⟨j + 1, by omega, by go_num, hA2, by first | rfl | trivial⟩
      case measure => simp [intOf]; omega
     ·rw [decide_eq_false hok] at hlet
      have hn : ¬ Nm s := fun k => hok (k.2.2.2 _ (List.mem_of_getElem? HZ.out))
      clear hok hA
      go_wp2_with (first | (go_at_call 285; refine same_at hlet ?_))
      go_ret
      rw [decide_eq_false hn]
      exact ⟨rfl, rfl⟩
    ·obtain rfl : j = s.size := by omega
     rw [List.take_of_length_le (by rw [numsOf_len]; omega)] at hA
     go_wp2
     go_ret
     have hn : Nm s := ⟨h1.1, h1.2, Bool.eq_false_iff.2 h2, hA⟩
     rw [decide_eq_true hn]
     exact ⟨rfl, rfl⟩
 ·rw [decide_eq_false (by omega)] at hw
  have hn : ¬ Nm s := fun k => h1 ⟨k.1, k.2.1⟩
  go_enter Tryz.func246, Tryz.ntmps246
  go_wp2_with (first | (go_at_call 230; refine same_at hw ?_))
  go_ret
  rw [decide_eq_false hn]
  exact ⟨rfl, rfl⟩
theorem toList_nil (s : ByteArray) : (s.toList == []) = decide (s.size = 0) := by
 rw [Bool.eq_iff_iff, beq_iff_eq, decide_eq_true_iff, Lib.toList_data, ← List.length_eq_zero_iff, Array.length_toList]
 rfl
theorem guard_name {s : ByteArray} (h : dots s = true) : s.toList = [46] ∨ s.toList = [46, 46] := by
 unfold dots at h
 simpa using h
set_option maxRecDepth 10000 in
set_option maxHeartbeats 1000000 in
theorem risName_ok (s : ByteArray) (w : World) (hs : s.size ≤ 140737488355328) : Calls Tryz.prog 259 #[.string s] w fun e w' => e = .returned (.bool (decide (Nm s))) ∧ w' = w := by
 have hes := toList_nil s
 by_cases h1 : 1 ≤ s.size ∧ s.size ≤ 13
 ·have hI : ¬ (13 : Int) < (s.size : Int) := by omega
  rw [decide_eq_false (by omega)] at hes
  by_cases h2 : dots s = true
  ·have hn : ¬ Nm s := fun k => by rw [k.2.2.1] at h2; cases h2
   unfold dots at h2
   go_enter Tryz.func259, Tryz.ntmps259
   go_wp2_with fail
   all_goals
    go_ret
    exact ⟨rfl, rfl⟩
  ·have h3 : (s.toList == [46]) = false := by
    unfold dots at h2
    simp at h2
    simpa using h2.1
   have h4 : (s.toList == [46, 46]) = false := by
    unfold dots at h2
    simp at h2
    simpa using h2.2
   go_enter Tryz.func259, Tryz.ntmps259
   go_wp2_with fail
   go_loopw [3] (fun i wr => ∃ j : Nat, j ≤ s.size ∧ i = .int .i64 (j : Int) ∧ (∀ v ∈ (numsOf s).take j, Letter v) ∧ wr = w) (fun i _ => s.size - (intOf i).toNat)
   case atStart => exact ⟨0, by omega, rfl, by simp, rfl⟩
   case round =>
    obtain ⟨j, hj, rfl, hA, rfl⟩ := hrel
    by_cases hlt : j < s.size
    ·have hjI : (j : Int) < (s.size : Int) := by omega
     have hz := nums_at s j hlt
     have HZ := (show Hid _ from hz)
     clear hz
     by_cases hok : Letter (s[j].toNat : Int)
     ·have hA2 := letters_next HZ.out hA hok
      unfold Letter at hok
      obtain ⟨k1, k2, k3⟩ := hok
      have k1' : ¬ (s[j].toNat : Int) < 33 := by omega
      have k2' : ¬ (126 : Int) < (s[j].toNat : Int) := by omega
      have k3' : ((s[j].toNat : Int) == 47) = false := by simpa using k3
      clear k1 k2 k3 hA
      go_wp2_with fail
      go_roundw
      case rel => exact ⟨j + 1, by omega, by go_num, hA2, by first | rfl | trivial⟩
      case measure => simp [intOf]; omega
     ·have hn : ¬ Nm s := fun k => hok (k.2.2.2 _ (List.mem_of_getElem? HZ.out))
      unfold Letter at hok
      clear hA
      by_cases k1 : (s[j].toNat : Int) < 33
      ·clear hok
       go_wp2_with fail
       go_ret
       exact ⟨by first | rfl | (rw [decide_eq_false hn]; rfl), rfl⟩
      ·by_cases k2 : (126 : Int) < (s[j].toNat : Int)
       ·clear hok
        go_wp2_with fail
        go_ret
        exact ⟨by first | rfl | (rw [decide_eq_false hn]; rfl), rfl⟩
       ·have k3 : ((s[j].toNat : Int) == 47) = true := by rw [beq_iff_eq]; omega
        clear hok
        go_wp2_with fail
        go_ret
        exact ⟨by first | rfl | (rw [decide_eq_false hn]; rfl), rfl⟩
    ·obtain rfl : j = s.size := by omega
     rw [List.take_of_length_le (by rw [numsOf_len]; omega)] at hA
     have hn : Nm s := ⟨h1.1, h1.2, Bool.eq_false_iff.2 h2, hA⟩
     clear hA
     go_wp2
     go_ret
     exact ⟨by first | rfl | (rw [decide_eq_true hn]; rfl), rfl⟩
 ·have hn : ¬ Nm s := fun k => h1 ⟨k.1, k.2.1⟩
  by_cases h5 : s.size = 0
  ·rw [decide_eq_true h5] at hes
   go_enter Tryz.func259, Tryz.ntmps259
   go_wp2_with fail
   go_ret
   exact ⟨by first | rfl | (rw [decide_eq_false hn]; rfl), rfl⟩
  ·rw [decide_eq_false h5] at hes
   have hI : (13 : Int) < (s.size : Int) := by omega
   go_enter Tryz.func259, Tryz.ntmps259
   go_wp2_with fail
   go_ret
   exact ⟨by first | rfl | (rw [decide_eq_false hn]; rfl), rfl⟩
end Go.Proofs.YthdlpeejmmobmaaGreat.Mk

namespace Go.Proofs.YthdlpeejmmobmaaGreat.Mk
open Go.RowKit
set_option maxRecDepth 100000
set_option linter.unusedVariables false
abbrev entV (N : Int) (s : ByteArray) : Value := .agg #[.int .i64 N, .string s]
abbrev entO (N : Int) (s : ByteArray) : Obj := .cells #[.int .i64 N, .string s] 107
def EMay (N : Int) (s : ByteArray) : Prop := (N = 0 ∧ s.size = 0) ∨ ((1 ≤ N ∧ N ≤ 511) ∧ (dots s = true ∨ Nm s))
instance (N : Int) (s : ByteArray) : Decidable (EMay N s) := by unfold EMay; infer_instance
theorem toList_empty {s : ByteArray} (h : s.size = 0) : s.toList = [] := by
 have := toList_nil s
 rw [decide_eq_true h, beq_iff_eq] at this
 exact this
theorem toList_not {s : ByteArray} (h : ¬ s.size = 0) : ¬ s.toList = [] := by
 have := toList_nil s
 rw [decide_eq_false h] at this
 exact beq_eq_false_iff_ne.1 this
def entL (N : Int) (s : ByteArray) : List Int := splice (Num.putTo (Num.putTo (zers 16) 0 N 2) 2 (s.size : Int) 1) 3 (numsOf s)
theorem emay_size {N : Int} {s : ByteArray} (h : EMay N s) : s.size ≤ 13 := by
 rcases h with h | ⟨_, h | h⟩
 ·omega
 ·have : s.toList.length = s.size := by rw [Lib.toList_data, Array.length_toList]; rfl
  rcases guard_name h with e | e <;> rw [e] at this <;> simp at this <;> omega
 ·exact h.2.1
theorem entL_len (N : Int) (s : ByteArray) (h : s.size ≤ 13) : (entL N s).length = 16 := by
 unfold entL
 rw [splice_len _ _ _ (by rw [numsOf_len, Num.putTo_length, Num.putTo_length, zers_len]; omega), Num.putTo_length, Num.putTo_length, zers_len]
theorem entL_byt (N : Int) (s : ByteArray) : Num.Byt (entL N s) := splice_byt (Num.putTo_byt (Num.putTo_byt (zers_byt 16) _ _ _) _ _ _) (numsOf_byt s) _
theorem entL_none (s : ByteArray) (h : s.size = 0) : entL 0 s = zers 16 := by
 unfold entL
 have : numsOf s = [] := List.eq_nil_of_length_eq_zero (by rw [numsOf_len]; exact h)
 rw [this, h]
 decide
end Go.Proofs.YthdlpeejmmobmaaGreat.Mk

namespace Go.Proofs.YthdlpeejmmobmaaGreat.Mk
open Go.RowKit
set_option maxRecDepth 100000
set_option linter.unusedVariables false
abbrev rawA (xs : List Int) : Array Value := (xs.map (Value.int .u8)).toArray
theorem raw_bi {w : World} {b n : Nat} {xs : List Int} {t : TypeId} (h : w.heap[b]? = some (.cells (rawA xs) t (0, 0))) (hl : xs.length = n) (hn : n ≤ 140737488355328) (hy : Num.Byt xs) : BI w (some ⟨b, 0, none⟩) n xs := by
 refine ⟨hl, hn, hy, fun _ => ⟨_, _, rfl, fun i hi => ?_⟩⟩
 rw [Nat.zero_add]
 refine cell_row h i _ ?_
 have e : xs[i]? = some (xs.getD i 0) := by rw [List.getD_eq_getElem?_getD, List.getElem?_eq_getElem (by omega)]; rfl
 generalize xs.getD i 0 = z at *
 unfold rawA
 rw [List.getElem?_toArray, List.getElem?_map, e]
 rfl
end Go.Proofs.YthdlpeejmmobmaaGreat.Mk
