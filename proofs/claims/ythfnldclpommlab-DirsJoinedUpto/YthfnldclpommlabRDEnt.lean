/- The document's entries out of bytes. -/
import Derived.Test.YthfnldclpommlabDEnt2
namespace Go.Proofs.Ythfnldclpommlab
open Go.RowKit
set_option linter.unusedVariables false

theorem numD_one (xs : List Int) (a : Nat) : Num.numD xs a 1 = xs.getD a 0 := by
  simp [Num.numD]
set_option maxHeartbeats 400000 in
theorem rdecodeEntry_len (p : Option Addr) (n c : Nat) (w : World) (hn : n ≤ 140737488355328) (h1 : ¬ n = 16) :
    Calls Try.prog 44 #[.slice p n c] w fun e w' => e = .returned (.tuple #[entV 0 ent0, .int .i64 6]) ∧ Below w.heap.size w w' := by
  have HB := grew_alloc w (entO 0 ent0)
  have hr0 := heap_new w (entO 0 ent0)
  have hI : ¬ (n : Int) = 16 := by omega
  go_enter Try.func44, Try.ntmps44
  go_wp2_with (refine wpList_store_row rfl 32 _ _ rfl w.heap.size _ rfl rfl 32 _ hr0 info51 rfl (ent_one 0 ent0) ?_)
  refine bodyPost_ret (v := .tuple #[entV 0 ent0, .int .i64 6]) (results_cell_tmp_row (p := 2) (u := 3) (ty := 32) Try.results44 _ _ w.heap.size 32 _ (0, 0) _ rfl (setRow_heap _ _ _ _ _ _ hr0) Try.underlying32 rfl info51) rfl ?_
  exact ⟨rfl, below_setRow HB (by omega) _⟩
set_option maxHeartbeats 400000 in
theorem rdecodeEntry_long (p : Option Addr) (c : Nat) (xs : List Int) (w : World) (h : BI w p 16 xs) (h1 : 13 < Num.numD xs 2 1) :
    Calls Try.prog 44 #[.slice p 16 c] w fun e w' => e = .returned (.tuple #[entV 0 ent0, .int .i64 6]) ∧ Below w.heap.size w w' := by
  have HB := grew_alloc w (entO 0 ent0)
  have hr0 := heap_new w (entO 0 ent0)
  obtain ⟨b, o, rfl, hc⟩ := (h.kept HB).cells (by omega)
  have c2 := hc 2 (by omega)
  rw [numD_one] at h1
  generalize xs.getD 2 0 = x at *
  clear hc
  go_enter Try.func44, Try.ntmps44
  go_wp2_with (refine wpList_store_row rfl 32 _ _ rfl w.heap.size _ rfl rfl 32 _ hr0 info51 rfl (ent_one 0 ent0) ?_)
  refine bodyPost_ret (v := .tuple #[entV 0 ent0, .int .i64 6]) (results_cell_tmp_row (p := 2) (u := 3) (ty := 32) Try.results44 _ _ w.heap.size 32 _ (0, 0) _ rfl (setRow_heap _ _ _ _ _ _ hr0) Try.underlying32 rfl info51) rfl ?_
  exact ⟨rfl, below_setRow HB (by omega) _⟩

set_option maxRecDepth 10000 in
set_option maxHeartbeats 1000000 in
theorem rdecodeEntry_read (p : Option Addr) (c : Nat) (xs : List Int) (w : World) (h : BI w p 16 xs) (hnc : 16 ≤ c) (h1 : Num.numD xs 2 1 ≤ 13) (res : Value) (hA : Hid (EGood xs → res = .tuple #[entV (Num.numD xs 0 2) (nameD xs), .int .i64 0])) (hB : Hid (¬ EGood xs → res = .tuple #[entV 0 ent0, .int .i64 6])) :
    Calls Try.prog 44 #[.slice p 16 c] w fun e w' => e = .returned res ∧ Below w.heap.size w w' := by
  have HB := grew_alloc w (entO 0 ent0)
  have hr0 := heap_new w (entO 0 ent0)
  have h0 := h.kept HB
  obtain ⟨b, o, rfl, hc⟩ := h0.cells (by omega)
  have c2 := hc 2 (by omega)
  have hbd := numD1_bd h.byt 2
  have hnm : nameD xs = strOfNums ((xs.drop 3).take (Num.numD xs 2 1).toNat) := by unfold nameD; rw [if_pos h1]
  have hcv : ∀ w', BI w' (some ⟨b, o, none⟩) 16 xs → (convert 22 9 (.slice (some ⟨b, o + 3, none⟩) (Num.numD xs 2 1).toNat (c - 3))).run Try.prog w' = .ok (.string (nameD xs)) w' := by
    intro w' hb
    rw [hnm]
    exact ((hb.drop 3 (by omega)).take (Num.numD xs 2 1).toNat (by omega)).conv (c - 3)
  have hg : ∀ w', BI w' (some ⟨b, o, none⟩) 16 xs → Calls Try.prog 56 #[.slice (some ⟨b, o, none⟩) 16 c, .int .i64 0, .int .i64 2] w' fun e w2 => e = .returned (.int .i64 (Num.numD xs 0 2)) ∧ w2 = w' := fun w' hb => rget_ok' _ 16 c xs 0 2 w' hb (by omega) (by omega) (by omega)
  rw [← numD_one] at c2
  have hsm := nameD_small xs h.byt
  have hl := h.len
  have hy := h.byt
  obtain ⟨k, hk⟩ := Int.eq_ofNat_of_zero_le hbd.1
  unfold EGood at hA hB
  generalize Num.numD xs 0 2 = N at *
  generalize nameD xs = S at *
  generalize Num.numD xs 2 1 = x at *
  subst hk
  rw [Int.toNat_natCast] at hcv
  clear hc hnm hbd
  go_enter Try.func44, Try.ntmps44
  go_wp2_with fail
  generalize w.alloc (entO 0 ent0) = wa at *
  have HB := HB.drew
  have c2 := drew_cell c2
  have h0 : BI wa.drew (some ⟨b, o, none⟩) 16 xs := h0.kept (Below.refl _ _).drew
  have hr0 : wa.drew.heap[w.heap.size]? = some (entO 0 ent0) := hr0
  have hcv0 := hcv _ h0
  have hg0 := hg _ h0
  have hb1 : Below wa.drew.heap.size wa.drew (wa.alloc (entO 0 ent0)).drew := grew_alloc wa.drew (entO 0 ent0)
  have hb2 : Below wa.drew.heap.size wa.drew (wa.alloc (entO N S)).drew := grew_alloc wa.drew (entO N S)
  have h2 := h0.kept hb1
  have c3 := cell_kept c2 hb1
  have c4 := cell_kept c2 hb2
  have hcv1 := hcv _ h2
  have hg1 := hg _ h2
  have hkI : (3 : Int) + (k : Int) ≤ (c : Int) := by omega
  have hkI2 : (3 : Int) ≤ 3 + (k : Int) := by omega
  have hc3 : ¬ c = 3 := by omega
  have hk0 : (0 : Int) ≤ (k : Int) := by omega
  have hk3 : (3 + (k : Int)).toNat = 3 + k := by omega
  have hk4 : 3 + k - 3 = k := by omega
  have hw0 : IntKind.i64.wrap (k : Int) = (k : Int) := by rw [IntKind.wrap_i64]; omega
  have hk5 : (0 : Int) ≤ 3 + (k : Int) := by omega
  have hw1 : IntKind.i64.wrap (3 + (k : Int)) = 3 + (k : Int) := by rw [IntKind.wrap_i64]; omega
  have hw2 : wrap64 (3 + (k : Int)) = 3 + (k : Int) := by unfold wrap64; omega
  have hcv2 := hcv _ (h0.kept hb2)
  clear hg hcv
  go_region_held3 (fun w' => w'.cell? ⟨b, o + 2, none⟩ = some (.int .u8 (k : Int)) ∧ (convert 22 9 (.slice (some ⟨b, o + 3, none⟩) k (c - 3))).run Try.prog w' = .ok (.string S) w') (first | exact ⟨c2, hcv0⟩ | exact ⟨c3, hcv1⟩ | exact ⟨c4, hcv2⟩) (first | (go_at_call 56; refine same_at hg0 ?_) | (go_at_call 56; refine same_at hg1 ?_))
  all_goals
    have hE : (wa.alloc (entO N S)).drew.heap[wa.heap.size]? = some (entO N S) := heap_new wa _
    have hrd : (wa.alloc (entO N S)).drew.heap[w.heap.size]? = some (entO 0 ent0) := (hb2.block _ (Array.getElem?_eq_some_iff.1 hr0).1).trans hr0
    have HBd := grew_trans HB hb2
    have hxd := h0.kept hb2
    clear HB hr0 h0 hb1 hb2 h2 c3 c4 c2 hcv0 hcv1 hcv2 hg0 hg1
    generalize (wa.alloc (entO N S)).drew = wd at *
    generalize wa.heap.size = xe at *
    by_cases hM : EMay N S
    · have hc := rencodeEntry_yes N S hM wd
      by_cases he : entL N S = xs
      · have hres := hA.out ⟨hM, he⟩
        have hqq : (xs == entL N S) = true := by rw [beq_iff_eq]; exact he.symm
        clear hM he hA hB
        generalize entL N S = L at *
        go_wp2_with (first
          | (refine wpList_load_row rfl 32 (.tmp 4) rfl xe rfl 32 _ (0, 0) _ hE Try.underlying32 rfl info51 ?_)
          | (go_at_call 36; refine Calls.mono hc ?_; rintro e w3 ⟨q3, cap3, rfl, b3, hb3⟩; have hz3 := (hb3.block _ (Array.getElem?_eq_some_iff.1 hrd).1).trans hrd; have hE := (hb3.block _ (Array.getElem?_eq_some_iff.1 hE).1).trans hE; have HB3 := grew_trans HBd hb3; have hq := same_any _ _ 16 c 16 cap3 xs _ w3 (hxd.kept hb3) b3; rw [hqq] at hq)
          | (go_at_call 57; refine same_at hq ?_)
          | (refine wpList_store_row rfl 32 _ _ rfl w.heap.size _ rfl rfl 32 _ hz3 info51 rfl (ent_one N S) ?_))
        refine bodyPost_ret (v := .tuple #[entV N S, .int .i64 0]) (results_cell_tmp_row (p := 2) (u := 3) (ty := 32) Try.results44 _ _ w.heap.size 32 _ (0, 0) _ rfl (setRow_heap _ _ _ _ _ _ hz3) Try.underlying32 rfl info51) rfl ?_
        exact ⟨by rw [hres], below_setRow HB3 (by omega) _⟩
      · have hres := hB.out (fun e => he e.2)
        have hqq : (xs == entL N S) = false := by rw [beq_eq_false_iff_ne]; exact fun e => he e.symm
        clear hM he hA hB
        generalize entL N S = L at *
        go_wp2_with (first
          | (refine wpList_load_row rfl 32 (.tmp 4) rfl xe rfl 32 _ (0, 0) _ hE Try.underlying32 rfl info51 ?_)
          | (go_at_call 36; refine Calls.mono hc ?_; rintro e w3 ⟨q3, cap3, rfl, b3, hb3⟩; have hz3 := (hb3.block _ (Array.getElem?_eq_some_iff.1 hrd).1).trans hrd; have hE := (hb3.block _ (Array.getElem?_eq_some_iff.1 hE).1).trans hE; have HB3 := grew_trans HBd hb3; have hq := same_any _ _ 16 c 16 cap3 xs _ w3 (hxd.kept hb3) b3; rw [hqq] at hq)
          | (go_at_call 57; refine same_at hq ?_)
          | (refine wpList_store_row rfl 32 _ _ rfl w.heap.size _ rfl rfl 32 _ hz3 info51 rfl (ent_one 0 ent0) ?_))
        refine bodyPost_ret (v := .tuple #[entV 0 ent0, .int .i64 6]) (results_cell_tmp_row (p := 2) (u := 3) (ty := 32) Try.results44 _ _ w.heap.size 32 _ (0, 0) _ rfl (setRow_heap _ _ _ _ _ _ hz3) Try.underlying32 rfl info51) rfl ?_
        exact ⟨by rw [hres], below_setRow HB3 (by omega) _⟩
    · have hc := rencodeEntry_no N S (by omega) hM wd
      have hres := hB.out (fun e => hM e.1)
      clear hM hA hB
      go_wp2_with (first
        | (refine wpList_load_row rfl 32 (.tmp 4) rfl xe rfl 32 _ (0, 0) _ hE Try.underlying32 rfl info51 ?_)
        | (go_at_call 36; refine Calls.mono hc ?_; rintro e w3 ⟨rfl, hb3⟩; have hz3 := (hb3.block _ (Array.getElem?_eq_some_iff.1 hrd).1).trans hrd; have HB3 := grew_trans HBd hb3)
        | (refine wpList_store_row rfl 32 _ _ rfl w.heap.size _ rfl rfl 32 _ hz3 info51 rfl (ent_one 0 ent0) ?_))
      refine bodyPost_ret (v := .tuple #[entV 0 ent0, .int .i64 6]) (results_cell_tmp_row (p := 2) (u := 3) (ty := 32) Try.results44 _ _ w.heap.size 32 _ (0, 0) _ rfl (setRow_heap _ _ _ _ _ _ hz3) Try.underlying32 rfl info51) rfl ?_
      exact ⟨by rw [hres], below_setRow HB3 (by omega) _⟩

theorem entL_len_byte (N : Int) (s : ByteArray) (h : s.size ≤ 13) : Num.numD (entL N s) 2 1 = (s.size : Int) := by
  have hl : (Num.putTo (zers 16) 0 N 2).length = 16 := by rw [Num.putTo_length, zers_len]
  have := Num.num_put (Num.putTo (zers 16) 0 N 2) 2 (s.size : Int) 1 (by omega) (by omega) (by omega)
  rw [numD_one] at this ⊢
  unfold entL
  rw [getD_splice _ _ _ (by rw [numsOf_len, Num.putTo_length, hl]; omega), if_pos (by omega), this]
theorem long_bad {xs : List Int} (hl : xs.length = 16) (hy : Num.Byt xs) (h : 13 < Num.numD xs 2 1) : ¬ EGood xs := by
  rintro ⟨hm, he⟩
  have hn : nameD xs = ByteArray.empty := by unfold nameD; rw [if_neg (by omega)]
  rw [hn] at he
  have h0 := entL_len_byte (Num.numD xs 0 2) ByteArray.empty (by decide)
  rw [he] at h0
  have : (ByteArray.empty.size : Int) = 0 := rfl
  omega

theorem rdecodeEntry_ok (p : Option Addr) (n c : Nat) (xs : List Int) (w : World) (h : BI w p n xs) (hnc : n ≤ c) :
    Calls Try.prog 44 #[.slice p n c] w fun e w' => e = .returned (.tuple #[deV n xs, .int .i64 (deE n xs)]) ∧ Below w.heap.size w w' := by
  by_cases h1 : n = 16
  · subst h1
    by_cases h2 : Num.numD xs 2 1 ≤ 13
    · refine rdecodeEntry_read p c xs w h hnc h2 _ ?_ ?_
      · refine (show Hid _ from ?_)
        intro hg
        have e : deE 16 xs = 0 := by unfold deE; rw [if_neg (by omega), if_pos hg]
        unfold deV
        rw [e, if_pos rfl]
      · refine (show Hid _ from ?_)
        intro hg
        have e : deE 16 xs = 6 := by unfold deE; rw [if_neg (by omega), if_neg hg]
        unfold deV
        rw [e, if_neg (by decide)]
    · have hg := long_bad h.len h.byt (by omega)
      have e : deE 16 xs = 6 := by unfold deE; rw [if_neg (by omega), if_neg hg]
      unfold deV
      rw [e, if_neg (by decide)]
      exact rdecodeEntry_long p c xs w h (by omega)
  · have e : deE n xs = 6 := by unfold deE; rw [if_pos h1]
    unfold deV
    rw [e, if_neg (by decide)]
    exact rdecodeEntry_len p n c w h.big h1
end Go.Proofs.Ythfnldclpommlab
