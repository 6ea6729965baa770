/- Entries out of bytes, by the program: whole. -/
import Derived.Test.YthfnldclpommlabDEnt
namespace Go.Proofs.Ythfnldclpommlab
open Go.RowKit
set_option linter.unusedVariables false

theorem cells90 : Try.prog.cellsOf 76 = 16 := by kernel_rfl
theorem guard90 : Try.prog.eqGuardType Try.prog.depth 76 = false := by kernel_rfl
theorem eq90 (xs ys : List Int) (hx : xs.length = 16) (hy : ys.length = 16) (bx : Num.Byt xs) (by_ : Num.Byt ys) (w : World) : (Op.equalIn 10000 76 (.agg (rawA xs)) (.agg (rawA ys))).run Try.prog w = .ok (decide (xs = ys)) w := by
  obtain ⟨l, h⟩ := lits_bytes Try.underlying76 cells90 0 xs hx bx
  obtain ⟨l', h'⟩ := lits_bytes Try.underlying76 cells90 0 ys hy by_
  have hf : ∀ zs : List Int, zs.length = 16 → (Value.agg (zs.map (Value.int .u8)).toArray).formed Try.prog 76 = true := by
    intro zs hz
    simp [Value.formed, Try.underlying76, cells90, hz]
  obtain ⟨r, hr, he⟩ := run_equalIn_deep (P := Try.prog) 9998 2 76 (by kernel_rfl) w _ _ _ _ l l' (hf xs hx) (hf ys hy) h h'
  suffices hrr : r = decide (xs = ys) by rw [hr, hrr]
  rw [Bool.eq_iff_iff, he, decide_eq_true_iff]
  constructor
  · rintro rfl
    have t : Try.prog.tiled 2 76 = true := by kernel_rfl
    exact map_byte_inj ((cells_of_lits 2 76 t _ _ _ h).trans (cells_of_lits 2 76 t _ _ _ h').symm)
  · rintro rfl
    rw [h] at h'
    exact Option.some.inj h'

def EGood (xs : List Int) : Prop := EMay (Num.numD xs 0 2) (nameD xs) ∧ entL (Num.numD xs 0 2) (nameD xs) = xs
instance (xs : List Int) : Decidable (EGood xs) := by unfold EGood; infer_instance
abbrev ent0 : ByteArray := ⟨#[]⟩

theorem nameD_small (xs : List Int) (hy : Num.Byt xs) : (nameD xs).size ≤ 13 := by
  unfold nameD
  have := numD1_bd hy 2
  split
  · rw [strOfNums_size, List.length_take]; omega
  · decide

set_option maxHeartbeats 400000 in
theorem decodeEntry_len (p : Option Addr) (n c : Nat) (w : World) (hn : n ≤ 140737488355328) (h1 : ¬ n = 16) :
    Calls Try.prog 43 #[.slice p n c] w fun e w' => e = .returned (.tuple #[entV 0 ent0, .int .i64 6]) ∧ Below w.heap.size w w' := by
  have HB := grew_alloc w (entO 0 ent0)
  have hr0 := heap_new w (entO 0 ent0)
  have hI : ¬ (n : Int) = 16 := by omega
  go_enter Try.func43, Try.ntmps43
  go_wp2_with (refine wpList_store_row rfl 32 _ _ rfl w.heap.size _ rfl rfl 32 _ hr0 info51 rfl (ent_one 0 ent0) ?_)
  refine bodyPost_ret (v := .tuple #[entV 0 ent0, .int .i64 6]) (results_cell_tmp_row (p := 2) (u := 3) (ty := 32) Try.results43 _ _ w.heap.size 32 _ (0, 0) _ rfl (setRow_heap _ _ _ _ _ _ hr0) Try.underlying32 rfl info51) rfl ?_
  exact ⟨rfl, below_setRow HB (by omega) _⟩

theorem made90 (w : World) (A : Array Value) : Below w.heap.size w ((w.alloc (.cells (rawA (zers 16)) 76)).setRow w.heap.size A) ∧ ((w.alloc (.cells (rawA (zers 16)) 76)).setRow w.heap.size A).heap[w.heap.size]? = some (.cells A 76 (0, 0)) :=
  ⟨below_setRow (grew_alloc _ _) (Nat.le_refl _) _, setRow_heap _ _ _ _ _ _ (heap_new w _)⟩

/-- What the region that asks reads. -/
def Rds (xe xd : Nat) (N : Int) (S : ByteArray) (xs : List Int) (w : World) : Prop :=
  w.cell? ⟨xe, 0, none⟩ = some (.int .i64 N) ∧ w.cell? ⟨xe, 1, none⟩ = some (.string S) ∧ w.rangeAt xd 0 (xs.map (Value.int .u8))
/-- What stands while DecodeEntry asks. -/
structure EIn (w0 w : World) (xe xd : Nat) (N : Int) (S : ByteArray) (xs : List Int) : Prop where
  e : w.heap[xe]? = some (entO N S)
  d : w.heap[xd]? = some (.cells (rawA xs) 76 (0, 0))
  r : w.heap[w0.heap.size]? = some (entO 0 ent0)
  b : Below w0.heap.size w0 w
theorem EIn.kept {w0 w w' : World} {xe xd : Nat} {N : Int} {S : ByteArray} {xs : List Int} (h : EIn w0 w xe xd N S xs) (hb : Below w.heap.size w w') : EIn w0 w' xe xd N S xs :=
  ⟨(hb.block _ (Array.getElem?_eq_some_iff.1 h.e).1).trans h.e, (hb.block _ (Array.getElem?_eq_some_iff.1 h.d).1).trans h.d, (hb.block _ (Array.getElem?_eq_some_iff.1 h.r).1).trans h.r, grew_trans h.b hb⟩
theorem EIn.drew {w0 w : World} {xe xd : Nat} {N : Int} {S : ByteArray} {xs : List Int} (h : EIn w0 w xe xd N S xs) : EIn w0 w.drew xe xd N S xs :=
  ⟨h.e, h.d, h.r, h.b.drew⟩
theorem EIn.rds {w0 w : World} {xe xd : Nat} {N : Int} {S : ByteArray} {xs : List Int} (h : EIn w0 w xe xd N S xs) : w.cell? ⟨xe, 0, none⟩ = some (.int .i64 N) ∧ w.cell? ⟨xe, 1, none⟩ = some (.string S) ∧ w.rangeAt xd 0 (xs.map (Value.int .u8)) := by
  refine ⟨cell_row h.e 0 _ rfl, cell_row h.e 1 _ rfl, ?_⟩
  intro j v hv
  rw [Nat.zero_add]
  refine cell_row h.d j _ ?_
  rw [List.getElem?_toArray]
  exact hv

set_option maxRecDepth 10000 in
set_option maxHeartbeats 1000000 in
theorem decodeEntry_read (p : Option Addr) (c : Nat) (xs : List Int) (w : World) (h : BI w p 16 xs) (res : Value) (hA : Hid (EGood xs → res = .tuple #[entV (Num.numD xs 0 2) (nameD xs), .int .i64 0])) (hB : Hid (¬ EGood xs → res = .tuple #[entV 0 ent0, .int .i64 6])) :
    Calls Try.prog 43 #[.slice p 16 c] w fun e w' => e = .returned res ∧ Below w.heap.size w w' := by
  have HB := grew_alloc w (entO 0 ent0)
  have hr0 := heap_new w (entO 0 ent0)
  have h0 : BI (w.alloc (entO 0 ent0)) p 16 xs := h.kept HB
  obtain ⟨b, o, rfl, hc⟩ := h0.cells (by omega)
  have hrg := bi_range h0
  have hl := h.len
  have hy := h.byt
  have hi90 : (Try.prog.info? 76).map (·.size) = some (xs.map (Value.int .u8)).length := by rw [List.length_map, hl]; exact info90
  have hi90' : (Try.prog.info? 76).map (·.size) = some (rawA xs).size := by rw [show (rawA xs).size = 16 by simp [hl]]; exact info90
  have hs16 : (rawA (zers 16)).size = (rawA xs).size := by simp [zers_len, hl]
  rw [zero90] at hs16
  have hone := raw_one xs
  have hat := array90
  have hre := readEntry_ok xs hl hy
  have hsm := nameD_small xs hy
  unfold EGood at hA hB
  clear hc
  generalize Num.numD xs 0 2 = N at *
  generalize nameD xs = S at *
  have hm := fun w => entryMay_ok N S w (by omega)
  go_enter Try.func43, Try.ntmps43
  go_wp2_with (first
    | (refine wpList_load_mid rfl 76 _ rfl b o rfl _ _ hrg Try.underlying76 rfl hi90 ?_; generalize w.alloc (entO 0 ent0) = wa at *)
    | (refine wpList_store_row rfl 76 (.tmp 4) (.tmp 12) rfl wa.heap.size _ rfl rfl 76 _ (heap_new wa _) hi90' hs16 hone ?_; rw [← zero90]; obtain ⟨ba, hd⟩ := made90 wa (rawA xs); have HB := grew_trans HB ba; have hr0 := (ba.block _ (Array.getElem?_eq_some_iff.1 hr0).1).trans hr0; generalize (wa.alloc (.cells (rawA (zers 16)) 76)).setRow wa.heap.size (rawA xs) = wb at *; clear ba h0 hrg)
    | (refine wpList_load_row rfl 76 (.tmp 4) rfl wa.heap.size rfl 76 _ (0, 0) _ hd Try.underlying76 rfl hi90' ?_)
    | (go_at_call 53; refine grew_at (hre _) ?_; intro wc hbc; have HB := grew_trans HB hbc; have hr0 := (hbc.block _ (Array.getElem?_eq_some_iff.1 hr0).1).trans hr0; have hd := (hbc.block _ (Array.getElem?_eq_some_iff.1 hd).1).trans hd))
  have hI : EIn w (wc.alloc (entO N S)) wc.heap.size wa.heap.size N S xs := by
    have hb := grew_alloc wc (entO N S)
    exact ⟨heap_new wc _, (hb.block _ (Array.getElem?_eq_some_iff.1 hd).1).trans hd, (hb.block _ (Array.getElem?_eq_some_iff.1 hr0).1).trans hr0, grew_trans HB hb⟩
  generalize wc.alloc (entO N S) = wd at *
  generalize wc.heap.size = xe at *
  generalize wa.heap.size = xd at *
  have hI := hI.drew
  have hr := hI.rds
  have hu90 := Try.underlying76
  clear HB hr0 hd hbc hat hs16 hone hre
  by_cases hM : EMay N S
  · rw [decide_eq_true hM] at hm
    have hwr := writeEntry_ok N S hM
    have hq := eq90 (entL N S) xs (entL_len N S hsm) hl (entL_byt N S) hy
    by_cases he : entL N S = xs
    · have hres := hA.out ⟨hM, he⟩
      rw [decide_eq_true he] at hq
      clear hM he hA hB
      generalize entL N S = L at *
      have hg90 := guard90
      go_region_held3 (fun w' => w'.cell? ⟨xe, 0, none⟩ = some (.int .i64 N) ∧ w'.cell? ⟨xe, 1, none⟩ = some (.string S) ∧ w'.rangeAt xd 0 (xs.map (Value.int .u8))) (first | exact hr | assumption) (first | (go_at_call 54; refine grew_at (hm _) ?_; intro wn hbn; have hI := hI.kept hbn; have hr := hI.rds) | (go_at_call 55; refine grew_at (hwr _) ?_; intro wn hbn; have hI := hI.kept hbn; have hr := hI.rds))
      have hr0 := hI.r
      have hE := hI.e
      go_wp2_with (first
        | (refine wpList_load_row rfl 32 _ rfl xe rfl 32 _ (0, 0) _ hE Try.underlying32 rfl info51 ?_)
        | (refine wpList_store_row rfl 32 _ _ rfl w.heap.size _ rfl rfl 32 _ hr0 info51 rfl (ent_one N S) ?_))
      refine bodyPost_ret (v := .tuple #[entV N S, .int .i64 0]) (results_cell_tmp_row (p := 2) (u := 3) (ty := 32) Try.results43 _ _ w.heap.size 32 _ (0, 0) _ rfl (setRow_heap _ _ _ _ _ _ hr0) Try.underlying32 rfl info51) rfl ?_
      exact ⟨by rw [hres], below_setRow hI.b (by omega) _⟩
    · have hres := hB.out (fun e => he e.2)
      rw [decide_eq_false he] at hq
      clear hM he hA hB
      generalize entL N S = L at *
      have hg90 := guard90
      go_region_held3 (fun w' => w'.cell? ⟨xe, 0, none⟩ = some (.int .i64 N) ∧ w'.cell? ⟨xe, 1, none⟩ = some (.string S) ∧ w'.rangeAt xd 0 (xs.map (Value.int .u8))) (first | exact hr | assumption) (first | (go_at_call 54; refine grew_at (hm _) ?_; intro wn hbn; have hI := hI.kept hbn; have hr := hI.rds) | (go_at_call 55; refine grew_at (hwr _) ?_; intro wn hbn; have hI := hI.kept hbn; have hr := hI.rds))
      have hr0 := hI.r
      go_wp2_with (first
        | (refine wpList_store_row rfl 32 _ _ rfl w.heap.size _ rfl rfl 32 _ hr0 info51 rfl (ent_one 0 ent0) ?_))
      refine bodyPost_ret (v := .tuple #[entV 0 ent0, .int .i64 6]) (results_cell_tmp_row (p := 2) (u := 3) (ty := 32) Try.results43 _ _ w.heap.size 32 _ (0, 0) _ rfl (setRow_heap _ _ _ _ _ _ hr0) Try.underlying32 rfl info51) rfl ?_
      exact ⟨by rw [hres], below_setRow hI.b (by omega) _⟩
  · have hres := hB.out (fun e => hM e.1)
    rw [decide_eq_false hM] at hm
    clear hM hA hB
    have hr0 := hr.1
    have hr1 := hr.2.1
    go_region_with (first
      | (go_at_call 54; refine grew_at (hm _) ?_; intro wn hbn; have hI := hI.kept hbn; have hr := hI.rds; have hr0 := hr.1; have hr1 := hr.2.1; have hz0 := hI.r))
    all_goals
      go_wp2_with (refine wpList_store_row rfl 32 _ _ rfl w.heap.size _ rfl rfl 32 _ hz0 info51 rfl (ent_one 0 ent0) ?_)
      refine bodyPost_ret (v := .tuple #[entV 0 ent0, .int .i64 6]) (results_cell_tmp_row (p := 2) (u := 3) (ty := 32) Try.results43 _ _ w.heap.size 32 _ (0, 0) _ rfl (setRow_heap _ _ _ _ _ _ hz0) Try.underlying32 rfl info51) rfl ?_
      exact ⟨by rw [hres], below_setRow hI.b (by omega) _⟩

def deE (n : Nat) (xs : List Int) : Int := if n ≠ 16 then 6 else if EGood xs then 0 else 6
def deV (n : Nat) (xs : List Int) : Value := if deE n xs = 0 then entV (Num.numD xs 0 2) (nameD xs) else entV 0 ent0
theorem decodeEntry_ok (p : Option Addr) (n c : Nat) (xs : List Int) (w : World) (h : BI w p n xs) :
    Calls Try.prog 43 #[.slice p n c] w fun e w' => e = .returned (.tuple #[deV n xs, .int .i64 (deE n xs)]) ∧ Below w.heap.size w w' := by
  by_cases h1 : n = 16
  · subst h1
    refine decodeEntry_read p c xs w h _ ?_ ?_
    · refine (show Hid _ from ?_)
      intro hg
      have e : deE 16 xs = 0 := by unfold deE; rw [if_neg (by omega), if_pos hg]
      unfold deV
      rw [e, if_pos rfl]
    · refine (show Hid _ from ?_)
      intro hg
      have e : deE 16 xs = 6 := by unfold deE; rw [if_neg (by omega), if_neg hg]
      unfold deV
      rw [e, if_neg (by decide)]
  · have e : deE n xs = 6 := by unfold deE; rw [if_pos h1]
    unfold deV
    rw [e, if_neg (by decide)]
    exact decodeEntry_len p n c w h.big h1
end Go.Proofs.Ythfnldclpommlab
