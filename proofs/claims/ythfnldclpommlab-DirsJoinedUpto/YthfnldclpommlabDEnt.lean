/- Entries out of bytes, by the program. -/
import Derived.Test.YthfnldclpommlabREnt
namespace Go.Proofs.Ythfnldclpommlab
open Go.RowKit
set_option linter.unusedVariables false

theorem info51 : (Try.prog.info? 32).map (·.size) = some 2 := by kernel_rfl
theorem ent_one (N : Int) (s : ByteArray) : (#[.int .i64 N, .string s] : Array Value).all (·.oneCell') = true := by
  rw [Array.all_eq_true]
  intro i hi
  rcases (by simp at hi; omega : i = 0 ∨ i = 1) with rfl | rfl <;> rfl
/-- The name that bytes say. -/
def nameD (xs : List Int) : ByteArray := if Num.numD xs 2 1 ≤ 13 then strOfNums ((xs.drop 3).take (Num.numD xs 2 1).toNat) else ByteArray.empty
theorem numD1_bd {xs : List Int} (h : Num.Byt xs) (a : Nat) : 0 ≤ Num.numD xs a 1 ∧ Num.numD xs a 1 < 256 := by
  have := Num.numD_bd h 1 a
  omega

theorem text_any (w : World) (rb n : Nat) (xs : List Int) (k : Int) (h0 : 0 ≤ k) (h : Rest w rb n xs 0) :
    Calls Try.prog 63 #[.pointer (some ⟨rb, 0, none⟩), .int .i64 k] w fun e w' => e = .returned (.string (if k ≤ n then strOfNums (xs.take k.toNat) else ByteArray.empty)) ∧ w.grownBy w' (some rb) := by
  by_cases hk : k ≤ n
  · rw [if_pos hk]
    obtain ⟨j, rfl⟩ := Int.eq_ofNat_of_zero_le h0
    exact (text_yes w rb n j xs h (by omega)).mono fun e w' ⟨a, b, _⟩ => ⟨a, b⟩
  · rw [if_neg hk]
    exact (text_bad w rb n xs k h (by unfold Num.tE; rw [if_neg (by omega), if_pos (by omega)]; decide)).mono fun e w' ⟨a, b, _⟩ => ⟨a, b⟩
theorem grown_below {B : Nat} {a w w' : World} {rb : Nat} (h : Below B a w) (hg : w.grownBy w' (some rb)) (hB : B ≤ rb) (hs : B ≤ w.heap.size) : Below B a w' :=
  h.grown hg hs (by intro k hk; cases hk; exact hB)

set_option maxRecDepth 10000 in
set_option maxHeartbeats 1000000 in
theorem readEntry_ok (xs : List Int) (hl : xs.length = 16) (hy : Num.Byt xs) (w : World) : Calls Try.prog 53 #[.agg (rawA xs)] w fun e w' => e = .returned (entV (Num.numD xs 0 2) (nameD xs)) ∧ Below w.heap.size w w' := by
  have HB1 := grew_trans (grew_alloc w (.cells (rawA xs) 76)) (grew_alloc (w.alloc (.cells (rawA xs) 76)) (entO 0 ⟨#[]⟩))
  have hx1 : ((w.alloc (.cells (rawA xs) 76)).alloc (entO 0 ⟨#[]⟩)).heap[w.heap.size]? = some (.cells (rawA xs) 76 (0, 0)) := by
    rw [Below.heap_alloc _ _ _ (by rw [size_alloc]; omega)]; exact heap_new w _
  have hz1 : ((w.alloc (.cells (rawA xs) 76)).alloc (entO 0 ⟨#[]⟩)).heap[w.heap.size + 1]? = some (entO 0 ⟨#[]⟩) := by
    have := heap_new (w.alloc (.cells (rawA xs) 76)) (entO 0 ⟨#[]⟩)
    rwa [size_alloc] at this
  have hbi := raw_bi hx1 hl (by omega) hy
  have hsz : ((w.alloc (.cells (rawA xs) 76)).alloc (entO 0 ⟨#[]⟩)).heap.size = w.heap.size + 2 := by rw [size_alloc, size_alloc]
  go_enter Try.func53, Try.ntmps53
  go_wp2_with fail
  have hlt1 : w.heap.size + 1 < ((w.alloc (.cells (rawA xs) 76)).alloc (entO 0 ⟨#[]⟩)).heap.size := by omega
  have hle1 : w.heap.size ≤ ((w.alloc (.cells (rawA xs) 76)).alloc (entO 0 ⟨#[]⟩)).heap.size := by omega
  generalize (w.alloc (.cells (rawA xs) 76)).alloc (entO 0 ⟨#[]⟩) = w1 at *
  refine Calls.mono (over_ok w1 _ 16 16 xs hbi) ?_
  rintro e w2 ⟨rb, rfl, hlo, hr, hb2⟩
  have HB2 := grew_trans HB1 hb2
  have hz2 := (hb2.block _ hlt1).trans hz1
  have t1 := take_yes _ rb 16 2 _ hr (by omega) (by omega) (by omega)
  have hrb : w.heap.size ≤ rb := by omega
  have hne : w.heap.size + 1 ≠ rb := by omega
  clear hx1 hz1 hbi HB1 hb2
  go_wp2_with fail
  refine Calls.mono t1 ?_
  rintro e w3 ⟨rfl, hg3, hr3⟩
  have HB3 := grown_below HB2 hg3 hrb HB2.size
  have hz3 := grown_cells hg3 hz2 hne
  have t2 := take_yes _ rb 14 1 _ hr3 (by omega) (by omega) (by omega)
  rw [show Num.numD (xs.drop 2) 0 1 = Num.numD xs 2 1 from numD_drop xs 2 1 0] at t2
  clear t1 hg3 hz2 HB2
  have hk0 := (numD1_bd hy 2).1
  go_wp2_with fail
  refine Calls.mono t2 ?_
  rintro e w4 ⟨rfl, hg4, hr4⟩
  have HB4 := grown_below HB3 hg4 hrb HB3.size
  have hz4 := grown_cells hg4 hz3 hne
  rw [List.drop_drop] at hr4
  have t3 := text_any w4 rb 13 _ (Num.numD xs 2 1) hk0 hr4
  have hnm : (if Num.numD xs 2 1 ≤ (13 : Nat) then strOfNums ((xs.drop (2 + 1)).take (Num.numD xs 2 1).toNat) else ByteArray.empty) = nameD xs := rfl
  rw [hnm] at t3
  clear t2 hg4 hz3 HB3 hnm hk0
  generalize hN : Num.numD xs 0 2 = N at *
  generalize hS : nameD xs = S at *
  have HN := (show Hid _ from hN)
  have HS := (show Hid _ from hS)
  clear hN hS
  generalize Num.numD xs 2 1 = k at *
  go_wp2_with fail
  refine Calls.mono t3 ?_
  rintro e w5 ⟨rfl, hg5⟩
  have HB5 := grown_below HB4 hg5 hrb HB4.size
  have hz5 := grown_cells hg5 hz4 hne
  clear t3 hg5 hz4 HB4
  go_wp2_with (refine wpList_store_row rfl 32 _ _ rfl (w.heap.size + 1) _ rfl rfl 32 _ hz5 info51 rfl (ent_one N S) ?_)
  refine bodyPost_ret (v := entV N S) (results_cell_row (p := 2) (ty := 32) Try.results53 _ _ (w.heap.size + 1) 32 _ (0, 0) _ rfl (setRow_heap _ _ _ _ _ _ hz5) Try.underlying32 rfl info51) rfl ?_
  exact ⟨by rw [HN.out, HS.out], below_setRow HB5 (by omega) _⟩
end Go.Proofs.Ythfnldclpommlab
