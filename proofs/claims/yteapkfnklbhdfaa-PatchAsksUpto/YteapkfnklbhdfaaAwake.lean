/- awake: the layer answers. -/
import Derived.Test.YteapkfnklbhdfaaMade
namespace Go.Proofs.Yteapkfnklbhdfaa
open Go.RowKit Go.Maps
set_option linter.unusedVariables false

theorem rs_one (x : Int) : rs [x] = [x] := sorted_ext (rs_sorted _) (by simp) (fun y => by rw [mem_rs])

theorem ieq_ok {w : World} {p q : Option Addr} {n m c d : Nat} {xs ys : List Int} (hx : II w p n xs) (hy : II w q m ys) :
    Calls Try.prog 23 #[.slice p n c, .slice q m d] w fun e w' => e = .returned (.bool (xs == ys)) ∧ Below w.heap.size w w' := by
  have h1 := hx.len
  have h2 := hy.len
  have h3 := hx.big
  have h4 := hy.big
  by_cases e : n = m
  · subst e
    rcases Nat.eq_zero_or_pos n with h0 | h0
    · subst h0
      obtain rfl : xs = [] := List.length_eq_zero_iff.1 h1
      obtain rfl : ys = [] := List.length_eq_zero_iff.1 h2
      refine (sh_slices_Equal_int_empty p q c 0 d w (by omega)).mono ?_
      rintro e w' ⟨rfl, rfl⟩
      exact ⟨rfl, Below.refl _ _⟩
    · obtain ⟨b1, o1, rfl, c1⟩ := hx.cells h0
      obtain ⟨b2, o2, rfl, c2⟩ := hy.cells h0
      refine (sh_slices_Equal_int b1 o1 n c b2 o2 n d xs ys w (by omega) (by omega) (by omega) (by omega) (fun j hj => c1 j (by omega)) (fun j hj => c2 j (by omega))).mono ?_
      rintro e w' ⟨rfl, k, rfl⟩
      rw [List.take_of_length_le (by omega), List.take_of_length_le (by omega)]
      exact ⟨rfl, below_drewN (Below.refl _ _) k⟩
  · refine (sh_slices_Equal_int_lens p q n c m d w e).mono ?_
    rintro e2 w' ⟨rfl, rfl⟩
    refine ⟨?_, Below.refl _ _⟩
    have : (xs == ys) = false := beq_eq_false_iff_ne.2 (fun h => e (by rw [← h1, ← h2, h]))
    rw [this]

theorem icon_ok {w : World} {p : Option Addr} {n c : Nat} {xs : List Int} (hx : II w p n xs) (x : Int) :
    Calls Try.prog 32 #[.slice p n c, .int .i64 x] w fun e w' => e = .returned (.bool (xs.contains x)) ∧ w' = w := by
  have h1 := hx.len
  have h3 := hx.big
  rcases Nat.eq_zero_or_pos n with h0 | h0
  · subst h0
    obtain rfl : xs = [] := List.length_eq_zero_iff.1 h1
    refine (sh_slices_Contains_int_empty p c x w).mono ?_
    rintro e w' ⟨rfl, rfl⟩
    exact ⟨rfl, rfl⟩
  · obtain ⟨b1, o1, rfl, c1⟩ := hx.cells h0
    refine (sh_slices_Contains_int b1 o1 n c xs x w (by omega) (by omega) (fun j hj => c1 j (by omega))).mono ?_
    rintro e w' ⟨rfl, rfl⟩
    rw [List.take_of_length_le (by omega)]
    exact ⟨rfl, rfl⟩

set_option maxRecDepth 100000 in
set_option maxHeartbeats 2000000 in
theorem awake_ok (w : World) : Calls Try.prog 31 #[] w fun e w' => e = .returned (.bool true) ∧ Below w.heap.size w w' := by
  have hnew := new_ok w
  go_enter Try.func31, Try.ntmps31
  go_wp2_with (first | (go_at_call 9; refine hnew.mono ?_; rintro _ w1 ⟨a, mp, mb, rfl, hPS, hb⟩))
  obtain ⟨W2, hW2⟩ : ∃ W2, w1.alloc (.cells #[.int .u8 1] 5) = W2 := ⟨_, rfl⟩
  have hb2 : Below w1.heap.size w1 W2 := by rw [← hW2]; exact (Below.refl _ _).alloc (Nat.le_refl _) _
  have hBI : BI W2 (some ⟨w1.heap.size, 0, none⟩) 1 [1] := ⟨rfl, by omega, (fun i => by cases i with
    | zero => simp
    | succ i => simp), fun _ => ⟨w1.heap.size, 0, rfl, fun i hi => by
      obtain rfl : i = 0 := by omega
      rw [← hW2, cell_of_row _ _ 0 _ 5 _ (at_new rfl)]; rfl⟩⟩
  have hII : II W2 none 0 [] := ⟨rfl, by omega, (fun x hx => by cases hx), fun h => by omega⟩
  have hadd := sadd_ok (hPS.kept hb2) (by omega) 1 0 (by omega) (some ⟨w1.heap.size, 0, none⟩) 1 1 [1] hBI ⟨by omega, by omega, by omega, by omega⟩ none 0 0 [] hII rfl (by simp)
  rw [hW2]
  refine hadd.mono ?_
  rintro _ w3 ⟨rfl, pn, K', f1, f2, f3, f4, f5, hPS3, hSt⟩
  rw [List.nil_append] at hPS3 hSt
  have hbw : Below w.heap.size w w3 := (hb.trans (hb2.mono hb.size)).trans (hSt.below (by have := hb.size; have := hb2.size; omega) (fun k hk => by
    rcases dm_none _ _ _ _ hk with e | e | e
    · have := hPS.base.1.1; omega
    · have := hPS.base.1.2.1; omega
    · have := hPS.base.1.2.2; omega))
  have hla := last_ok hPS3
  have hdn := isDone_ok hPS3 1 ⟨by omega, by omega⟩
  have hdf : dn (0 + 1) [pn] 1 = false := by
    unfold dn
    have : fP [pn] 1 = some pn := by simp [fP, f1]
    rw [this]; simp
  rw [hdf] at hdn
  have HB : Hid (blks [pn] = [1]) := by show rs [(pn.blk : Int)] = [1]; rw [f2]; exact rs_one 1
  have HPS : Hid _ := hPS3
  have HBW : Hid _ := hbw
  clear hadd hPS hPS3 hSt hbw f1 f2 f3 f4 f5 hdf hb hb2 hBI hII hW2 hnew
  go_wp2_with (first
    | (go_at_call 15; refine same_at hla ?_)
    | (go_at_call 13; refine below_at hdn ?_; intro w4 hb4; have hbl := blocks_ok (HPS.out.kept hb4); rw [HB.out] at hbl)
    | (go_at_call 30; refine hbl.mono ?_; rintro _ w5 ⟨p5, c5, rfl, hI5, hpl5, hg5, hb5⟩))
  have hbA : Below w5.heap.size w5 (w5.alloc (.cells #[.int .i64 1] 3)) := (Below.refl _ _).alloc (Nat.le_refl _) _
  have hI6 : II (w5.alloc (.cells #[.int .i64 1] 3)) (some ⟨w5.heap.size, 0, none⟩) 1 [1] := ⟨rfl, by omega, (fun x hx => by simp only [List.mem_singleton] at hx; subst hx; exact ⟨by omega, by omega⟩), fun _ => ⟨w5.heap.size, 0, rfl, fun i hi => by
    obtain rfl : i = 0 := by omega
    rw [cell_of_row _ _ 0 _ 3 _ (at_new rfl)]; rfl⟩⟩
  have heq := ieq_ok (c := c5) (d := 1) (hI5.kept hbA) hI6
  refine heq.mono ?_
  rintro _ w6 ⟨rfl, hb6⟩
  have HB6 : Hid (Below w.heap.size w w6) := HBW.out.trans (((hb4.trans (hb5.mono hb4.size)).trans ((hbA.trans (hb6.mono (Nat.le_of_lt (by simp)))).mono (Nat.le_trans hb4.size hb5.size))).mono HBW.out.size)
  have hbt : (([1] : List Int) == [1]) = true := by decide
  rw [hbt]
  clear heq hI6 hbA hb6 hI5 hb4 hb5 hbl hla hdn
  go_wp2_with fail
  go_ret
  exact ⟨rfl, HB6.out⟩
end Go.Proofs.Yteapkfnklbhdfaa
