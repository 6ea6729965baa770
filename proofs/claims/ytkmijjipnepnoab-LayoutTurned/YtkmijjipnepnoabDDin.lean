/- Inodes out of bytes, by the program. -/
import Derived.Test.YtkmijjipnepnoabTake
namespace Go.Proofs.Ytkmijjipnepnoab
open Go.RowKit
set_option linter.unusedVariables false

/-- What stands while an inode is read. -/
structure DR (w w' : World) (rb n : Nat) (xs : List Int) (m l s a b c d i j : Int) : Prop where
  r : Rest w' rb n xs 0
  s : w'.heap[w.heap.size + 1]? = some (dinO m l s a b c d i j)
  z : w'.heap[w.heap.size]? = some (dinO 0 0 0 0 0 0 0 0 0)
  lo : w.heap.size + 2 ≤ rb
  bw : Below w.heap.size w w'

theorem din_no (m l s a b c d i j : Int) : ∀ (x : Int) (k : Nat), (#[.int .i64 m, .int .i64 l, .int .i64 s, .int .i64 a, .int .i64 b, .int .i64 c, .int .i64 d, .int .i64 i, .int .i64 j] : Array Value)[k]? ≠ some (Value.int .u8 x) := by
  intro x k
  rcases k with _ | _ | _ | _ | _ | _ | _ | _ | _ | k <;> simp

theorem din_one (m l s a b c d i j : Int) : (#[.int .i64 m, .int .i64 l, .int .i64 s, .int .i64 a, .int .i64 b, .int .i64 c, .int .i64 d, .int .i64 i, .int .i64 j] : Array Value).all (·.oneCell') = true := by
  simp [Value.oneCell']

theorem DR.grown {w w' w2 : World} {rb n n2 : Nat} {xs zs : List Int} {m l s a b c d i j : Int} (h : DR w w' rb n xs m l s a b c d i j) (hg : w'.grownBy w2 (some rb)) (hr : Rest w2 rb n2 zs 0) : DR w w2 rb n2 zs m l s a b c d i j := by
  have hl := h.lo
  exact ⟨hr, grown_cells hg h.s (by omega), grown_cells hg h.z (by omega), h.lo, h.bw.grown hg h.bw.size (by intro k hk; cases hk; omega)⟩

theorem DR.turn {w w' w2 : World} {rb n : Nat} {xs : List Int} {m l s a b c d i j m' l' s' a' b' c' d' i' j' : Int} (h : DR w w' rb n xs m l s a b c d i j) (hs : w2.heap[w.heap.size + 1]? = some (dinO m' l' s' a' b' c' d' i' j')) (ho : ∀ k, k ≠ w.heap.size + 1 → w2.heap[k]? = w'.heap[k]?) (hb : Below w.heap.size w w2) : DR w w2 rb n xs m' l' s' a' b' c' d' i' j' := by
  have hlo := h.lo
  exact ⟨rest_at h.r (ho _ (by omega)) (fun b o hb hn' => ho _ (bi_ne hb hn' h.s (din_no _ _ _ _ _ _ _ _ _))), hs, (ho _ (by omega)).trans h.z, h.lo, hb⟩

theorem DR.set {w w' : World} {rb n : Nat} {xs : List Int} {m l s a b c d i j m' l' s' a' b' c' d' i' j' : Int} (h : DR w w' rb n xs m l s a b c d i j) (k : Nat) (v : Int)
    (e : (#[.int .i64 m, .int .i64 l, .int .i64 s, .int .i64 a, .int .i64 b, .int .i64 c, .int .i64 d, .int .i64 i, .int .i64 j] : Array Value).setIfInBounds k (.int .i64 v) = #[.int .i64 m', .int .i64 l', .int .i64 s', .int .i64 a', .int .i64 b', .int .i64 c', .int .i64 d', .int .i64 i', .int .i64 j']) :
    DR w (w'.setCell ⟨w.heap.size + 1, k, none⟩ (.int .i64 v)) rb n xs m' l' s' a' b' c' d' i' j' :=
  h.turn (by rw [heap_set h.s, e]) (fun k hk => Below.heap_setCell _ _ _ _ hk) (h.bw.setCell (by show w.heap.size ≤ w.heap.size + 1; omega) _)

set_option maxRecDepth 10000 in
set_option maxHeartbeats 1000000 in
theorem readDinode_ok (p : Option Addr) (c : Nat) (xs : List Int) (w : World) (h : BI w p 32 xs) :
    Calls Try.prog 55 #[.slice p 32 c] w fun e w' => e = .returned (dinV (Num.numD xs 0 1) (Num.numD xs 2 2) (Num.numD xs 4 4) (Num.numD xs 8 2) (Num.numD xs 10 2) (Num.numD xs 12 2) (Num.numD xs 14 2) (Num.numD xs 16 2) (Num.numD xs 18 2)) ∧ Below w.heap.size w w' := by
  have hxl := h.len
  have hxb := h.byt
  generalize hm : Num.numD xs 0 1 = vm
  generalize hl : Num.numD xs 2 2 = vl
  generalize hs : Num.numD xs 4 4 = vs
  generalize h8 : Num.numD xs 8 2 = va
  generalize h10 : Num.numD xs 10 2 = vb
  generalize h12 : Num.numD xs 12 2 = vc
  generalize h14 : Num.numD xs 14 2 = vd
  generalize h16 : Num.numD xs 16 2 = vi
  generalize h18 : Num.numD xs 18 2 = vj
  have HM := (show Hid _ from hm)
  have HL := (show Hid _ from hl)
  have HS := (show Hid _ from hs)
  have HA := (show Hid _ from h8)
  have HB := (show Hid _ from h10)
  have HC := (show Hid _ from h12)
  have HD := (show Hid _ from h14)
  have HI := (show Hid _ from h16)
  have HJ := (show Hid _ from h18)
  clear hm hl hs h8 h10 h12 h14 h16 h18
  go_enter Try.func55, Try.ntmps55
  go_wp2_with fail
  have hb0 := (grew_alloc w (dinO 0 0 0 0 0 0 0 0 0)).trans ((grew_alloc (w.alloc (dinO 0 0 0 0 0 0 0 0 0)) (dinO 0 0 0 0 0 0 0 0 0)).mono (by rw [size_alloc]; omega))
  refine Calls.mono (over_ok _ p 32 c xs (h.kept hb0)) ?_
  rintro e w1 ⟨rb, rfl, hlo, hr, hb1⟩
  have h1 : DR w w1 rb 32 xs 0 0 0 0 0 0 0 0 0 := by
    simp only [size_alloc] at hlo hb1
    refine ⟨hr, ?_, ?_, by omega, hb0.trans (hb1.mono (by omega))⟩
    · rw [hb1.block _ (by omega)]
      have := heap_new (w.alloc (dinO 0 0 0 0 0 0 0 0 0)) (dinO 0 0 0 0 0 0 0 0 0)
      rwa [size_alloc] at this
    · rw [hb1.block _ (by omega), Below.heap_alloc _ _ _ (by rw [size_alloc]; omega)]
      exact heap_new _ _
  clear hr hb1 hlo hb0
  -- the mode
  have t1 := take_yes _ rb _ 1 _ h1.r (by omega) (by omega) (by omega)
  rw [show Num.numD xs 0 1 = vm from HM.out] at t1
  go_wp2_with fail
  refine Calls.mono t1 ?_
  rintro e w2 ⟨rfl, hg, hr⟩
  have h2 := h1.grown hg hr
  clear h1 hg hr t1
  have f2 := frozen_of_row _ _ 0 _ _ h2.s
  have c2 := cell_row h2.s 0 _ rfl
  have h3 := h2.set 0 vm rfl
  go_wp2_with fail
  generalize w2.setCell ⟨w.heap.size + 1, 0, none⟩ (.int .i64 vm) = w3 at *
  refine Calls.mono (skip_yes _ rb _ 1 _ h3.r (by omega)) ?_
  rintro e w4 ⟨rfl, hg, hr⟩
  have h4 := h3.grown hg hr
  clear h2 h3 hg hr f2 c2
  simp only [List.drop_drop] at h4
  -- the links
  have t4 := take_yes _ rb _ 2 _ h4.r (by omega) (by omega) (by omega)
  rw [show Num.numD (xs.drop (1 + 1)) 0 2 = vl from (numD_drop xs 2 2 0).trans HL.out] at t4
  go_wp2_with fail
  refine Calls.mono t4 ?_
  rintro e w5 ⟨rfl, hg, hr⟩
  have h5 := h4.grown hg hr
  clear h4 hg hr t4
  have f5 := frozen_of_row _ _ 1 _ _ h5.s
  have c5 := cell_row h5.s 1 _ rfl
  have h6 := h5.set 1 vl rfl
  go_wp2_with fail
  generalize w5.setCell ⟨w.heap.size + 1, 1, none⟩ (.int .i64 vl) = w6 at *
  clear h5 f5 c5
  simp only [List.drop_drop] at h6
  -- the size
  have t6 := take_yes _ rb _ 4 _ h6.r (by omega) (by omega) (by omega)
  rw [show Num.numD (xs.drop (1 + 1 + 2)) 0 4 = vs from (numD_drop xs 4 4 0).trans HS.out] at t6
  refine Calls.mono t6 ?_
  rintro e w7 ⟨rfl, hg, hr⟩
  have h7 := h6.grown hg hr
  clear h6 hg hr t6
  have f7 := frozen_of_row _ _ 2 _ _ h7.s
  have c7 := cell_row h7.s 2 _ rfl
  have h8 := h7.set 2 vs rfl
  go_wp2_with fail
  generalize w7.setCell ⟨w.heap.size + 1, 2, none⟩ (.int .i64 vs) = w8 at *
  clear h7 f7 c7
  simp only [List.drop_drop] at h8
  -- the addresses
  have hlo := h8.lo
  have hd := fun j => numD_drop xs 8 2 (2 * j)
  have t8 := takeAll_ok _ rb (w.heap.size + 1) 3 4 2 _ 4 _ _ _ h8.r h8.s (din_no _ _ _ _ _ _ _ _ _) (by omega) (by omega) (by omega) (by omega) (by omega)
    (by intro k hk; rcases (by omega : k = 0 ∨ k = 1 ∨ k = 2 ∨ k = 3) with rfl | rfl | rfl | rfl <;> exact ⟨_, rfl⟩)
  refine Calls.mono t8 ?_
  rintro e w9 ⟨rfl, hs9, hr9, ht9⟩
  have e9 : fill #[.int .i64 vm, .int .i64 vl, .int .i64 vs, .int .i64 0, .int .i64 0, .int .i64 0, .int .i64 0, .int .i64 0, .int .i64 0] 3 (fun j => Num.numD (xs.drop (1 + 1 + 2 + 4)) (2 * j) 2) 4 = #[.int .i64 vm, .int .i64 vl, .int .i64 vs, .int .i64 va, .int .i64 vb, .int .i64 vc, .int .i64 vd, .int .i64 0, .int .i64 0] := by
    have q0 : Num.numD (xs.drop (1 + 1 + 2 + 4)) (2 * 0) 2 = va := (hd 0).trans HA.out
    have q1 : Num.numD (xs.drop (1 + 1 + 2 + 4)) (2 * 1) 2 = vb := (hd 1).trans HB.out
    have q2 : Num.numD (xs.drop (1 + 1 + 2 + 4)) (2 * 2) 2 = vc := (hd 2).trans HC.out
    have q3 : Num.numD (xs.drop (1 + 1 + 2 + 4)) (2 * 3) 2 = vd := (hd 3).trans HD.out
    unfold fill fill fill fill fill
    simp only [q0, q1, q2, q3]
    rfl
  rw [e9] at hs9
  have h10 : DR w w9 rb _ _ vm vl vs va vb vc vd 0 0 := ⟨hr9, hs9, (ht9.block _ (Array.getElem?_eq_some_iff.1 h8.z).1 (by omega) (by omega)).trans h8.z, h8.lo, h8.bw.trans (ht9.below (by omega) (by omega) h8.bw.size)⟩
  clear h8 t8 hs9 hr9 ht9 e9 hd
  simp only [List.drop_drop] at h10
  -- the two trees
  have t10 := take_yes _ rb _ 2 _ h10.r (by omega) (by omega) (by omega)
  rw [show Num.numD (xs.drop (1 + 1 + 2 + 4 + 2 * 4)) 0 2 = vi from (numD_drop xs 16 2 0).trans HI.out] at t10
  go_wp2_with fail
  refine Calls.mono t10 ?_
  rintro e w11 ⟨rfl, hg, hr⟩
  have h11 := h10.grown hg hr
  clear h10 hg hr t10
  have f11 := frozen_of_row _ _ 7 _ _ h11.s
  have c11 := cell_row h11.s 7 _ rfl
  have h12 := h11.set 7 vi rfl
  go_wp2_with fail
  generalize w11.setCell ⟨w.heap.size + 1, 7, none⟩ (.int .i64 vi) = w12 at *
  clear h11 f11 c11
  simp only [List.drop_drop] at h12
  have t12 := take_yes _ rb _ 2 _ h12.r (by omega) (by omega) (by omega)
  rw [show Num.numD (xs.drop (1 + 1 + 2 + 4 + 2 * 4 + 2)) 0 2 = vj from (numD_drop xs 18 2 0).trans HJ.out] at t12
  refine Calls.mono t12 ?_
  rintro e w13 ⟨rfl, hg, hr⟩
  have h13 := h12.grown hg hr
  clear h12 hg hr t12
  have f13 := frozen_of_row _ _ 8 _ _ h13.s
  have c13 := cell_row h13.s 8 _ rfl
  have h14 := h13.set 8 vj rfl
  have hs14 := h14.s
  have hz14 := h14.z
  have hbw := h14.bw
  clear h14
  go_wp2_with (first
    | (refine wpList_load_row rfl 28 _ rfl (w.heap.size + 1) rfl 28 _ (0, 0) _ hs14 Try.underlying28 rfl info45 ?_)
    | (refine wpList_store_row rfl 28 _ _ rfl w.heap.size _ rfl rfl 28 _ hz14 info45 rfl (din_one _ _ _ _ _ _ _ _ _) ?_))
  refine bodyPost_ret (v := dinV vm vl vs va vb vc vd vi vj) (results_cell_row (p := 2) (ty := 28) Try.results55 _ _ w.heap.size 28 _ (0, 0) _ rfl (setRow_heap _ _ _ _ _ _ hz14) Try.underlying28 rfl info45) rfl ?_
  exact ⟨rfl, below_setRow hbw (by omega) _⟩
end Go.Proofs.Ytkmijjipnepnoab
