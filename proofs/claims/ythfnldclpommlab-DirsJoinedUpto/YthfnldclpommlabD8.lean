/- dirs: With. -/
import Derived.Test.YthfnldclpommlabD7
namespace Go.Proofs.Ythfnldclpommlab
open Go.RowKit
set_option linter.unusedVariables false

/-- What With gives: bytes, a place, an error. -/
def wi (n : Nat) (xs : List Int) (N : Int) (s : ByteArray) : List Int × Nat × Int :=
  if mayB n xs then (if kd N s = 2 then (match (El n xs).findIdx? (hit s) with
    | some _ => ([], 0, 212)
    | none => match (El n xs).findIdx? emp with
      | none => ([], 0, 120)
      | some k => (encL ((El n xs).set k ⟨N, s⟩), k, 0)) else ([], 0, 1)) else ([], 0, 6)
theorem kd_two {N : Int} {s : ByteArray} (h : kd N s = 2) : EMay N s ∧ N ≠ 0 := by
  unfold kd at h
  split at h
  · rename_i hm
    split at h
    · cases h
    · exact ⟨hm, by assumption⟩
  · cases h
theorem p3_nil {w w' : World} {n : Nat} {xs : List Int} {N : Int} {s : ByteArray} {er : Int} (hb : Below w.heap.size w w') (h : wi n xs N s = ([], 0, er)) :
    P3 w (wi n xs N s).1 ((wi n xs N s).2.1 : Int) (wi n xs N s).2.2 (.returned (.tuple #[.slice none 0 0, .int .i64 0, .int .i64 er])) w' := by
  rw [h]
  exact ⟨none, 0, 0, rfl, bi_nil _, hb⟩
theorem p3_some {w w' : World} {n : Nat} {xs : List Int} {N : Int} {s : ByteArray} {q : Option Addr} {d k : Nat} {L : List Int} (hB : BI w' q 128 L) (hb : Below w.heap.size w w') (h : wi n xs N s = (L, k, 0)) :
    P3 w (wi n xs N s).1 ((wi n xs N s).2.1 : Int) (wi n xs N s).2.2 (.returned (.tuple #[.slice q 128 d, .int .i64 (k : Int), .int .i64 0])) w' := by
  rw [h]
  exact ⟨q, 128, d, rfl, hB, hb⟩

theorem p3_nilc {w w' : World} {n : Nat} {xs : List Int} {N : Int} {s : ByteArray} {er : Int} (hb : Below w.heap.size w w') (h : wi n xs N s = ([], 0, er)) :
    P3c w (wi n xs N s).1 ((wi n xs N s).2.1 : Int) (wi n xs N s).2.2 (.returned (.tuple #[.slice none 0 0, .int .i64 0, .int .i64 er])) w' := by
  rw [h]
  exact ⟨none, 0, 0, rfl, bi_nil _, hb, Nat.le_refl _, by omega⟩
theorem p3_somec {w w' : World} {n : Nat} {xs : List Int} {N : Int} {s : ByteArray} {q : Option Addr} {d k : Nat} {L : List Int} (hB : BI w' q 128 L) (hb : Below w.heap.size w w' ∧ 128 ≤ d ∧ d ≤ 9223372036854775807) (h : wi n xs N s = (L, k, 0)) :
    P3c w (wi n xs N s).1 ((wi n xs N s).2.1 : Int) (wi n xs N s).2.2 (.returned (.tuple #[.slice q 128 d, .int .i64 (k : Int), .int .i64 0])) w' := by
  rw [h]
  exact ⟨q, 128, d, rfl, hB, hb⟩

set_option maxRecDepth 20000 in
set_option maxHeartbeats 2000000 in
theorem With_c (p : Option Addr) (n c : Nat) (xs : List Int) (N : Int) (s : ByteArray) (hs : s.size ≤ 140737488355328) (w : World) (h : BI w p n xs) (hnc : n ≤ c) (hc2 : c ≤ 9223372036854775807) :
    Calls Try.prog 16 #[.slice p n c, entV N s] w fun e w' => P3c w (wi n xs N s).1 ((wi n xs N s).2.1 : Int) (wi n xs N s).2.2 e w' := by
  have HB := grew_alloc w (entO N s)
  have hx := heap_new w (entO N s)
  have hre := read_ok p n c xs (w.alloc (entO N s)) (h.kept HB) hnc hc2
  by_cases hm : mayB n xs
  · rw [decide_eq_true hm] at hre
    by_cases hk : kd N s = 2
    · have hkt := kd_two hk
      cases hf : (dec8 n xs).findIdx? (hit s) with
      | some k =>
        have hwi : wi n xs N s = ([], 0, 212) := by unfold wi; rw [if_pos hm, if_pos hk, El_yes hm, hf]
        have HT : Hid _ := hwi
        have HF : Hid _ := hf
        have HK : Hid _ := hk
        clear hwi hm hf hk hkt
        go_enter Try.func16, Try.ntmps16
        go_wp2_with fail
        refine grew_at hre ?_
        intro w1 hb1
        clear hre
        obtain ⟨W, hW⟩ := boxed w1 n xs
        have hWe := hW.eq
        have hi53 := info53' n xs
        have hs53 := size53' n xs
        have hone := flat2_all (dec8 n xs)
        have hb0 := grew_trans HB hb1
        have hx1 := (hW.bel.block _ (Nat.lt_of_lt_of_le (by simp) hb1.size)).trans ((hb1.block _ (Array.getElem?_eq_some_iff.1 hx).1).trans hx)
        have x0 : W.cell? ⟨w.heap.size, 0, none⟩ = some (.int .i64 N) := cell_row hx1 0 _ rfl
        have x1 : W.cell? ⟨w.heap.size, 1, none⟩ = some (.string s) := cell_row hx1 1 _ rfl
        have hki := kindOf_ok N s hs W
        rw [HK.out] at hki
        have HW : Hid _ := And.intro hW.pg (And.intro (grew_trans hb0 hW.bel) hx1)
        clear hW hx hx1 hb0 hb1
        dsimp only
        go_wp2_with (refine wpList_store_row rfl 53 _ _ rfl w1.heap.size (flat2 (dec8 n xs)).toArray rfl rfl 53 _ (heap_new w1 _) hi53 hs53 hone ?_; rw [hWe])
        refine grew_at hki ?_
        intro w2 hb2
        clear hki x0 x1
        have hP2 := HW.out.1.kept hb2
        have hbw2 := grew_trans HW.out.2.1 hb2
        have hx2 := (hb2.block _ (Array.getElem?_eq_some_iff.1 HW.out.2.2).1).trans HW.out.2.2
        have x0 : w2.cell? ⟨w.heap.size, 0, none⟩ = some (.int .i64 N) := cell_row hx2 0 _ rfl
        have x1 : w2.cell? ⟨w.heap.size, 1, none⟩ = some (.string s) := cell_row hx2 1 _ rfl
        have hfi := find_ok hP2 s
        rw [HF.out] at hfi
        have H2 : Hid _ := And.intro hP2 (And.intro hbw2 hx2)
        clear hP2 hbw2 hx2 hb2
        dsimp only
        go_wp2_with fail
        refine grew_at hfi ?_
        intro w3 hb3
        clear hfi x0 x1
        have hbf := grew_trans H2.out.2.1 hb3
        clear hb3
        dsimp only [Option.getD_some, Option.isSome_some]
        go_wp2_with fail
        go_ret3
        exact p3_nilc hbf HT.out
      | none =>
        cases hr : (dec8 n xs).findIdx? emp with
        | none =>
          have hwi : wi n xs N s = ([], 0, 120) := by unfold wi; rw [if_pos hm, if_pos hk, El_yes hm, hf]; simp only; rw [hr]
          have HT : Hid _ := hwi
          have HF : Hid _ := hf
          have HK : Hid _ := hk
          have HR : Hid _ := hr
          clear hwi hm hf hk hkt hr
          go_enter Try.func16, Try.ntmps16
          go_wp2_with fail
          refine grew_at hre ?_
          intro w1 hb1
          clear hre
          obtain ⟨W, hW⟩ := boxed w1 n xs
          have hWe := hW.eq
          have hi53 := info53' n xs
          have hs53 := size53' n xs
          have hone := flat2_all (dec8 n xs)
          have hb0 := grew_trans HB hb1
          have hx1 := (hW.bel.block _ (Nat.lt_of_lt_of_le (by simp) hb1.size)).trans ((hb1.block _ (Array.getElem?_eq_some_iff.1 hx).1).trans hx)
          have x0 : W.cell? ⟨w.heap.size, 0, none⟩ = some (.int .i64 N) := cell_row hx1 0 _ rfl
          have x1 : W.cell? ⟨w.heap.size, 1, none⟩ = some (.string s) := cell_row hx1 1 _ rfl
          have hki := kindOf_ok N s hs W
          rw [HK.out] at hki
          have HW : Hid _ := And.intro hW.pg (And.intro (grew_trans hb0 hW.bel) hx1)
          clear hW hx hx1 hb0 hb1
          dsimp only
          go_wp2_with (refine wpList_store_row rfl 53 _ _ rfl w1.heap.size (flat2 (dec8 n xs)).toArray rfl rfl 53 _ (heap_new w1 _) hi53 hs53 hone ?_; rw [hWe])
          refine grew_at hki ?_
          intro w2 hb2
          clear hki x0 x1
          have hP2 := HW.out.1.kept hb2
          have hbw2 := grew_trans HW.out.2.1 hb2
          have hx2 := (hb2.block _ (Array.getElem?_eq_some_iff.1 HW.out.2.2).1).trans HW.out.2.2
          have x0 : w2.cell? ⟨w.heap.size, 0, none⟩ = some (.int .i64 N) := cell_row hx2 0 _ rfl
          have x1 : w2.cell? ⟨w.heap.size, 1, none⟩ = some (.string s) := cell_row hx2 1 _ rfl
          have hfi := find_ok hP2 s
          rw [HF.out] at hfi
          have H2 : Hid _ := And.intro hP2 (And.intro hbw2 hx2)
          clear hP2 hbw2 hx2 hb2
          dsimp only
          go_wp2_with fail
          refine grew_at hfi ?_
          intro w3 hb3
          clear hfi x0 x1
          have hfr := free_ok (H2.out.1.kept hb3)
          rw [HR.out] at hfr
          have hbf := grew_trans H2.out.2.1 hb3
          have H3 : Hid _ := hbf
          clear hb3 hbf
          dsimp only [Option.getD_none, Option.isSome_none]
          go_wp2_with fail
          refine grew_at hfr ?_
          intro w4 hb4
          clear hfr
          dsimp only [Option.getD_none, Option.isSome_none]
          go_wp2_with fail
          go_ret3
          exact p3_nilc (grew_trans H3.out hb4) HT.out
        | some k =>
          have hwi : wi n xs N s = (encL ((dec8 n xs).set k ⟨N, s⟩), k, 0) := by unfold wi; rw [if_pos hm, if_pos hk, El_yes hm, hf]; simp only; rw [hr]
          have hkl := (List.findIdx?_eq_some_iff_getElem.1 hr).1
          rw [dec8_len] at hkl
          have HT : Hid _ := hwi
          have HF : Hid _ := hf
          have HK : Hid _ := hk
          have HR : Hid _ := hr
          have HM2 : Hid _ := hkt
          have HKl : Hid _ := hkl
          clear hwi hm hf hk hkt hr hkl
          go_enter Try.func16, Try.ntmps16
          go_wp2_with fail
          refine grew_at hre ?_
          intro w1 hb1
          clear hre
          obtain ⟨W, hW⟩ := boxed w1 n xs
          have hWe := hW.eq
          have hi53 := info53' n xs
          have hs53 := size53' n xs
          have hone := flat2_all (dec8 n xs)
          have hb0 := grew_trans HB hb1
          have HB1 : Hid (w.heap.size ≤ w1.heap.size) := hb0.size
          have hx1 := (hW.bel.block _ (Nat.lt_of_lt_of_le (by simp) hb1.size)).trans ((hb1.block _ (Array.getElem?_eq_some_iff.1 hx).1).trans hx)
          have x0 : W.cell? ⟨w.heap.size, 0, none⟩ = some (.int .i64 N) := cell_row hx1 0 _ rfl
          have x1 : W.cell? ⟨w.heap.size, 1, none⟩ = some (.string s) := cell_row hx1 1 _ rfl
          have hki := kindOf_ok N s hs W
          rw [HK.out] at hki
          have HW : Hid _ := And.intro hW.pg (And.intro (grew_trans hb0 hW.bel) hx1)
          clear hW hx hx1 hb0 hb1
          dsimp only
          go_wp2_with (refine wpList_store_row rfl 53 _ _ rfl w1.heap.size (flat2 (dec8 n xs)).toArray rfl rfl 53 _ (heap_new w1 _) hi53 hs53 hone ?_; rw [hWe])
          refine grew_at hki ?_
          intro w2 hb2
          clear hki x0 x1
          have hP2 := HW.out.1.kept hb2
          have hbw2 := grew_trans HW.out.2.1 hb2
          have hx2 := (hb2.block _ (Array.getElem?_eq_some_iff.1 HW.out.2.2).1).trans HW.out.2.2
          have x0 : w2.cell? ⟨w.heap.size, 0, none⟩ = some (.int .i64 N) := cell_row hx2 0 _ rfl
          have x1 : w2.cell? ⟨w.heap.size, 1, none⟩ = some (.string s) := cell_row hx2 1 _ rfl
          have hfi := find_ok hP2 s
          rw [HF.out] at hfi
          have H2 : Hid _ := And.intro hP2 (And.intro hbw2 hx2)
          clear hP2 hbw2 hx2 hb2
          dsimp only
          go_wp2_with fail
          refine grew_at hfi ?_
          intro w3 hb3
          clear hfi x0 x1
          have hfr := free_ok (H2.out.1.kept hb3)
          rw [HR.out] at hfr
          have hbf := grew_trans H2.out.2.1 hb3
          have hP3 := H2.out.1.kept hb3
          have hx3 := (hb3.block _ (Array.getElem?_eq_some_iff.1 H2.out.2.2).1).trans H2.out.2.2
          have H3 : Hid _ := And.intro hbf (And.intro hP3 hx3)
          clear hb3 hbf hP3 hx3
          dsimp only [Option.getD_none, Option.isSome_none]
          go_wp2_with fail
          refine grew_at hfr ?_
          intro w4 hb4
          clear hfr
          have hx4 := (hb4.block _ (Array.getElem?_eq_some_iff.1 H3.out.2.2).1).trans H3.out.2.2
          have x0 : w4.cell? ⟨w.heap.size, 0, none⟩ = some (.int .i64 N) := cell_row hx4 0 _ rfl
          have x1 : w4.cell? ⟨w.heap.size, 1, none⟩ = some (.string s) := cell_row hx4 1 _ rfl
          have hpu := pput_named (H3.out.2.1.kept hb4) (B := w1.heap.size) (Nat.le_refl _) k HKl.out N s HM2.out.1 HM2.out.2 HF.out
          have hb04 := grew_trans H3.out.1 hb4
          have H4 : Hid _ := hb04
          clear hb4 hx4 hb04
          dsimp only [Option.getD_some, Option.isSome_some]
          go_wp2_with fail
          refine hpu.mono ?_
          rintro _ w5 ⟨rfl, hP5, hb5⟩
          clear hpu x0 x1
          have hby := pbytes_c hP5 (set_may (dec8_may n xs) HM2.out.1)
          have hb05 : Below w.heap.size w w5 := H4.out.trans (hb5.mono HB1.out)
          have H5 : Hid _ := hb05
          clear hP5 hb5 hb05
          dsimp only
          go_wp2_with fail
          refine hby.mono ?_
          rintro _ w6 ⟨q, d, rfl, hB6, hb6, hcap⟩
          clear hby
          have H6 : Hid _ := And.intro hB6 (And.intro (grew_trans H5.out hb6) hcap)
          clear hB6 hb6 hcap
          dsimp only
          go_wp2_with fail
          go_ret3
          exact p3_somec H6.out.1 H6.out.2 HT.out
    · have hwi : wi n xs N s = ([], 0, 1) := by unfold wi; rw [if_pos hm, if_neg hk]
      have HT : Hid _ := hwi
      have HK : Hid _ := hk
      clear hwi hm hk
      go_enter Try.func16, Try.ntmps16
      go_wp2_with fail
      refine grew_at hre ?_
      intro w1 hb1
      clear hre
      obtain ⟨W, hW⟩ := boxed w1 n xs
      have hWe := hW.eq
      have hi53 := info53' n xs
      have hs53 := size53' n xs
      have hone := flat2_all (dec8 n xs)
      have hb0 := grew_trans HB hb1
      have hx1 := (hW.bel.block _ (Nat.lt_of_lt_of_le (by simp) hb1.size)).trans ((hb1.block _ (Array.getElem?_eq_some_iff.1 hx).1).trans hx)
      have x0 : W.cell? ⟨w.heap.size, 0, none⟩ = some (.int .i64 N) := cell_row hx1 0 _ rfl
      have x1 : W.cell? ⟨w.heap.size, 1, none⟩ = some (.string s) := cell_row hx1 1 _ rfl
      have hki := kindOf_ok N s hs W
      have HW : Hid _ := grew_trans hb0 hW.bel
      obtain ⟨kk, hkk⟩ : ∃ kk, kd N s = kk := ⟨_, rfl⟩
      rw [hkk] at hki
      have hne : ¬ kk = 2 := fun e => HK.out (hkk.trans e)
      clear hW hx hx1 hb0 hb1 hkk
      dsimp only
      go_wp2_with (refine wpList_store_row rfl 53 _ _ rfl w1.heap.size (flat2 (dec8 n xs)).toArray rfl rfl 53 _ (heap_new w1 _) hi53 hs53 hone ?_; rw [hWe])
      refine grew_at hki ?_
      intro w2 hb2
      clear hki x0 x1
      dsimp only
      go_wp2_with fail
      go_ret3
      exact p3_nilc (grew_trans HW.out hb2) HT.out
  · rw [decide_eq_false hm] at hre
    have hwi : wi n xs N s = ([], 0, 6) := by unfold wi; rw [if_neg hm]
    have HT : Hid _ := hwi
    clear hwi hm
    go_enter Try.func16, Try.ntmps16
    go_wp2_with fail
    refine grew_at hre ?_
    intro w1 hb1
    clear hre
    obtain ⟨W, hW⟩ := boxed w1 n xs
    have hWe := hW.eq
    have hi53 := info53' n xs
    have hs53 := size53' n xs
    have hone := flat2_all (dec8 n xs)
    have hb0 := grew_trans HB hb1
    have hx1 := (hW.bel.block _ (Nat.lt_of_lt_of_le (by simp) hb1.size)).trans ((hb1.block _ (Array.getElem?_eq_some_iff.1 hx).1).trans hx)
    have x0 : W.cell? ⟨w.heap.size, 0, none⟩ = some (.int .i64 N) := cell_row hx1 0 _ rfl
    have x1 : W.cell? ⟨w.heap.size, 1, none⟩ = some (.string s) := cell_row hx1 1 _ rfl
    have HW : Hid _ := grew_trans hb0 hW.bel
    clear hW hx hx1 hb0 hb1 x0 x1
    dsimp only
    go_wp2_with (refine wpList_store_row rfl 53 _ _ rfl w1.heap.size (flat2 (dec8 n xs)).toArray rfl rfl 53 _ (heap_new w1 _) hi53 hs53 hone ?_; rw [hWe])
    go_ret3
    exact p3_nilc HW.out HT.out
theorem With_ok (p : Option Addr) (n c : Nat) (xs : List Int) (N : Int) (s : ByteArray) (hs : s.size ≤ 140737488355328) (w : World) (h : BI w p n xs) (hnc : n ≤ c) (hc2 : c ≤ 9223372036854775807) :
    Calls Try.prog 16 #[.slice p n c, entV N s] w fun e w' => P3 w (wi n xs N s).1 ((wi n xs N s).2.1 : Int) (wi n xs N s).2.2 e w' := (With_c p n c xs N s hs w h hnc hc2).mono fun e w' h => h.p3
end Go.Proofs.Ythfnldclpommlab
