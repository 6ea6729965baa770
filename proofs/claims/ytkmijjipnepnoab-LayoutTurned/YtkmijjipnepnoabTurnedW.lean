/- LayoutTurned: a superblock, or an inode that is not free, with one byte turned is refused. -/
import Derived.Test.YtkmijjipnepnoabDDec
import Derived.Test.YtkmijjipnepnoabSealed
import Derived.Deep.DeepCutAuto
namespace Go.Proofs.Ytkmijjipnepnoab
open Go.RowKit
set_option linter.unusedVariables false

theorem getD_set_if {zs : List Int} {i : Nat} (hi : i < zs.length) (y : Int) (j : Nat) : (zs.set i y).getD j 0 = if j = i then y else zs.getD j 0 := by
  rw [Num.getD_set]
  by_cases e : j = i
  · rw [if_pos ⟨e, hi⟩, if_pos e]
  · rw [if_neg (by omega), if_neg e]

theorem super_sealed (G B I M : Int) : (Num.numD (superS G B I M) (128 - 4) 4 == Num.sum (superS G B I M) (128 - 4)) = true := by
  have hl : (superL G B I M).length = 128 := by unfold superL; simp only [Num.putTo_length]; exact splice_len128
  have := seal_seals (superL G B I M) 128 (by omega) hl
  unfold superS sealL
  rw [hl]
  exact this
theorem super_turned (G B I M : Int) (i : Nat) (hi : i < 128) (y : Int) (h0 : 0 ≤ y) (h1 : y < 256) (hy : y ≠ (superS G B I M).getD i 0) : ¬ decE 128 ((superS G B I M).set i y) = 0 := by
  have ht := turned (superS G B I M) 128 i y (by omega) (superS_len G B I M) hi (superS_byt G B I M) h0 h1 hy (super_sealed G B I M)
  rw [beq_eq_false_iff_ne] at ht
  unfold decE
  rw [if_neg (by omega)]
  split
  · decide
  · first
    | decide
    | (rw [if_pos ht]; decide)

theorem din_sealed (m l s a b c d i j : Int) : (Num.numD (dinS m l s a b c d i j) (32 - 4) 4 == Num.sum (dinS m l s a b c d i j) (32 - 4)) = true := by
  have hl := dinL_len m l s a b c d i j
  have := seal_seals (dinL m l s a b c d i j) 32 (by omega) hl
  unfold dinS sealL
  rw [hl]
  exact this
theorem dinS_len (m l s a b c d i j : Int) : (dinS m l s a b c d i j).length = 32 := by
  have := dinL_len m l s a b c d i j
  unfold dinS sealL
  rw [Num.putTo_length, this]
theorem dinS_byt (m l s a b c d i j : Int) : Num.Byt (dinS m l s a b c d i j) := by
  unfold dinS sealL
  exact Num.putTo_byt (dinL_byt _ _ _ _ _ _ _ _ _) _ _ _
theorem dinS_mode {m : Int} (l s a b c d i j : Int) (hm : m = 1 ∨ m = 2) : (dinS m l s a b c d i j).getD 0 0 = m := by
  have hl := dinL_len m l s a b c d i j
  unfold dinS sealL
  rw [hl, Num.putTo_out _ _ _ _ _ (by omega)]
  unfold dinL
  rw [Num.putTo_out _ _ _ _ _ (by omega), Num.putTo_out _ _ _ _ _ (by omega)]
  simp only [putsTo]
  rw [Num.putTo_out _ _ _ _ _ (by omega), Num.putTo_out _ _ _ _ _ (by omega), Num.putTo_out _ _ _ _ _ (by omega), Num.putTo_out _ _ _ _ _ (by omega), Num.putTo_out _ _ _ _ _ (by omega), Num.putTo_out _ _ _ _ _ (by omega)]
  have := Num.putTo_in (zers 32) 0 m 1 (by rw [zers_len]; omega) 0 (by omega)
  rw [Nat.add_zero] at this
  rw [this]
  rcases hm with rfl | rfl <;> rfl
theorem sum_not (m : Int) (hm : m = 1 ∨ m = 2) : ¬ Num.sum ((zers 32).set 0 m) 28 = 0 := by
  rcases hm with rfl | rfl <;> decide
theorem din_turned {m : Int} (l s a b c d i j : Int) (hm : m = 1 ∨ m = 2) (k : Nat) (hk : k < 32) (y : Int) (h0 : 0 ≤ y) (h1 : y < 256) (hy : y ≠ (dinS m l s a b c d i j).getD k 0) : ¬ ddE 32 ((dinS m l s a b c d i j).set k y) = 0 := by
  have hl := dinS_len m l s a b c d i j
  have hs := din_sealed m l s a b c d i j
  have h00 := dinS_mode l s a b c d i j hm
  have ht := turned (dinS m l s a b c d i j) 32 k y (by omega) hl hk (dinS_byt m l s a b c d i j) h0 h1 hy hs
  generalize dinS m l s a b c d i j = L at *
  have hz : ¬ L.set k y = zers 32 := by
    intro e
    have hg : ∀ p, p ≠ k → L.getD p 0 = 0 := by
      intro p hp
      have := getD_set_if (zs := L) (i := k) (by omega) y p
      rw [if_neg hp, e] at this
      rw [← this]
      unfold zers
      rw [List.getD_eq_getElem?_getD, List.getElem?_replicate]
      split <;> rfl
    by_cases hk0 : k = 0
    · subst hk0
      have e1 : Num.numD L 28 4 = 0 := by
        have : Num.numD L 28 4 = Num.numD (zers 32) 28 4 := Num.numD_congr 4 28 fun p hp => by
          rw [hg _ (by omega)]
          unfold zers
          rw [List.getD_eq_getElem?_getD, List.getElem?_replicate]
          split <;> rfl
        rw [this, numD_zers]
      have e2 : Num.sum L 28 = Num.sum ((zers 32).set 0 m) 28 := Num.sum_same 28 fun p hp => by
        rw [getD_set_if (by rw [zers_len]; omega)]
        by_cases hp0 : p = 0
        · subst hp0; rw [if_pos rfl, h00]
        · rw [if_neg hp0, hg p hp0]
          unfold zers
          rw [List.getD_eq_getElem?_getD, List.getElem?_replicate]
          split <;> rfl
      have := sum_not m hm
      rw [beq_iff_eq] at hs
      rw [← e2] at this
      exact this (hs.symm.trans e1)
    · have := hg 0 (by omega)
      omega
  unfold ddE
  rw [if_neg (by omega), if_neg hz, if_pos (by simpa using ht)]
  decide

theorem decV_no {n : Nat} {xs : List Int} (h : ¬ decE n xs = 0) : decV n xs = superV 0 0 0 0 := by unfold decV; rw [if_neg h]
theorem ddV_no {n : Nat} {xs : List Int} (h : ¬ ddE n xs = 0) : ddV n xs = dinV 0 0 0 0 0 0 0 0 0 := by unfold ddV; rw [if_neg h]

set_option maxHeartbeats 400000 in
theorem awake_ok (w : World) : Calls Try.prog 14 #[] w fun e w' => e = .returned (.bool true) ∧ Below w.heap.size w w' := by
  have hE : decE 0 [] = 6 := by unfold decE; rw [if_pos (by omega)]
  have hV : decV 0 [] = superV 0 0 0 0 := decV_no (by rw [hE]; decide)
  have hd := decodeSuper_ok none 0 0 [] w (BI.none _ _) (Nat.le_refl _)
  rw [hE, hV] at hd
  clear hE hV
  go_enter Try.func14, Try.ntmps14
  go_wp2_with (first | (go_at_call 11; refine grew_at hd ?_; intro w1 hb))
  go_ret
  exact ⟨rfl, grew_trans hb (grew_alloc _ _)⟩

/-- The two structures as they came in. -/
structure Bk (w0 w : World) (So Do : Obj) : Prop where
  s : w.heap[w0.heap.size]? = some So
  d : w.heap[w0.heap.size + 1]? = some Do
  b : Below w0.heap.size w0 w
theorem Bk.kept {w0 w w' : World} {So Do : Obj} (h : Bk w0 w So Do) (hb : Below w.heap.size w w') : Bk w0 w' So Do :=
  ⟨(hb.block _ (Array.getElem?_eq_some_iff.1 h.s).1).trans h.s, (hb.block _ (Array.getElem?_eq_some_iff.1 h.d).1).trans h.d, grew_trans h.b hb⟩
theorem Bk.far {w0 w : World} {So Do : Obj} (h : Bk w0 w So Do) {g i : Nat} {v : Value} (hg : w0.heap.size + 1 < g) : Bk w0 (w.setCell ⟨g, i, none⟩ v) So Do :=
  ⟨(Below.heap_setCell _ _ _ _ (show w0.heap.size ≠ g by omega)).trans h.s, (Below.heap_setCell _ _ _ _ (show w0.heap.size + 1 ≠ g by omega)).trans h.d, h.b.setCell (p := ⟨g, i, none⟩) (show w0.heap.size ≤ g by omega) v⟩
theorem bk_mk (w : World) (So Do : Obj) : Bk w ((w.alloc So).alloc Do) So Do := by
  have h1 := heap_new w So
  have h2 := heap_new (w.alloc So) Do
  simp only [size_alloc] at h2
  refine ⟨?_, h2, grew_trans (grew_alloc _ _) (grew_alloc _ _)⟩
  rw [Below.heap_alloc _ _ _ (by simp only [size_alloc]; omega)]
  exact h1

theorem super_enc (G B I M : Int) : ∃ (er : Int) (n : Nat),
    (∀ w, Calls Try.prog 9 #[superV G B I M] w fun e w' => ∃ p q, e = .returned (.tuple #[.slice p n q, .int .i64 er]) ∧ Below w.heap.size w w' ∧ (er = 0 → ∃ g, p = some ⟨g, 0, none⟩ ∧ Own w.heap.size w' g 128 q (superS G B I M))) ∧
    (∀ w, Calls Try.prog 10 #[superV G B I M] w fun e w' => ∃ p q, e = .returned (.tuple #[.slice p n q, .int .i64 er]) ∧ Below w.heap.size w w') ∧
    (er = 0 ∧ n = 128 ∨ er = 1) := by
  by_cases h : SMay G B I M
  · refine ⟨0, 128, fun w => ?_, fun w => ?_, Or.inl ⟨rfl, rfl⟩⟩
    · exact (encodeSuper_yes G B I M h w).mono fun e w' ⟨g, cap, he, ho, hb⟩ => ⟨_, cap, he, hb, fun _ => ⟨g, rfl, ho⟩⟩
    · exact (rencodeSuper_yes G B I M h w).mono fun e w' ⟨g, cap, he, ho, hb⟩ => ⟨_, cap, he, hb⟩
  · refine ⟨1, 0, fun w => ?_, fun w => ?_, Or.inr rfl⟩
    · exact (encodeSuper_no G B I M h w).mono fun e w' ⟨he, hb⟩ => ⟨_, 0, he, hb, fun k => by cases k⟩
    · exact (rencodeSuper_no G B I M h w).mono fun e w' ⟨he, hb⟩ => ⟨_, 0, he, hb⟩
theorem dinode_enc (m l s a b c d i j : Int) : ∃ (er : Int) (n : Nat),
    (∀ w, Calls Try.prog 12 #[dinV m l s a b c d i j] w fun e w' => ∃ p q, e = .returned (.tuple #[.slice p n q, .int .i64 er]) ∧ Below w.heap.size w w' ∧ (er = 0 → ¬ m = 0 → ∃ g, p = some ⟨g, 0, none⟩ ∧ Own w.heap.size w' g 32 q (dinS m l s a b c d i j))) ∧
    (∀ w, Calls Try.prog 13 #[dinV m l s a b c d i j] w fun e w' => ∃ p q, e = .returned (.tuple #[.slice p n q, .int .i64 er]) ∧ Below w.heap.size w w') ∧
    (er = 0 ∧ n = 32 ∧ (m = 0 ∨ m = 1 ∨ m = 2) ∨ er = 1) := by
  by_cases h : DMay m l s a b c d i j
  · refine ⟨0, 32, fun w => ?_, fun w => ?_, Or.inl ⟨rfl, rfl, by unfold DMay at h; omega⟩⟩
    · refine (encodeDinode_yes m l s a b c d i j h w).mono fun e w' ⟨g, cap, he, ho, hb⟩ => ⟨_, cap, he, hb, fun _ h0 => ⟨g, rfl, ?_⟩⟩
      have e : dinB m l s a b c d i j = dinS m l s a b c d i j := by unfold dinB; rw [if_neg h0]
      rwa [e] at ho
    · exact (rencodeDinode_yes m l s a b c d i j h w).mono fun e w' ⟨g, cap, he, ho, hb⟩ => ⟨_, cap, he, hb⟩
  · refine ⟨1, 0, fun w => ?_, fun w => ?_, Or.inr rfl⟩
    · exact (encodeDinode_no m l s a b c d i j h w).mono fun e w' ⟨he, hb⟩ => ⟨_, 0, he, hb, fun k => by cases k⟩
    · exact (rencodeDinode_no m l s a b c d i j h w).mono fun e w' ⟨he, hb⟩ => ⟨_, 0, he, hb⟩

set_option maxRecDepth 10000 in
set_option maxHeartbeats 2000000 in
theorem layoutTurned_walk (G B I M : Int) (m l s a b c d i j : Int) (k by_ : Int) (w : World) :
    Calls Try.prog 3 #[superV G B I M, dinV m l s a b c d i j, .int .i64 k, .int .i64 by_] w fun e w' => e = .returned (.bool true) ∧ Below w.heap.size w w' := by
  have hk := bk_mk w (superO G B I M) (dinO m l s a b c d i j)
  have hks := hk.s
  have hsz : w.heap.size + 1 < ((w.alloc (superO G B I M)).alloc (dinO m l s a b c d i j)).heap.size := by simp only [size_alloc]; omega
  obtain ⟨d0, hd0, ed0⟩ : ∃ d : Nat, d < 255 ∧ (IntKind.u64.wrap by_).tmod 255 = (d : Int) := tmod_nat by_ 255 (by omega)
  obtain ⟨er, n, s1, s2, hs⟩ := super_enc G B I M
  go_enter Try.func3, Try.ntmps3
  go_upto_if 34 with (first
    | (refine wpList_load_row rfl 25 (.tmp 4) rfl w.heap.size rfl 25 _ (0, 0) _ hks Try.underlying25 rfl info25 ?_)
    | (go_at_call 9; refine Calls.mono (s1 _) ?_; rintro e w1 ⟨p1, q1, rfl, hb, ho⟩; have hk := hk.kept hb; have hks := hk.s; clear hb)
    | (go_at_call 10; refine Calls.mono (s2 _) ?_; rintro e w2 ⟨p2, q2, rfl, hb⟩; have hk := hk.kept hb))
  go_cut [13, 14] (fun _ _ wx => Bk w wx (superO G B I M) (dinO m l s a b c d i j))
  case first =>
    rcases hs with ⟨rfl, rfl⟩ | rfl
    · obtain ⟨g, rfl, how⟩ := ho rfl
      clear ho
      have hg : w.heap.size + 1 < g := Nat.lt_of_lt_of_le hsz how.spot.1
      have ho := how.kept hb
      clear hb
      obtain ⟨x, hx, ex⟩ : ∃ x : Nat, x < 128 ∧ (IntKind.u64.wrap k).tmod 128 = (x : Int) := tmod_nat k 128 (by omega)
      have hl := superS_len G B I M
      have hby := superS_byt G B I M
      have hzb := hby x
      have hcx := ho.cell x hx
      have hfx := World.ownsRow.frozenAt ho x
      have htu := super_turned G B I M x hx
      generalize superS G B I M = zs at *
      obtain ⟨z, hz⟩ : ∃ z, zs.getD x 0 = z := ⟨_, rfl⟩
      rw [hz] at hcx hzb htu
      clear hz
      have hxt := xor_turns z (1 + (d0 : Int)) hzb.1 hzb.2 (by omega) (by omega)
      have ho4 := ho.set x (bits BinOp.xor IntKind.u8 z (1 + (d0 : Int)))
      have hk4 := hk.far (i := x) (v := .int .u8 (bits BinOp.xor IntKind.u8 z (1 + (d0 : Int)))) hg
      have htu := htu _ hxt.1 hxt.2.1 hxt.2.2
      have hbt : Num.Byt (zs.set x (bits BinOp.xor IntKind.u8 z (1 + (d0 : Int)))) := by
        intro j
        rw [Num.getD_set]
        split
        · exact ⟨hxt.1, hxt.2.1⟩
        · exact hby j
      have hdc := decodeSuper_ok _ 128 q1 _ _ (ho4.bi (by omega) hbt) ho4.room.1
      rw [decV_no htu] at hdc
      have hE : (decE 128 (zs.set x (bits BinOp.xor IntKind.u8 z (1 + (d0 : Int)))) == 0) = false := by rw [beq_eq_false_iff_ne]; exact htu
      have HD := (show Hid _ from hdc)
      generalize decE 128 (zs.set x (bits BinOp.xor IntKind.u8 z (1 + (d0 : Int)))) = E at *
      clear hdc hbt htu ho4 hxt ho hk hks s1 s2
      go_wp2_with fail
      refine grew_at HD.out ?_
      intro w3 hb3
      have hk5 := (hk4.kept hb3).kept (grew_alloc w3 (superO 0 0 0 0))
      clear HD
      go_wp2_with fail
      go_meet
      case rel => exact hk5
    · go_wp2_with fail
      go_meet
      case rel => exact hk
  case rest =>
    have hk := hcut
    clear hs s1 s2 ho hb hks
    have hkd := hk.d
    have hsz := (Array.getElem?_eq_some_iff.1 hkd).1
    obtain ⟨er, n, s1, s2, hs⟩ := dinode_enc m l s a b c d i j
    have hm0 : wc.cell? ⟨w.heap.size + 1, 0, none⟩ = some (.int .i64 m) := cell_row hkd 0 _ rfl
    go_upto_region 16 with (first
      | (refine wpList_load_row rfl 28 (.tmp 5) rfl (w.heap.size + 1) rfl 28 _ (0, 0) _ hkd Try.underlying28 rfl info45 ?_)
      | (go_at_call 12; refine Calls.mono (s1 _) ?_; rintro e w3 ⟨p3, q3, rfl, hb3, ho⟩; have hk := hk.kept hb3; have hkd := hk.d)
      | (go_at_call 13; refine Calls.mono (s2 _) ?_; rintro e w4 ⟨p4, q4, rfl, hb4⟩; have hk := hk.kept hb4; have hkd := hk.d))
    have hm0 : w4.cell? ⟨w.heap.size + 1, 0, none⟩ = some (.int .i64 m) := cell_row hkd 0 _ rfl
    have haw := awake_ok w4
    have hkb := hk.b
    rcases hs with ⟨rfl, rfl, hm⟩ | rfl
    · by_cases h0 : m = 0
      · have h0' : (m == 0) = true := by rw [beq_iff_eq]; exact h0
        clear h0 hm ho
        go_wp2_with (first | (go_at_call 14; refine grew_at haw ?_; intro w5 hb5))
        go_ret
        exact ⟨rfl, grew_trans hkb hb5⟩
      · obtain ⟨g, rfl, how⟩ := ho rfl h0
        have hm : m = 1 ∨ m = 2 := by omega
        have h0' : (m == 0) = false := by rw [beq_eq_false_iff_ne]; exact h0
        clear ho
        have hg : w.heap.size + 1 < g := Nat.lt_of_lt_of_le hsz how.spot.1
        have ho := how.kept hb4
        clear hb4 hb3
        obtain ⟨x, hx, ex⟩ : ∃ x : Nat, x < 32 ∧ (IntKind.u64.wrap k).tmod 32 = (x : Int) := tmod_nat k 32 (by omega)
        have hl := dinS_len m l s a b c d i j
        have hby := dinS_byt m l s a b c d i j
        have hzb := hby x
        have hcx := ho.cell x hx
        have hfx := World.ownsRow.frozenAt ho x
        have htu := din_turned l s a b c d i j hm x hx
        generalize dinS m l s a b c d i j = zs at *
        obtain ⟨z, hz⟩ : ∃ z, zs.getD x 0 = z := ⟨_, rfl⟩
        rw [hz] at hcx hzb htu
        clear hz
        have hxt := xor_turns z (1 + (d0 : Int)) hzb.1 hzb.2 (by omega) (by omega)
        have ho4 := ho.set x (bits BinOp.xor IntKind.u8 z (1 + (d0 : Int)))
        have hk4 := hk.far (i := x) (v := .int .u8 (bits BinOp.xor IntKind.u8 z (1 + (d0 : Int)))) hg
        have htu := htu _ hxt.1 hxt.2.1 hxt.2.2
        have hbt : Num.Byt (zs.set x (bits BinOp.xor IntKind.u8 z (1 + (d0 : Int)))) := by
          intro j
          rw [Num.getD_set]
          split
          · exact ⟨hxt.1, hxt.2.1⟩
          · exact hby j
        have hdc := decodeDinode_ok _ 32 q3 _ _ (ho4.bi (by omega) hbt) ho4.room.1
        rw [ddV_no htu] at hdc
        have hE : (ddE 32 (zs.set x (bits BinOp.xor IntKind.u8 z (1 + (d0 : Int)))) == 0) = false := by rw [beq_eq_false_iff_ne]; exact htu
        have HD := (show Hid _ from hdc)
        generalize ddE 32 (zs.set x (bits BinOp.xor IntKind.u8 z (1 + (d0 : Int)))) = E at *
        clear hdc hbt htu ho4 hxt ho hk hkd s1 s2 h0 hm how
        go_wp2_with fail
        refine grew_at HD.out ?_
        intro w5 hb5
        have hk5 := ((hk4.kept hb5).kept (grew_alloc w5 (dinO 0 0 0 0 0 0 0 0 0))).b
        clear HD
        go_wp2_with fail
        go_ret
        exact ⟨by first | rfl | exact ret_bool (by simp [bne, hE]), hk5⟩
    · clear ho
      go_wp2_with (first | (go_at_call 14; refine grew_at haw ?_; intro w5 hb5))
      go_ret
      exact ⟨rfl, grew_trans hkb hb5⟩
end Go.Proofs.Ytkmijjipnepnoab
