/- PatchUndone: what was added is taken back without a trace. -/
import Derived.Test.YteapkfnklbhdfaaLaw
namespace Go.Proofs.Yteapkfnklbhdfaa
open Go.RowKit Go.Maps
set_option linter.unusedVariables false

/-- The set s while more is added; x beside it. -/
structure UI (w w1 w2 wr : World) (a mp mb mk : Nat) (P : List Pv) (j : Nat) : Prop where
  ex : ∃ l' R K', l' ≤ mk + min j 20 ∧ mk ≤ l' ∧ PS w.heap.size wr a mp mb l' (P ++ R) K' ∧ (∀ p ∈ R, mk < p.id) ∧ (∀ k : Int, (mk : Int) < k → k ≤ (l' : Int) → (fP (P ++ R) k).isSome = true) ∧ (∀ k, dm a mp mb (P ++ R) K' k → w.heap.size ≤ k ∧ (k < w1.heap.size ∨ w2.heap.size ≤ k))
  bel : Below w.heap.size w wr
  mid : ∀ k, w1.heap.size ≤ k → k < w2.heap.size → wr.heap[k]? = w2.heap[k]?
  sz : w2.heap.size ≤ wr.heap.size

theorem UI.on {w w1 w2 wr w' : World} {a mp mb mk : Nat} {P : List Pv} {j : Nat} (h : UI w w1 w2 wr a mp mb mk P j) (hb : Below wr.heap.size wr w') (j' : Nat) (hj : j ≤ j') : UI w w1 w2 w' a mp mb mk P j' := by
  obtain ⟨l', R, K', h1, h1', h2, h3, h4, h5⟩ := h.ex
  exact ⟨⟨l', R, K', by omega, h1', h2.kept hb, h3, h4, h5⟩, h.bel.trans (hb.mono h.bel.size), fun k h1 h2 => (hb.block k (Nat.lt_of_lt_of_le h2 h.sz)).trans (h.mid k h1 h2), Nat.le_trans h.sz hb.size⟩

theorem UI.add {w w1 w2 wr : World} {a mp mb mk : Nat} {P : List Pv} {j : Nat} (h : UI w w1 w2 wr a mp mb mk P j) (hmk : mk ≤ 41) (hP : ∀ p ∈ P, p.id ≤ mk) (hj : j < 20) (b o : Int) (hb : I64 b) (p : Option Addr) (n c : Nat) (xs : List Int) (hx : BI wr p n xs) :
    Calls Try.prog 36 #[.pointer (some ⟨a, 0, none⟩), .int .i64 b, .int .i64 o, .slice p n c, .slice none 0 0] wr fun e w' => ∃ i i2, e = .returned (.tuple #[.int .i64 i, .int .i64 i2]) ∧ UI w w1 w2 w' a mp mb mk P (j + 1) := by
  obtain ⟨l', R, K', h1, h1', h2, h3, h4, h5⟩ := h.ex
  refine (sadd_none h2 (by omega) b o hb p n c xs hx).mono ?_
  rintro e w' ⟨i, i2, rfl, l2, P2, K2, hPS, hSt, hor⟩
  refine ⟨i, i2, rfl, ?_⟩
  have hbw : Below w.heap.size w w' := h.bel.trans (hSt.below h.bel.size (fun k hk => (h5 k hk).1))
  have hmid : ∀ k, w1.heap.size ≤ k → k < w2.heap.size → w'.heap[k]? = w2.heap[k]? := fun k k1 k2 => (hSt.fr.block k (Nat.lt_of_lt_of_le k2 h.sz) (fun hd => by have := (h5 k hd).2; omega)).trans (h.mid k k1 k2)
  have hdm2 : ∀ k, dm a mp mb P2 K2 k → w.heap.size ≤ k ∧ (k < w1.heap.size ∨ w2.heap.size ≤ k) := fun k hk => by
    rcases hSt.new k hk with h' | h'
    · exact h5 k h'
    · have := h.sz
      have := h.bel.size
      exact ⟨by omega, .inr (by omega)⟩
  have hsz : w2.heap.size ≤ w'.heap.size := Nat.le_trans h.sz hSt.fr.size
  rcases hor with ⟨rfl, rfl⟩ | ⟨pn, rfl, rfl, hid⟩
  · exact ⟨⟨_, R, K2, by omega, h1', hPS, h3, h4, hdm2⟩, hbw, hmid, hsz⟩
  · refine ⟨⟨l' + 1, R ++ [pn], K2, by omega, by omega, by rw [← List.append_assoc]; exact hPS, fun p hp => ?_, fun k k1 k2 => ?_, by rw [← List.append_assoc]; exact hdm2⟩, hbw, hmid, hsz⟩
    · rcases List.mem_append.1 hp with hp | hp
      · exact h3 p hp
      · rw [List.mem_singleton] at hp
        subst hp
        omega
    · rw [← List.append_assoc]
      rw [fP_isSome]
      by_cases hk : k ≤ (l' : Int)
      · obtain ⟨q, hq, e⟩ := fP_isSome.1 (h4 k k1 hk)
        exact ⟨q, List.mem_append_left _ hq, e⟩
      · exact ⟨pn, List.mem_append_right _ (List.mem_singleton.2 rfl), by omega⟩

theorem UI.undo {w w1 w2 wr : World} {a mp mb mk : Nat} {P : List Pv} {j : Nat} (h : UI w w1 w2 wr a mp mb mk P j) (hP : ∀ p ∈ P, p.id ≤ mk) :
    Calls Try.prog 37 #[.pointer (some ⟨a, 0, none⟩), .int .i64 (mk : Int)] wr fun e w' => e = .returned (.int .i64 0) ∧ (∃ K', PS w.heap.size w' a mp mb mk P K') ∧ Below w.heap.size w w' ∧ (∀ k, w1.heap.size ≤ k → k < w2.heap.size → w'.heap[k]? = w2.heap[k]?) ∧ w2.heap.size ≤ w'.heap.size := by
  obtain ⟨l', R, K', h1, h1', h2, h3, h4, h5⟩ := h.ex
  refine (undo_ok h2 mk h1').mono ?_
  rintro e w' (⟨⟨hno, _⟩, _⟩ | ⟨⟨_, rfl⟩, K2, hPS, hSt⟩)
  · exact absurd h4 hno
  · rw [upP_app hP h3] at hPS
    exact ⟨rfl, ⟨K2, hPS⟩, h.bel.trans (hSt.below h.bel.size (fun k hk => (h5 k hk).1)), fun k k1 k2 => (hSt.fr.block k (Nat.lt_of_lt_of_le k2 h.sz) (fun hd => by have := (h5 k hd).2; omega)).trans (h.mid k k1 k2), Nat.le_trans h.sz hSt.fr.size⟩

set_option maxRecDepth 100000 in
set_option maxHeartbeats 4000000 in
theorem patchUndone_walk (p q : Option Addr) (n c m d : Nat) (D M : List Dv) (w : World) (hD : DI w p n D) (hM : DI w q m M) :
    Calls Try.prog 8 #[.slice p n c, .slice q m d] w fun e w' => e = .returned (.bool true) ∧ Below w.heap.size w w' := by
  have hmk1 := mkset_ok p n c D w hD
  have hMl := hM.len
  have hMb := hM.big
  go_enter Try.func8, Try.ntmps8
  go_wp2_with (first
    | (go_at_call 29; refine hmk1.mono ?_; rintro _ w1 ⟨a, mp, mb, P, K, rfl, hPS1, hst1, hb1, hdm1⟩; have hmk2 := mkset_ok p n c D w1 (hD.kept hb1); clear hmk1)
    | (go_at_call 29; refine hmk2.mono ?_; rintro _ w2 ⟨a2, mp2, mb2, P2, K2, rfl, hPS2, hst2, hb2, hdm2⟩; have hla := last_ok (hPS1.kept hb2); clear hmk2)
    | (go_at_call 15; refine same_at hla ?_))
  have hmk41 : min n 41 ≤ 41 := Nat.min_le_right _ _
  have hPm : ∀ p ∈ P, p.id ≤ min n 41 := fun p hp => (hPS1.ids p hp).2.1
  have hstr : P.map strip = P2.map strip := by rw [hst1, hst2]
  have hU0 : UI w w1 w2 w2 a mp mb (min n 41) P 0 := ⟨⟨min n 41, [], K, by omega, Nat.le_refl _, by rw [List.append_nil]; exact hPS1.kept hb2, (fun p hp => by cases hp), (fun k h1 h2 => by omega), fun k hk => by
    rw [List.append_nil] at hk
    exact ⟨hdm1 k hk, .inl (hPS1.dm_lt hk)⟩⟩, hb1.trans (hb2.mono hb1.size), fun k _ _ => rfl, Nat.le_refl _⟩
  have HX : Hid (∀ wr, (∀ k, w1.heap.size ≤ k → k < w2.heap.size → wr.heap[k]? = w2.heap[k]?) → w2.heap.size ≤ wr.heap.size → PS w1.heap.size wr a2 mp2 mb2 (min n 41) P2 K2) := fun wr h1 h2 => hPS2.else h2 (fun k hk hl => h1 k (hdm2 k hk) hl)
  clear hPS1 hst1 hst2 hPS2 hdm1 hdm2 hla hb1 hb2
  generalize min n 41 = mk at *
  go_loopw [26] (fun i wr => ∃ j : Nat, j ≤ m ∧ i = .int .i64 (j : Int) ∧ UI w w1 w2 wr a mp mb mk P j) (fun i _ => m - (intOf i).toNat)
  case atStart => exact ⟨0, by omega, rfl, hU0⟩
  case round =>
    clear hU0
    obtain ⟨j, hj, rfl, hU⟩ := hrel
    by_cases hlt : j < m
    · obtain ⟨b1, o1, rfl, hc1⟩ := (hM.kept hU.bel).cells (by omega)
      obtain ⟨dv, hd⟩ : ∃ d, M[j]? = some d := ⟨_, List.getElem?_eq_getElem (by omega)⟩
      have hAt := hc1 j dv hd
      obtain ⟨c0, c1, c2, ⟨bp, bn, bc, c3, hbn, hbc, hBI⟩, ⟨ip, im, ic, c4, him, hic, him8, hII⟩, r0, r1, r2⟩ := hAt
      have hjI : (j : Int) < (m : Int) := by omega
      have hj0 : (0 : Int) ≤ (j : Int) := by omega
      obtain ⟨cs, hcs⟩ : ∃ cs : Array Value, cs = #[.int .i64 dv.op, .int .i64 dv.blk, .int .i64 dv.off, .slice bp bn bc, .slice ip im ic] := ⟨_, rfl⟩
      have hone : (#[.int .i64 dv.op, .int .i64 dv.blk, .int .i64 dv.off, .slice bp bn bc, .slice ip im ic] : Array Value).all (·.oneCell') = true := by simp [Value.oneCell']
      have hr1 := setRow_heap (wr.alloc (.cells #[.int .i64 0, .int .i64 0, .int .i64 0, .slice none 0 0, .slice none 0 0] 32)) wr.heap.size _ cs 32 (0, 0) (at_new rfl)
      have hb1 := below_setRow ((Below.refl wr.heap.size wr).alloc (Nat.le_refl _) (.cells #[.int .i64 0, .int .i64 0, .int .i64 0, .slice none 0 0, .slice none 0 0] 32)) wr.heap.size (Nat.le_refl _) cs
      obtain ⟨W1, hW1⟩ : ∃ W1, (wr.alloc (.cells #[.int .i64 0, .int .i64 0, .int .i64 0, .slice none 0 0, .slice none 0 0] 32)).setRow wr.heap.size cs = W1 := ⟨_, rfl⟩
      rw [hW1] at hr1 hb1
      have hbox : W1.cell? ⟨wr.heap.size, 1, none⟩ = some (.int .i64 dv.blk) ∧ W1.cell? ⟨wr.heap.size, 2, none⟩ = some (.int .i64 dv.off) ∧ W1.cell? ⟨wr.heap.size, 3, none⟩ = some (.slice bp bn bc) ∧ W1.cell? ⟨wr.heap.size, 4, none⟩ = some (.slice ip im ic) := by
        subst hcs
        refine ⟨?_, ?_, ?_, ?_⟩ <;> rw [cell_of_row _ _ _ _ 32 _ hr1] <;> rfl
      obtain ⟨x1, x2, x3, x4⟩ := hbox
      have hBIw := hBI.kept hb1
      have hU1 := hU.on hb1 j (Nat.le_refl _)
      by_cases hj20 : j < 20
      · have hg20 : (j : Int) < 20 := by omega
        have hadd := hU1.add hmk41 hPm hj20 dv.blk dv.off r1 bp bn bc dv.bytes hBIw
        clear hc1 hd hr1
        go_wp2_with (first
          | (refine wpList_store_row rfl 32 _ _ rfl wr.heap.size cs rfl (by rw [hcs]; rfl) 32 _ (at_new rfl) (by rw [hcs]; exact info32) (by rw [hcs]; rfl) (by rw [hcs]; exact hone) ?_; rw [hW1])
          | (go_at_call 36; refine hadd.mono ?_; rintro _ w5 ⟨i5, i6, rfl, hU5⟩))
        go_roundw
        case rel => exact ⟨j + 1, by omega, by go_num, hU5⟩
        case measure => simp [intOf]; omega
      · have hg20 : ¬ (j : Int) < 20 := by omega
        have hU5 := hU1.on (Below.refl _ _) (j + 1) (by omega)
        clear hc1 hd hr1 x1 x2 x3 x4
        go_wp2_with (first
          | (refine wpList_store_row rfl 32 _ _ rfl wr.heap.size cs rfl (by rw [hcs]; rfl) 32 _ (at_new rfl) (by rw [hcs]; exact info32) (by rw [hcs]; rfl) (by rw [hcs]; exact hone) ?_; rw [hW1]))
        go_roundw
        case rel => exact ⟨j + 1, by omega, by go_num, hU5⟩
        case measure => simp [intOf]; omega
    · obtain rfl : j = m := by omega
      have hun := hU.undo hPm
      clear hD hM hU
      go_wp2_with (first
        | (go_at_call 37; refine hun.mono ?_; rintro _ w3 ⟨rfl, ⟨K3, hPS3⟩, hb3, hm3, hs3⟩; have hX3 := HX.out w3 hm3 hs3; have hla := last_ok hPS3; have hbl := blocks_ok hPS3))
      refine same_at hla ?_
      clear hla
      have hlx := last_ok hX3
      clear hun
      go_wp2_with fail
      refine same_at hlx ?_
      clear hlx
      go_wp2_with fail
      refine hbl.mono ?_
      rintro _ w4 ⟨p4, c4, rfl, hI4, hpl4, hg4, hb4⟩
      have hbx := blocks_ok (hX3.kept hb4)
      clear hbl
      dsimp only
      go_wp2_with fail
      refine hbx.mono ?_
      rintro _ w5 ⟨p5, c5, rfl, hI5, hpl5, hg5, hb5⟩
      have heq := ieq_ok (c := c4) (d := c5) (hI4.kept hb5) hI5
      have ebl := blks_same hstr
      rw [ebl] at heq
      rw [ebl]
      clear hbx ebl
      have hbt : (blks P2 == blks P2) = true := beq_self_eq_true _
      rw [hbt] at heq
      clear hbt
      dsimp only
      go_wp2_with fail
      refine below_at heq ?_
      intro w6 hb6
      clear heq
      have hb36 : Below w3.heap.size w3 w6 := hb4.trans ((hb5.trans (hb6.mono hb5.size)).mono hb4.size)
      have hS6 := hPS3.kept hb36
      have hX6 := hX3.kept hb36
      have hbw6 := hb3.trans (hb36.mono hb3.size)
      have hbx6 := blocks_ok hX6
      clear hX3 hb3 hb36 hPS3 hm3 hs3 hb4 hb5 hb6 hI4 hI5 hpl4 hpl5 hg4 hg5
      go_wp2_with fail
      refine hbx6.mono ?_
      rintro _ w7 ⟨p7, c7, rfl, hI7, hpl7, hg7, hb7⟩
      have hS7 := hS6.kept hb7
      have hX7 := hX6.kept hb7
      have hbw7 := hbw6.trans (hb7.mono hbw6.size)
      have hlb := hI7.big
      clear hbx6 hS6 hX6 hbw6 hpl7 hg7 hb7
      dsimp only
      go_wp2_with fail
      go_loopw [64] (fun i w8 => ∃ j : Nat, j ≤ (blks P2).length ∧ i = .int .i64 (j : Int) ∧ Below w7.heap.size w7 w8) (fun i _ => (blks P2).length - (intOf i).toNat)
      case atStart => exact ⟨0, by omega, rfl, Below.refl _ _⟩
      case round =>
        rename_i j0
        obtain ⟨j, hj, rfl, hb8⟩ := hrel
        by_cases hlt : j < (blks P2).length
        · obtain ⟨b1, o1, rfl, hc1⟩ := (hI7.kept hb8).cells (by omega)
          have e1 := hc1 j hlt
          have hb64 := hI7.fitAt j
          have hjI : (j : Int) < ((blks P2).length : Int) := by omega
          have hj0 : (0 : Int) ≤ (j : Int) := by omega
          obtain ⟨Z, hZ, hZB⟩ := zeros_ok wr
          have hbZ : Below wr.heap.size wr (wr.alloc (.cells Z 5)) := (Below.refl _ _).alloc (Nat.le_refl _) _
          generalize (blks P2).getD j 0 = y at *
          have hp1 := plan2_ok (hS7.kept (hb8.trans (hbZ.mono hb8.size))) y hb64 _ 128 _ hZB
          have epl : plnOf P y zz = plnOf P2 y zz := plan_same hstr y _
          rw [epl] at hp1
          obtain ⟨S, hSd⟩ : ∃ S, plnOf P2 y zz = S := ⟨_, rfl⟩
          rw [hSd] at hp1
          clear hc1 epl
          go_wp2_with fail
          refine hp1.mono ?_
          rintro _ w9 ⟨ob, on, oc, ib, im, ic, rfl, hB9, hI9, hgo, hgi, hb9⟩
          clear hp1 hZ
          have hb79 := hb8.trans ((hbZ.trans (hb9.mono hbZ.size)).mono hb8.size)
          obtain ⟨Z2, hZ2, hZB2⟩ := zeros_ok w9
          have hbZ2 : Below w9.heap.size w9 (w9.alloc (.cells Z2 5)) := (Below.refl _ _).alloc (Nat.le_refl _) _
          have hp2 := plan2_ok (hX7.kept (hb79.trans (hbZ2.mono hb79.size))) y hb64 _ 128 _ hZB2
          rw [hSd] at hp2
          dsimp only
          go_wp2_with fail
          refine hp2.mono ?_
          rintro _ w10 ⟨ob2, on2, oc2, ib2, im2, ic2, rfl, hB10, hI10, hgo2, hgi2, hb10⟩
          clear hp2 hZ2 hZB2 hZB
          have hb910 := hbZ2.trans (hb10.mono hbZ2.size)
          have hb710 := hb79.trans (hb910.mono hb79.size)
          have hq1 := beq_ok (c := oc) (d := oc2) (hB9.kept hb910) hB10
          have hbt : (plB S == plB S) = true := beq_self_eq_true _
          rw [hbt] at hq1
          have hq2 := ieq_ok (c := ic) (d := ic2) (hI9.kept hb910) hI10
          have hbt2 : (S.1 == S.1) = true := beq_self_eq_true _
          rw [hbt2] at hq2
          clear hbt hbt2
          generalize plE S = er
          dsimp only
          go_wp2_with fail
          refine same_at hq1 ?_
          clear hq1
          go_wp2_with fail
          refine below_at hq2 ?_
          intro w11 hb11
          clear hq2
          have hb711 := hb710.trans (hb11.mono hb710.size)
          have ho1 := of2_ok (hS7.kept hb711) y hb64
          rw [idsOf_same hstr] at ho1
          go_wp2_with fail
          refine ho1.mono ?_
          rintro _ w12 ⟨q12, m12, d12, rfl, hI12, hb12⟩
          clear ho1
          have hb712 := hb711.trans (hb12.mono hb711.size)
          have ho2 := of2_ok (hX7.kept hb712) y hb64
          dsimp only
          go_wp2_with fail
          refine ho2.mono ?_
          rintro _ w13 ⟨q13, m13, d13, rfl, hI13, hb13⟩
          clear ho2
          have hb713 := hb712.trans (hb13.mono hb712.size)
          have hq3 := ieq_ok (c := d12) (d := d13) (hI12.kept hb13) hI13
          have hbt3 : (idsOf P2 y == idsOf P2 y) = true := beq_self_eq_true _
          rw [hbt3] at hq3
          dsimp only
          go_wp2_with fail
          refine below_at hq3 ?_
          intro w14 hb14
          clear hq3 hbt3
          have hb714 := hb713.trans (hb14.mono hb713.size)
          go_wp2_with fail
          go_roundw
          case rel => exact ⟨j + 1, by omega, by go_num, hb714⟩
          case measure => simp [intOf]; omega
        · have hI2 : ¬ (j : Int) < ((blks P2).length : Int) := by omega
          have haw := awake_ok wr
          go_wp2_with fail
          refine below_at haw ?_
          intro w15 hb15
          clear haw
          go_wp2_with fail
          go_ret
          exact ⟨rfl, hbw7.trans ((hb8.trans (hb15.mono hb8.size)).mono hbw7.size)⟩
end Go.Proofs.Yteapkfnklbhdfaa
