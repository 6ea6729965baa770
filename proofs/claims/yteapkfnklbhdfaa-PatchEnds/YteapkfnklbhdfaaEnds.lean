/- PatchEnds: plan by plan all gets to the disk. -/
import Derived.Test.YteapkfnklbhdfaaEnd0
import Derived.Maps.RangeWalk
namespace Go.Proofs.Yteapkfnklbhdfaa
open Go.RowKit Go.Maps
set_option linter.unusedVariables false

theorem mem_blks {P : List Pv} {b : Int} : b ∈ blks P ↔ ∃ p ∈ P, (p.blk : Int) = b := by
  unfold blks; rw [mem_rs, List.mem_map]

set_option maxRecDepth 100000 in
set_option maxHeartbeats 4000000 in
theorem patchEnds_walk (p q : Option Addr) (n c m d : Nat) (D : List Dv) (O : List Int) (w : World) (hD : DI w p n D) (hO : II w q m O) :
    Calls Try.prog 7 #[.slice p n c, .slice q m d] w fun e w' => e = .returned (.bool true) ∧ Below w.heap.size w w' := by
  have hmk := mkset_ok p n c D w hD
  have hmm := @run_makeMap Try.prog
  have hOb := hO.big
  go_enter Try.func7, Try.ntmps7
  go_wp2_with fail
  refine hmk.mono ?_
  rintro _ w1 ⟨a, mp, mb, P0, K, rfl, hPS1, hst1, hb1, hdm1⟩
  clear hmk
  have hgd : Gd P0 := gd_strip (by rw [hst1]; exact (mkS_good _).1)
  have hm41 : min n 41 ≤ 41 := Nat.min_le_right _ _
  have hP41 := hPS1.len
  obtain ⟨W2, hW2⟩ : ∃ W2, (w1.alloc (.map #[] 0)).alloc (.map #[] 0) = W2 := ⟨_, rfl⟩
  have hbW : Below w1.heap.size w1 W2 := by rw [← hW2]; exact ((Below.refl _ _).alloc (Nat.le_refl _) _).alloc (by simp) _
  have hE0 : E0 w W2 a mp mb (min n 41) w1.heap.size (w1.heap.size + 1) P0 [] [] (fun _ => 0) (fun _ => 0) (fun _ => 0) (fun _ => 0) (fun _ => []) (fun _ => []) := by
    refine ⟨⟨K, hPS1.kept hbW, fun k hk => ⟨hdm1 k hk, ?_, ?_, (fun b hb => by cases hb), fun b hb => by cases hb⟩⟩, hgd, ?_, ?_, (fun b hb => by cases hb), (fun b hb => by cases hb), hb1.trans (hbW.mono hb1.size), ⟨hb1.size, by have := hb1.size; omega, by omega⟩⟩
    · have := hPS1.dm_lt hk; omega
    · have := hPS1.dm_lt hk; omega
    · rw [← hW2]
      refine (mf_made w1 0).kept ?_ |>.congr (fun k _ => rfl)
      rw [Below.heap_alloc _ _ _ (by simp)]
    · rw [← hW2]
      have := mf_made (w1.alloc (.map #[] 0)) 0
      rw [World.size_alloc] at this
      exact this.congr (fun k _ => rfl)
  clear hPS1 hst1 hdm1 hbW hb1 hD hgd
  generalize min n 41 = lst at *
  dsimp only
  go_wp2_with fail
  obtain ⟨K0, hPS0, _⟩ := hE0.ps
  have hbl := blocks_ok hPS0
  have hids0 := hPS0.ids
  refine hbl.mono ?_
  rintro _ w3 ⟨p3, c3, rfl, hI3, hpl3, hg3, hb3⟩
  have hE3 := hE0.on hb3
  have hBn : (blks P0).Pairwise (fun x y => x < y) := rs_sorted _
  have hBl : (blks P0).length ≤ 41 := Nat.le_trans (rs_length _) (by rw [List.length_map]; omega)
  have hsub : ∀ p ∈ P0, (p.blk : Int) ∈ blks P0 := fun p hp => mem_blks.2 ⟨p, hp, rfl⟩
  clear hbl hPS0 hpl3 hg3 hE0 hW2 hb3
  generalize hmd : w1.heap.size = md at *
  generalize hwm : md + 1 = wm at *
  generalize blks P0 = B0 at *
  dsimp only
  go_wp2_with fail
  go_loopw [32] (fun i wr => ∃ j : Nat, j ≤ B0.length ∧ i = .int .i64 (j : Int) ∧ II wr p3 B0.length B0 ∧ ∃ gd cd gw cw X Y, E0 w wr a mp mb lst md wm P0 (B0.take j) (B0.take j) gd cd gw cw X Y ∧ ∀ b ∈ B0.take j, ovrs (ofB P0 b) (X b) = Y b) (fun i _ => B0.length - (intOf i).toNat)
  case atStart => exact ⟨0, by omega, rfl, hI3, _, _, _, _, _, _, hE3, fun b hb => by cases hb⟩
  case round =>
    clear hE3 hI3
    obtain ⟨j, hj, rfl, hI, gd, cd, gw, cw, X, Y, hE, hnow⟩ := hrel
    by_cases hlt : j < B0.length
    · obtain ⟨b1, o1, rfl, hc1⟩ := hI.cells (by omega)
      have e1 := hc1 j hlt
      have hb64 := hI.fitAt j
      have hjI : (j : Int) < (B0.length : Int) := by omega
      have hj0 : (0 : Int) ≤ (j : Int) := by omega
      have hT : B0.take (j + 1) = B0.take j ++ [B0.getD j 0] := take_one hlt
      have hnew : B0.getD j 0 ∉ B0.take j := fun hm => by
        obtain ⟨i, hi, e⟩ := List.mem_iff_getElem.1 hm
        rw [List.length_take] at hi
        have h2 := List.pairwise_iff_getElem.1 hBn i j (by omega) hlt (by omega)
        rw [List.getElem_take] at e
        rw [List.getD_eq_getElem?_getD, List.getElem?_eq_getElem hlt] at e
        simp only [Option.getD_some] at e
        omega
      have hlT : (B0.take j).length = j := by rw [List.length_take]; omega
      generalize B0.getD j 0 = y at *
      clear hc1
      go_wp2_with fail
      have hbA := (Below.refl wr.heap.size wr).alloc (Nat.le_refl _) (.cells #[.int .u8 (y % 256)] 5)
      have hBI : BI (wr.alloc (.cells #[.int .u8 (y % 256)] 5)) (some ⟨wr.heap.size, 0, none⟩) 1 [y % 256] := ⟨rfl, by omega, (fun i => by cases i with
        | zero => simp; omega
        | succ i => simp), fun _ => ⟨wr.heap.size, 0, rfl, fun i hi => by
          obtain rfl : i = 0 := by omega
          rw [cell_of_row _ _ 0 _ 5 _ (at_new rfl)]; rfl⟩⟩
      refine (repeat_ok (y % 256) (by omega) ⟨wr.heap.size, 0, none⟩ 1 _ hBI).mono ?_
      rintro _ w4 ⟨g4, rfl, hg4, hB4, hcs4, hb4⟩
      have hbr4 := hbA.trans (hb4.mono hbA.size)
      have hsA : wr.heap.size ≤ (wr.alloc (.cells #[.int .u8 (y % 256)] 5)).heap.size := hbA.size
      obtain ⟨w5, hr5, hE5, hG5⟩ := (hE.on hbr4).dput y hb64 g4 128 _ hB4 (hE.apt hbr4 g4 (by omega)) (by omega) (B0.take j ++ [y]) (fun x => by rw [List.mem_append, List.mem_singleton]; exact Or.comm) (by rw [if_neg hnew]; simp)
      have hI5 := ii_grown (hE.on hbr4).fd hG5 (hI.kept hbr4)
      have hymem : y ∈ B0.take j ++ [y] := by simp
      have hdg := hE5.dget hymem hb64
      rw [upd_same, upd_same] at hdg
      obtain ⟨K5, hPS5, _⟩ := hE5.ps
      have hB5 := hE5.bd y hymem
      rw [upd_same, upd_same] at hB5
      have hno := now_ok hPS5 y hb64 _ 128 _ hB5
      have hbyt5 := hB5.byt
      have hPb := fun p (hp : p ∈ P0) => (hPS5.byt p hp).1.byt
      generalize List.replicate 128 (y % 256) = xs at *
      clear hB4 hcs4 hb4 hBI hbA hbr4 hsA
      dsimp only
      go_wp2_with fail
      refine hno.mono ?_
      rintro _ w6 ⟨g6, c6, rfl, hO6, hb6⟩
      have hB6 := hO6.bi (by omega) (ovrs_byt _ _ (fun p hp => hPb p (mem_ofB.1 hp).1) hbyt5)
      obtain ⟨w7, hr7, hE7, hG7⟩ := (hE5.on hb6).wput y hb64 g6 c6 _ hB6 (hE5.apt hb6 g6 hO6.spot.1) (by omega) hnew
      have hI7 := ii_grown (hE5.on hb6).fw hG7 (hI5.kept hb6)
      clear hno hdg hr5
      dsimp only
      go_wp2_with fail
      go_roundw
      case rel =>
        refine ⟨j + 1, by omega, by go_num, hI7, _, _, _, _, _, _, by rw [hT]; exact hE7, fun b hb => ?_⟩
        rw [hT] at hb
        by_cases e : b = y
        · rw [e, upd_same, upd_same]
        · rw [upd_other _ e, upd_other _ e]
          refine hnow b ?_
          rcases List.mem_append.1 hb with hb | hb
          · exact hb
          · exact absurd (List.mem_singleton.1 hb) e
      case measure => simp [intOf]; omega
    · obtain rfl : j = B0.length := by omega
      rw [List.take_length] at hE hnow
      have hnt : ¬ (B0.length : Int) < (B0.length : Int) := by omega
      have hO2 := hO.kept (w' := wr) (hE.bel)
      clear hI
      go_wp2_with fail
      go_loopw [10, 11] (fun v i wz => ∃ (pl : Nat) (P : List Pv) (gd cd : Int → Nat) (X : Int → List Int), v = .int .i64 (pl : Int) ∧ i = .int .i64 (pl : Int) ∧ pl + P.length ≤ lst ∧ E0 w wz a mp mb lst md wm P B0 B0 gd cd gw cw X Y ∧ (∀ b ∈ B0, ovrs (ofB P b) (X b) = Y b) ∧ ∀ p ∈ P, (p.blk : Int) ∈ B0) (fun v _ _ => lst - (intOf v).toNat)
      case atStart => exact ⟨0, P0, gd, cd, X, rfl, rfl, by omega, hE, hnow, hsub⟩
      case round =>
        clear hE hnow hO2
        obtain ⟨pl, P, gd, cd, X, rfl, rfl, hpl, hE, hnow, hsub⟩ := hrel
        obtain ⟨K1, hPS, _⟩ := hE.ps
        have hids := hPS.ids
        have hbl := blocks_ok hPS
        go_wp2_with fail
        refine hbl.mono ?_
        rintro _ w4 ⟨p4, c4, rfl, hI4, _, _, hb4⟩
        clear hbl
        cases hPe : P with
        | nil =>
          have e0 : (blks ([] : List Pv)).length = 0 := by rw [show blks ([] : List Pv) = [] from rs_nil]; rfl
          rw [e0]
          have hXY : ∀ b ∈ B0, X b = Y b := fun b hb => by
            have := hnow b hb
            rw [hPe] at this
            exact this
          have hE4 := hE.on hb4
          have hfw := hE4.fw
          obtain ⟨D0, hown, hszD, hpD⟩ := hfw
          have HPD : Hid _ := hpD
          clear hpD hI4 e0 hPe hPS hids hE hnow
          dsimp only
          go_wp2_with (first
            | (at_range; refine wpList_range_own _ rfl _ 59 rfl 3 29 keyed3 Try.underlying59 vR wm (size D0) D0 rfl hown ?_; intro w0 hrg0 hg0 hs0))
          have hb0 : Below w4.heap.size w4 w0 := (Below.refl _ _).grown hg0 (Nat.le_refl _) (fun k e => by cases e)
          generalize hrr : w4.heap.size = r10 at *
          go_frame
          go_loopw [23] (fun _ wz => ∃ (left : Lit → Bool) (cnt : Nat), wz.ranges Try.prog 3 vR wm r10 (size D0) D0 left cnt ∧ Below r10 w4 wz) (fun _ wz => wz.rangeLeft wm r10)
          case atStart => exact ⟨_, _, hrg0, hb0⟩
          case round =>
            clear hrg0 hb0 hg0 hs0 hown
            obtain ⟨left, cnt, hrg, hbz2⟩ := hrel
            have hE11 := hE4.on (by rw [hrr]; exact hbz2)
            have hszr : r10 ≤ wr.heap.size := by have := hbz2.size; omega
            go_wp2_with (first
              | (at_next; refine wpList_next_ranges _ rfl _ rfl 3 keyed3 vR (Value.int .i64) id (fun key kl hk => by obtain ⟨x, hx, _⟩ := Maps.keyOf_int_inv Try.underlying3 hk; exact ⟨x, hx⟩) (fun v y hv => ⟨v, rfl⟩) wm r10 (size D0) D0 left cnt rfl hrg ?_ ?_))
            · intro hc0 hl0
              clear hrg
              obtain ⟨K11, hPS11, _⟩ := hE11.ps
              have hla := last_ok hPS11
              have haw := awake_ok wr
              have hple : (pl : Int) ≤ (lst : Int) := by omega
              go_wp2_with fail
              refine same_at hla ?_
              clear hla
              go_wp2_with fail
              refine below_at haw ?_
              intro w12 hb12
              clear haw
              go_wp2_with fail
              go_ret
              exact ⟨rfl, hE11.bel.trans (hb12.mono hE11.bel.size)⟩
            · intro x cc kl yd yp w11 cnt11 hkey hlk hv hat hrg11 hlt11 hg11 hs11 hen
              obtain ⟨x', ex, ekl, hwf⟩ := Maps.keyOf_int_inv Try.underlying3 hkey
              obtain rfl : x = x' := by cases ex; rfl
              have hIx : I64 x := by
                have h1 : IntKind.i64.min = -9223372036854775808 := by decide
                have h2 : IntKind.i64.max = 9223372036854775807 := by decide
                simp only [Lit.wf, h1, h2] at hwf
                simpa [I64] using hwf
              have hkx : kl = ikey x := ekl
              subst hkx
              have hxB : x ∈ B0 := by
                by_cases hx : x ∈ B0
                · exact hx
                · have h1 := (HPD.out x hIx).1 (by unfold fB; rw [if_neg hx])
                  rw [Maps.has_true_of_atKey hat] at h1
                  cases h1
              have hb11 : Below r10 w4 w11 := hbz2.grown hg11 hszr (fun k e => by cases e; exact Nat.le_refl _)
              have hE12 := hE4.on (by rw [hrr]; exact hb11)
              have hdg := hE12.dget hxB hIx
              have hcc : cc = bsl (gw x) (cw x) := by
                obtain ⟨_, d', hd', hat'⟩ := (HPD.out x hIx).2 _ (fB_at hxB)
                have e : d' = yd := (hat' .nil).symm.trans (hat .nil)
                subst e
                exact vR_inj hv hd'
              have hen2 : (Instr.entry (.pointer (some ⟨r10, 0, none⟩))).run Try.prog w11 = .ok (.tuple #[.int .i64 x, .slice (some ⟨gw x, 0, none⟩) 128 (cw x)]) w11 := by
                rw [hen, hcc]; rfl
              have hbe := beq_ok (c := cd x) (d := cw x) (hE12.bd x hxB) (hE12.bw x hxB)
              rw [hXY x hxB, beq_self_eq_true] at hbe
              clear hE11 hkey ex ekl hwf hv hat hg11 hs11 hen hcc
              go_wp2_with fail
              refine same_at hbe ?_
              clear hbe hdg hen2
              go_wp2_with fail
              go_roundw
              case rel => exact ⟨_, cnt11, hrg11, hb11⟩
              case measure => rw [hrg11.left_eq, hrg.left_eq]; exact hlt11
        | cons p0 Pr =>
          have hPne : 1 ≤ P.length := by rw [hPe]; simp
          have hlen1 : 1 ≤ (blks P).length := by
            have : (p0.blk : Int) ∈ blks P := mem_blks.2 ⟨p0, by rw [hPe]; simp, rfl⟩
            exact List.length_pos_iff.2 (fun e => by rw [e] at this; cases this)
          rw [← hPe]
          clear hPe hI4
          have hbl2 := blocks_ok (hPS.kept hb4)
          have hgt : (0 : Int) < ((blks P).length : Int) := by omega
          have hgt2 : 0 < (blks P).length := by omega
          dsimp only
          go_wp2_with fail
          refine hbl2.mono ?_
          rintro _ w5 ⟨p5, c5, rfl, hI5, _, _, hb5⟩
          clear hbl2
          have hb5' := hb4.trans (hb5.mono hb4.size)
          have hO5 := hO.kept (hE.on hb5').bel
          have hol := hO.len
          dsimp only
          go_upto_if 66 with fail
          go_cut [13] (fun v wx => ∃ k : Nat, k ≤ 1000 ∧ v = .int .i64 (k : Int) ∧ wx = w5)
          case first =>
            by_cases hpo : pl < m
            · obtain ⟨b6, o6, rfl, hc6⟩ := hO5.cells (by omega)
              have e6 := hc6 pl hpo
              have h1 : (pl : Int) < (m : Int) := by omega
              have h0 : (0 : Int) ≤ (pl : Int) := by omega
              generalize O.getD pl 0 = z at *
              have hm6 : wrap64 ((IntKind.u64.wrap z).tmod 1000) = (mq 1000 z : Int) := mq_wrap (K := 1000) (by omega) (by omega) z
              have hm6i : IntKind.i64.wrap ((IntKind.u64.wrap z).tmod 1000) = (mq 1000 z : Int) := mq_wrapI (K := 1000) (by omega) (by omega) z
              have hlq := mq_lt (K := 1000) (by omega) z
              clear hc6
              go_wp2_with fail
              go_meet
              case rel => exact ⟨mq 1000 z, by omega, by first | rfl | (rw [hm6]) | (rw [hm6i]), rfl⟩
            · have h1 : ¬ (pl : Int) < (m : Int) := by omega
              go_wp2_with fail
              go_meet
              case rel => exact ⟨pl, by omega, rfl, rfl⟩
          case rest =>
            obtain ⟨k, hk, rfl, hwc⟩ := hcut
            subst hwc
            have hEc := hE.on hb5'
            have hbs : ∀ p ∈ P, 1 ≤ p.bs.length := fun p hp => (hids p hp).2.2.2.1
            have hof : ∀ p ∈ P, p.off + p.bs.length ≤ 128 := fun p hp => (hids p hp).2.2.2.2
            have hBsub : ∀ b ∈ blks P, b ∈ B0 := fun b hb => by
              obtain ⟨p, hp, e⟩ := mem_blks.1 hb
              rw [← e]; exact hsub p hp
            have hlow : ∃ r, r < (blks P).length ∧ plE (plnOf P ((blks P).getD r 0) (X ((blks P).getD r 0))) = 0 := by
              obtain ⟨p1, hp1, hmin⟩ : ∃ p ∈ P, ∀ q ∈ P, p.id ≤ q.id := by
                cases hP : P with
                | nil => rw [hP] at hPne; simp at hPne
                | cons p1 P1 =>
                  refine ⟨p1, by simp, fun q hq => ?_⟩
                  have hs := hEc.good.srt
                  rw [hP] at hs
                  rcases List.mem_cons.1 hq with rfl | hq
                  · exact Nat.le_refl _
                  · exact Nat.le_of_lt ((List.pairwise_cons.1 hs).1 q hq)
              obtain ⟨r, hr, e⟩ := List.mem_iff_getElem.1 (mem_blks.2 ⟨p1, hp1, rfl⟩)
              refine ⟨r, hr, ?_⟩
              have e2 : (blks P).getD r 0 = (p1.blk : Int) := by rw [List.getD_eq_getElem?_getD, List.getElem?_eq_getElem hr]; exact e
              rw [e2]
              have hin := (hEc.good.lowest hbs hp1 hmin (X (p1.blk : Int))).2
              unfold plE
              rw [if_neg (fun e => by rw [show (pst P (ofB P (p1.blk : Int)) ([], X (p1.blk : Int))).1 = [] from e] at hin; cases hin)]
            have hLb := hI5.big
            clear hO5 hE hb4 hb5 hb5' hPS hids
            generalize hBP : blks P = BP at *
            generalize hLL : BP.length = L at *
            have hLl : BP.length = L := hLL
            go_wp2_with fail
            go_loopw [10, 14, 76] (fun v dv i wz => v = .int .i64 (pl : Int) ∧ dv = .bool false ∧ ∃ t : Nat, t ≤ L ∧ i = .int .i64 (t : Int) ∧ Below wc.heap.size wc wz ∧ ∀ t', t' < t → plE (plnOf P (BP.getD ((k + t') % L) 0) (X (BP.getD ((k + t') % L) 0))) ≠ 0) (fun _ _ i _ => L - (intOf i).toNat)
            case atStart => exact ⟨rfl, rfl, 0, by omega, rfl, Below.refl _ _, fun t' h => by omega⟩
            case round =>
              obtain ⟨rfl, rfl, t, ht, rfl, hbz, htr⟩ := hrel
              by_cases htl : t < L
              · have hr := Nat.mod_lt (k + t) (show 0 < L by omega)
                obtain ⟨b7, o7, rfl, hc7⟩ := (hI5.kept hbz).cells (by omega)
                have e7 := hc7 _ hr
                have hy64 := hI5.fitAt ((k + t) % L)
                have hyB : BP.getD ((k + t) % L) 0 ∈ B0 := hBsub _ (getD_mem' (by omega))
                have htt := htr
                obtain ⟨y, hy⟩ : ∃ y, y = BP.getD ((k + t) % L) 0 := ⟨_, rfl⟩
                rw [← hy] at e7 hy64 hyB
                obtain ⟨r, hrr⟩ : ∃ r, r = (k + t) % L := ⟨_, rfl⟩
                rw [← hrr] at hr e7
                have hmod : ((k : Int) + (t : Int)).tmod (L : Int) = (r : Int) := by
                  rw [hrr, ← Int.natCast_add, ← Int.ofNat_tmod]
                have h1 : (t : Int) < (L : Int) := by omega
                have h2 : (0 : Int) ≤ (r : Int) := by omega
                have h3 : (r : Int) < (L : Int) := by omega
                have hw1 : IntKind.i64.wrap ((k : Int) + (t : Int)) = (k : Int) + (t : Int) := IntWalk.i64_in _ (by omega)
                have hw2 : wrap64 ((k : Int) + (t : Int)) = (k : Int) + (t : Int) := by unfold wrap64; omega
                have hL0 : ¬ (L : Int) = 0 := by omega
                have hEz := hEc.on hbz
                have hdg := hEz.dget hyB hy64
                obtain ⟨K8, hPS8, _⟩ := hEz.ps
                have hpln := plan_ok hPS8 y hy64 _ (cd y) _ (hEz.bd y hyB)
                have hplen := pl_len hPS8 y (X y)
                have hpi := pl_i64 hPS8 y (X y)
                have hsm8 := hPS8.sml
                have hPb8 := fun p (hp : p ∈ P) => (hPS8.byt p hp).1.byt
                have hXl := (hEz.bd y hyB).len
                have hXb := (hEz.bd y hyB).byt
                have HTR : Hid _ := htr
                have HY : Hid _ := hy
                have HRR : Hid _ := hrr
                clear hc7 htr htt hy hrr
                go_wp2_with fail
                refine hpln.mono ?_
                rintro _ w8 ⟨ov, iv, er, rfl, hb8, HR⟩
                clear hpln hdg
                have hEE : ∀ S : List Int × List Int, plE S = if S.1 = [] then 71 else 0 := fun S => rfl
                rcases HR.out with ⟨h1s, rfl, rfl, rfl⟩ | ⟨h1s, rfl, ⟨g0, cap0, rfl, hO8⟩, hN8⟩
                · have HH : Hid (plE (plnOf P y (X y)) ≠ 0) := by
                    show plE (plnOf P y (X y)) ≠ 0
                    rw [hEE, if_pos (show (plnOf P y (X y)).1 = [] from h1s)]
                    decide
                  clear h1s HR
                  dsimp only
                  go_wp2_with fail
                  go_roundw
                  case rel =>
                    refine ⟨rfl, rfl, t + 1, by omega, by go_num, hbz.trans (hb8.mono hbz.size), fun t' ht' => ?_⟩
                    by_cases e : t' = t
                    · rw [e, ← HRR.out]
                      have e2 := HY.out
                      rw [← HRR.out] at e2
                      rw [← e2]
                      exact HH.out
                    · exact HTR.out t' (by omega)
                  case measure => simp [intOf]; omega
                · have h1s' : (plnOf P y (X y)).1 ≠ [] := h1s
                  obtain ⟨qi, ci, hqv, hI8, _⟩ := hN8.ii (by have : (pst P (ofB P y) ([], X y)).1.length ≤ 1000 := hplen; omega) (fun x hx => by have := hpi x hx; exact ⟨by omega, by omega⟩)
                  subst hqv
                  have hB8 : BI w8 (some ⟨g0, 0, none⟩) 128 (plnOf P y (X y)).2 := hO8.bi (by omega) (pst_byt P _ _ (fun p hp => hPb8 p (mem_ofB.1 hp).1) hXb)
                  have hE8 := hEz.on hb8
                  have hap := hEz.apt hb8 g0 hO8.spot.1
                  have hdn := hE8.done y (X y) qi _ ci hI8 g0 _ hB8 hap
                  have hnow' : ∀ b ∈ B0, ovrs (ofB (kpP P (plnOf P y (X y)).1) b) (upd X y (plnOf P y (X y)).2 b) = Y b := fun b hb => by
                    by_cases e : b = y
                    · rw [e, upd_same, hEz.good.now hof y hXl]
                      rw [← e]; exact hnow b hb
                    · rw [upd_other _ e, hEz.good.else y b e (X y)]
                      exact hnow b hb
                  have hsub' : ∀ p ∈ kpP P (plnOf P y (X y)).1, (p.blk : Int) ∈ B0 := fun p hp => hsub p (mem_kpP.1 hp).1
                  have hlen' : (kpP P (plnOf P y (X y)).1).length < P.length := by
                    obtain ⟨x, hx⟩ := List.exists_mem_of_ne_nil _ h1s'
                    obtain ⟨p1, hp1, e, _⟩ := (hEz.good.planned y (X y)).2 x hx
                    exact kpP_lt hp1 (by rw [e]; exact hx)
                  generalize hSn : plnOf P y (X y) = S at *
                  have hSn2 : pst P (ofB P y) ([], X y) = S := hSn
                  rw [hSn2] at hI8 hdn ⊢
                  clear h1s HR hEE hO8 hN8 hap hE8 hSn hSn2 hEz hPS8 hPb8 hXb hXl hplen hpi
                  dsimp only
                  go_wp2_with fail
                  refine hdn.mono ?_
                  rintro _ w9 ⟨rfl, hE9, hB9, hA9⟩
                  obtain ⟨w10, hr10, hE10, hG10⟩ := hE9.dput y hy64 g0 cap0 _ hB9 hA9 (by omega) B0 (fun x => ⟨fun h => .inr h, fun h => h.elim (fun e => by rw [e]; exact hyB) id⟩) (by rw [if_pos hyB])
                  clear hdn hE9 hB9 hA9 hG10
                  dsimp only
                  go_wp2_with fail
                  obtain ⟨K10, hPS10, _⟩ := hE10.ps
                  have hla := last_ok hPS10
                  refine same_at hla ?_
                  clear hla
                  have hple : (pl : Int) + 1 ≤ (lst : Int) := by omega
                  have hple2 : ¬ (lst : Int) < (pl : Int) + 1 := by omega
                  have hfw := hE10.fw
                  obtain ⟨D0, hown, hszD, hpD⟩ := hfw
                  have HPD : Hid _ := hpD
                  clear hpD
                  generalize upd gd y g0 = gd' at *
                  generalize upd cd y cap0 = cd' at *
                  generalize upd X y S.2 = X' at *
                  generalize kpP P S.1 = P' at *
                  go_wp2_with (first
                    | (at_range; refine wpList_range_own _ rfl _ 59 rfl 3 29 keyed3 Try.underlying59 vR wm (size D0) D0 rfl hown ?_; intro w0 hrg0 hg0 hs0))
                  have hb0 : Below w10.heap.size w10 w0 := (Below.refl _ _).grown hg0 (Nat.le_refl _) (fun k e => by cases e)
                  generalize hrr : w10.heap.size = r10 at *
                  go_frame
                  go_loopw [20] (fun _ wz => ∃ (left : Lit → Bool) (cnt : Nat), wz.ranges Try.prog 3 vR wm r10 (size D0) D0 left cnt ∧ Below r10 w10 wz) (fun _ wz => wz.rangeLeft wm r10)
                  case atStart => exact ⟨_, _, hrg0, hb0⟩
                  case round =>
                    clear hrg0 hb0 hg0 hs0 hown
                    obtain ⟨left, cnt, hrg, hbz2⟩ := hrel
                    have hE11 := hE10.on (by rw [hrr]; exact hbz2)
                    have hszr : r10 ≤ wr.heap.size := by have := hbz2.size; omega
                    go_wp2_with (first
                      | (at_next; refine wpList_next_ranges _ rfl _ rfl 3 keyed3 vR (Value.int .i64) id (fun key kl hk => by obtain ⟨x, hx, _⟩ := Maps.keyOf_int_inv Try.underlying3 hk; exact ⟨x, hx⟩) (fun v y hv => ⟨v, rfl⟩) wm r10 (size D0) D0 left cnt rfl hrg ?_ ?_))
                    · intro hc0 hl0
                      clear hrg
                      go_wp2_with fail
                      go_roundw
                      case rel => exact ⟨pl + 1, P', gd', cd', X', by go_num, by go_num, by omega, hE11, hnow', hsub'⟩
                      case measure => simp [intOf]; omega
                    · intro x cc kl yd yp w11 cnt11 hkey hlk hv hat hrg11 hlt11 hg11 hs11 hen
                      obtain ⟨x', ex, ekl, hwf⟩ := Maps.keyOf_int_inv Try.underlying3 hkey
                      obtain rfl : x = x' := by cases ex; rfl
                      have hIx : I64 x := by
                        have h1 : IntKind.i64.min = -9223372036854775808 := by decide
                        have h2 : IntKind.i64.max = 9223372036854775807 := by decide
                        simp only [Lit.wf, h1, h2] at hwf
                        simpa [I64] using hwf
                      have hkx : kl = ikey x := ekl
                      subst hkx
                      have hxB : x ∈ B0 := by
                        by_cases hx : x ∈ B0
                        · exact hx
                        · have h1 := (HPD.out x hIx).1 (by unfold fB; rw [if_neg hx])
                          rw [Maps.has_true_of_atKey hat] at h1
                          cases h1
                      have hb11 : Below r10 w10 w11 := hbz2.grown hg11 hszr (fun k e => by cases e; exact Nat.le_refl _)
                      have hE12 := hE10.on (by rw [hrr]; exact hb11)
                      have hdg := hE12.dget hxB hIx
                      obtain ⟨K12, hPS12, _⟩ := hE12.ps
                      have hno := now_ok hPS12 x hIx _ (cd' x) _ (hE12.bd x hxB)
                      rw [hnow' x hxB] at hno
                      have hYb := (hE12.bw x hxB).byt
                      clear hE11 hkey ex ekl hwf hv hat hg11 hs11
                      go_wp2_with fail
                      refine hno.mono ?_
                      rintro _ w13 ⟨g13, c13, rfl, hO13, hb13⟩
                      have hb13' : Below r10 w10 w13 := hb11.trans (hb13.mono (by have := hb11.size; omega))
                      have hE13 := hE12.on hb13
                      have hwg := hE13.wget hxB hIx
                      have hbe := beq_ok (c := c13) (d := cw x) (hO13.bi (by omega) hYb) (hE13.bw x hxB)
                      rw [beq_self_eq_true] at hbe
                      clear hno hdg
                      dsimp only
                      go_wp2_with fail
                      refine same_at hbe ?_
                      clear hbe hwg
                      have hrg13 := hrg11.kept (grown_below hb13 none) (by simp) (by simp)
                      go_wp2_with fail
                      go_roundw
                      case rel => exact ⟨_, cnt11, hrg13, hb13'⟩
                      case measure => rw [hrg13.left_eq, hrg.left_eq]; exact hlt11
              · exfalso
                obtain rfl : t = L := by omega
                obtain ⟨r, hr, hrE⟩ := hlow
                have hL : 0 < t := by omega
                refine htr ((r + t * k - k) % t) (Nat.mod_lt _ hL) ?_
                have e : (k + (r + t * k - k) % t) % t = r := by
                  have hk2 : k ≤ t * k := Nat.le_mul_of_pos_left k hL
                  rw [Nat.add_mod_mod, show k + (r + t * k - k) = r + t * k by omega, Nat.add_mul_mod_self_left, Nat.mod_eq_of_lt hr]
                rw [e]
                exact hrE
end Go.Proofs.Yteapkfnklbhdfaa
