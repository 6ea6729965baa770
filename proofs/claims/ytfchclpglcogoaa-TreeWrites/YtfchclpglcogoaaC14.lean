/- TreeWrites: what two writes leave: the walk of the law. -/
import Derived.Test.YtfchclpglcogoaaC13
namespace Go.Proofs.Ytfchclpglcogoaa
open Go.RowKit Go.Maps
set_option linter.unusedVariables false
set_option maxRecDepth 100000

set_option maxHeartbeats 4000000 in
theorem treeWrites_walk (o0 n0 : Int) (p q : Option Addr) (nb cb nc cc : Nat) (b c : List Int) (w : World) (hb : BI w p nb b) (hc : BI w q nc c) :
    Calls Try.prog 3 #[.int .i64 o0, .int .i64 n0, .slice p nb cb, .slice q nc cc] w fun e w' => e = .returned (.bool true) ∧ Below w.heap.size w w' := by
  obtain ⟨i0, hi, hz0, hz1, hz2⟩ := info_parts info5
  have hnew := new_ok w
  go_enter Try.func3, Try.ntmps3
  go_wp2_with fail
  refine Calls.mono hnew ?_
  rintro e w1 ⟨a, mb, n, nm, rfl, hN⟩
  have hdc := docreate_ok (w := w1) (a := a) (mb := mb) (n := n) (nm := nm) ⟨hN.row, hN.nodes, hN.root, hN.names⟩
  unfold sSF at hdc
  clear hnew
  dsimp only
  go_wp2_with fail
  refine Calls.mono hdc ?_
  rintro e w2 ⟨rfl, f, pm, h2, hf2, hp2, hF2⟩
  have hB2 : Below w.heap.size w w2 := by
    have ho := hN.own
    have hz := hN.bel.size
    refine ⟨hF2.os.trans hN.bel.os, hF2.tape.trans hN.bel.tape, hF2.output.trans hN.bel.output, Nat.le_trans hz hF2.size, fun k hk => (hF2.block k (by omega) (fun e => by omega)).trans (hN.bel.block k hk)⟩
  have HO : Hid (w.heap.size ≤ a ∧ w.heap.size ≤ mb ∧ w.heap.size ≤ f ∧ w.heap.size ≤ pm) := by have := hN.own; have := hN.bel.size; show _ ∧ _; omega
  obtain ⟨W3, hW3⟩ : ∃ W3, (w2.alloc (.cells #[.int .i64 0, .slice none 0 0, .slice none 0 0, .int .i64 0, .int .i64 0, .int .i64 0] 27)).setRow w2.heap.size (ansC 0 (.slice none 0 0)) = W3 := ⟨_, rfl⟩
  have hb3 : Below w2.heap.size w2 W3 := by rw [← hW3]; exact below_setRow (grew_alloc w2 _) (Nat.le_refl _) _
  have hr3 : W3.heap[w2.heap.size]? = some (.cells (ansC 0 (.slice none 0 0)) 27 (0, 0)) := by rw [← hW3]; exact setRow_heap _ _ _ _ 27 _ (at_new rfl)
  have k3 : W3.cell? ⟨w2.heap.size, 0, none⟩ = some (.int .i64 0) := (cell_of_row _ _ 0 _ 27 _ hr3).trans rfl
  have h3 := h2.kept hb3
  have hB3 := hB2.trans (hb3.mono hB2.size)
  have hz3 : W3.heap.size = w2.heap.size + 1 := by rw [← hW3]; simp
  obtain ⟨off, hoff⟩ : ∃ off, mq 5000 o0 = off := ⟨_, rfl⟩
  obtain ⟨n1, hn1⟩ : ∃ n1, mq 5000 n0 = n1 := ⟨_, rfl⟩
  have hlo : off ≤ 5000 := hoff ▸ mq_le o0
  have hln : n1 ≤ 5000 := hn1 ▸ mq_le n0
  have hbB := hb.big
  have hcB := hc.big
  have hbl := hb.len
  have hcl := hc.len
  obtain ⟨hs1, hs1w⟩ := sum_in hlo hbB
  obtain ⟨hs2, hs2w⟩ := sum_in hln hcB
  have hmx := @max_in off nb n1 nc
  have hM2 := max_le hlo hbB hln hcB
  obtain ⟨M, hM⟩ : ∃ M, M = max (off + nb) (n1 + nc) := ⟨_, rfl⟩
  rw [← hM] at hmx hM2
  have HM : Hid (M = max (off + nb) (n1 + nc) ∧ M ≤ 140737488370000) := ⟨hM, hM2⟩
  have HD : Hid (off ≤ 5000 ∧ n1 ≤ 5000 ∧ b.length = nb ∧ c.length = nc ∧ nb ≤ 140737488355328 ∧ nc ≤ 140737488355328) := ⟨hlo, hln, hbl, hcl, hbB, hcB⟩
  have HM1 : Hid (1 * M ≤ 281474976710656 ∧ M ≤ maxLen) := by show _ ∧ _; unfold maxLen; omega
  have HZ : Hid (W3.heap.size = w2.heap.size + 1) := hz3
  obtain ⟨hmo, hmoi⟩ := mq_w5 o0 hoff
  obtain ⟨hmn, hmni⟩ := mq_w5 n0 hn1
  clear hdc hN hF2 hr3 hbl hcl hM hM2 hoff hn1 hz3 hlo hln hbB hcB hf2 hp2
  unfold ansV
  dsimp only
  go_upto_region 7 with (first
    | (refine wpList_store_row rfl 27 (.tmp 10) _ rfl w2.heap.size (ansC 0 (.slice none 0 0)) rfl rfl 27 _ (at_new rfl) info27 rfl (ans_one _ _ _ _) ?_; rw [hW3])
    | (at_make; refine wpList_make_full _ rfl _ _ 22 rfl W3.heap.size 5 i0 (.int .u8 0) 1 Try.underlying22 hi hz0 hz1 .i64 .i64 _ _ M rfl rfl rfl rfl (by rw [hz2]; exact HM1.out.1) (HM1.out.2) (Nat.le_refl _) ?_; intro w4 hown4 hgrow4))
  rw [made_zero] at hown4
  have hb4 : Below W3.heap.size W3 w4 := (Below.refl _ _).grown hgrow4 (Nat.le_refl _) (by intro k hk; cases hk)
  have hr4 : w4.heap[W3.heap.size]? = some (.cells (aP (List.replicate M 0)) 5 (0, 0)) := by
    rw [own_row hown4]
    simp [aP]
  have h4 := h3.kept hb4
  have hB4 := hB3.trans (hb4.mono hB3.size)
  obtain ⟨t1, t2, HT, e1, e2, w1', w2', w3', w4', l1, l2, l3, l4⟩ := sums_ok HD.out.1 HD.out.2.1 HD.out.2.2.2.2.1 HD.out.2.2.2.2.2 HM.out.1
  have HLW : Hid _ := lenW_cases off n1 nb nc
  clear hmo hmoi hmn hmni hs1 hs2 hs1w hs2w hmx
  go_cut [57] (fun v wx => v = .bool (decide (nb = 0 ∧ nc = 0)) ∧ w4 = wx)
  case first =>
    by_cases hnb : nb = 0
    · subst hnb
      by_cases hnc : nc = 0
      · subst hnc
        go_wp2_with fail
        go_meet
        exact ⟨by simp, rfl⟩
      · have q1 : ((nc : Int) == 0) = false := by simp [hnc]
        go_wp2_with fail
        go_meet
        exact ⟨by simp [hnc], rfl⟩
    · have q1 : ((nb : Int) == 0) = false := by simp [hnb]
      have q2 : ¬ (nb : Int) = 0 := by simp [hnb]
      go_wp2_with fail
      go_meet
      exact ⟨by simp [hnb], rfl⟩
  case rest =>
  obtain ⟨rfl, rfl⟩ := hcut
  go_upto_if 57 with fail
  go_cut [12] (fun v wx => Wn wx W3.heap.size v (lenW off n1 nb nc) (List.replicate (lenW off n1 nb nc) 0) ∧ w4 = wx)
  case first =>
    have HK : Hid (∀ K, K ≤ M → 0 < K → Wn w4 W3.heap.size (.slice (some ⟨W3.heap.size, 0, none⟩) K M) K (List.replicate K 0)) := fun K hK hp => Wn.zeros hr4 HM.out.2 hK hp
    by_cases hnb : nb = 0
    · by_cases hnc : nc = 0
      · have d0 : decide (nb = 0 ∧ nc = 0) = true := by simp [hnb, hnc]
        have HL : Hid (lenW off n1 nb nc = 0) := HLW.out.1 hnb hnc
        subst hnb
        subst hnc
        go_wp2_with fail
        go_meet
        rw [HL.out]
        exact ⟨⟨rfl, ⟨none, 0, rfl, Nat.le_refl _, Nat.zero_le _, fun _ => rfl, fun h => absurd h (Nat.lt_irrefl _)⟩, rep_byt 0⟩, rfl⟩
      · have d0 : decide (nb = 0 ∧ nc = 0) = false := by simp [hnc]
        have HL : Hid (lenW off n1 nb nc = t2 ∧ 0 < t2) := by rw [HT.out.2]; exact HLW.out.2.1 hnb hnc
        subst hnb
        go_wp2_with fail
        go_meet
        rw [HL.out.1]
        refine ⟨?_, rfl⟩
        exact HK.out t2 (Int.ofNat_le.1 l2) HL.out.2
    · have d0 : decide (nb = 0 ∧ nc = 0) = false := by simp [hnb]
      have q1 : ((nb : Int) == 0) = false := by simp [hnb]
      have q2 : ¬ (nb : Int) = 0 := by simp [hnb]
      by_cases hnc : nc = 0
      · have HL : Hid (lenW off n1 nb nc = t1 ∧ 0 < t1) := by rw [HT.out.1]; exact HLW.out.2.2.1 hnb hnc
        subst hnc
        go_wp2_with fail
        go_meet
        rw [HL.out.1]
        refine ⟨?_, rfl⟩
        exact HK.out t1 (Int.ofNat_le.1 l1) HL.out.2
      · have HL : Hid (lenW off n1 nb nc = M ∧ 0 < M) := by rw [HM.out.1]; exact HLW.out.2.2.2 hnb hnc
        have q3 : ((nc : Int) == 0) = false := by simp [hnc]
        have q4 : ¬ (nc : Int) = 0 := by simp [hnc]
        clear hnb hnc
        go_wp2_with fail
        go_meet
        rw [HL.out.1]
        refine ⟨?_, rfl⟩
        exact HK.out M (Nat.le_refl _) HL.out.2
  case rest =>
  obtain ⟨hwn, rfl⟩ := hcut
  obtain ⟨gp, C, rfl, hLC, hC9, hgp0, hgp1⟩ := hwn.val
  have HGP : Hid ((lenW off n1 nb nc = 0 → gp = none) ∧ (0 < lenW off n1 nb nc → gp = some ⟨W3.heap.size, 0, none⟩) ∧ lenW off n1 nb nc ≤ C ∧ C ≤ 140737488370000) := ⟨hgp0, fun h => (hgp1 h).1, hLC, hC9⟩
  clear hgp0 hgp1 hLC hC9
  have hB4l : W3.heap.size < w4.heap.size := (Array.getElem?_eq_some_iff.1 hr4).1
  obtain ⟨W5, hW5⟩ : ∃ W5, w4.alloc (.cells #[.int .i64 (off : Int), .slice p nb cb, .int .i64 (n1 : Int), .slice q nc cc] 34) = W5 := ⟨_, rfl⟩
  have hb5 : Below w4.heap.size w4 W5 := by rw [← hW5]; exact grew_alloc w4 _
  have hr5 : W5.heap[w4.heap.size]? = some (.cells #[.int .i64 (off : Int), .slice p nb cb, .int .i64 (n1 : Int), .slice q nc cc] 34 (0, 0)) := by rw [← hW5]; exact at_new rfl
  have h5 := h4.kept hb5
  have hB5 := hB4.trans (hb5.mono hB4.size)
  have hwn5 := hwn.kept (hb5.block W3.heap.size hB4l)
  clear hown4 hgrow4 k3 hW3
  have hfl : f < W3.heap.size := (Array.getElem?_eq_some_iff.1 h3.ct.row).1
  have hpl : pm < W3.heap.size := h3.ct.mf.lt
  have HQ : Hid (f < W3.heap.size ∧ pm < W3.heap.size ∧ W3.heap.size < w4.heap.size) := ⟨hfl, hpl, hB4l⟩
  have HZ3 : Hid (w.heap.size ≤ W3.heap.size) := hB3.size
  have HB : Hid (BI w p nb b ∧ BI w q nc c) := ⟨hb, hc⟩
  have HC : Hid (nb = b.length ∧ nc = c.length) := ⟨HD.out.2.2.1.symm, HD.out.2.2.2.1.symm⟩
  clear hfl hpl hB4l h3 hb3 hB3 hb4 hr4 h4 hB4 e1 e2 w1' w2' w3' w4' l1 l2 l3 l4 hwn hb5 h2 hB2
  go_wp2_with fail
  go_loopw [84] (fun iv wr => ∃ (j N : Nat) (zs : List Int), j ≤ 2 ∧ iv = .int .i64 (j : Int) ∧ FT wr a mb f pm N (preW off n1 b c j) ∧ N ≤ 600000 * j ∧ (preW off n1 b c j).length ≤ 532992 ∧ Wn wr W3.heap.size (.slice gp (lenW off n1 nb nc) C) (lenW off n1 nb nc) zs ∧ (∀ i, zs.getD i 0 = (preW off n1 b c j).getD i 0) ∧ wr.heap[w4.heap.size]? = some (.cells #[.int .i64 (off : Int), .slice p nb cb, .int .i64 (n1 : Int), .slice q nc cc] 34 (0, 0)) ∧ Below w.heap.size w wr) (fun iv _ => 2 - (intOf iv).toNat)
  case atStart =>
    refine ⟨0, 0, _, by omega, rfl, h5, by omega, by simp [preW], hwn5, fun i => ?_, hr5, hB5⟩
    rw [List.getD_eq_getElem?_getD, List.getElem?_replicate]
    simp only [preW]
    split <;> simp
  case round =>
    clear h5 hwn5 hr5 hB5 hW5
    obtain ⟨j, N, zs, hj, rfl, hF, hN, hxl, hW, hzx, hrs, hbr⟩ := hrel
    by_cases hj2 : j < 2
    · obtain ⟨o, sp, sn, sc, bs, HE, hbs, hc0, hc1⟩ : ∃ (o : Nat) (sp : Option Addr) (sn sc : Nat) (bs : List Int), Hid (o ≤ 5000 ∧ preW off n1 b c (j + 1) = wrt (preW off n1 b c j) o bs ∧ (0 < sn → o + sn ≤ lenW off n1 nb nc) ∧ bs.length = sn) ∧ BI w sp sn bs ∧ wr.cell? ⟨w4.heap.size, j * 2, none⟩ = some (.int .i64 (o : Int)) ∧ wr.cell? ⟨w4.heap.size, j * 2 + 1, none⟩ = some (.slice sp sn sc) := by
        have hL := HLW.out
        have hd := HD.out
        obtain hj0 | hj1 : j = 0 ∨ j = 1 := by omega
        · subst hj0
          refine ⟨off, p, nb, cb, b, ⟨hd.1, rfl, fun h => ?_, hd.2.2.1⟩, HB.out.1, (cell_of_row _ _ 0 _ 34 _ hrs).trans rfl, (cell_of_row _ _ 1 _ 34 _ hrs).trans rfl⟩
          by_cases h2 : nc = 0
          · rw [(hL.2.2.1 (by omega) h2).1]; omega
          · rw [(hL.2.2.2 (by omega) h2).1]; omega
        · subst hj1
          refine ⟨n1, q, nc, cc, c, ⟨hd.2.1, rfl, fun h => ?_, hd.2.2.2.1⟩, HB.out.2, (cell_of_row _ _ 2 _ 34 _ hrs).trans rfl, (cell_of_row _ _ 3 _ 34 _ hrs).trans rfl⟩
          by_cases h2 : nb = 0
          · rw [(hL.2.1 h2 (by omega)).1]; omega
          · rw [(hL.2.2.2 h2 (by omega)).1]; omega
      have HJ : Hid (j < 2 ∧ N ≤ 600000 * j ∧ (preW off n1 b c j).length ≤ 532992) := ⟨hj2, hN, hxl⟩
      have HZX : Hid (∀ i, zs.getD i 0 = (preW off n1 b c j).getD i 0) := hzx
      have HRS : Hid (wr.heap[w4.heap.size]? = some (.cells #[.int .i64 (off : Int), .slice p nb cb, .int .i64 (n1 : Int), .slice q nc cc] 34 (0, 0))) := hrs
      obtain ⟨W6, hW6⟩ : ∃ W6, wr.alloc (.cells #[.int .i64 (o : Int), .slice sp sn sc] 34) = W6 := ⟨_, rfl⟩
      have hjI : (j : Int) < 2 := by omega
      clear hzx hN hxl hj hrs
      go_upto_region 15 with fail
      go_cut [14] (fun v wx => v = .pointer (some ⟨wr.heap.size, 0, none⟩) ∧ W6 = wx)
      case first =>
        obtain hj0 | hj1 : j = 0 ∨ j = 1 := by omega
        · subst hj0
          go_wp2_with fail
          go_meet
          exact ⟨rfl, rfl⟩
        · subst hj1
          go_wp2_with fail
          go_meet
          exact ⟨rfl, rfl⟩
      case rest =>
      obtain ⟨rfl, rfl⟩ := hcut
      have hb6 : Below wr.heap.size wr W6 := by rw [← hW6]; exact grew_alloc wr _
      have hr6 : W6.heap[wr.heap.size]? = some (.cells #[.int .i64 (o : Int), .slice sp sn sc] 34 (0, 0)) := by rw [← hW6]; exact at_new rfl
      have hB6 := hbr.trans (hb6.mono hbr.size)
      have h6 := hF.kept hb6
      have hrl : wr.heap.size < W6.heap.size := (Array.getElem?_eq_some_iff.1 hr6).1
      have hbs6 := hbs.kept hB6
      have HFR : Hid (f < wr.heap.size ∧ pm < wr.heap.size ∧ w4.heap.size < wr.heap.size) := ⟨(Array.getElem?_eq_some_iff.1 hF.ct.row).1, hF.ct.mf.lt, (Array.getElem?_eq_some_iff.1 HRS.out).1⟩
      have HRS6 : Hid (W6.heap[w4.heap.size]? = some (.cells #[.int .i64 (off : Int), .slice p nb cb, .int .i64 (n1 : Int), .slice q nc cc] 34 (0, 0))) := (hb6.block _ HFR.out.2.2).trans HRS.out
      have HW6 : Hid (Wn W6 W3.heap.size (.slice gp (lenW off n1 nb nc) C) (lenW off n1 nb nc) zs) := hW.kept (hb6.block _ (Nat.lt_trans HQ.out.2.2 HFR.out.2.2))
      have HH6 : Hid (FT W6 a mb f pm N (preW off n1 b c j)) := h6
      have HFL : Hid (f < W6.heap.size ∧ pm < W6.heap.size) := ⟨(Array.getElem?_eq_some_iff.1 h6.ct.row).1, h6.ct.mf.lt⟩
      have HB6 : Hid (Below w.heap.size w W6 ∧ BI W6 sp sn bs ∧ wr.heap.size < W6.heap.size) := ⟨hB6, hbs6, hrl⟩
      have HBS : Hid (BI w sp sn bs) := hbs
      clear hW6 hF hb6 hc0 hc1 hbs hW hbr HRS h6 hB6 hbs6 hrl
      go_upto_region 16 with fail
      go_cut [15, 16] (fun v15 v16 wx => R16 W6 a mb f pm N o sn (preW off n1 b c j) bs v15 v16 wx)
      case first => 
        have k0 : W6.drew.cell? ⟨wr.heap.size, 0, none⟩ = some (.int .i64 (o : Int)) := (cell_of_row W6.drew _ 0 _ 34 _ hr6).trans rfl
        have k1 : W6.drew.cell? ⟨wr.heap.size, 1, none⟩ = some (.slice sp sn sc) := (cell_of_row W6.drew _ 1 _ 34 _ hr6).trans rfl
        have hcl : ∀ X, Below W6.heap.size W6 X → Calls Try.prog 6 #[.slice sp sn sc] X fun e w' => ∃ q m d, e = .returned (.slice q m d) ∧ m ≤ d ∧ d ≤ 9223372036854775807 ∧ sn = m ∧ BI w' q m bs ∧ (∀ g o, q = some ⟨g, o, none⟩ → X.heap.size ≤ g) ∧ Below X.heap.size X w' := fun X hX => bclone_ok sp sn sc bs X (HB6.out.2.1.kept hX)
        have hdo : ∀ X q d, Below W6.heap.size W6 X → (∀ g o, q = some ⟨g, o, none⟩ → W6.heap.size ≤ g) → sn ≤ d ∧ d ≤ 9223372036854775807 → BI X q sn bs → Calls Try.prog 5 #[.pointer (some ⟨a, 0, none⟩), .agg #[.int .i64 6, .int .i64 0, .int .i64 (o : Int), .int .i64 0, .string ⟨#[]⟩, .string ⟨#[]⟩, .slice q sn d]] X fun e w' =>
          (532992 < o + sn → e = .returned (.tuple #[ansV 0 (.slice none 0 0), .int .i64 150]) ∧ Below X.heap.size X w') ∧
          (o + sn ≤ 532992 → e = .returned (.tuple #[ansV (sn : Int) (.slice none 0 0), .int .i64 0]) ∧ FT w' a mb f pm (N + sn) (wrt (preW off n1 b c j) o bs) ∧ Fr (fun k => k = f ∨ k = pm) X w') := fun X q d hX hq hd hb => dowrite_ok (HH6.out.kept hX) o q sn d bs hb hd (fun g o' e => by have := hq g o' e; have := HFL.out; omega) HE.out.1 (by have := HJ.out; omega)
        obtain ⟨A, E, HAE, hdo2⟩ : ∃ A E : Int, Hid ((532992 < o + sn → E = 150) ∧ (o + sn ≤ 532992 → E = 0 ∧ A = (sn : Int))) ∧ ∀ X q d, Below W6.heap.size W6 X → (∀ g o, q = some ⟨g, o, none⟩ → W6.heap.size ≤ g) → sn ≤ d ∧ d ≤ 9223372036854775807 → BI X q sn bs → Calls Try.prog 5 #[.pointer (some ⟨a, 0, none⟩), .agg #[.int .i64 6, .int .i64 0, .int .i64 (o : Int), .int .i64 0, .string ⟨#[]⟩, .string ⟨#[]⟩, .slice q sn d]] X fun e w' =>
          e = .returned (.tuple #[.agg #[.int .i64 A, .slice none 0 0, .slice none 0 0, .int .i64 0, .int .i64 0, .int .i64 0], .int .i64 E]) ∧ Hid (o + sn ≤ 532992 → FT w' a mb f pm (N + sn) (wrt (preW off n1 b c j) o bs)) ∧ Fr (fun k => k = f ∨ k = pm) X w' := by
          by_cases hbig : 532992 < o + sn
          · refine ⟨0, 150, ⟨fun _ => rfl, fun h => by omega⟩, fun X q d h1 h2 h3 h4 => (hdo X q d h1 h2 h3 h4).mono ?_⟩
            rintro e w' ⟨h5, _⟩
            obtain ⟨rfl, h6⟩ := h5 hbig
            exact ⟨rfl, (fun h => by omega : _ → _), Fr.below h6⟩
          · refine ⟨(sn : Int), 0, ⟨fun h => by omega, fun _ => ⟨rfl, rfl⟩⟩, fun X q d h1 h2 h3 h4 => (hdo X q d h1 h2 h3 h4).mono ?_⟩
            rintro e w' ⟨_, h5⟩
            obtain ⟨rfl, h6, h7⟩ := h5 (by omega)
            exact ⟨rfl, (fun _ => h6 : _ → _), h7⟩
        have HBD : Hid (Below W6.heap.size W6 W6.drew) := (Below.refl _ _).drew
        have HBA : Hid (Below W6.heap.size W6 (W6.alloc (.cells #[.int .i64 0, .slice none 0 0, .slice none 0 0, .int .i64 0, .int .i64 0, .int .i64 0] 27)).drew) := ((Below.refl _ _).alloc (Nat.le_refl _) _).drew
        have kA0 : (W6.alloc (.cells #[.int .i64 0, .slice none 0 0, .slice none 0 0, .int .i64 0, .int .i64 0, .int .i64 0] 27)).drew.cell? ⟨wr.heap.size, 0, none⟩ = some (.int .i64 (o : Int)) := (HBA.out.cell (p := ⟨wr.heap.size, 0, none⟩) (lt_of_cell k0)).trans k0
        have kA1 : (W6.alloc (.cells #[.int .i64 0, .slice none 0 0, .slice none 0 0, .int .i64 0, .int .i64 0, .int .i64 0] 27)).drew.cell? ⟨wr.heap.size, 1, none⟩ = some (.slice sp sn sc) := (HBA.out.cell (p := ⟨wr.heap.size, 1, none⟩) (lt_of_cell k0)).trans k1
        clear hdo hr6 HE HJ HZX HRS6 HW6 HFR HB6 hjI hj2 HGP HQ HB HC HLW HT HM1 HZ HM HD HO hi hz0 hz1 hz2 hb hc
        go_region_with (first
            | (go_at_call 6; refine Calls.mono (hcl _ ?hx) ?_; (case hx => first | exact HBD.out | exact HBA.out); rintro e w7 ⟨q7, m7, d7, rfl, hm7, hd7, rfl, hB7, hq7, hb7⟩
               have HB7 : Hid (Below W6.heap.size W6 w7) := by first | exact HBD.out.trans (hb7.mono HBD.out.size) | exact HBA.out.trans (hb7.mono HBA.out.size)
               have HQ7 : Hid (∀ g o, q7 = some ⟨g, o, none⟩ → W6.heap.size ≤ g) := fun g o e => Nat.le_trans (by first | exact HBD.out.size | exact HBA.out.size) (hq7 g o e)
               have k07 : w7.cell? ⟨wr.heap.size, 0, none⟩ = some (.int .i64 (o : Int)) := by first | exact (hb7.cell (p := ⟨wr.heap.size, 0, none⟩) (lt_of_cell k0)).trans k0 | exact (hb7.cell (p := ⟨wr.heap.size, 0, none⟩) (lt_of_cell kA0)).trans kA0
               have k07a : (w7.alloc (.cells #[.int .i64 0, .slice none 0 0, .slice none 0 0, .int .i64 0, .int .i64 0, .int .i64 0] 27)).cell? ⟨wr.heap.size, 0, none⟩ = some (.int .i64 (o : Int)) := ((grew_alloc w7 _).cell (p := ⟨wr.heap.size, 0, none⟩) (lt_of_cell k07)).trans k07
               clear hq7
               dsimp only)
            | (go_at_call 5; refine Calls.mono (hdo2 _ _ _ ?hx HQ7.out ⟨hm7, hd7⟩ ?hb) ?_; (case hx => first | exact HB7.out | exact HB7.out.alloc HB7.out.size _); (case hb => first | exact hB7 | exact hB7.kept (grew_alloc w7 _)); rintro e w8 ⟨rfl, hT8, hF8⟩
               have HF8 : Hid (Fr (fun k => k = f ∨ k = pm) W6 w8) := by first | exact (Fr.below HB7.out).trans hF8 | exact (Fr.below (HB7.out.alloc HB7.out.size _)).trans hF8
               (first
                 | (have hrow : w8.heap[w7.heap.size]? = some (.cells #[.int .i64 0, .slice none 0 0, .slice none 0 0, .int .i64 0, .int .i64 0, .int .i64 0] 27 (0, 0)) := (hF8.block w7.heap.size (by simp only [World.size_alloc]; exact Nat.lt_succ_self _) (fun e => by have := HFL.out; have := HB7.out.size; omega)).trans (at_new rfl)
                    obtain ⟨⟨c0, c1, c2, c3, c4, c5⟩, fz⟩ := st27 hrow
                    have HOLD : Hid (R16 W6 a mb f pm N o sn (preW off n1 b c j) bs (.pointer (some ⟨w7.heap.size, 0, none⟩)) (.int .i64 E) (chn w8 w7.heap.size A)) := R16.old HAE hT8 HF8.out HH6.out hrow HB7.out.size
                    clear hrow)
                 | (have hrow : w8.heap[W6.heap.size]? = some (.cells #[.int .i64 0, .slice none 0 0, .slice none 0 0, .int .i64 0, .int .i64 0, .int .i64 0] 27 (0, 0)) := (hF8.block W6.heap.size (by have := hb7.size; simp only [World.size_drew, World.size_alloc] at this; omega) (fun e => by have := HFL.out; omega)).trans ((hb7.block W6.heap.size (by simp only [World.size_drew, World.size_alloc]; omega)).trans (at_new rfl))
                    obtain ⟨⟨c0, c1, c2, c3, c4, c5⟩, fz⟩ := st27 hrow
                    have HOLD : Hid (R16 W6 a mb f pm N o sn (preW off n1 b c j) bs (.pointer (some ⟨W6.heap.size, 0, none⟩)) (.int .i64 E) (chn w8 W6.heap.size A)) := R16.old HAE hT8 HF8.out HH6.out hrow (Nat.le_refl _)
                    clear hrow)
                 | skip)
               dsimp only))
        all_goals go_wp2_with fail
        all_goals go_meet
        all_goals first
          | exact HOLD.out
          | exact R16.fresh HAE hT8 HF8.out
      case rest =>
      obtain ⟨g15, rfl, hg15, hE1, hE2, hF8⟩ := hcut
      rename World => w8
      have hr8 : w8.heap[wr.heap.size]? = some (.cells #[.int .i64 (o : Int), .slice sp sn sc] 34 (0, 0)) := (hF8.block wr.heap.size HB6.out.2.2 (fun e => by have := HFR.out; omega)).trans hr6
      have k0 : w8.cell? ⟨wr.heap.size, 0, none⟩ = some (.int .i64 (o : Int)) := (cell_of_row w8 _ 0 _ 34 _ hr8).trans rfl
      have k1 : w8.cell? ⟨wr.heap.size, 1, none⟩ = some (.slice sp sn sc) := (cell_of_row w8 _ 1 _ 34 _ hr8).trans rfl
      have HB8 : Hid (Below w.heap.size w w8) := ⟨hF8.os.trans HB6.out.1.os, hF8.tape.trans HB6.out.1.tape, hF8.output.trans HB6.out.1.output, Nat.le_trans HB6.out.1.size hF8.size, fun k hk => (hF8.block k (Nat.lt_of_lt_of_le hk HB6.out.1.size) (fun e => by have := HO.out; omega)).trans (HB6.out.1.block k hk)⟩
      have hsw : IntKind.i64.wrap (532992 - (o : Int)) = 532992 - (o : Int) := IntWalk.i64_in _ (by have := HE.out.1; omega)
      have HSN : Hid (sn ≤ 140737488355328) := HB6.out.2.1.big
      by_cases hbig : 532992 < o + sn
      · have hg1 : 532992 - (o : Int) < (sn : Int) := by omega
        obtain rfl := hE1 hbig
        clear hE1 hE2
        go_wp2_with fail
        go_ret
        exact ⟨rfl, HB8.out⟩
      · have hg1 : ¬ 532992 - (o : Int) < (sn : Int) := by omega
        obtain ⟨rfl, hr15, hT8⟩ := hE2 (by omega)
        have c15 : w8.cell? ⟨g15, 0, none⟩ = some (.int .i64 (sn : Int)) := (cell_of_row w8 _ 0 _ 27 _ hr15).trans rfl
        have HT8 : Hid (FT w8 a mb f pm (N + sn) (preW off n1 b c (j + 1)) ∧ N + sn ≤ 600000 * (j + 1) ∧ (preW off n1 b c (j + 1)).length ≤ 532992) := by
          refine ⟨by rw [HE.out.2.1]; exact hT8, by have := HJ.out; omega, ?_⟩
          rw [HE.out.2.1, wrt_len]
          have h1 := HJ.out.2.2
          have h2 := HE.out.2.2.2
          split
          · exact h1
          · omega
        have HRS8 : Hid (w8.heap[w4.heap.size]? = some (.cells #[.int .i64 (off : Int), .slice p nb cb, .int .i64 (n1 : Int), .slice q nc cc] 34 (0, 0))) := (hF8.block w4.heap.size (Nat.lt_trans HFR.out.2.2 HB6.out.2.2) (fun e => by have := HQ.out; omega)).trans HRS6.out
        have HW8 : Hid (Wn w8 W3.heap.size (.slice gp (lenW off n1 nb nc) C) (lenW off n1 nb nc) zs) := HW6.out.kept (hF8.block W3.heap.size (by have := HFR.out; have := HQ.out; have := HB6.out.2.2; omega) (fun e => by have := HQ.out; omega))
        obtain ⟨j2, hj2e⟩ : ∃ j2 : Nat, j2 = j + 1 := ⟨_, rfl⟩
        have hjw : IntKind.i64.wrap ((j : Int) + 1) = (j2 : Int) := by rw [IntWalk.i64_in _ (by omega)]; omega
        have hjs : (j : Int) + 1 = (j2 : Int) := by omega
        rw [← hj2e] at HT8
        have HJ2 : Hid (j2 = j + 1) := hj2e
        clear hj2e hE1 hE2 hT8 hr15
        by_cases hs0 : sn = 0
        · subst hs0
          go_wp2_with fail
          go_roundw
          case rel =>
            have hj' := HJ2.out
            refine ⟨j2, N + 0, zs, by omega, rfl, HT8.out.1, HT8.out.2.1, HT8.out.2.2, HW8.out, fun i => ?_, HRS8.out, HB8.out⟩
            rw [hj', HE.out.2.1, wrt_at, HE.out.2.2.2, if_neg (by omega)]
            exact HZX.out i
          case measure => have hj' := HJ2.out; simp [intOf]; omega
        · have hs1 : (0 : Int) < (sn : Int) := by omega
          have hLp : 0 < lenW off n1 nb nc := by have := HE.out.2.2.1 (by omega); omega
          obtain rfl := HGP.out.2.1 hLp
          obtain ⟨_, C', e', hlc, _, _, hrw⟩ := HW8.out.val
          obtain rfl : C = C' := by cases e'; rfl
          obtain ⟨_, R, hRl, hrow8⟩ := hrw hLp
          clear e' hrw
          have hzl : zs.length = lenW off n1 nb nc := HW8.out.len
          have hoL : o + sn ≤ lenW off n1 nb nc := HE.out.2.2.1 (by omega)
          have hbl : bs.length = sn := HE.out.2.2.2
          have hb8 : BI w8 sp sn bs := HBS.out.kept HB8.out
          obtain ⟨bb, bo, rfl, hcc⟩ := hb8.cells (by omega)
          have hrow8d : w8.drew.heap[W3.heap.size]? = some (.cells (aP (zs ++ R)) 5 (0, 0)) := hrow8
          have hNEW : ((aP (zs ++ R)).toList.take o ++ bs.map (Value.int .u8) ++ (aP (zs ++ R)).toList.drop (o + (bs.map (Value.int .u8)).length)).toArray = aP (spl zs o bs ++ R) := by
            unfold aP
            rw [List.toList_toArray, List.length_map, ← List.map_take, ← List.map_drop, ← List.map_append, ← List.map_append, List.take_append_of_le_length (by omega), List.drop_append_of_le_length (by omega)]
            unfold spl
            simp only [List.append_assoc]
          have hcd : ∀ ty, (Builtin.copy_ #[22, 22] ty #[.slice (some ⟨W3.heap.size, o, none⟩) (lenW off n1 nb nc - o) (C - o), .slice (some ⟨bb, bo, none⟩) sn sc]).run Try.prog w8.drew = .ok (.int .i64 (sn : Int)) (w8.drew.setRow W3.heap.size (aP (spl zs o bs ++ R))) := fun ty => by
            have := run_copy_row (P := Try.prog) w8.drew 22 22 ty 5 W3.heap.size o (lenW off n1 nb nc - o) (C - o) ⟨bb, bo, none⟩ sn sc (aP (zs ++ R)) 5 (bs.map (Value.int .u8)) Try.underlying22 size5 hrow8d (by rw [List.length_map, hbl]; exact (Nat.min_eq_left (by omega)).symm) (BI.src' (w := w8.drew) (hb8.kept (Below.refl _ _).drew)) (by rw [List.length_map, hbl]; simp [aP]; omega) (one_cells _)
            rw [this, hNEW]
            simp [goInt, hbl]
          obtain ⟨W9, hW9⟩ : ∃ W9, w8.drew.setRow W3.heap.size (aP (spl zs o bs ++ R)) = W9 := ⟨_, rfl⟩
          rw [hW9] at hcd
          have so : ∀ k, k ≠ W3.heap.size → W9.heap[k]? = w8.heap[k]? := fun k hk => by rw [← hW9]; exact setRow_other _ _ _ _ hk
          have hne : wr.heap.size ≠ W3.heap.size := by have := HFR.out; have := HQ.out; omega
          have k0d : w8.drew.cell? ⟨wr.heap.size, 0, none⟩ = some (.int .i64 (o : Int)) := k0
          have k1d : w8.drew.cell? ⟨wr.heap.size, 1, none⟩ = some (.slice (some ⟨bb, bo, none⟩) sn sc) := k1
          have k0e : W9.cell? ⟨wr.heap.size, 0, none⟩ = some (.int .i64 (o : Int)) := (World.cell?_of_block (w := w8) (so _ hne)).trans k0
          have k1e : W9.cell? ⟨wr.heap.size, 1, none⟩ = some (.slice (some ⟨bb, bo, none⟩) sn sc) := (World.cell?_of_block (w := w8) (so _ hne)).trans k1
          have HR9 : Hid (FT W9 a mb f pm (N + sn) (preW off n1 b c j2) ∧ Wn W9 W3.heap.size (.slice (some ⟨W3.heap.size, 0, none⟩) (lenW off n1 nb nc) C) (lenW off n1 nb nc) (spl zs o bs) ∧ (∀ i, (spl zs o bs).getD i 0 = (preW off n1 b c j2).getD i 0) ∧ W9.heap[w4.heap.size]? = some (.cells #[.int .i64 (off : Int), .slice p nb cb, .int .i64 (n1 : Int), .slice q nc cc] 34 (0, 0)) ∧ Below w.heap.size w W9) := by
            have hq := HQ.out
            have hfr := HFR.out
            have hw8 := HB8.out
            refine ⟨HT8.out.1.other (g := W3.heap.size) so (fun e => ?_) (fun e => ?_) (by omega) (by omega), ⟨by rw [spl_len (by omega)]; exact hzl, ⟨_, C, rfl, HGP.out.2.2.1, HGP.out.2.2.2, fun e => by omega, fun _ => ⟨rfl, R, by rw [spl_len (by omega)]; exact hRl, ?_⟩⟩, fun i => ?_⟩, fun i => ?_, (so _ (by omega)).trans HRS8.out, ?_⟩
            · have h1 := HT8.out.1.row
              rw [e, hrow8] at h1
              simp at h1
            · obtain ⟨M', gg, hm, _⟩ := HT8.out.1.nodes
              obtain ⟨es, c', hm⟩ := hm.isMap
              rw [e, hrow8] at hm
              cases hm
            · rw [← hW9]; exact setRow_heap _ _ _ _ 5 _ hrow8d
            · rw [spl_at (by omega)]
              split
              · exact hb8.byt _
              · exact HW8.out.byt _
            · rw [spl_at (by omega), HJ2.out, HE.out.2.1, wrt_at, HZX.out i]
            · rw [← hW9]
              exact below_setRow (hw8.trans ((Below.refl _ _).drew.mono hw8.size)) (by have := HZ3.out; omega) _
          have hoI : (o : Int) ≤ ((lenW off n1 nb nc : Nat) : Int) := by omega
          have hLI : ((lenW off n1 nb nc : Nat) : Int) ≤ (C : Int) := by have := HGP.out.2.2.1; omega
          have ho0 : (0 : Int) ≤ (o : Int) := by omega
          have hCo : ¬ C = o := by have := HGP.out.2.2.1; omega
          clear hcc hNEW hrow8d hW9 so hb8 hrow8 hRl hlc hbl hoL hzl
          go_wp2_with fail
          go_region_held3 (fun w' => w'.cell? ⟨wr.heap.size, 0, none⟩ = some (.int .i64 (o : Int)) ∧ w'.cell? ⟨wr.heap.size, 1, none⟩ = some (.slice (some ⟨bb, bo, none⟩) sn sc)) (first | exact ⟨k0d, k1d⟩ | exact ⟨k0e, k1e⟩) (fail)
          go_wp2_with fail
          go_roundw
          case rel =>
            have hj' := HJ2.out
            have hr9 := HR9.out
            exact ⟨j2, N + sn, spl zs o bs, by omega, rfl, hr9.1, HT8.out.2.1, HT8.out.2.2, hr9.2.1, hr9.2.2.1, hr9.2.2.2.1, hr9.2.2.2.2⟩
          case measure => have hj' := HJ2.out; simp [intOf]; omega
    · obtain rfl : j = 2 := by omega
      have hjI : ¬ ((2 : Nat) : Int) < 2 := by omega
      have hxl2 : (preW off n1 b c 2).length = lenW off n1 nb nc := by
        have := HC.out
        rw [this.1, this.2]
        exact lenW_eq off n1 b c
      have hrd := doread_ok hF (by omega) 1073741824 (by omega) (lenW off n1 nb nc) (by omega)
      rw [← hxl2, List.take_length, hxl2] at hrd
      have hzs : zs = preW off n1 b c 2 := by
        apply List.ext_getElem (by rw [hxl2]; exact hW.len)
        intro i h1 h2
        have := hzx i
        rw [List.getD_eq_getElem?_getD, List.getD_eq_getElem?_getD, List.getElem?_eq_getElem h1, List.getElem?_eq_getElem h2] at this
        exact this
      subst hzs
      have hL5 : lenW off n1 nb nc ≤ 140737488355328 := by omega
      have HX : Hid ((preW off n1 b c 2).length = lenW off n1 nb nc) := hxl2
      clear hxl2 hzx hN hxl hj hj2 hrs
      obtain ⟨_, C', e', hbi⟩ := hW.bi hL5
      cases e'
      go_wp2_with fail
      refine Calls.mono hrd ?_
      rintro e w9 ⟨g, rfl, hBg, hb9⟩
      obtain ⟨W10, hW10⟩ : ∃ W10, (w9.alloc (.cells #[.int .i64 0, .slice none 0 0, .slice none 0 0, .int .i64 0, .int .i64 0, .int .i64 0] 27)).setRow w9.heap.size (ansC ((lenW off n1 nb nc : Nat) : Int) (.slice (some ⟨g, 0, none⟩) (lenW off n1 nb nc) (lenW off n1 nb nc))) = W10 := ⟨_, rfl⟩
      have hb10 : Below w9.heap.size w9 W10 := by rw [← hW10]; exact below_setRow (grew_alloc w9 _) (Nat.le_refl _) _
      have hr10 : W10.heap[w9.heap.size]? = some (.cells (ansC ((lenW off n1 nb nc : Nat) : Int) (.slice (some ⟨g, 0, none⟩) (lenW off n1 nb nc) (lenW off n1 nb nc))) 27 (0, 0)) := by rw [← hW10]; exact setRow_heap _ _ _ _ 27 _ (at_new rfl)
      have k0 : W10.cell? ⟨w9.heap.size, 0, none⟩ = some (.int .i64 ((lenW off n1 nb nc : Nat) : Int)) := (cell_of_row _ _ 0 _ 27 _ hr10).trans rfl
      have k1 : W10.cell? ⟨w9.heap.size, 1, none⟩ = some (.slice (some ⟨g, 0, none⟩) (lenW off n1 nb nc) (lenW off n1 nb nc)) := (cell_of_row _ _ 1 _ 27 _ hr10).trans rfl
      have heq := equal_same (some ⟨g, 0, none⟩) gp (lenW off n1 nb nc) (lenW off n1 nb nc) (lenW off n1 nb nc) C (preW off n1 b c 2) W10 (hBg.kept hb10) ((hbi.kept hb9).kept hb10)
      have HBE : Hid (Below w.heap.size w W10) := (hbr.trans (hb9.mono hbr.size)).trans (hb10.mono (Nat.le_trans hbr.size hb9.size))
      have hi27 : (Try.prog.info? 27).map (·.size) = some (ansC ((lenW off n1 nb nc : Nat) : Int) (.slice (some ⟨g, 0, none⟩) (lenW off n1 nb nc) (lenW off n1 nb nc))).size := info27
      clear hrd hb10 hr10 hBg hbi hb9 hW hF hbr
      unfold ansV
      dsimp only
      go_wp2_with (first
        | (refine wpList_store_row rfl 27 (.tmp 17) _ rfl w9.heap.size (ansC ((lenW off n1 nb nc : Nat) : Int) (.slice (some ⟨g, 0, none⟩) (lenW off n1 nb nc) (lenW off n1 nb nc))) rfl rfl 27 _ (at_new rfl) hi27 rfl (ans_one _ _ _ _) ?_; rw [hW10])
        | (go_at_call 7; refine same_at heq ?_))
      go_ret
      exact ⟨rfl, HBE.out⟩
end Go.Proofs.Ytfchclpglcogoaa
