/- WD WE -/
import Derived.Test.YtinigfidofgaiaaGreatGr32
import Derived.Deep.DeepCutAuto
import Derived.Deep.RegionHeld3

/- change, beside a frozen view. -/
namespace Go.Proofs.YtinigfidofgaiaaGreat
open Go.RowKit Go.Maps
set_option linter.unusedVariables false
set_option maxRecDepth 100000

section
variable {B : Nat} {w w' : World} {A : At} {T : Vs} {V : Vw}
set_option maxHeartbeats 4000000 in
theorem changeV_ok (h : VI 0 B w A T) (hV : VW w A T V) (hcc0 : T.C.hi + T.C.mi < 4611686018427387904) (hroom : ∀ b : Nat, b < T.S.N → V.K (b : Int) = none → ∃ L : List Int, (∀ k, Pt.I64 k → V.K k ≠ none → k ∈ L) ∧ L.length < V.room) (hsm : T.last + 1 ≤ 500) (op b off nn : Int) (bp : Option Addr) (bn bc : Nat) (xs : List Int) (hbi : BI w bp bn xs) (hbc : bn ≤ bc) (hcc : bc ≤ 9223372036854775807) (ip : Option Addr) (im ic : Nat) (ids : List Int) (hii : Pt.II w ip im ids) (him : (im + 500) * 8 ≤ 140737488355328) (hpb : 0 < bn → ∀ k, Pt.blkOf bp = some k → ¬ fp A T k) :
    Calls Tryz.prog 22 #[.pointer (some ⟨A.v, 0, none⟩), .agg #[.int .i64 op, .int .i64 b, .int .i64 off, .int .i64 nn, .slice bp bn bc, .slice ip im ic]] w fun e w' => e = .returned (.bool true) ∧ ∃ T' V', VI 0 B w' A T' ∧ VW w' A T' V' ∧ Pt.Stp (fpv A T V) (fpv A T' V') w w' ∧ ChangedV T T' (Pt.mq T.S.N b) (Pt.mq (129 - (bsV nn xs).length) off) (bsV nn xs) (Pt.zsOf T.last ids) ∧ Keeps T V V' (Pt.mq T.S.N b) := by
  obtain ⟨i0, hi, hz0, hz1, hz2⟩ := info_parts info3z
  have hlt := h.lt
  have hNN := h.cd.di.N1
  have hN12 := h.cd.ci.N12
  obtain ⟨W1, hW1⟩ : ∃ W1, w.alloc (.cells #[.int .i64 op, .int .i64 b, .int .i64 off, .int .i64 nn, .slice bp bn bc, .slice ip im ic] 44) = W1 := ⟨_, rfl⟩
  have hb1 : Below w.heap.size w W1 := by rw [← hW1]; exact (Below.refl _ _).alloc (Nat.le_refl _) _
  have hs1 : W1.heap.size = w.heap.size + 1 := by rw [← hW1]; simp
  have hr1 : W1.heap[w.heap.size]? = some (.cells #[.int .i64 op, .int .i64 b, .int .i64 off, .int .i64 nn, .slice bp bn bc, .slice ip im ic] 44 (0, 0)) := by rw [← hW1]; exact at_new rfl
  have x1 : W1.cell? ⟨w.heap.size, 1, none⟩ = some (.int .i64 b) := (cell_of_row _ _ 1 _ 44 _ hr1).trans rfl
  have x2 : W1.cell? ⟨w.heap.size, 2, none⟩ = some (.int .i64 off) := (cell_of_row _ _ 2 _ 44 _ hr1).trans rfl
  have x3 : W1.cell? ⟨w.heap.size, 3, none⟩ = some (.int .i64 nn) := (cell_of_row _ _ 3 _ 44 _ hr1).trans rfl
  have x4 : W1.cell? ⟨w.heap.size, 4, none⟩ = some (.slice bp bn bc) := (cell_of_row _ _ 4 _ 44 _ hr1).trans rfl
  have x5 : W1.cell? ⟨w.heap.size, 5, none⟩ = some (.slice ip im ic) := (cell_of_row _ _ 5 _ 44 _ hr1).trans rfl
  have hBI := hbi.kept hb1
  have hII := hii.kept hb1
  have h1 := h.later hb1
  obtain ⟨mm, hm⟩ : ∃ mm, mm = min bn 128 := ⟨_, rfl⟩
  have hmm : min (bn : Int) 128 = (mm : Int) := by omega
  have hmc : (mm : Int) ≤ (bc : Int) := by omega
  have hm0 : (0 : Int) ≤ (mm : Int) := by omega
  have hBt : BI W1 bp mm (bsT xs) := by
    have := hBI.take mm (by omega)
    have e : xs.take mm = bsT xs := by
      unfold bsT
      rw [hm, ← hBI.len]
      rcases Nat.le_total xs.length 128 with h | h
      · rw [Nat.min_eq_left h, List.take_of_length_le (Nat.le_refl _), List.take_of_length_le h]
      · rw [Nat.min_eq_right h]
    rw [e] at this
    exact this
  have hml : mm = (bsT xs).length := hBt.len.symm
  have hx0 : mm = 0 ↔ xs = [] := by
    have := hBI.len
    constructor
    · intro e; exact List.length_eq_zero_iff.1 (by omega)
    · intro e; rw [e] at this; simp at this; omega
  have HM : Hid (mm = min bn 128 ∧ mm = (bsT xs).length ∧ (mm = 0 ↔ xs = [])) := ⟨hm, hml, hx0⟩
  clear hm hml hx0
  have HA : Hid ((im + 500) * 8 ≤ 140737488355328 ∧ T.last + 1 ≤ 500 ∧ 1 ≤ T.S.N ∧ T.S.N ≤ 12 ∧ W1.heap.size = w.heap.size + 1 ∧ bn ≤ bc) := ⟨him, hsm, hNN, hN12, hs1, hbc⟩
  clear him hsm hNN hN12 hbc
  generalize hws : w.heap.size + 1 = ws1 at hs1
  clear hws
  have hcB : (bc : Int) ≤ 9223372036854775807 := by omega
  clear hcc
  go_enter Tryz.func22, Tryz.ntmps22
  go_upto_if 20 with fail
  go_cut [5] (fun v wx => ∃ p9 n9 c9, v = .slice p9 n9 c9 ∧ n9 = (bsV nn xs).length ∧ BI wx p9 n9 (bsV nn xs) ∧ (∀ k, Pt.blkOf p9 = some k → ¬ fp A T k) ∧ Below W1.heap.size W1 wx)
  case first =>
    rcases Nat.eq_zero_or_pos mm with h0 | h0
    · have hbs : bsV nn xs = [nn % 256] := by unfold bsV; rw [if_pos (HM.out.2.2.1 h0)]
      have hmz : ((mm : Int) == 0) = true := by rw [h0]; rfl
      have HZ : Hid (bsV nn xs = [nn % 256]) := hbs
      clear h0 hbs
      go_wp2_with fail
      go_meet
      case rel =>
        refine ⟨_, _, _, rfl, by rw [HZ.out]; rfl, ?_, fun k hk hf => ?_, (Below.refl _ _).alloc (Nat.le_refl _) _⟩
        · rw [HZ.out]
          refine ⟨rfl, by omega, fun i => ?_, fun _ => ⟨ws1, 0, rfl, fun i hi => ?_⟩⟩
          · cases i with
            | zero => simp; omega
            | succ i => simp
          · obtain rfl : i = 0 := by omega
            rw [cell_of_row _ _ 0 _ 5 _ (at_new hs1.symm)]
            rfl
        · have e := Option.some.inj (show some ws1 = some k from hk)
          have := hlt k hf
          have := HA.out.2.2.2.2.1
          omega
    · have hbs : bsV nn xs = bsT xs := by unfold bsV bsT; rw [if_neg (fun e => by have := HM.out.2.2.2 e; omega)]
      have hmz : ((mm : Int) == 0) = false := beq_eq_false_iff_ne.2 (by omega)
      have HZ : Hid (bsV nn xs = bsT xs) := hbs
      have hpb2 := hpb (by have := HM.out.1; omega)
      clear h0 hbs hpb
      go_wp2_with fail
      go_meet
      case rel => exact ⟨_, _, _, rfl, by rw [HZ.out]; exact HM.out.2.1, by rw [HZ.out]; exact hBt, hpb2, Below.refl _ _⟩
  case rest =>
    obtain ⟨p9, n9, c9, rfl, hn9, hB9, hp9, hb9⟩ := hcut
    have h9 := h1.later hb9
    have hII9 := hII.kept hb9
    have hsz9 := hb9.size
    have y1 : wc.cell? ⟨w.heap.size, 1, none⟩ = some (.int .i64 b) := (hb9.cell (p := ⟨w.heap.size, 1, none⟩) (lt_of_cell x1)).trans x1
    have y2 : wc.cell? ⟨w.heap.size, 2, none⟩ = some (.int .i64 off) := (hb9.cell (p := ⟨w.heap.size, 2, none⟩) (lt_of_cell x1)).trans x2
    have y5 : wc.cell? ⟨w.heap.size, 5, none⟩ = some (.slice ip im ic) := (hb9.cell (p := ⟨w.heap.size, 5, none⟩) (lt_of_cell x1)).trans x5
    have hwl : W1.heap.size ≤ wc.heap.size := hsz9
    have HN9 := (show Hid _ from hn9)
    have HB : Hid (Below w.heap.size w wc) := hb1.trans (hb9.mono (by have := HA.out; omega))
    clear x1 x2 x3 x4 x5 hBt hBI hbi hn9 hII hii h1 hr1 hmm hmc hm0 hW1 hcB
    go_wp2_with fail
    go_loopw [6, 28] (fun s i w2 => ∃ t : Nat, t ≤ im ∧ i = .int .i64 (t : Int) ∧ Pt.Nums wc.heap.size w2 s (Pt.zsOf T.last (ids.take t)) ∧ Below wc.heap.size wc w2) (fun s i _ => im - (intOf i).toNat)
    case atStart => exact ⟨0, by omega, rfl, by rw [List.take_zero, zsOf_nil]; exact Pt.Nums.nil _ _, Below.refl _ _⟩
    case round =>
      obtain ⟨t, ht, rfl, hN, hb2⟩ := hrel
      have hv2 := h9.later hb2
      have hla := vLast_ok hv2
      have htb : t < 140737488355328 := by have := HA.out; omega
      by_cases htl : t < im
      · obtain ⟨b5, o5, rfl, hc5⟩ := (hII9.kept hb2).cells (by omega)
        have e5 := hc5 t htl
        have htI : (t : Int) < (im : Int) := by omega
        have ht0 : (0 : Int) ≤ (t : Int) := by omega
        have HT5 : Hid (ids.take (t + 1) = ids.take t ++ [ids.getD t 0]) := Pt.take_one (by rw [hII9.len]; exact htl)
        have hzl : (Pt.zsOf T.last (ids.take t)).length ≤ t := Nat.le_trans (zsOf_len _ _) (by rw [List.length_take]; omega)
        clear hc5
        generalize ids.getD t 0 = y at e5 HT5
        obtain ⟨lst, hlst⟩ : ∃ lst, lst = T.last := ⟨_, rfl⟩
        rw [← hlst] at hla
        rcases Nat.eq_zero_or_pos lst with hz | hz
        · have HZ : Hid (Pt.zsOf T.last (ids.take (t + 1)) = Pt.zsOf T.last (ids.take t)) := by show _ = _; rw [← hlst, hz]; rfl
          have hdz2 : decide ((0 : Int) < (lst : Int)) = false := decide_eq_false (by omega)
          have hdz : decide (0 < lst) = false := decide_eq_false (by omega)
          clear hz hlst
          go_wp2_with (first | (go_at_call 16; refine same_at hla ?_))
          go_roundw
          case rel => exact ⟨t + 1, by omega, by go_num, by rw [HZ.out]; exact hN, hb2⟩
          case measure => simp [intOf]; omega
        · have hjp : (0 : Int) < (lst : Int) := by omega
          have hls : lst ≤ 1000 := by have := HA.out; omega
          have hm1 := Pt.mq_wrap (K := lst) hz (by omega) y
          have hm2 := Pt.mq_lt hz y
          have hwj : IntKind.u64.wrap (lst : Int) = (lst : Int) := by rw [IntKind.wrap_u64]; omega
          have hw1 : IntKind.i64.wrap (1 + (Pt.mq lst y : Int)) = 1 + (Pt.mq lst y : Int) := IntWalk.i64_in _ (by omega)
          have hw2 : wrap64 (1 + (Pt.mq lst y : Int)) = 1 + (Pt.mq lst y : Int) := by unfold wrap64; omega
          have HZ : Hid (Pt.zsOf T.last (ids.take (t + 1)) = Pt.zsOf T.last (ids.take t) ++ [1 + (Pt.mq lst y : Int)]) := by show _ = _; rw [HT5.out, hlst, zsOf_snoc (by omega)]
          have hne0 : ¬ lst = 0 := by omega
          clear hlst
          go_wp2_with (first
            | (go_at_call 16; refine same_at hla ?_)
            | (at_builtin; refine wpList_append_own _ rfl _ _ 23 rfl wc.heap.size 3 i0 (.int .i64 0) 1 8 Tryz.underlying23 hi hz0 hz1 hz2 rfl (by decide) _ _ _ rfl (World.ownsRow.alloc hN _) ⟨wr.heap.size, 0, none⟩ 1 1 [.int .i64 (1 + (Pt.mq lst y : Int))] rfl rfl (cell_one_new _ _ _) (by simp [Value.oneCell']) (by have := HA.out; unfold maxLen; omega) (by have := HA.out; omega) (by have := hb2.size; simp; omega) ?_; intro v' w3 hown hgrow _; have hown := Pt.Nums.snoc hown; obtain ⟨g', cap', rfl⟩ := Pt.Nums.succ hown))
          have hb3 := (hb2.alloc (by have := hb2.size; omega) _).grown hgrow (by have := hb2.size; simp; omega) (by intro k hk; exact (World.ownsRow.lt hN k hk).1)
          go_roundw
          case rel => exact ⟨t + 1, by omega, by go_num, by rw [HZ.out]; exact hown, hb3⟩
          case measure => simp [intOf]; omega
      · obtain rfl : t = im := by omega
        rw [List.take_of_length_le (by rw [hII9.len]; exact Nat.le_refl _)] at hN
        have htI : ¬ (t : Int) < (t : Int) := by omega
        obtain ⟨hA1, hA2, hA3, hA4, hA5, hA6⟩ := HA.out
        have hzk : ∀ x ∈ Pt.zsOf T.last ids, 1 ≤ x ∧ x ≤ (T.last : Int) := fun x hx => by
          unfold Pt.zsOf at hx
          split at hx
          · cases hx
          · obtain ⟨y, _, rfl⟩ := List.mem_map.1 hx
            have := Pt.mq_lt (K := T.last) (by omega) y
            omega
        have hzl : (Pt.zsOf T.last ids).length ≤ t := Nat.le_trans (zsOf_len _ _) (by rw [hII9.len]; exact Nat.le_refl _)
        obtain ⟨q6, c6, hv6, hI6, _⟩ := hN.ii (by omega) (fun x hx => by have := hzk x hx; exact ⟨by omega, by omega⟩)
        subst hv6
        have hbl9 := bsV_len nn xs
        have hn9v := HN9.out
        have hn9' : 1 ≤ n9 ∧ n9 ≤ 128 := by omega
        obtain ⟨NN, hNNe⟩ : ∃ NN, NN = T.S.N := ⟨_, rfl⟩
        have hNNr : 1 ≤ NN ∧ NN ≤ 12 := by omega
        have hmN := Pt.mq_wrap (K := NN) (by omega) (by omega) b
        have hmNi := mq_wrapI (K := NN) (by omega) (by omega) b
        have hlN := Pt.mq_lt (K := NN) (by omega) b
        have hwN : IntKind.u64.wrap (NN : Int) = (NN : Int) := by rw [IntKind.wrap_u64]; omega
        have hzN : ¬ NN = 0 := by omega
        obtain ⟨N1, hN1⟩ : ∃ N1, N1 = 129 - n9 := ⟨_, rfl⟩
        have hnn : (129 : Int) - (n9 : Int) = (N1 : Int) := by omega
        have hN1' : 1 ≤ N1 ∧ N1 ≤ 128 := by omega
        have hm6 := Pt.mq_wrap (K := N1) (by omega) (by omega) off
        have hm6i := mq_wrapI (K := N1) (by omega) (by omega) off
        have hl6 := Pt.mq_lt (K := N1) (by omega) off
        have hw6 : IntKind.u64.wrap (N1 : Int) = (N1 : Int) := by rw [IntKind.wrap_u64]; omega
        have hw7 : IntKind.i64.wrap (N1 : Int) = (N1 : Int) := IntWalk.i64_in _ (by omega)
        have hz6 : ¬ N1 = 0 := by omega
        have hbd : Below wr.heap.size wr wr.drew := (Below.refl _ _).drew
        have hvd := hv2.drew
        have hVd : VW wr.drew A T V := (hV.later (HB.out.trans (hb2.mono HB.out.size))).later ((Below.refl _ _).drew)
        have hbl := vBlocks_ok hvd
        rw [← hNNe] at hbl
        have hB9r := (hB9.kept hb2).kept hbd
        have hI6r := hI6.kept hbd
        have hav : A.v < w.heap.size := hlt _ (.inl rfl)
        have hch := vChangeV_ok hvd hVd hcc0 (by omega) (Pt.mq NN b) (Pt.mq N1 off) (by omega) p9 n9 c9 (bsV nn xs) hB9r (fun k hk => hp9 k hk) ⟨by omega, by omega, by omega, by omega⟩ q6 _ c6 (Pt.zsOf T.last ids) hI6r (fun k hk hf => by
          have hk' : (Value.slice q6 (Pt.zsOf T.last ids).length c6).ownBlock = some k := by
            cases q6 with
            | none => cases hk
            | some a => simpa [Pt.blkOf, Value.ownBlock] using hk
          have := (World.ownsRow.lt hN k hk').1
          have := HB.out.size
          have := hlt k hf
          omega) (List.all_eq_true.2 (fun x hx => Pt.kn_true.2 (hzk x hx))) (by have := h.ps.len; omega) (hroom _ (by omega))
        have z1 : wr.drew.cell? ⟨w.heap.size, 1, none⟩ = some (.int .i64 b) := (hb2.cell (p := ⟨w.heap.size, 1, none⟩) (lt_of_cell y1)).trans y1
        have z2 : wr.drew.cell? ⟨w.heap.size, 2, none⟩ = some (.int .i64 off) := (hb2.cell (p := ⟨w.heap.size, 2, none⟩) (lt_of_cell y1)).trans y2
        have hnb : ¬ fpv A T V w.heap.size := fun hf => by
          rcases hf with hf | hf
          · have := hlt _ hf; omega
          · have := hV.lt _ hf; omega
        have hszr : w.heap.size < wr.heap.size := by have := hb2.size; omega
        have HC : Hid (129 - (bsV nn xs).length = N1 ∧ T.S.N = NN ∧ VI 0 B wr A T ∧ Below w.heap.size w wr) := ⟨by omega, hNNe.symm, hv2, HB.out.trans (hb2.mono HB.out.size)⟩
        have HLL : Hid (T.last + 1 ≤ 1000) := by show _ ≤ _; omega
        clear hn9v hbl9 hzl hA1 hA2 hA3 hA4 hA5 hA6 hNNe hN1 hN hb2 hII9 hI6 hI6r hB9 hB9r hvd hv2 hla hbd y1 y2 y5 hzk hb9 hsz9 hwl hb1
        go_upto_region 11 with fail
        go_region_held3 (fun w' => w'.cell? ⟨w.heap.size, 1, none⟩ = some (.int .i64 b) ∧ w'.cell? ⟨w.heap.size, 2, none⟩ = some (.int .i64 off)) (first | exact ⟨z1, z2⟩ | exact ⟨u1, u2⟩)
          (first
            | (go_at_call 21; refine same_at hbl ?_)
            | (go_at_call 30; refine Calls.mono hch ?_; rintro e w5 ⟨rfl, T', V', h5, hV5, hst5, hC5, hKp5⟩; have hwk : w5.heap[w.heap.size]? = wr.heap[w.heap.size]? := hst5.fr.block _ hszr hnb; have u1 : w5.cell? ⟨w.heap.size, 1, none⟩ = some (.int .i64 b) := (World.cell?_of_block (w := wr.drew) hwk).trans z1; have u2 : w5.cell? ⟨w.heap.size, 2, none⟩ = some (.int .i64 off) := (World.cell?_of_block (w := wr.drew) hwk).trans z2))
        have hla5 := vLast_ok h5
        rw [hC5.last] at hla5
        have HE : Hid (VI 0 B w5 A T' ∧ VW w5 A T' V' ∧ Pt.Stp (fpv A T V) (fpv A T' V') w w5 ∧ ChangedV T T' (Pt.mq T.S.N b) (Pt.mq (129 - (bsV nn xs).length) off) (bsV nn xs) (Pt.zsOf T.last ids) ∧ Keeps T V V' (Pt.mq T.S.N b)) := by
          refine ⟨h5, hV5, join_stp HC.out.2.2.2 (Frame.refl _ _) (fun _ h => h) hst5, ?_⟩
          rw [HC.out.1, HC.out.2.1]
          exact ⟨hC5, hKp5⟩
        clear hch hst5 hC5 h5 hV5 hKp5
        go_wp2_with (first | (go_at_call 16; refine same_at hla5 ?_))
        go_ret
        exact ⟨by simp, T', V', HE.out⟩
end
end Go.Proofs.YtinigfidofgaiaaGreat

/- What a frozen view keeps, without memory. -/
namespace Go.Proofs.YtinigfidofgaiaaGreat
open Go.RowKit Go.Maps
set_option linter.unusedVariables false
set_option maxRecDepth 100000

/-- The view has what was frozen. -/
structure Frz (L : List (List Int)) (T : Vs) (V : Vw) : Prop where
  rst : Rst T
  N : T.S.N = L.length
  old : ∀ b, b < T.S.N → oldOf T V b = L.getD b []
  key : ∀ k, V.K k ≠ none → ∃ b : Nat, k = (b : Int) ∧ b < T.S.N
  room : V.room = T.S.N

section
variable {g : Int} {B : Nat} {w w' : World} {A : At} {T T' T2 : Vs} {V V' : Vw} {L : List (List Int)} {b o : Nat} {xs zs : List Int}
theorem Frz.has (h : Frz L T V) : ∀ b : Nat, b < T.S.N → V.K (b : Int) = none → ∃ M : List Int, (∀ k, Pt.I64 k → V.K k ≠ none → k ∈ M) ∧ M.length < V.room := by
  intro b hb hk
  refine ⟨((List.range T.S.N).erase b).map (fun (x : Nat) => (x : Int)), fun k _ hn => ?_, ?_⟩
  · obtain ⟨c, rfl, hc⟩ := h.key k hn
    refine List.mem_map.2 ⟨c, ?_, rfl⟩
    have hne : c ≠ b := fun e => by subst e; exact hn hk
    exact (List.mem_erase_of_ne hne).2 (List.mem_range.2 hc)
  · rw [List.length_map, List.length_erase_of_mem (List.mem_range.2 hb), List.length_range, h.room]
    omega

theorem now_change (hc : ChangedV T T' b o xs zs) {c : Nat} (hne : c ≠ b) : nowOf T' c = nowOf T c := by
  obtain ⟨pn, e1, e2, e3, e4, e5, eP⟩ := hc.ex
  unfold nowOf
  rw [hc.S, eP]
  congr 1
  unfold Pt.ofB
  rw [List.filter_append]
  have : ¬ ((pn.blk : Int) = (c : Int)) := by omega
  simp [this]

theorem keeps_key (hk : Keeps T V V' b) {k : Int} (hne : k ≠ (b : Int)) : V'.K k = V.K k := by
  rcases hk with ⟨_, rfl⟩ | ⟨_, q, c, rfl⟩
  · rfl
  · exact Pt.fput_other V.K hne _

theorem keeps_old (h : Frz L T V) (hk : Keeps T V V' b) (hb : b < T.S.N) : ∃ s, V'.K (b : Int) = some s ∧ s.xs = L.getD b [] := by
  have ho := h.old b hb
  unfold oldOf at ho
  rcases hk with ⟨⟨s, hs⟩, rfl⟩ | ⟨hn, q, c, rfl⟩
  · rw [hs] at ho
    exact ⟨s, hs, ho⟩
  · rw [hn] at ho
    exact ⟨_, Pt.fput_same V.K _ _, ho⟩

theorem keeps_room (hk : Keeps T V V' b) : V'.room = V.room := by
  rcases hk with ⟨_, rfl⟩ | ⟨_, q, c, rfl⟩ <;> rfl

theorem keeps_keys (h : Frz L T V) (hk : Keeps T V V' b) (hb : b < T.S.N) : ∀ k, V'.K k ≠ none → ∃ c : Nat, k = (c : Int) ∧ c < T.S.N := by
  intro k hn
  by_cases e : k = (b : Int)
  · exact ⟨b, e, hb⟩
  · rw [keeps_key hk e] at hn
    exact h.key k hn

theorem Frz.changed (h : Frz L T V) (hv : VI g B w A T) (hc : ChangedV T T' b o xs zs) (hk : Keeps T V V' b) (hb : b < T.S.N) (ho : o + xs.length ≤ 128) : Frz L T' V' := by
  have eS := hc.S
  refine ⟨⟨?_, by rw [eS]; exact h.rst.q, by rw [hc.Y]; exact h.rst.Y, ?_⟩, by rw [eS]; exact h.N, ?_, by rw [eS]; exact keeps_keys h hk hb, by rw [keeps_room hk, eS]; exact h.room⟩
  · obtain ⟨pn, e1, e2, e3, e4, e5, eP⟩ := hc.ex
    rw [eP]
    exact h.rst.gd.add (fun p hp => ⟨(hv.ps.ids p hp).1, (hv.ps.ids p hp).2.1⟩) e1 (by rw [e3, e4]; exact ho) e5
  · obtain ⟨pn, e1, e2, e3, e4, e5, eP⟩ := hc.ex
    rw [eP, eS]
    intro p hp
    rcases List.mem_append.1 hp with h1 | h1
    · exact h.rst.blk p h1
    · simp at h1; subst h1; rw [e2]; exact hb
  · intro c hcN
    rw [eS] at hcN
    by_cases e : c = b
    · subst e
      obtain ⟨s, hs, hx⟩ := keeps_old h hk hb
      unfold oldOf
      rw [hs]
      exact hx
    · have ho' := h.old c hcN
      unfold oldOf at ho' ⊢
      rw [keeps_key hk (by omega), now_change hc e]
      exact ho'

theorem upP_back (hv : VI g B w A T) (hc : ChangedV T T' b o xs zs) : Pt.upP T'.P T.last = T.P ∧ ∀ k : Int, (T.last : Int) < k → k ≤ (T'.last : Int) → (Pt.fP T'.P k).isSome = true := by
  obtain ⟨pn, e1, e2, e3, e4, e5, eP⟩ := hc.ex
  constructor
  · rw [eP]
    unfold Pt.upP
    rw [List.filter_append]
    have h1 : T.P.filter (fun p => decide (p.id ≤ T.last)) = T.P := List.filter_eq_self.2 (fun p hp => by have := (hv.ps.ids p hp).2.1; simpa using this)
    have h2 : ¬ (pn.id ≤ T.last) := by omega
    rw [h1]
    simp [h2]
  · intro k h1 h2
    rw [hc.last] at h2
    refine Pt.fP_isSome.2 ⟨pn, by rw [eP]; simp, by omega⟩

theorem Frz.undone (h : Frz L T V) (hv : VI g B w A T) (hc : ChangedV T T' b o xs zs) (hk : Keeps T V V' b) (hb : b < T.S.N) (hP : T2.P = Pt.upP T'.P T.last) (hS : T2.S = T'.S) (hY : T2.Y = T'.Y) : Frz L T2 V' := by
  have eP : T2.P = T.P := hP.trans (upP_back hv hc).1
  have eS : T2.S = T.S := hS.trans hc.S
  refine ⟨⟨by rw [eP]; exact h.rst.gd, by rw [eS]; exact h.rst.q, by rw [hY, hc.Y]; exact h.rst.Y, by rw [eP, eS]; exact h.rst.blk⟩, by rw [eS]; exact h.N, ?_, by rw [eS]; exact keeps_keys h hk hb, by rw [keeps_room hk, eS]; exact h.room⟩
  intro c hcN
  rw [eS] at hcN
  by_cases e : c = b
  · subst e
    obtain ⟨s, hs, hx⟩ := keeps_old h hk hb
    unfold oldOf
    rw [hs]
    exact hx
  · have ho' := h.old c hcN
    unfold oldOf nowOf at ho' ⊢
    rw [keeps_key hk (by omega), eP, eS]
    exact ho'

theorem Frz.same (h : Frz L T V) (hr : Rst T2) (ha : allOf T2 = allOf T) (hN : T2.S.N = T.S.N) : Frz L T2 V := by
  refine ⟨hr, hN.trans h.N, ?_, by rw [hN]; exact h.key, by rw [hN]; exact h.room⟩
  intro c hc
  rw [hN] at hc
  have e : nowOf T2 c = nowOf T c := by
    have h1 : (allOf T2)[c]? = (allOf T)[c]? := by rw [ha]
    unfold allOf at h1
    rw [hN] at h1
    simp [hc] at h1
    exact h1
  have ho := h.old c hc
  unfold oldOf at ho ⊢
  rw [e]
  exact ho
end
end Go.Proofs.YtinigfidofgaiaaGreat
