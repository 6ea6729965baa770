/- VG VH VJ -/
import Derived.Test.YtinigfidofgaiaaGreatGr26
import Derived.Deep.DeepCutAuto
import Derived.Deep.RegionHeld3

/- change: a change that may be. -/
namespace Go.Proofs.YtinigfidofgaiaaGreat
open Go.RowKit Go.Maps
set_option linter.unusedVariables false
set_option maxRecDepth 100000

theorem mq_wrapI {K : Nat} (hK : 1 ≤ K) (hK2 : K ≤ 4611686018427387904) (b : Int) : IntKind.i64.wrap ((IntKind.u64.wrap b).tmod (K : Int)) = (Pt.mq K b : Int) := by
  have h1 := Pt.mq_lt hK b
  rw [Pt.mq_eq hK]
  exact IntWalk.i64_in _ (by omega)
theorem zsOf_nil (n : Nat) : Pt.zsOf n [] = [] := by unfold Pt.zsOf; split <;> rfl
theorem zsOf_snoc {n : Nat} (hn : n ≠ 0) (l : List Int) (y : Int) : Pt.zsOf n (l ++ [y]) = Pt.zsOf n l ++ [1 + (Pt.mq n y : Int)] := by
  unfold Pt.zsOf; rw [if_neg hn, if_neg hn, List.map_append]; rfl
theorem zsOf_len (n : Nat) (l : List Int) : (Pt.zsOf n l).length ≤ l.length := by unfold Pt.zsOf; split <;> simp

/-- The bytes that are changed. -/
def bsV (n : Int) (xs : List Int) : List Int := if xs = [] then [n % 256] else xs.take 128
def bsT (xs : List Int) : List Int := xs.take 128
theorem bsV_len (n : Int) (xs : List Int) : 1 ≤ (bsV n xs).length ∧ (bsV n xs).length ≤ 128 := by
  unfold bsV
  split
  · simp
  · rename_i h
    have : 0 < xs.length := List.length_pos_iff.2 h
    simp; omega

section
variable {B : Nat} {w w' : World} {A : At} {T : Vs}
set_option maxHeartbeats 4000000 in
theorem change_ok (h : VI 0 B w A T) (hx : T.x = none) (hsm : T.last + 1 ≤ 500) (op b off nn : Int) (bp : Option Addr) (bn bc : Nat) (xs : List Int) (hbi : BI w bp bn xs) (hbc : bn ≤ bc) (hcc : bc ≤ 9223372036854775807) (ip : Option Addr) (im ic : Nat) (ids : List Int) (hii : Pt.II w ip im ids) (him : (im + 500) * 8 ≤ 140737488355328) (hpb : 0 < bn → ∀ k, Pt.blkOf bp = some k → ¬ fp A T k) :
    Calls Tryz.prog 22 #[.pointer (some ⟨A.v, 0, none⟩), .agg #[.int .i64 op, .int .i64 b, .int .i64 off, .int .i64 nn, .slice bp bn bc, .slice ip im ic]] w fun e w' => e = .returned (.bool true) ∧ ∃ T', VI 0 B w' A T' ∧ Pt.Stp (fp A T) (fp A T') w w' ∧ Changed T T' (Pt.mq T.S.N b) (Pt.mq (129 - (bsV nn xs).length) off) (bsV nn xs) (Pt.zsOf T.last ids) := by
  obtain ⟨i0, hi, hz0, hz1, hz2⟩ := info_parts info3z
  have hlt := h.lt
  have hNN := h.cd.di.N1
  have hN12 := h.cd.ci.N12
  obtain ⟨W1, hW1⟩ : ∃ W1, w.alloc (.cells #[.int .i64 op, .int .i64 b, .int .i64 off, .int .i64 nn, .slice bp bn bc, .slice ip im ic] 44) = W1 := ⟨_, rfl⟩
  have hb1 : Below w.heap.size w W1 := by rw [← hW1]; exact (Below.refl _ _).alloc (Nat.le_refl _) _
  have hs1 : W1.heap.size = w.heap.size + 1 := by rw [← hW1]; simp
  have hr1 : W1.heap[w.heap.size]? = some (.cells #[.int .i64 op, .int .i64 b, .int .i64 off, .int .i64 nn, .slice bp bn bc, .slice ip im ic] 44 (0, 0)) := by rw [← hW1]; exact at_new rfl
  have x1 : W1.cell? ⟨w.heap.size, 1, none⟩ = some (.int .i64 b) := (cell_of_row _ _ 1 _ 44 _ hr1).trans rfl
  have x2 : W1.cell? ⟨w.heap.size, 2, none⟩ = some (.int .i64 off) := (cell_of_row _ _ 2 _ 44 _ hr1).trans rfl
  have x3 : W1.cell? ⟨w.heap.size, 3, none⟩ = some (.int .i64 nn) := (cell_of_row _ _ 3 _ 44 _ hr1).trans rfl
  have x4 : W1.cell? ⟨w.heap.size, 4, none⟩ = some (.slice bp bn bc) := (cell_of_row _ _ 4 _ 44 _ hr1).trans rfl
  have x5 : W1.cell? ⟨w.heap.size, 5, none⟩ = some (.slice ip im ic) := (cell_of_row _ _ 5 _ 44 _ hr1).trans rfl
  have hBI := hbi.kept hb1
  have hII := hii.kept hb1
  have h1 := h.later hb1
  obtain ⟨mm, hm⟩ : ∃ mm, mm = min bn 128 := ⟨_, rfl⟩
  have hmm : min (bn : Int) 128 = (mm : Int) := by omega
  have hmc : (mm : Int) ≤ (bc : Int) := by omega
  have hm0 : (0 : Int) ≤ (mm : Int) := by omega
  have hBt : BI W1 bp mm (bsT xs) := by
    have := hBI.take mm (by omega)
    have e : xs.take mm = bsT xs := by
      unfold bsT
      rw [hm, ← hBI.len]
      rcases Nat.le_total xs.length 128 with h | h
      · rw [Nat.min_eq_left h, List.take_of_length_le (Nat.le_refl _), List.take_of_length_le h]
      · rw [Nat.min_eq_right h]
    rw [e] at this
    exact this
  have hml : mm = (bsT xs).length := hBt.len.symm
  have hx0 : mm = 0 ↔ xs = [] := by
    have := hBI.len
    constructor
    · intro e; exact List.length_eq_zero_iff.1 (by omega)
    · intro e; rw [e] at this; simp at this; omega
  have HM : Hid (mm = min bn 128 ∧ mm = (bsT xs).length ∧ (mm = 0 ↔ xs = [])) := ⟨hm, hml, hx0⟩
  clear hm hml hx0
  have HA : Hid ((im + 500) * 8 ≤ 140737488355328 ∧ T.last + 1 ≤ 500 ∧ 1 ≤ T.S.N ∧ T.S.N ≤ 12 ∧ W1.heap.size = w.heap.size + 1 ∧ bn ≤ bc) := ⟨him, hsm, hNN, hN12, hs1, hbc⟩
  clear him hsm hNN hN12 hbc
  generalize hws : w.heap.size + 1 = ws1 at hs1
  clear hws
  have hcB : (bc : Int) ≤ 9223372036854775807 := by omega
  clear hcc
  go_enter Tryz.func22, Tryz.ntmps22
  go_upto_if 20 with fail
  go_cut [5] (fun v wx => ∃ p9 n9 c9, v = .slice p9 n9 c9 ∧ n9 = (bsV nn xs).length ∧ BI wx p9 n9 (bsV nn xs) ∧ (∀ k, Pt.blkOf p9 = some k → ¬ fp A T k) ∧ Below W1.heap.size W1 wx)
  case first =>
    rcases Nat.eq_zero_or_pos mm with h0 | h0
    · have hbs : bsV nn xs = [nn % 256] := by unfold bsV; rw [if_pos (HM.out.2.2.1 h0)]
      have hmz : ((mm : Int) == 0) = true := by rw [h0]; rfl
      have HZ : Hid (bsV nn xs = [nn % 256]) := hbs
      clear h0 hbs
      go_wp2_with fail
      go_meet
      case rel =>
        refine ⟨_, _, _, rfl, by rw [HZ.out]; rfl, ?_, fun k hk hf => ?_, (Below.refl _ _).alloc (Nat.le_refl _) _⟩
        · rw [HZ.out]
          refine ⟨rfl, by omega, fun i => ?_, fun _ => ⟨ws1, 0, rfl, fun i hi => ?_⟩⟩
          · cases i with
            | zero => simp; omega
            | succ i => simp
          · obtain rfl : i = 0 := by omega
            rw [cell_of_row _ _ 0 _ 5 _ (at_new hs1.symm)]
            rfl
        · have e := Option.some.inj (show some ws1 = some k from hk)
          have := hlt k hf
          have := HA.out.2.2.2.2.1
          omega
    · have hbs : bsV nn xs = bsT xs := by unfold bsV bsT; rw [if_neg (fun e => by have := HM.out.2.2.2 e; omega)]
      have hmz : ((mm : Int) == 0) = false := beq_eq_false_iff_ne.2 (by omega)
      have HZ : Hid (bsV nn xs = bsT xs) := hbs
      have hpb2 := hpb (by have := HM.out.1; omega)
      clear h0 hbs hpb
      go_wp2_with fail
      go_meet
      case rel => exact ⟨_, _, _, rfl, by rw [HZ.out]; exact HM.out.2.1, by rw [HZ.out]; exact hBt, hpb2, Below.refl _ _⟩
  case rest =>
    obtain ⟨p9, n9, c9, rfl, hn9, hB9, hp9, hb9⟩ := hcut
    have h9 := h1.later hb9
    have hII9 := hII.kept hb9
    have hsz9 := hb9.size
    have y1 : wc.cell? ⟨w.heap.size, 1, none⟩ = some (.int .i64 b) := (hb9.cell (p := ⟨w.heap.size, 1, none⟩) (lt_of_cell x1)).trans x1
    have y2 : wc.cell? ⟨w.heap.size, 2, none⟩ = some (.int .i64 off) := (hb9.cell (p := ⟨w.heap.size, 2, none⟩) (lt_of_cell x1)).trans x2
    have y5 : wc.cell? ⟨w.heap.size, 5, none⟩ = some (.slice ip im ic) := (hb9.cell (p := ⟨w.heap.size, 5, none⟩) (lt_of_cell x1)).trans x5
    have hwl : W1.heap.size ≤ wc.heap.size := hsz9
    have HN9 := (show Hid _ from hn9)
    have HB : Hid (Below w.heap.size w wc) := hb1.trans (hb9.mono (by have := HA.out; omega))
    clear x1 x2 x3 x4 x5 hBt hBI hbi hn9 hII hii h1 hr1 hmm hmc hm0 hW1 hcB
    go_wp2_with fail
    go_loopw [6, 28] (fun s i w2 => ∃ t : Nat, t ≤ im ∧ i = .int .i64 (t : Int) ∧ Pt.Nums wc.heap.size w2 s (Pt.zsOf T.last (ids.take t)) ∧ Below wc.heap.size wc w2) (fun s i _ => im - (intOf i).toNat)
    case atStart => exact ⟨0, by omega, rfl, by rw [List.take_zero, zsOf_nil]; exact Pt.Nums.nil _ _, Below.refl _ _⟩
    case round =>
      obtain ⟨t, ht, rfl, hN, hb2⟩ := hrel
      have hv2 := h9.later hb2
      have hla := vLast_ok hv2
      have htb : t < 140737488355328 := by have := HA.out; omega
      by_cases htl : t < im
      · obtain ⟨b5, o5, rfl, hc5⟩ := (hII9.kept hb2).cells (by omega)
        have e5 := hc5 t htl
        have htI : (t : Int) < (im : Int) := by omega
        have ht0 : (0 : Int) ≤ (t : Int) := by omega
        have HT5 : Hid (ids.take (t + 1) = ids.take t ++ [ids.getD t 0]) := Pt.take_one (by rw [hII9.len]; exact htl)
        have hzl : (Pt.zsOf T.last (ids.take t)).length ≤ t := Nat.le_trans (zsOf_len _ _) (by rw [List.length_take]; omega)
        clear hc5
        generalize ids.getD t 0 = y at e5 HT5
        obtain ⟨lst, hlst⟩ : ∃ lst, lst = T.last := ⟨_, rfl⟩
        rw [← hlst] at hla
        rcases Nat.eq_zero_or_pos lst with hz | hz
        · have HZ : Hid (Pt.zsOf T.last (ids.take (t + 1)) = Pt.zsOf T.last (ids.take t)) := by show _ = _; rw [← hlst, hz]; rfl
          have hdz2 : decide ((0 : Int) < (lst : Int)) = false := decide_eq_false (by omega)
          have hdz : decide (0 < lst) = false := decide_eq_false (by omega)
          clear hz hlst
          go_wp2_with (first | (go_at_call 16; refine same_at hla ?_))
          go_roundw
          case rel => exact ⟨t + 1, by omega, by go_num, by rw [HZ.out]; exact hN, hb2⟩
          case measure => simp [intOf]; omega
        · have hjp : (0 : Int) < (lst : Int) := by omega
          have hls : lst ≤ 1000 := by have := HA.out; omega
          have hm1 := Pt.mq_wrap (K := lst) hz (by omega) y
          have hm2 := Pt.mq_lt hz y
          have hwj : IntKind.u64.wrap (lst : Int) = (lst : Int) := by rw [IntKind.wrap_u64]; omega
          have hw1 : IntKind.i64.wrap (1 + (Pt.mq lst y : Int)) = 1 + (Pt.mq lst y : Int) := IntWalk.i64_in _ (by omega)
          have hw2 : wrap64 (1 + (Pt.mq lst y : Int)) = 1 + (Pt.mq lst y : Int) := by unfold wrap64; omega
          have HZ : Hid (Pt.zsOf T.last (ids.take (t + 1)) = Pt.zsOf T.last (ids.take t) ++ [1 + (Pt.mq lst y : Int)]) := by show _ = _; rw [HT5.out, hlst, zsOf_snoc (by omega)]
          have hne0 : ¬ lst = 0 := by omega
          clear hlst
          go_wp2_with (first
            | (go_at_call 16; refine same_at hla ?_)
            | (at_builtin; refine wpList_append_own _ rfl _ _ 23 rfl wc.heap.size 3 i0 (.int .i64 0) 1 8 Tryz.underlying23 hi hz0 hz1 hz2 rfl (by decide) _ _ _ rfl (World.ownsRow.alloc hN _) ⟨wr.heap.size, 0, none⟩ 1 1 [.int .i64 (1 + (Pt.mq lst y : Int))] rfl rfl (cell_one_new _ _ _) (by simp [Value.oneCell']) (by have := HA.out; unfold maxLen; omega) (by have := HA.out; omega) (by have := hb2.size; simp; omega) ?_; intro v' w3 hown hgrow _; have hown := Pt.Nums.snoc hown; obtain ⟨g', cap', rfl⟩ := Pt.Nums.succ hown))
          have hb3 := (hb2.alloc (by have := hb2.size; omega) _).grown hgrow (by have := hb2.size; simp; omega) (by intro k hk; exact (World.ownsRow.lt hN k hk).1)
          go_roundw
          case rel => exact ⟨t + 1, by omega, by go_num, by rw [HZ.out]; exact hown, hb3⟩
          case measure => simp [intOf]; omega
      · obtain rfl : t = im := by omega
        rw [List.take_of_length_le (by rw [hII9.len]; exact Nat.le_refl _)] at hN
        have htI : ¬ (t : Int) < (t : Int) := by omega
        obtain ⟨hA1, hA2, hA3, hA4, hA5, hA6⟩ := HA.out
        have hzk : ∀ x ∈ Pt.zsOf T.last ids, 1 ≤ x ∧ x ≤ (T.last : Int) := fun x hx => by
          unfold Pt.zsOf at hx
          split at hx
          · cases hx
          · obtain ⟨y, _, rfl⟩ := List.mem_map.1 hx
            have := Pt.mq_lt (K := T.last) (by omega) y
            omega
        have hzl : (Pt.zsOf T.last ids).length ≤ t := Nat.le_trans (zsOf_len _ _) (by rw [hII9.len]; exact Nat.le_refl _)
        obtain ⟨q6, c6, hv6, hI6, _⟩ := hN.ii (by omega) (fun x hx => by have := hzk x hx; exact ⟨by omega, by omega⟩)
        subst hv6
        have hbl9 := bsV_len nn xs
        have hn9v := HN9.out
        have hn9' : 1 ≤ n9 ∧ n9 ≤ 128 := by omega
        obtain ⟨NN, hNNe⟩ : ∃ NN, NN = T.S.N := ⟨_, rfl⟩
        have hNNr : 1 ≤ NN ∧ NN ≤ 12 := by omega
        have hmN := Pt.mq_wrap (K := NN) (by omega) (by omega) b
        have hmNi := mq_wrapI (K := NN) (by omega) (by omega) b
        have hlN := Pt.mq_lt (K := NN) (by omega) b
        have hwN : IntKind.u64.wrap (NN : Int) = (NN : Int) := by rw [IntKind.wrap_u64]; omega
        have hzN : ¬ NN = 0 := by omega
        obtain ⟨N1, hN1⟩ : ∃ N1, N1 = 129 - n9 := ⟨_, rfl⟩
        have hnn : (129 : Int) - (n9 : Int) = (N1 : Int) := by omega
        have hN1' : 1 ≤ N1 ∧ N1 ≤ 128 := by omega
        have hm6 := Pt.mq_wrap (K := N1) (by omega) (by omega) off
        have hm6i := mq_wrapI (K := N1) (by omega) (by omega) off
        have hl6 := Pt.mq_lt (K := N1) (by omega) off
        have hw6 : IntKind.u64.wrap (N1 : Int) = (N1 : Int) := by rw [IntKind.wrap_u64]; omega
        have hw7 : IntKind.i64.wrap (N1 : Int) = (N1 : Int) := IntWalk.i64_in _ (by omega)
        have hz6 : ¬ N1 = 0 := by omega
        have hbd : Below wr.heap.size wr wr.drew := (Below.refl _ _).drew
        have hvd := hv2.drew
        have hbl := vBlocks_ok hvd
        rw [← hNNe] at hbl
        have hB9r := (hB9.kept hb2).kept hbd
        have hI6r := hI6.kept hbd
        have hav : A.v < w.heap.size := hlt _ (.inl rfl)
        have hch := vChange_ok hvd hx (by omega) (Pt.mq NN b) (Pt.mq N1 off) (by omega) p9 n9 c9 (bsV nn xs) hB9r (fun k hk e => hp9 k hk (.inl e)) ⟨by omega, by omega, by omega, by omega⟩ q6 _ c6 (Pt.zsOf T.last ids) hI6r (fun k hk e => by
          have hk' : (Value.slice q6 (Pt.zsOf T.last ids).length c6).ownBlock = some k := by
            cases q6 with
            | none => cases hk
            | some a => simpa [Pt.blkOf, Value.ownBlock] using hk
          have := (World.ownsRow.lt hN k hk').1
          have := HB.out.size
          omega) (List.all_eq_true.2 (fun x hx => Pt.kn_true.2 (hzk x hx))) (by have := h.ps.len; omega)
        have z1 : wr.drew.cell? ⟨w.heap.size, 1, none⟩ = some (.int .i64 b) := (hb2.cell (p := ⟨w.heap.size, 1, none⟩) (lt_of_cell y1)).trans y1
        have z2 : wr.drew.cell? ⟨w.heap.size, 2, none⟩ = some (.int .i64 off) := (hb2.cell (p := ⟨w.heap.size, 2, none⟩) (lt_of_cell y1)).trans y2
        have hnb : ¬ fp A T w.heap.size := fun hf => by have := hlt _ hf; omega
        have hszr : w.heap.size < wr.heap.size := by have := hb2.size; omega
        have HC : Hid (129 - (bsV nn xs).length = N1 ∧ T.S.N = NN ∧ VI 0 B wr A T ∧ Below w.heap.size w wr) := ⟨by omega, hNNe.symm, hv2, HB.out.trans (hb2.mono HB.out.size)⟩
        have HLL : Hid (T.last + 1 ≤ 1000) := by show _ ≤ _; omega
        clear hn9v hbl9 hzl hA1 hA2 hA3 hA4 hA5 hA6 hNNe hN1 hN hb2 hII9 hI6 hI6r hB9 hB9r hvd hv2 hla hbd y1 y2 y5 hzk hb9 hsz9 hwl hb1
        go_upto_region 11 with fail
        go_region_held3 (fun w' => w'.cell? ⟨w.heap.size, 1, none⟩ = some (.int .i64 b) ∧ w'.cell? ⟨w.heap.size, 2, none⟩ = some (.int .i64 off)) (first | exact ⟨z1, z2⟩ | exact ⟨u1, u2⟩)
          (first
            | (go_at_call 21; refine same_at hbl ?_)
            | (go_at_call 30; refine Calls.mono hch ?_; rintro e w5 ⟨rfl, T', h5, hst5, hC5⟩; have hwk : w5.heap[w.heap.size]? = wr.heap[w.heap.size]? := hst5.fr.block _ hszr hnb; have u1 : w5.cell? ⟨w.heap.size, 1, none⟩ = some (.int .i64 b) := (World.cell?_of_block (w := wr.drew) hwk).trans z1; have u2 : w5.cell? ⟨w.heap.size, 2, none⟩ = some (.int .i64 off) := (World.cell?_of_block (w := wr.drew) hwk).trans z2))
        have hla5 := vLast_ok h5
        rw [hC5.last] at hla5
        have HE : Hid (VI 0 B w5 A T' ∧ Pt.Stp (fp A T) (fp A T') w w5 ∧ Changed T T' (Pt.mq T.S.N b) (Pt.mq (129 - (bsV nn xs).length) off) (bsV nn xs) (Pt.zsOf T.last ids)) := by
          refine ⟨h5, join_stp HC.out.2.2.2 (Frame.refl _ _) (fun _ h => h) hst5, ?_⟩
          rw [HC.out.1, HC.out.2.1]
          exact hC5
        clear hch hst5 hC5 h5
        go_wp2_with (first | (go_at_call 16; refine same_at hla5 ?_))
        go_ret
        exact ⟨by simp, T', HE.out⟩
end
end Go.Proofs.YtinigfidofgaiaaGreat

/- blocks: an image of so many blocks; a volume over it. -/
namespace Go.Proofs.YtinigfidofgaiaaGreat
open Go.RowKit Go.Maps
set_option linter.unusedVariables false

theorem sect_rep (i : Nat) (h : i ≤ 200) : Sect (List.replicate 128 ((i : Int) + 1)) := by
  refine ⟨by simp, fun j => ?_⟩
  rw [List.getD_eq_getElem?_getD, List.getElem?_replicate]
  split <;> simp <;> omega

set_option maxRecDepth 100000 in
set_option maxHeartbeats 4000000 in
theorem blocksN_ok (n : Int) (w : World) : Calls Tryz.prog 37 #[.int .i64 n] w fun e w' => ∃ p c L, e = .returned (.slice p (1 + Pt.mq 8 n) c) ∧ IB w' p (1 + Pt.mq 8 n) L ∧ (∀ xs ∈ L, Sect xs) ∧ Below w.heap.size w w' := by
  have hm8 : wrap64 ((IntKind.u64.wrap n).tmod 8) = (Pt.mq 8 n : Int) := Pt.mq_wrap (K := 8) (by omega) (by omega) n
  have hm8i : IntKind.i64.wrap ((IntKind.u64.wrap n).tmod 8) = (Pt.mq 8 n : Int) := mq_wrapI (K := 8) (by omega) (by omega) n
  have hl8 := Pt.mq_lt (K := 8) (by omega) n
  obtain ⟨M, hM⟩ : ∃ M, M = Pt.mq 8 n := ⟨_, rfl⟩
  rw [← hM] at hm8 hm8i hl8
  rw [← hM]
  clear hM
  obtain ⟨K, hK⟩ : ∃ K, K = 1 + M := ⟨_, rfl⟩
  have hK1 : wrap64 (1 + (M : Int)) = (K : Int) := by unfold wrap64; omega
  have hK2 : IntKind.i64.wrap (1 + (M : Int)) = (K : Int) := by rw [IntWalk.i64_in _ (by omega)]; omega
  have hK3 : (1 : Int) + (M : Int) = (K : Int) := by omega
  have hK8 : 1 ≤ K ∧ K ≤ 8 := by omega
  rw [← hK]
  clear hK hl8
  obtain ⟨i0, hi, hz0, hz1, hz2⟩ := info_parts info30
  go_enter Tryz.func37, Tryz.ntmps37
  go_wp2_with fail
  go_loopw [10, 3] (fun i v wr => ∃ gs : List Nat, gs.length ≤ K ∧ i = .int .i64 (gs.length : Int) ∧ wr.ownsRow w.heap.size 42 1 v gs.length (gs.map sl) ∧ Bs wr gs ∧ Below w.heap.size w wr) (fun i _ _ => K - (intOf i).toNat)
  case atStart => exact ⟨[], by simp, rfl, ⟨rfl, .inl ⟨rfl, rfl⟩⟩, ⟨fun i g hg => by simp at hg⟩, Below.refl _ _⟩
  case round =>
    obtain ⟨gs, hg3, rfl, hown, hbs, hb⟩ := hrel
    by_cases hlt : gs.length < K
    · have hbA : Below wr.heap.size wr (wr.alloc (.cells #[.int .u8 ((gs.length : Int) + 1)] 5)) := (Below.refl _ wr).alloc (Nat.le_refl _) _
      have hbx : BI (wr.alloc (.cells #[.int .u8 ((gs.length : Int) + 1)] 5)) (some ⟨wr.heap.size, 0, none⟩) 1 [(gs.length : Int) + 1] := by
        refine ⟨rfl, by omega, ?_, fun _ => ⟨_, _, rfl, fun i hi => ?_⟩⟩
        · intro i
          rcases i with _ | i
          · simp; omega
          · simp
        · obtain rfl : i = 0 := by omega
          rw [cell_of_row _ _ 0 _ 5 _ (at_new rfl)]
          rfl
      have hrep := repeat_ok ((gs.length : Int) + 1) (by omega) ⟨wr.heap.size, 0, none⟩ 1 _ hbx
      have hk0 : (0 : Int) ≤ (gs.length : Int) := by omega
      have hk3 : (gs.length : Int) < (K : Int) := by omega
      have hwrap : IntKind.wrap .u8 ((gs.length : Int) + 1) = (gs.length : Int) + 1 := by
        rcases (by omega : gs.length = 0 ∨ gs.length = 1 ∨ gs.length = 2 ∨ gs.length = 3 ∨ gs.length = 4 ∨ gs.length = 5 ∨ gs.length = 6 ∨ gs.length = 7) with e | e | e | e | e | e | e | e <;> rw [e] <;> decide
      have HO := (show Hid _ from hown)
      clear hown
      go_wp2_with fail
      refine Calls.mono hrep ?_
      rintro e w1 ⟨g1, rfl, hg1, hbi1, hcs1, hb1⟩
      have hb1' := hbA.trans (hb1.mono hbA.size)
      have hb2 := hb1'.alloc hb1'.size (.cells #[.slice (some ⟨g1, 0, none⟩) 128 128] 42)
      have hown2 := ownsRow_kept HO.out (fun k hk => hb2.block k (World.ownsRow.lt HO.out k hk).2)
      go_wp2_with (at_builtin; refine wpList_append_own_at _ rfl _ _ 28 rfl w.heap.size 42 i0 (.slice none 0 0) 1 24 Tryz.underlying28 hi hz0 hz1 hz2 rfl (by decide) _ _ _ rfl hown2 ⟨w1.heap.size, 0, none⟩ 1 1 [sl g1] rfl rfl (news_one w1 g1) (one_sl g1) (by unfold maxLen; omega) (by omega) (Nat.le_trans hb.size hb2.size) ?_; intro v3 w3 ho3 hg3 _ _)
      go_roundw
      case rel =>
        have hb3 : Below w1.heap.size w1 (w1.alloc (.cells #[.slice (some ⟨g1, 0, none⟩) 128 128] 42)) := (Below.refl _ _).alloc (Nat.le_refl _) _
        have hk1 : ∃ cs, (w1.alloc (.cells #[.slice (some ⟨g1, 0, none⟩) 128 128] 42)).heap[g1]? = some (.cells cs 5 (0, 0)) := by
          obtain ⟨cs, hc⟩ := hcs1
          exact ⟨cs, at_old hc⟩
        have hB2 := ((hbs.kept hb2).snoc (hbi1.kept hb3) hk1).grown hown2 hg3
        refine ⟨gs ++ [g1], by simp; omega, by simp, ?_, hB2, (hb.trans (hb2.mono hb.size)).grown hg3 (Nat.le_trans hb.size hb2.size) (fun k hk => (World.ownsRow.lt HO.out k hk).1)⟩
        simpa using ho3
      case measure => simp [intOf]; omega
    · have hI : ¬ (gs.length : Int) < (K : Int) := by omega
      have h3 : gs.length = K := by omega
      go_wp2
      go_ret
      rcases hown.2 with ⟨_, h0⟩ | ⟨g, cap, cur, rfl, _, hrow, _, _, hcur, htake⟩
      · omega
      rw [h3] at htake
      refine ⟨some ⟨g, 0, none⟩, ⟨cap, by rw [← h3]; rfl⟩, (List.range K).map fun (i : Nat) => List.replicate 128 ((i : Int) + 1), ⟨by simp, by omega, fun _ => ⟨g, 0, rfl, fun i x hx => ?_⟩⟩, by intro xs hxs; obtain ⟨i, hir, rfl⟩ := List.mem_map.1 hxs; exact sect_rep i (by have := List.mem_range.1 hir; omega), hb⟩
      obtain ⟨hi3, e⟩ := List.getElem?_eq_some_iff.1 hx
      simp at hi3 e
      subst e
      obtain ⟨gi, hgi⟩ : ∃ gi, gs[i]? = some gi := ⟨_, List.getElem?_eq_getElem (show i < gs.length by omega)⟩
      refine ⟨_, _, 128, ?_, (hbs.el i _ hgi).1⟩
      have hci : cur.toList[i]? = some (sl gi) := by
        have : (List.take (K * 1) cur.toList)[i]? = some (sl gi) := by rw [htake]; simp [hgi]
        rwa [List.getElem?_take_of_lt (by omega)] at this
      rw [cell_of_row _ _ (0 + i) _ 42 _ hrow]
      simpa [sl] using hci

theorem sect_part {L : List (List Int)} (h : ∀ xs ∈ L, Sect xs) (j b : Nat) : Sect (part L j b) := by
  unfold part
  split
  · rw [List.getD_eq_getElem?_getD]
    cases e : L[b]? with
    | none => exact sect_zer
    | some xs => exact h xs (List.mem_of_getElem? e)
  · exact sect_zer
end Go.Proofs.YtinigfidofgaiaaGreat

/- begun: a volume behind changes that may be. -/
namespace Go.Proofs.YtinigfidofgaiaaGreat
open Go.RowKit Go.Maps
set_option linter.unusedVariables false
set_option maxRecDepth 100000

/-- A call that was handed in. -/
structure Dk where
  op : Int
  b : Int
  off : Int
  nn : Int
  xs : List Int
  ids : List Int
structure DkAt (w : World) (g o : Nat) (d : Dk) (bp : Option Addr) (bn bc : Nat) (ip : Option Addr) (im ic : Nat) : Prop where
  c0 : w.cell? ⟨g, o, none⟩ = some (.int .i64 d.op)
  c1 : w.cell? ⟨g, o + 1, none⟩ = some (.int .i64 d.b)
  c2 : w.cell? ⟨g, o + 2, none⟩ = some (.int .i64 d.off)
  c3 : w.cell? ⟨g, o + 3, none⟩ = some (.int .i64 d.nn)
  c4 : w.cell? ⟨g, o + 4, none⟩ = some (.slice bp bn bc)
  c5 : w.cell? ⟨g, o + 5, none⟩ = some (.slice ip im ic)
  bi : BI w bp bn d.xs
  bl : bn ≤ bc ∧ bc ≤ 9223372036854775807
  ii : Pt.II w ip im d.ids
  il : (im + 500) * 8 ≤ 140737488355328
/-- The slice at p, of n calls. -/
structure DosI (w : World) (p : Option Addr) (n : Nat) (D : List Dk) : Prop where
  len : D.length = n
  big : n ≤ 140737488355328
  cells : 0 < n → ∃ g o, p = some ⟨g, o, none⟩ ∧ ∀ (j : Nat) (d : Dk), D[j]? = some d → ∃ bp bn bc ip im ic, DkAt w g (o + j * 6) d bp bn bc ip im ic
theorem DkAt.kept {w w' : World} {g o : Nat} {d : Dk} {bp : Option Addr} {bn bc : Nat} {ip : Option Addr} {im ic : Nat} (k : DkAt w g o d bp bn bc ip im ic) (hb : Below w.heap.size w w') : DkAt w' g o d bp bn bc ip im ic := by
  have hg := lt_of_cell k.c0
  have hk : ∀ i, w'.cell? ⟨g, i, none⟩ = w.cell? ⟨g, i, none⟩ := fun i => hb.cell (p := ⟨g, i, none⟩) hg
  exact ⟨(hk _).trans k.c0, (hk _).trans k.c1, (hk _).trans k.c2, (hk _).trans k.c3, (hk _).trans k.c4, (hk _).trans k.c5, k.bi.kept hb, k.bl, k.ii.kept hb, k.il⟩
theorem DkAt.lt {w : World} {g o : Nat} {d : Dk} {bp : Option Addr} {bn bc : Nat} {ip : Option Addr} {im ic : Nat} (k : DkAt w g o d bp bn bc ip im ic) (h0 : 0 < bn) {kk : Nat} (hk : Pt.blkOf bp = some kk) : kk < w.heap.size := by
  obtain ⟨b, oo, rfl, hc⟩ := k.bi.cells h0
  have := lt_of_cell (hc 0 h0)
  simp only [Pt.blkOf, Option.some.injEq] at hk
  omega

/-- A volume at rest: nothing on the way. -/
structure Good (T : Vs) : Prop where
  gd : Pt.Gd T.P
  q : T.S.q = []
  Y : T.Y = fun _ => none
  x : T.x = none
  blk : ∀ p ∈ T.P, p.blk < T.S.N

theorem good_changed {T T' : Vs} {b o : Nat} {xs zs : List Int} {g : Int} {B : Nat} {w : World} {A : At} (h : Good T) (hv : VI g B w A T) (hc : Changed T T' b o xs zs) (hb : b < T.S.N) (ho : o + xs.length ≤ 128) : Good T' := by
  obtain ⟨pn, e1, e2, e3, e4, e5, eP⟩ := hc.ex
  refine ⟨?_, by rw [hc.S]; exact h.q, by rw [hc.Y]; exact h.Y, by rw [hc.x]; exact h.x, ?_⟩
  · rw [eP]
    exact h.gd.add (fun p hp => ⟨(hv.ps.ids p hp).1, (hv.ps.ids p hp).2.1⟩) e1 (by rw [e3, e4]; exact ho) e5
  · rw [eP, hc.S]
    intro p hp
    rcases List.mem_append.1 hp with h1 | h1
    · exact h.blk p h1
    · simp at h1; subst h1; rw [e2]; exact hb

/-- What begun leaves, j changes behind. -/
structure Bgn (w : World) (B : Nat) (w' : World) (A : At) (T : Vs) (K j : Nat) : Prop where
  vi : VI 0 B w' A T
  lo : w.heap.size ≤ B
  good : Good T
  last : T.last = j
  len : T.P.length = j
  C : T.C = ⟨64, 0, 0, []⟩
  N : T.NW = 0
  Sl : T.S.last = 0
  SN : T.S.N = K
  bel : Below w.heap.size w w'
  own : ∀ k, fp A T k → w.heap.size ≤ k

set_option maxHeartbeats 4000000 in
theorem begun_ok (n : Int) (p : Option Addr) (m c : Nat) (D : List Dk) (w : World) (hD : DosI w p m D) : Calls Tryz.prog 8 #[.int .i64 n, .slice p m c] w fun e w' => ∃ A T, e = .returned (.tuple #[.pointer (some ⟨A.v, 0, none⟩), .pointer (some ⟨A.d, 0, none⟩), .bool true]) ∧ ∃ B j, j ≤ 41 ∧ Bgn w B w' A T (1 + Pt.mq 8 n) j := by
  have hl8 := Pt.mq_lt (K := 8) (by omega) n
  have hbl := blocksN_ok n w
  obtain ⟨K, hK⟩ : ∃ K, K = 1 + Pt.mq 8 n := ⟨_, rfl⟩
  rw [← hK] at hbl
  rw [← hK]
  have hK8 : 1 ≤ K ∧ K ≤ 8 := by omega
  clear hK hl8
  go_enter Tryz.func8, Tryz.ntmps8
  go_wp2_with fail
  refine Calls.mono hbl ?_
  rintro e w1 ⟨p1, c1, L, rfl, hL, hS, hb1⟩
  have hof := of_ok p1 K c1 L w1 hL (by omega) (by omega)
  clear hbl
  dsimp only
  go_wp2_with fail
  refine Calls.mono hof ?_
  rintro e w2 ⟨hb2, h2⟩
  rcases h2 with ⟨_, a, dmb, fb, rfl, hd⟩ | ⟨⟨xs, hx, hne⟩, _⟩
  rotate_left
  · exact absurd (hS xs hx).1 hne
  have hb12 : Below w.heap.size w w2 := hb1.trans (hb2.mono hb1.size)
  have hop := vOpen_ok (bd := 64) hd hb2.size (by show K ≤ 12; omega) (fun _ => rfl) (fun b => sect_part hS K b) (by omega)
  clear hof
  dsimp only
  go_wp2_with fail
  refine Calls.mono hop ?_
  rintro e w3 ⟨A, rfl, eA1, eA2, eA3, hv3, hb3, hfp3⟩
  have hB3 : Bgn w w1.heap.size w3 A (new0 ⟨K, part L K, [], 0, fun _ => 0⟩ (.slice none 0 0) 64) K 0 := by
    refine ⟨hv3, hb1.size, ⟨Pt.gd_nil, rfl, rfl, rfl, fun p hp => by cases hp⟩, rfl, rfl, rfl, rfl, rfl, rfl, hb12.trans (hb3.mono hb12.size), fun k hk => ?_⟩
    rcases hfp3 k hk with h1 | h1
    · have := (hd.in k h1).1
      have := hb1.size
      omega
    · have := hb12.size
      omega
  have hbig := hD.big
  have hDl := hD.len
  clear hop hv3 hfp3 hb3 hd hS hL hb12 hb2 hb1
  subst eA1
  dsimp only
  go_wp2_with fail
  go_loopw [36] (fun i wr => ∃ (j : Nat) (T : Vs), j ≤ m ∧ j ≤ 41 ∧ i = .int .i64 (j : Int) ∧ Bgn w w1.heap.size wr A T K j) (fun i _ => m - (intOf i).toNat)
  case atStart => exact ⟨0, _, by omega, by omega, rfl, hB3⟩
  case round =>
    clear hB3
    obtain ⟨j, T, hj, hj41, rfl, hBg⟩ := hrel
    by_cases hlt : j < m
    · obtain ⟨d, hdj⟩ : ∃ d, D[j]? = some d := ⟨_, List.getElem?_eq_getElem (by omega)⟩
      obtain ⟨g, o, rfl, hc⟩ := hD.cells (by omega)
      obtain ⟨bp, bn, bc, ip, im, ic, k0⟩ := hc j d hdj
      have k := k0.kept hBg.bel
      have hjI : (j : Int) < (m : Int) := by omega
      have hj0 : (0 : Int) ≤ (j : Int) := by omega
      have r0 := k.c0
      have r1 := k.c1
      have r2 := k.c2
      have r3 := k.c3
      have r4 := k.c4
      have r5 := k.c5
      obtain ⟨W1, hW1⟩ : ∃ W1, wr.alloc (.cells #[.int .i64 d.op, .int .i64 d.b, .int .i64 d.off, .int .i64 d.nn, .slice bp bn bc, .slice ip im ic] 44) = W1 := ⟨_, rfl⟩
      have hbW : Below wr.heap.size wr W1 := by rw [← hW1]; exact (Below.refl _ _).alloc (Nat.le_refl _) _
      have hrW : W1.heap[wr.heap.size]? = some (.cells #[.int .i64 d.op, .int .i64 d.b, .int .i64 d.off, .int .i64 d.nn, .slice bp bn bc, .slice ip im ic] 44 (0, 0)) := by rw [← hW1]; exact at_new rfl
      have s0 : W1.cell? ⟨wr.heap.size, 0, none⟩ = some (.int .i64 d.op) := (cell_of_row _ _ 0 _ 44 _ hrW).trans rfl
      have s1 : W1.cell? ⟨wr.heap.size, 1, none⟩ = some (.int .i64 d.b) := (cell_of_row _ _ 1 _ 44 _ hrW).trans rfl
      have s2 : W1.cell? ⟨wr.heap.size, 2, none⟩ = some (.int .i64 d.off) := (cell_of_row _ _ 2 _ 44 _ hrW).trans rfl
      have s3 : W1.cell? ⟨wr.heap.size, 3, none⟩ = some (.int .i64 d.nn) := (cell_of_row _ _ 3 _ 44 _ hrW).trans rfl
      have s4 : W1.cell? ⟨wr.heap.size, 4, none⟩ = some (.slice bp bn bc) := (cell_of_row _ _ 4 _ 44 _ hrW).trans rfl
      have s5 : W1.cell? ⟨wr.heap.size, 5, none⟩ = some (.slice ip im ic) := (cell_of_row _ _ 5 _ 44 _ hrW).trans rfl
      by_cases hj40 : j ≤ 40
      · have hg40 : ¬ (40 : Int) < (j : Int) := by omega
        have hd40 : decide ((40 : Int) < (j : Int)) = false := decide_eq_false hg40
        have hvW := hBg.vi.later hbW
        have hNs := hBg.SN
        have hch := change_ok hvW hBg.good.x (by rw [hBg.last]; omega) d.op d.b d.off d.nn bp bn bc d.xs (k.bi.kept hbW) k.bl.1 k.bl.2 ip im ic d.ids (k.ii.kept hbW) k.il (fun h0 kk hk hf => ?_)
        rotate_left
        · have h1 := hBg.own kk hf
          have h2 : kk < w.heap.size := k0.lt h0 hk
          omega
        have HBg := (show Hid _ from hBg)
        clear k k0 hc hdj hBg hg40
        go_wp2_with (first | (go_at_call 22; refine Calls.mono hch ?_; rintro e w5 ⟨rfl, T', h5, hst5, hC5⟩))
        go_roundw
        case rel =>
          have hB := HBg.out
          obtain ⟨pn, q1, q2, q3, q4, q5, qP⟩ := hC5.ex
          have hbl := bsV_len d.nn d.xs
          have hmq := Pt.mq_lt (K := T.S.N) (by rw [hNs]; omega) d.b
          have hmo := Pt.mq_lt (K := 129 - (bsV d.nn d.xs).length) (by omega) d.off
          refine ⟨j + 1, T', by omega, by omega, by go_num, ⟨h5, hB.lo, good_changed hB.good hvW hC5 hmq (by omega), by rw [hC5.last, hB.last], by rw [qP]; simp [hB.len], by rw [hC5.C]; exact hB.C, by rw [hC5.N]; exact hB.N, by rw [hC5.S]; exact hB.Sl, by rw [hC5.S]; exact hB.SN, ?_, ?_⟩⟩
          · have hbw := hB.bel.trans (hbW.mono hB.bel.size)
            refine ⟨hst5.fr.os.trans hbw.os, hst5.fr.tape.trans hbw.tape, hst5.fr.output.trans hbw.output, Nat.le_trans hbw.size hst5.fr.size, fun i hi => ?_⟩
            exact (hst5.fr.block i (Nat.lt_of_lt_of_le hi hbw.size) (fun hf => by have := hB.own i hf; omega)).trans (hbw.block i hi)
          · intro i hi
            rcases hst5.new i hi with h1 | h1
            · exact hB.own i h1
            · have := hB.bel.size
              have := hbW.size
              omega
        case measure => simp [intOf]; omega
      · obtain rfl : j = 41 := by omega
        go_wp2_with fail
        go_ret3
        have hbw := hBg.bel.trans (hbW.mono hBg.bel.size)
        exact ⟨A, T, rfl, w1.heap.size, 41, by omega, ⟨hBg.vi.later hbW, hBg.lo, hBg.good, hBg.last, hBg.len, hBg.C, hBg.N, hBg.Sl, hBg.SN, hbw, hBg.own⟩⟩
    · have hI : ¬ (j : Int) < (m : Int) := by omega
      go_wp2_with fail
      go_ret3
      exact ⟨A, rfl, T, w1.heap.size, j, by omega, hBg⟩
end Go.Proofs.YtinigfidofgaiaaGreat
