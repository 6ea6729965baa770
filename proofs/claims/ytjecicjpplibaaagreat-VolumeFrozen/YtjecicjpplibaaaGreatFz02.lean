/- WC WD -/
import Derived.Test.YtjecicjpplibaaaGreatFz01
import Derived.Deep.DeepCutAuto
import Derived.Deep.RegionHeld3

/- Change, beside a frozen view. -/
namespace Go.Proofs.YtjecicjpplibaaaGreat
open Go.RowKit Go.Maps
set_option linter.unusedVariables false
set_option maxRecDepth 100000

/-- T' is T with a patch more; a block may have been read. -/
structure ChangedV (T T' : Vs) (b o : Nat) (xs zs : List Int) : Prop where
  ex : ∃ pn : Pt.Pv, pn.id = T.last + 1 ∧ pn.blk = b ∧ pn.off = o ∧ pn.bs = xs ∧ pn.nd = Pt.rs (Pt.still T.P zs ++ Pt.uppL T.P pn) ∧ T'.P = T.P ++ [pn]
  last : T'.last = T.last + 1
  S : T'.S = T.S
  C : T'.C.hi + T'.C.mi ≤ T.C.hi + T.C.mi + 1
  Y : T'.Y = T.Y
  x : T'.x = T.x
  N : T'.NW = T.NW
/-- V' keeps block b. -/
def Keeps (T : Vs) (V V' : Vw) (b : Nat) : Prop := ((∃ s, V.K (b : Int) = some s) ∧ V' = V) ∨ (V.K (b : Int) = none ∧ ∃ q c, V' = { V with K := Pt.fput V.K (b : Int) (some ⟨q, c, nowOf T b⟩) })

section
variable {g : Int} {B : Nat} {w w' : World} {A : At} {T T' : Vs} {V : Vw}
theorem stp_v (h : Pt.Stp (fp A T) (fp A T') w w') (V : Vw) : Pt.Stp (fpv A T V) (fpv A T' V) w w' :=
  ⟨⟨h.fr.os, h.fr.tape, h.fr.output, h.fr.size, fun k hk hn => h.fr.block k hk (fun hf => hn (.inl hf))⟩, fun k hk => by
    rcases hk with hk | hk
    · exact (h.new k hk).imp .inl id
    · exact .inl (.inr hk)⟩

/-- The whole of a change that keeps a block. -/
theorem keep_stp {WL w2 w3 : World} {T2 : Vs} {b : Int} {q2 c : Nat} {xs : List Int} (hs : Pt.Stp (fp A T) (fp A T2) WL w2) (hWL : w.setCell ⟨A.v, 0, none⟩ (.int .i32 1) = WL) (hg3 : w2.grownBy w3 (some V.m)) (hq : WL.heap.size ≤ q2) :
    Pt.Stp (fpv A T V) (fpv A T2 { V with K := Pt.fput V.K b (some ⟨q2, c, xs⟩) }) w (w3.setCell ⟨A.v, 0, none⟩ (.int .i32 0)) := by
  have hsz : WL.heap.size = w.heap.size := by rw [← hWL]; simp
  have f1 : Pt.Frame (fp A T) w WL := by rw [← hWL]; exact (Frame.setCell (X := fp A T) w (p := ⟨A.v, 0, none⟩) _ (.inl rfl)).pt fun _ h => h
  have f4 : Pt.Frame (fp A T) w3 (w3.setCell ⟨A.v, 0, none⟩ (.int .i32 0)) := (Frame.setCell (X := fp A T) w3 (p := ⟨A.v, 0, none⟩) _ (.inl rfl)).pt fun _ h => h
  refine ⟨⟨f4.os.trans (hg3.os.trans (hs.fr.os.trans f1.os)), f4.tape.trans (hg3.tape.trans (hs.fr.tape.trans f1.tape)), f4.output.trans (hg3.output.trans (hs.fr.output.trans f1.output)), Nat.le_trans f1.size (Nat.le_trans hs.fr.size (Nat.le_trans hg3.size f4.size)), fun k hk hn => ?_⟩, ?_⟩
  · have hnf : ¬ fp A T k := fun h => hn (.inl h)
    have h1 : k < WL.heap.size := Nat.lt_of_lt_of_le hk f1.size
    have h2 : k < w2.heap.size := Nat.lt_of_lt_of_le h1 hs.fr.size
    have h3 : k < w3.heap.size := Nat.lt_of_lt_of_le h2 hg3.size
    exact (f4.block k h3 hnf).trans ((hg3.block k h2 (fun e => hn (.inr (.inr (.inl (Option.some.inj e)))))).trans ((hs.fr.block k h1 hnf).trans (f1.block k hk hnf)))
  · rintro k (hk | hk | hk | ⟨b', s, hs', hk⟩)
    · rcases hs.new k hk with h1 | h1
      · exact .inl (.inl h1)
      · exact .inr (by omega)
    · exact .inl (.inr (.inl hk))
    · exact .inl (.inr (.inr (.inl hk)))
    · have hs'' : Pt.fput V.K b (some ⟨q2, c, xs⟩) b' = some s := hs'
      unfold Pt.fput at hs''
      split at hs''
      · cases hs''
        simp at hk
        exact .inr (by omega)
      · exact .inl (.inr (.inr (.inr ⟨b', s, hs'', hk⟩)))

theorem now_sect (h : VI g B w A T) (b : Nat) : Sect (nowOf T b) := ovrs_sect _ _ (fun p hp => ⟨(h.ps.byt p (List.mem_filter.1 hp).1).1.byt, (h.ps.ids p (List.mem_filter.1 hp).1).2.2.2.2⟩) (h.sy.ok.sec b)

set_option maxHeartbeats 4000000 in
theorem vChangeV_ok (h : VI 0 B w A T) (hV : VW w A T V) (hc : T.C.hi + T.C.mi < 4611686018427387904) (hsm : T.last + 1 ≤ 1000) (b o : Nat) (hb : b < T.S.N) (p : Option Addr) (n c : Nat) (xs : List Int) (hbi : BI w p n xs) (hp : ∀ k, Pt.blkOf p = some k → ¬ fp A T k) (hmay : Pt.mayAt (b : Int) (o : Int) n) (q : Option Addr) (m d : Nat) (zs : List Int) (hz : Pt.II w q m zs) (hqv : ∀ k, Pt.blkOf q = some k → ¬ fp A T k) (hk : zs.all (Pt.kn T.last) = true) (hm8 : (m + T.P.length) * 8 ≤ 140737488355328)
    (hroom : V.K (b : Int) = none → ∃ L : List Int, (∀ k, Pt.I64 k → V.K k ≠ none → k ∈ L) ∧ L.length < V.room) :
    Calls Tryz.prog 30 #[.pointer (some ⟨A.v, 0, none⟩), .int .i64 (b : Int), .int .i64 (o : Int), .slice p n c, .slice q m d] w fun e w' => e = .returned (.tuple #[.int .i64 ((T.last + 1 : Nat) : Int), .int .i64 0]) ∧ ∃ T' V', VI 0 B w' A T' ∧ VW w' A T' V' ∧ Pt.Stp (fpv A T V) (fpv A T' V') w w' ∧ ChangedV T T' b o xs zs ∧ Keeps T V V' b := by
  have hg := h.guard 1
  have hVg := hV.guard 1
  have hN12 := h.cd.ci.N12
  have hm := vmade_ok h.vrow.made
  have hlk := h.vrow.lock
  have hh := vhas_ok hg b hb
  have c6 := hg.c6
  rw [hV.tx] at c6
  have hla := lacks_some hVg b (by omega)
  obtain ⟨WL, hWL⟩ : ∃ WL, w.setCell ⟨A.v, 0, none⟩ (.int .i32 1) = WL := ⟨_, rfl⟩
  have hszL : WL.heap.size = w.heap.size := by rw [← hWL]; simp
  have hoth : ∀ k, k < w.heap.size → k ≠ A.v → WL.heap[k]? = w.heap[k]? := fun k hk hn => by rw [← hWL]; exact (Frame.setCell (X := fun i => i = A.v) w (p := ⟨A.v, 0, none⟩) (.int .i32 1) rfl).block k hk hn
  have hbiL : Pt.BI WL p n xs := hbi.pt.keptIf (fun k hk hl => hoth k hl (fun e => hp k hk (.inl e)))
  have hzL : Pt.II WL q m zs := hz.keptIf (fun k hk hl => hoth k hl (fun e => hqv k hk (.inl e)))
  rw [hWL] at hg hVg hlk hh c6 hla
  cases hK : V.K (b : Int) with
  | some s =>
    rw [hK] at hla
    have hla2 : Calls Tryz.prog 65 #[.pointer (some ⟨V.x, 0, none⟩), .int .i64 (b : Int)] WL fun e w' => e = .returned (.bool false) ∧ w' = WL := hla
    have hadd := Pt.sadd_ok hg.ps hsm b o (by omega) p n c xs hbiL hmay q m d zs hzL hk hm8
    have c4 := hg.c4
    have HK : Hid (∃ s, V.K (b : Int) = some s) := ⟨s, hK⟩
    clear hroom hK hla
    go_enter_defers Tryz.func30, Tryz.ntmps30
    go_wp2_with (first
      | (go_at_call 38; refine same_at hm ?_)
      | (go_at_call 39; refine Calls.mono hlk ?_; rintro e w' ⟨rfl, hw'⟩; subst w')
      | (go_at_call 64; refine same_at hh ?_)
      | (go_at_call 65; refine same_at hla2 ?_)
      | (go_at_call 66; refine Calls.mono hadd ?_; rintro e w1 ⟨rfl, pn, K', e1, e2, e3, e4, e5, hps, hst⟩; obtain ⟨h1, hs1⟩ := hg.pats hps hst))
    refine leaves_cons (f := 40) (args := #[.pointer (some ⟨A.v, 0, none⟩)]) (by simp) (by simp [go_sem]) ?_
    refine (h1.vheld.unlock .returning).mono ?_
    rintro e u' w'' ⟨rfl, rfl, rfl⟩
    rw [← hWL] at hs1
    obtain ⟨hv0, hs0⟩ := unguard hs1 h1
    exact ⟨_, results_tmp2 rfl _ _ _, by simp, _, V, hv0, hV.stp hs0 rfl, stp_v hs0 V, ⟨⟨pn, e1, e2, e3, e4, e5, rfl⟩, rfl, rfl, Nat.le_succ _, rfl, rfl, rfl⟩, .inl ⟨HK.out, rfl⟩⟩
  | none =>
    rw [hK] at hla
    have hla2 : Calls Tryz.prog 65 #[.pointer (some ⟨V.x, 0, none⟩), .int .i64 (b : Int)] WL fun e w' => e = .returned (.bool true) ∧ w' = WL := hla
    have hrd := vrd_ok hg b hb hc
    obtain ⟨L, hL, hLr⟩ := hroom hK
    have HL : Hid ((∀ k, Pt.I64 k → V.K k ≠ none → k ∈ L) ∧ L.length < V.room ∧ V.K (b : Int) = none ∧ WL.heap.size = w.heap.size) := ⟨hL, hLr, hK, hszL⟩
    have HW : Hid (w.setCell ⟨A.v, 0, none⟩ (.int .i32 1) = WL) := hWL
    clear hroom hK hla hL hLr hszL hWL hoth
    go_enter_defers Tryz.func30, Tryz.ntmps30
    go_wp2_with (first
      | (go_at_call 38; refine same_at hm ?_)
      | (go_at_call 39; refine Calls.mono hlk ?_; rintro e w' ⟨rfl, hw'⟩; subst w')
      | (go_at_call 64; refine same_at hh ?_)
      | (go_at_call 65; refine same_at hla2 ?_))
    refine Calls.mono hrd ?_
    rintro e w1 ⟨q2, cap, C', rfl, hO, hnf, hv1, hst1, hcn⟩
    have hV1 := hVg.stp hst1 rfl
    have c4 := hv1.c4
    have hbi1 : Pt.BI w1 p n xs := hbiL.keptIf (fun k hk hl => hst1.fr.block k hl (hp k hk))
    have hz1 : Pt.II w1 q m zs := hzL.keptIf (fun k hk hl => hst1.fr.block k hl (hqv k hk))
    have hadd := Pt.sadd_ok hv1.ps hsm b o (by omega) p n c xs hbi1 hmay q m d zs hz1 hk hm8
    clear hrd hla2 hh hlk hm c6
    dsimp only
    go_wp2_with fail
    refine Calls.mono hadd ?_
    rintro e w2 ⟨rfl, pn, K', e1, e2, e3, e4, e5, hps, hst⟩
    obtain ⟨h2, hs2⟩ := hv1.pats hps hst
    have hV2 := hV1.stp hs2 rfl
    have c6 := h2.c6
    have e6 : T.x = some ⟨V.x, 0, none⟩ := hV.tx
    have hc6 : w2.cell? ⟨A.v, 6, none⟩ = some (.pointer (some ⟨V.x, 0, none⟩)) := by rw [← e6]; exact c6
    have hspq := hO.spot
    have hqlt : q2 < w2.heap.size := Nat.lt_of_lt_of_le hspq.2 hs2.fr.size
    have hqv2 : ¬ vf V q2 := fun hf => by have := hVg.lt q2 hf; omega
    have hqn : ¬ fp A { T with C := C', P := T.P ++ [pn], last := T.last + 1, K := K' } q2 := fun hf => by
      rcases hs2.new q2 hf with h3 | h3
      · exact hnf h3
      · have := hspq.2; omega
    have hbq : Pt.BI w2 (some ⟨q2, 0, none⟩) 128 (nowOf T b) := (hO.bi (by omega) (now_sect h b).2).pt.keptIf (fun k hk hl => hs2.fr.block k hl (fun hf => by simp [Pt.blkOf] at hk; subst hk; exact hnf hf))
    have hkp := keep_ok hV2 b (by omega) HL.out.2.2.1 L HL.out.1 HL.out.2.1 q2 cap (nowOf T b) hbq hqlt (fun hf => hf.elim hqn hqv2)
    clear hadd c6
    dsimp only
    go_wp2_with fail
    refine Calls.mono hkp ?_
    rintro e w3 ⟨rfl, hV3, hg3⟩
    have ho3 : ∀ k, k < w2.heap.size → k ≠ V.m → w3.heap[k]? = w2.heap[k]? := fun k hk hn => hg3.block k hk (fun e => hn (Option.some.inj e))
    have h3 := h2.else hg3.size (fun k hk => ho3 k (h2.lt k hk) (fun e => by subst e; exact hV2.out _ (.inr (.inl rfl)) hk))
    dsimp only
    go_wp2_with fail
    refine leaves_cons (f := 40) (args := #[.pointer (some ⟨A.v, 0, none⟩)]) (by simp) (by simp [go_sem]) ?_
    refine (h3.vheld.unlock .returning).mono ?_
    rintro e u' w'' ⟨rfl, rfl, rfl⟩
    have hs12 := stp_trans hst1 hs2
    exact ⟨_, results_tmp2 rfl _ _ _, by simp, _, _, h3.guard 0, hV3.guard 0, keep_stp hs12 HW.out hg3 hspq.1, ⟨⟨pn, e1, e2, e3, e4, e5, rfl⟩, rfl, rfl, by show C'.hi + C'.mi ≤ _; omega, rfl, rfl, rfl⟩, .inr ⟨HL.out.2.2.1, q2, cap, rfl⟩⟩
end
end Go.Proofs.YtjecicjpplibaaaGreat

/- change, beside a frozen view. -/
namespace Go.Proofs.YtjecicjpplibaaaGreat
open Go.RowKit Go.Maps
set_option linter.unusedVariables false
set_option maxRecDepth 100000

section
variable {B : Nat} {w w' : World} {A : At} {T : Vs} {V : Vw}
set_option maxHeartbeats 4000000 in
theorem changeV_ok (h : VI 0 B w A T) (hV : VW w A T V) (hcc0 : T.C.hi + T.C.mi < 4611686018427387904) (hroom : ∀ b : Nat, b < T.S.N → V.K (b : Int) = none → ∃ L : List Int, (∀ k, Pt.I64 k → V.K k ≠ none → k ∈ L) ∧ L.length < V.room) (hsm : T.last + 1 ≤ 500) (op b off nn : Int) (bp : Option Addr) (bn bc : Nat) (xs : List Int) (hbi : BI w bp bn xs) (hbc : bn ≤ bc) (hcc : bc ≤ 9223372036854775807) (ip : Option Addr) (im ic : Nat) (ids : List Int) (hii : Pt.II w ip im ids) (him : (im + 500) * 8 ≤ 140737488355328) (hpb : 0 < bn → ∀ k, Pt.blkOf bp = some k → ¬ fp A T k) :
    Calls Tryz.prog 22 #[.pointer (some ⟨A.v, 0, none⟩), .agg #[.int .i64 op, .int .i64 b, .int .i64 off, .int .i64 nn, .slice bp bn bc, .slice ip im ic]] w fun e w' => e = .returned (.bool true) ∧ ∃ T' V', VI 0 B w' A T' ∧ VW w' A T' V' ∧ Pt.Stp (fpv A T V) (fpv A T' V') w w' ∧ ChangedV T T' (Pt.mq T.S.N b) (Pt.mq (129 - (bsV nn xs).length) off) (bsV nn xs) (Pt.zsOf T.last ids) ∧ Keeps T V V' (Pt.mq T.S.N b) := by
  obtain ⟨i0, hi, hz0, hz1, hz2⟩ := info_parts info3z
  have hlt := h.lt
  have hNN := h.cd.di.N1
  have hN12 := h.cd.ci.N12
  obtain ⟨W1, hW1⟩ : ∃ W1, w.alloc (.cells #[.int .i64 op, .int .i64 b, .int .i64 off, .int .i64 nn, .slice bp bn bc, .slice ip im ic] 44) = W1 := ⟨_, rfl⟩
  have hb1 : Below w.heap.size w W1 := by rw [← hW1]; exact (Below.refl _ _).alloc (Nat.le_refl _) _
  have hs1 : W1.heap.size = w.heap.size + 1 := by rw [← hW1]; simp
  have hr1 : W1.heap[w.heap.size]? = some (.cells #[.int .i64 op, .int .i64 b, .int .i64 off, .int .i64 nn, .slice bp bn bc, .slice ip im ic] 44 (0, 0)) := by rw [← hW1]; exact at_new rfl
  have x1 : W1.cell? ⟨w.heap.size, 1, none⟩ = some (.int .i64 b) := (cell_of_row _ _ 1 _ 44 _ hr1).trans rfl
  have x2 : W1.cell? ⟨w.heap.size, 2, none⟩ = some (.int .i64 off) := (cell_of_row _ _ 2 _ 44 _ hr1).trans rfl
  have x3 : W1.cell? ⟨w.heap.size, 3, none⟩ = some (.int .i64 nn) := (cell_of_row _ _ 3 _ 44 _ hr1).trans rfl
  have x4 : W1.cell? ⟨w.heap.size, 4, none⟩ = some (.slice bp bn bc) := (cell_of_row _ _ 4 _ 44 _ hr1).trans rfl
  have x5 : W1.cell? ⟨w.heap.size, 5, none⟩ = some (.slice ip im ic) := (cell_of_row _ _ 5 _ 44 _ hr1).trans rfl
  have hBI := hbi.kept hb1
  have hII := hii.kept hb1
  have h1 := h.later hb1
  obtain ⟨mm, hm⟩ : ∃ mm, mm = min bn 128 := ⟨_, rfl⟩
  have hmm : min (bn : Int) 128 = (mm : Int) := by omega
  have hmc : (mm : Int) ≤ (bc : Int) := by omega
  have hm0 : (0 : Int) ≤ (mm : Int) := by omega
  have hBt : BI W1 bp mm (bsT xs) := by
    have := hBI.take mm (by omega)
    have e : xs.take mm = bsT xs := by
      unfold bsT
      rw [hm, ← hBI.len]
      rcases Nat.le_total xs.length 128 with h | h
      · rw [Nat.min_eq_left h, List.take_of_length_le (Nat.le_refl _), List.take_of_length_le h]
      · rw [Nat.min_eq_right h]
    rw [e] at this
    exact this
  have hml : mm = (bsT xs).length := hBt.len.symm
  have hx0 : mm = 0 ↔ xs = [] := by
    have := hBI.len
    constructor
    · intro e; exact List.length_eq_zero_iff.1 (by omega)
    · intro e; rw [e] at this; simp at this; omega
  have HM : Hid (mm = min bn 128 ∧ mm = (bsT xs).length ∧ (mm = 0 ↔ xs = [])) := ⟨hm, hml, hx0⟩
  clear hm hml hx0
  have HA : Hid ((im + 500) * 8 ≤ 140737488355328 ∧ T.last + 1 ≤ 500 ∧ 1 ≤ T.S.N ∧ T.S.N ≤ 12 ∧ W1.heap.size = w.heap.size + 1 ∧ bn ≤ bc) := ⟨him, hsm, hNN, hN12, hs1, hbc⟩
  clear him hsm hNN hN12 hbc
  generalize hws : w.heap.size + 1 = ws1 at hs1
  clear hws
  have hcB : (bc : Int) ≤ 9223372036854775807 := by omega
  clear hcc
  go_enter Tryz.func22, Tryz.ntmps22
  go_upto_if 20 with fail
  go_cut [5] (fun v wx => ∃ p9 n9 c9, v = .slice p9 n9 c9 ∧ n9 = (bsV nn xs).length ∧ BI wx p9 n9 (bsV nn xs) ∧ (∀ k, Pt.blkOf p9 = some k → ¬ fp A T k) ∧ Below W1.heap.size W1 wx)
  case first =>
    rcases Nat.eq_zero_or_pos mm with h0 | h0
    · have hbs : bsV nn xs = [nn % 256] := by unfold bsV; rw [if_pos (HM.out.2.2.1 h0)]
      have hmz : ((mm : Int) == 0) = true := by rw [h0]; rfl
      have HZ : Hid (bsV nn xs = [nn % 256]) := hbs
      clear h0 hbs
      go_wp2_with fail
      go_meet
      case rel =>
        refine ⟨_, _, _, rfl, by rw [HZ.out]; rfl, ?_, fun k hk hf => ?_, (Below.refl _ _).alloc (Nat.le_refl _) _⟩
        · rw [HZ.out]
          refine ⟨rfl, by omega, fun i => ?_, fun _ => ⟨ws1, 0, rfl, fun i hi => ?_⟩⟩
          · cases i with
            | zero => simp; omega
            | succ i => simp
          · obtain rfl : i = 0 := by omega
            rw [cell_of_row _ _ 0 _ 5 _ (at_new hs1.symm)]
            rfl
        · have e := Option.some.inj (show some ws1 = some k from hk)
          have := hlt k hf
          have := HA.out.2.2.2.2.1
          omega
    · have hbs : bsV nn xs = bsT xs := by unfold bsV bsT; rw [if_neg (fun e => by have := HM.out.2.2.2 e; omega)]
      have hmz : ((mm : Int) == 0) = false := beq_eq_false_iff_ne.2 (by omega)
      have HZ : Hid (bsV nn xs = bsT xs) := hbs
      have hpb2 := hpb (by have := HM.out.1; omega)
      clear h0 hbs hpb
      go_wp2_with fail
      go_meet
      case rel => exact ⟨_, _, _, rfl, by rw [HZ.out]; exact HM.out.2.1, by rw [HZ.out]; exact hBt, hpb2, Below.refl _ _⟩
  case rest =>
    obtain ⟨p9, n9, c9, rfl, hn9, hB9, hp9, hb9⟩ := hcut
    have h9 := h1.later hb9
    have hII9 := hII.kept hb9
    have hsz9 := hb9.size
    have y1 : wc.cell? ⟨w.heap.size, 1, none⟩ = some (.int .i64 b) := (hb9.cell (p := ⟨w.heap.size, 1, none⟩) (lt_of_cell x1)).trans x1
    have y2 : wc.cell? ⟨w.heap.size, 2, none⟩ = some (.int .i64 off) := (hb9.cell (p := ⟨w.heap.size, 2, none⟩) (lt_of_cell x1)).trans x2
    have y5 : wc.cell? ⟨w.heap.size, 5, none⟩ = some (.slice ip im ic) := (hb9.cell (p := ⟨w.heap.size, 5, none⟩) (lt_of_cell x1)).trans x5
    have hwl : W1.heap.size ≤ wc.heap.size := hsz9
    have HN9 := (show Hid _ from hn9)
    have HB : Hid (Below w.heap.size w wc) := hb1.trans (hb9.mono (by have := HA.out; omega))
    clear x1 x2 x3 x4 x5 hBt hBI hbi hn9 hII hii h1 hr1 hmm hmc hm0 hW1 hcB
    go_wp2_with fail
    go_loopw [6, 28] (fun s i w2 => ∃ t : Nat, t ≤ im ∧ i = .int .i64 (t : Int) ∧ Pt.Nums wc.heap.size w2 s (Pt.zsOf T.last (ids.take t)) ∧ Below wc.heap.size wc w2) (fun s i _ => im - (intOf i).toNat)
    case atStart => exact ⟨0, by omega, rfl, by rw [List.take_zero, zsOf_nil]; exact Pt.Nums.nil _ _, Below.refl _ _⟩
    case round =>
      obtain ⟨t, ht, rfl, hN, hb2⟩ := hrel
      have hv2 := h9.later hb2
      have hla := vLast_ok hv2
      have htb : t < 140737488355328 := by have := HA.out; omega
      by_cases htl : t < im
      · obtain ⟨b5, o5, rfl, hc5⟩ := (hII9.kept hb2).cells (by omega)
        have e5 := hc5 t htl
        have htI : (t : Int) < (im : Int) := by omega
        have ht0 : (0 : Int) ≤ (t : Int) := by omega
        have HT5 : Hid (ids.take (t + 1) = ids.take t ++ [ids.getD t 0]) := Pt.take_one (by rw [hII9.len]; exact htl)
        have hzl : (Pt.zsOf T.last (ids.take t)).length ≤ t := Nat.le_trans (zsOf_len _ _) (by rw [List.length_take]; omega)
        clear hc5
        generalize ids.getD t 0 = y at e5 HT5
        obtain ⟨lst, hlst⟩ : ∃ lst, lst = T.last := ⟨_, rfl⟩
        rw [← hlst] at hla
        rcases Nat.eq_zero_or_pos lst with hz | hz
        · have HZ : Hid (Pt.zsOf T.last (ids.take (t + 1)) = Pt.zsOf T.last (ids.take t)) := by show _ = _; rw [← hlst, hz]; rfl
          have hdz2 : decide ((0 : Int) < (lst : Int)) = false := decide_eq_false (by omega)
          have hdz : decide (0 < lst) = false := decide_eq_false (by omega)
          clear hz hlst
          go_wp2_with (first | (go_at_call 16; refine same_at hla ?_))
          go_roundw
          case rel => exact ⟨t + 1, by omega, by go_num, by rw [HZ.out]; exact hN, hb2⟩
          case measure => simp [intOf]; omega
        · have hjp : (0 : Int) < (lst : Int) := by omega
          have hls : lst ≤ 1000 := by have := HA.out; omega
          have hm1 := Pt.mq_wrap (K := lst) hz (by omega) y
          have hm2 := Pt.mq_lt hz y
          have hwj : IntKind.u64.wrap (lst : Int) = (lst : Int) := by rw [IntKind.wrap_u64]; omega
          have hw1 : IntKind.i64.wrap (1 + (Pt.mq lst y : Int)) = 1 + (Pt.mq lst y : Int) := IntWalk.i64_in _ (by omega)
          have hw2 : wrap64 (1 + (Pt.mq lst y : Int)) = 1 + (Pt.mq lst y : Int) := by unfold wrap64; omega
          have HZ : Hid (Pt.zsOf T.last (ids.take (t + 1)) = Pt.zsOf T.last (ids.take t) ++ [1 + (Pt.mq lst y : Int)]) := by show _ = _; rw [HT5.out, hlst, zsOf_snoc (by omega)]
          have hne0 : ¬ lst = 0 := by omega
          clear hlst
          go_wp2_with (first
            | (go_at_call 16; refine same_at hla ?_)
            | (at_builtin; refine wpList_append_own _ rfl _ _ 23 rfl wc.heap.size 3 i0 (.int .i64 0) 1 8 Tryz.underlying23 hi hz0 hz1 hz2 rfl (by decide) _ _ _ rfl (World.ownsRow.alloc hN _) ⟨wr.heap.size, 0, none⟩ 1 1 [.int .i64 (1 + (Pt.mq lst y : Int))] rfl rfl (cell_one_new _ _ _) (by simp [Value.oneCell']) (by have := HA.out; unfold maxLen; omega) (by have := HA.out; omega) (by have := hb2.size; simp; omega) ?_; intro v' w3 hown hgrow _; have hown := Pt.Nums.snoc hown; obtain ⟨g', cap', rfl⟩ := Pt.Nums.succ hown))
          have hb3 := (hb2.alloc (by have := hb2.size; omega) _).grown hgrow (by have := hb2.size; simp; omega) (by intro k hk; exact (World.ownsRow.lt hN k hk).1)
          go_roundw
          case rel => exact ⟨t + 1, by omega, by go_num, by rw [HZ.out]; exact hown, hb3⟩
          case measure => simp [intOf]; omega
      · obtain rfl : t = im := by omega
        rw [List.take_of_length_le (by rw [hII9.len]; exact Nat.le_refl _)] at hN
        have htI : ¬ (t : Int) < (t : Int) := by omega
        obtain ⟨hA1, hA2, hA3, hA4, hA5, hA6⟩ := HA.out
        have hzk : ∀ x ∈ Pt.zsOf T.last ids, 1 ≤ x ∧ x ≤ (T.last : Int) := fun x hx => by
          unfold Pt.zsOf at hx
          split at hx
          · cases hx
          · obtain ⟨y, _, rfl⟩ := List.mem_map.1 hx
            have := Pt.mq_lt (K := T.last) (by omega) y
            omega
        have hzl : (Pt.zsOf T.last ids).length ≤ t := Nat.le_trans (zsOf_len _ _) (by rw [hII9.len]; exact Nat.le_refl _)
        obtain ⟨q6, c6, hv6, hI6, _⟩ := hN.ii (by omega) (fun x hx => by have := hzk x hx; exact ⟨by omega, by omega⟩)
        subst hv6
        have hbl9 := bsV_len nn xs
        have hn9v := HN9.out
        have hn9' : 1 ≤ n9 ∧ n9 ≤ 128 := by omega
        obtain ⟨NN, hNNe⟩ : ∃ NN, NN = T.S.N := ⟨_, rfl⟩
        have hNNr : 1 ≤ NN ∧ NN ≤ 12 := by omega
        have hmN := Pt.mq_wrap (K := NN) (by omega) (by omega) b
        have hmNi := mq_wrapI (K := NN) (by omega) (by omega) b
        have hlN := Pt.mq_lt (K := NN) (by omega) b
        have hwN : IntKind.u64.wrap (NN : Int) = (NN : Int) := by rw [IntKind.wrap_u64]; omega
        have hzN : ¬ NN = 0 := by omega
        obtain ⟨N1, hN1⟩ : ∃ N1, N1 = 129 - n9 := ⟨_, rfl⟩
        have hnn : (129 : Int) - (n9 : Int) = (N1 : Int) := by omega
        have hN1' : 1 ≤ N1 ∧ N1 ≤ 128 := by omega
        have hm6 := Pt.mq_wrap (K := N1) (by omega) (by omega) off
        have hm6i := mq_wrapI (K := N1) (by omega) (by omega) off
        have hl6 := Pt.mq_lt (K := N1) (by omega) off
        have hw6 : IntKind.u64.wrap (N1 : Int) = (N1 : Int) := by rw [IntKind.wrap_u64]; omega
        have hw7 : IntKind.i64.wrap (N1 : Int) = (N1 : Int) := IntWalk.i64_in _ (by omega)
        have hz6 : ¬ N1 = 0 := by omega
        have hbd : Below wr.heap.size wr wr.drew := (Below.refl _ _).drew
        have hvd := hv2.drew
        have hVd : VW wr.drew A T V := (hV.later (HB.out.trans (hb2.mono HB.out.size))).later ((Below.refl _ _).drew)
        have hbl := vBlocks_ok hvd
        rw [← hNNe] at hbl
        have hB9r := (hB9.kept hb2).kept hbd
        have hI6r := hI6.kept hbd
        have hav : A.v < w.heap.size := hlt _ (.inl rfl)
        have hch := vChangeV_ok hvd hVd hcc0 (by omega) (Pt.mq NN b) (Pt.mq N1 off) (by omega) p9 n9 c9 (bsV nn xs) hB9r (fun k hk => hp9 k hk) ⟨by omega, by omega, by omega, by omega⟩ q6 _ c6 (Pt.zsOf T.last ids) hI6r (fun k hk hf => by
          have hk' : (Value.slice q6 (Pt.zsOf T.last ids).length c6).ownBlock = some k := by
            cases q6 with
            | none => cases hk
            | some a => simpa [Pt.blkOf, Value.ownBlock] using hk
          have := (World.ownsRow.lt hN k hk').1
          have := HB.out.size
          have := hlt k hf
          omega) (List.all_eq_true.2 (fun x hx => Pt.kn_true.2 (hzk x hx))) (by have := h.ps.len; omega) (hroom _ (by omega))
        have z1 : wr.drew.cell? ⟨w.heap.size, 1, none⟩ = some (.int .i64 b) := (hb2.cell (p := ⟨w.heap.size, 1, none⟩) (lt_of_cell y1)).trans y1
        have z2 : wr.drew.cell? ⟨w.heap.size, 2, none⟩ = some (.int .i64 off) := (hb2.cell (p := ⟨w.heap.size, 2, none⟩) (lt_of_cell y1)).trans y2
        have hnb : ¬ fpv A T V w.heap.size := fun hf => by
          rcases hf with hf | hf
          · have := hlt _ hf; omega
          · have := hV.lt _ hf; omega
        have hszr : w.heap.size < wr.heap.size := by have := hb2.size; omega
        have HC : Hid (129 - (bsV nn xs).length = N1 ∧ T.S.N = NN ∧ VI 0 B wr A T ∧ Below w.heap.size w wr) := ⟨by omega, hNNe.symm, hv2, HB.out.trans (hb2.mono HB.out.size)⟩
        have HLL : Hid (T.last + 1 ≤ 1000) := by show _ ≤ _; omega
        clear hn9v hbl9 hzl hA1 hA2 hA3 hA4 hA5 hA6 hNNe hN1 hN hb2 hII9 hI6 hI6r hB9 hB9r hvd hv2 hla hbd y1 y2 y5 hzk hb9 hsz9 hwl hb1
        go_upto_region 11 with fail
        go_region_held3 (fun w' => w'.cell? ⟨w.heap.size, 1, none⟩ = some (.int .i64 b) ∧ w'.cell? ⟨w.heap.size, 2, none⟩ = some (.int .i64 off)) (first | exact ⟨z1, z2⟩ | exact ⟨u1, u2⟩)
          (first
            | (go_at_call 21; refine same_at hbl ?_)
            | (go_at_call 30; refine Calls.mono hch ?_; rintro e w5 ⟨rfl, T', V', h5, hV5, hst5, hC5, hKp5⟩; have hwk : w5.heap[w.heap.size]? = wr.heap[w.heap.size]? := hst5.fr.block _ hszr hnb; have u1 : w5.cell? ⟨w.heap.size, 1, none⟩ = some (.int .i64 b) := (World.cell?_of_block (w := wr.drew) hwk).trans z1; have u2 : w5.cell? ⟨w.heap.size, 2, none⟩ = some (.int .i64 off) := (World.cell?_of_block (w := wr.drew) hwk).trans z2))
        have hla5 := vLast_ok h5
        rw [hC5.last] at hla5
        have HE : Hid (VI 0 B w5 A T' ∧ VW w5 A T' V' ∧ Pt.Stp (fpv A T V) (fpv A T' V') w w5 ∧ ChangedV T T' (Pt.mq T.S.N b) (Pt.mq (129 - (bsV nn xs).length) off) (bsV nn xs) (Pt.zsOf T.last ids) ∧ Keeps T V V' (Pt.mq T.S.N b)) := by
          refine ⟨h5, hV5, join_stp HC.out.2.2.2 (Frame.refl _ _) (fun _ h => h) hst5, ?_⟩
          rw [HC.out.1, HC.out.2.1]
          exact ⟨hC5, hKp5⟩
        clear hch hst5 hC5 h5 hV5 hKp5
        go_wp2_with (first | (go_at_call 16; refine same_at hla5 ?_))
        go_ret
        exact ⟨by simp, T', V', HE.out⟩
end
end Go.Proofs.YtjecicjpplibaaaGreat
