/- WF XA -/
import Derived.Test.YtinigfidofgaiaaGreatGr33
import Derived.Deep.CutBlock
import Derived.Test.YtinigfidofgaiaaGreatGr29
import Derived.Test.YtinigfidofgaiaaGreatGr28

/- A frozen view stays, whatever is changed, taken back, written (P9.10). -/
namespace Go.Proofs.YtinigfidofgaiaaGreat
open Go.RowKit Go.Maps
set_option linter.unusedVariables false
set_option maxRecDepth 100000

/-- The rest of memory: what was handed in, and the image wanted, beside volume and view. -/
structure EnvV (w : World) (Bv : Nat) (v : Value) (gs : List (Nat × Nat)) (L : List (List Int)) (A : At) (T : Vs) (V : Vw) (wr : World) : Prop where
  im : Im Bv wr v gs L
  io : ∀ k, ifoot v gs k → ¬ fpv A T V k
  bel : Below w.heap.size w wr
  own : ∀ k, fpv A T V k → w.heap.size ≤ k
section
variable {w wr w' : World} {Bv : Nat} {v : Value} {gs : List (Nat × Nat)} {L : List (List Int)} {A : At} {T T' : Vs} {V V' : Vw}
theorem EnvV.stp (h : EnvV w Bv v gs L A T V wr) (hs : Pt.Stp (fpv A T V) (fpv A T' V') wr w') : EnvV w Bv v gs L A T' V' w' := by
  refine ⟨h.im.stp hs h.io, h.im.out hs h.io, ?_, ?_⟩
  · refine ⟨hs.fr.os.trans h.bel.os, hs.fr.tape.trans h.bel.tape, hs.fr.output.trans h.bel.output, Nat.le_trans h.bel.size hs.fr.size, fun i hi => ?_⟩
    exact (hs.fr.block i (Nat.lt_of_lt_of_le hi h.bel.size) (fun hf => by have := h.own i hf; omega)).trans (h.bel.block i hi)
  · intro k hk
    rcases hs.new k hk with h1 | h1
    · exact h.own k h1
    · have := h.bel.size; omega
theorem EnvV.below (h : EnvV w Bv v gs L A T V wr) (hb : Below wr.heap.size wr w') : EnvV w Bv v gs L A T V w' :=
  ⟨h.im.kept (fun k hk => hb.block k (h.im.in k hk).2), h.io, h.bel.trans (hb.mono h.bel.size), h.own⟩
end
/-- Behind i rounds. -/
structure RndV (L : List (List Int)) (T : Vs) (V : Vw) (i c : Nat) : Prop where
  frz : Frz L T V
  last : T.last ≤ 41 + i
  Sl : 0 ≤ T.S.last ∧ T.S.last ≤ (i : Int)
  NW : T.NW ≤ i
  C : T.C.hi + T.C.mi ≤ c

section
variable {g : Int} {B : Nat} {w : World} {A : At} {T T' T1 T2 : Vs} {V V' : Vw} {L : List (List Int)} {b o i c : Nat} {xs zs : List Int}
theorem RndV.more (h : RndV L T V i c) {i' c' : Nat} (hi : i ≤ i') (hc : c ≤ c') : RndV L T V i' c' :=
  ⟨h.frz, by have := h.last; omega, ⟨h.Sl.1, by have := h.Sl.2; omega⟩, Nat.le_trans h.NW hi, Nat.le_trans h.C hc⟩
theorem RndV.changed (h : RndV L T V i c) (hv : VI g B w A T) (hc : ChangedV T T' b o xs zs) (hk : Keeps T V V' b) (hb : b < T.S.N) (ho : o + xs.length ≤ 128) : RndV L T' V' (i + 1) (2 + c) :=
  ⟨h.frz.changed hv hc hk hb ho, by rw [hc.last]; have := h.last; omega, by rw [hc.S]; have := h.Sl; omega, by rw [hc.N]; have := h.NW; omega, by have := hc.C; have := h.C; omega⟩
theorem RndV.undone (h : RndV L T V i c) (hv : VI g B w A T) (hc : ChangedV T T' b o xs zs) (hk : Keeps T V V' b) (hb : b < T.S.N) {K' : Int → Option Value} : RndV L { T' with P := Pt.upP T'.P T.last, last := T.last, K := K' } V' (i + 1) (2 + c) :=
  ⟨h.frz.undone hv hc hk hb rfl rfl rfl, by show T.last ≤ _; have := h.last; omega, by show 0 ≤ T'.S.last ∧ T'.S.last ≤ _; rw [hc.S]; have := h.Sl; omega, by show T'.NW ≤ _; rw [hc.N]; have := h.NW; omega, by show T'.C.hi + T'.C.mi ≤ _; have := hc.C; have := h.C; omega⟩
theorem RndV.wrote (h : RndV L T V i c) (hv : VI g B w A T) (hw : Wrote T T1 b) (hm : may T (b : Int) = true) {s : Sn} (hs : s.zs = chs T.P (b : Int)) (hY : T1.Y = Pt.fput T.Y (b : Int) (some s)) (he : Ended T1 T2 0 ⟨T.S.last + 1, b, outOf T b⟩ s true) : RndV L T2 V (i + 1) (2 + c) := by
  obtain ⟨g1, g2, g3, g4, g5, g6, g7⟩ := ended_allR hv h.frz.rst hw hm (T1' := T1) rfl rfl rfl rfl rfl hs hY he
  refine ⟨h.frz.same g1 g2 g7, by rw [he.last, hw.last]; have := h.last; omega, by rw [g5]; have := h.Sl; omega, by have := h.NW; omega, ?_⟩
  have e1 := he.C
  have e2 := hw.C
  have e3 := h.C
  omega
end

set_option maxHeartbeats 4000000 in
theorem volumeFrozen_walk (n : Int) (p : Option Addr) (m c : Nat) (D : List Dk) (p2 : Option Addr) (m2 c2 : Nat) (D2 : List Dk) (w : World) (hD : DosI w p m D) (hD2 : DosI w p2 m2 D2) : Calls Tryz.prog 5 #[.int .i64 n, .slice p m c, .slice p2 m2 c2] w fun e w' => e = .returned (.bool true) ∧ Below w.heap.size w w' := by
  have hbg := begun_ok n p m c D w hD
  go_enter Tryz.func5, Tryz.ntmps5
  go_wp2_with fail
  refine Calls.mono hbg ?_
  rintro e w1 ⟨A, T, rfl, B, j, hj, hB⟩
  have hall := all_ok hB.vi (by rw [hB.C]; decide)
  clear hbg
  dsimp only
  go_wp2_with fail
  refine Calls.mono hall ?_
  rintro e w2 ⟨v, gs, C', rfl, hIm, hio, hv2, hst2, hC2⟩
  have hbl := vBlocks_ok hv2
  have hN12 := hv2.cd.ci.N12
  have hfz := vFreeze_ok hv2 hB.good.x T.S.N (Nat.le_trans hN12 (by omega))
  have hbl2 : Calls Tryz.prog 21 #[.pointer (some ⟨A.v, 0, none⟩)] w2 fun e w' => e = .returned (.int .i64 (T.S.N : Int)) ∧ w' = w2 := hbl
  clear hbl
  dsimp only
  go_wp2_with (first | (go_at_call 21; refine same_at hbl2 ?_))
  refine Calls.mono hfz ?_
  rintro e w3 ⟨rfl, V, hv3, hV3, hK3, hr3, hx3, hm3, hst3⟩
  have s13 := stp_trans hst2 hst3
  obtain ⟨T0, hT0⟩ : ∃ T0 : Vs, T0 = { T with C := C', x := some ⟨V.x, 0, none⟩ } := ⟨_, rfl⟩
  have hE3 : EnvV w w1.heap.size v gs (allOf T) A T0 V w3 := by
    subst hT0
    refine ⟨hIm.stp hst3 hio, ?_, ?_, ?_⟩
    · rintro k hk (hf | hf | hf | ⟨b, s, hs, _⟩)
      · exact hio k hk hf
      · have := (hIm.in k hk).2; omega
      · have := (hIm.in k hk).2; omega
      · rw [hK3] at hs; cases hs
    · refine ⟨s13.fr.os.trans hB.bel.os, s13.fr.tape.trans hB.bel.tape, s13.fr.output.trans hB.bel.output, Nat.le_trans hB.bel.size s13.fr.size, fun i hi => ?_⟩
      exact (s13.fr.block i (Nat.lt_of_lt_of_le hi hB.bel.size) (fun hf => by have := hB.own i hf; omega)).trans (hB.bel.block i hi)
    · have h12 := hst2.fr.size
      have h01 := hB.bel.size
      rintro k (hf | hf | hf | ⟨b, s, hs, _⟩)
      · rcases s13.new k hf with h1 | h1
        · exact hB.own k h1
        · omega
      · omega
      · omega
      · rw [hK3] at hs; cases hs
  have hR3 : RndV (allOf T) T0 V 0 12 := by
    subst hT0
    have hg := hB.good
    refine ⟨⟨⟨hg.gd, hg.q, hg.Y, hg.blk⟩, by show T.S.N = _; simp [allOf], ?_, fun k hk => by rw [hK3] at hk; exact absurd rfl hk, hr3⟩, by show T.last ≤ _; rw [hB.last]; omega, by show 0 ≤ T.S.last ∧ T.S.last ≤ _; rw [hB.Sl]; simp, by show T.NW ≤ 0; rw [hB.N]; exact Nat.le_refl _, ?_⟩
    · intro b hb
      have hb' : b < T.S.N := hb
      unfold oldOf
      rw [hK3]
      show nowOf T b = _
      simp [allOf, hb']
    · show C'.hi + C'.mi ≤ _
      rw [hB.C] at hC2
      exact hC2
  rw [← hT0] at hv3 hV3
  obtain ⟨hS, hLl⟩ := all_sect hB.vi
  generalize allOf T = L at hE3 hR3 hS hLl
  generalize w1.heap.size = Bv at hE3
  have hbig := hD2.big
  obtain ⟨pv, cv, hvv, _⟩ := hE3.im.shape
  subst hvv
  obtain ⟨NL, hNL⟩ : ∃ NL, NL = L.length := ⟨_, rfl⟩
  have HNL : Hid (NL = L.length) := hNL
  rw [← hNL] at hE3 ⊢
  clear hNL
  clear hall hIm hio hst2 hC2 hB hfz hbl2 hst3 hK3 hr3 hx3 hm3 hT0 s13 hv2 hN12 hj
  dsimp only
  go_wp2_with fail
  have hDl := hD2.len
  go_loopw [37] (fun iv wr => ∃ (j : Nat) (T : Vs) (V : Vw), j ≤ m2 ∧ j ≤ 31 ∧ iv = .int .i64 (j : Int) ∧ VI 0 B wr A T ∧ VW wr A T V ∧ EnvV w Bv (.slice pv NL cv) gs L A T V wr ∧ RndV L T V j (12 + 25 * j)) (fun iv _ => m2 - (intOf iv).toNat)
  case atStart => exact ⟨0, T0, V, by omega, by omega, rfl, hv3, hV3, hE3, hR3⟩
  case round =>
    clear hv3 hV3 hE3 hR3 T0 V
    obtain ⟨j, T, V, hj, hj31, rfl, hv, hV, hE, hR⟩ := hrel
    by_cases hlt : j < m2
    · obtain ⟨d, hdj⟩ : ∃ d, D2[j]? = some d := ⟨_, List.getElem?_eq_getElem (by omega)⟩
      obtain ⟨g, o, rfl, hc⟩ := hD2.cells (by omega)
      obtain ⟨bp, bn, bc, ip, im, ic, k0⟩ := hc j d hdj
      have k := k0.kept hE.bel
      have hjI : (j : Int) < (m2 : Int) := by omega
      have hj0 : (0 : Int) ≤ (j : Int) := by omega
      have r0 := k.c0
      have r1 := k.c1
      have r2 := k.c2
      have r3 := k.c3
      have r4 := k.c4
      have r5 := k.c5
      obtain ⟨W1, hW1⟩ : ∃ W1, wr.alloc (.cells #[.int .i64 d.op, .int .i64 d.b, .int .i64 d.off, .int .i64 d.nn, .slice bp bn bc, .slice ip im ic] 44) = W1 := ⟨_, rfl⟩
      have hbW : Below wr.heap.size wr W1 := by rw [← hW1]; exact (Below.refl _ _).alloc (Nat.le_refl _) _
      have hrW : W1.heap[wr.heap.size]? = some (.cells #[.int .i64 d.op, .int .i64 d.b, .int .i64 d.off, .int .i64 d.nn, .slice bp bn bc, .slice ip im ic] 44 (0, 0)) := by rw [← hW1]; exact at_new rfl
      have s0 : W1.cell? ⟨wr.heap.size, 0, none⟩ = some (.int .i64 d.op) := (cell_of_row _ _ 0 _ 44 _ hrW).trans rfl
      have s1 : W1.cell? ⟨wr.heap.size, 1, none⟩ = some (.int .i64 d.b) := (cell_of_row _ _ 1 _ 44 _ hrW).trans rfl
      have s2 : W1.cell? ⟨wr.heap.size, 2, none⟩ = some (.int .i64 d.off) := (cell_of_row _ _ 2 _ 44 _ hrW).trans rfl
      have s3 : W1.cell? ⟨wr.heap.size, 3, none⟩ = some (.int .i64 d.nn) := (cell_of_row _ _ 3 _ 44 _ hrW).trans rfl
      have s4 : W1.cell? ⟨wr.heap.size, 4, none⟩ = some (.slice bp bn bc) := (cell_of_row _ _ 4 _ 44 _ hrW).trans rfl
      have s5 : W1.cell? ⟨wr.heap.size, 5, none⟩ = some (.slice ip im ic) := (cell_of_row _ _ 5 _ 44 _ hrW).trans rfl
      have hvW := hv.later hbW
      have hVW := hV.later hbW
      have hEW := hE.below hbW
      by_cases hj30 : j ≤ 30
      · have hg30 : ¬ (30 : Int) < (j : Int) := by omega
        have hd30 : decide ((30 : Int) < (j : Int)) = false := decide_eq_false hg30
        have hla := vLast_ok hvW
        have hNs : 1 ≤ T.S.N := hv.cd.di.N1
        have hch := changeV_ok hvW hVW (by have := hR.C; omega) hR.frz.has (by have := hR.last; omega) d.op d.b d.off d.nn bp bn bc d.xs (k.bi.kept hbW) k.bl.1 k.bl.2 ip im ic d.ids (k.ii.kept hbW) k.il (fun h0 kk hk hf => ?_)
        rotate_left
        · have h1 := hE.own kk (.inl hf)
          have h2 : kk < w.heap.size := k0.lt h0 hk
          omega
        have hmq := Pt.mq_lt (K := T.S.N) (by omega) d.b
        have hbl := bsV_len d.nn d.xs
        have hmo := Pt.mq_lt (K := 129 - (bsV d.nn d.xs).length) (by omega) d.off
        have HR := (show Hid _ from hR)
        have HM : Hid (Pt.mq T.S.N d.b < T.S.N ∧ Pt.mq (129 - (bsV d.nn d.xs).length) d.off + (bsV d.nn d.xs).length ≤ 128) := ⟨hmq, by omega⟩
        have hm4 : wrap64 ((IntKind.u64.wrap d.op).tmod 4) = (Pt.mq 4 d.op : Int) := Pt.mq_wrap (K := 4) (by omega) (by omega) d.op
        have hm4i : IntKind.i64.wrap ((IntKind.u64.wrap d.op).tmod 4) = (Pt.mq 4 d.op : Int) := mq_wrapI (K := 4) (by omega) (by omega) d.op
        have hl4 := Pt.mq_lt (K := 4) (by omega) d.op
        obtain ⟨M, hM⟩ : ∃ M, M = Pt.mq 4 d.op := ⟨_, rfl⟩
        rw [← hM] at hm4 hm4i hl4
        clear hM
        clear k k0 hc hdj hR hg30 hmq hbl hmo hv hV hE
        go_upto_block 2 with (first | (go_at_call 16; refine same_at hla ?_))
        go_cut [] (fun wx => ∃ T' V', VI 0 B wx A T' ∧ VW wx A T' V' ∧ EnvV w Bv (.slice pv NL cv) gs L A T' V' wx ∧ RndV L T' V' (j + 1) (2 + (12 + 25 * j)))
        case first =>
          rcases (by omega : M = 0 ∨ M = 1 ∨ M = 2 ∨ M = 3) with rfl | rfl | rfl | rfl
          · go_wp2_with (first | (go_at_call 22; refine Calls.mono hch ?_; rintro e w5 ⟨rfl, T', V', h5, hV5, hst5, hC5, hK5⟩))
            go_meet
            case rel => exact ⟨T', V', h5, hV5, hEW.stp hst5, HR.out.changed hvW hC5 hK5 HM.out.1 HM.out.2⟩
          · go_wp2_with (first | (go_at_call 22; refine Calls.mono hch ?_; rintro e w5 ⟨rfl, T', V', h5, hV5, hst5, hC5, hK5⟩))
            go_meet
            case rel => exact ⟨T', V', h5, hV5, hEW.stp hst5, HR.out.changed hvW hC5 hK5 HM.out.1 HM.out.2⟩
          · go_wp2_with fail
            refine Calls.mono hch ?_
            rintro e w5 ⟨rfl, T', V', h5, hV5, hst5, hC5, hK5⟩
            have hE5 := hEW.stp hst5
            have hun := vUndo_ok h5 (by rw [hC5.Y]; exact HR.out.frz.rst.Y) T.last (by rw [hC5.last]; omega) (upP_back hvW hC5).2
            have HC5 : Hid _ := (show Hid (ChangedV T T' _ _ _ _ ∧ Keeps T V V' _) from ⟨hC5, hK5⟩)
            clear hch hC5 hK5
            dsimp only
            go_wp2_with (first | (go_at_call 23; refine Calls.mono hun ?_; rintro e w6 ⟨rfl, K6, h6, hst6⟩))
            go_meet
            case rel => exact ⟨_, V', h6, hV5.stp hst6 rfl, hE5.stp (stp_v hst6 V'), HR.out.undone hvW HC5.out.1 HC5.out.2 HM.out.1⟩
          · have hrd := vReady_ok hvW
            clear hch
            go_wp2_with fail
            refine Calls.mono hrd ?_
            rintro e w4 ⟨v4, rfl, hN4, hno4, hv4, hst4⟩
            have hE4 := hEW.stp (stp_v hst4 V)
            have hV4 := hVW.stp hst4 rfl
            obtain ⟨RL, hRL⟩ : ∃ RL, RL = rdy T (Pt.blks T.P) := ⟨_, rfl⟩
            have hin : ∀ x ∈ RL, ∃ b : Nat, x = (b : Int) ∧ b < T.S.N ∧ may T (b : Int) = true := fun x hx => rdy_inR (by rw [← hRL]; exact hx) HR.out.frz.rst
            have hlen : RL.length ≤ 100 := by rw [hRL]; exact Nat.le_trans (rdy_len T) (Nat.le_trans hv4.ps.len (by have := HR.out.last; omega))
            rw [← hRL] at hN4
            have hN12 := hv4.cd.ci.N12
            obtain ⟨p4, c4, rfl, hII4, hPl⟩ := hN4.ii (by omega) (fun x hx => by obtain ⟨b, rfl, hb, _⟩ := hin x hx; exact ⟨by omega, by omega⟩)
            clear hrd hN4 hno4 hRL hst4
            cases RL with
            | nil =>
              dsimp only
              go_wp2_with fail
              go_meet
              case rel => exact ⟨T, V, hv4, hV4, hE4, HR.out.more (by omega) (by omega)⟩
            | cons x RL =>
              obtain ⟨b, rfl, hbN, hmay⟩ := hin x (by simp)
              obtain ⟨b6, o6, rfl, hc6⟩ := hII4.cells (by simp)
              have e6 : w4.cell? ⟨b6, o6, none⟩ = some (.int .i64 (b : Int)) := by have := hc6 0 (by simp); simpa using this
              obtain ⟨K, hK⟩ : ∃ K, K = ((b : Int) :: RL).length := ⟨_, rfl⟩
              have hK0 : (0 : Int) < (K : Int) := by rw [hK]; simp
              have hwr := vWrite_ok hv4 b hbN hmay (by have := HR.out.C; omega) (by rw [HR.out.frz.rst.q]; decide) (by have := HR.out.Sl; omega) (by have := HR.out.NW; omega)
              rw [← hK]
              clear hc6 hin hII4 hK hPl hlen
              dsimp only
              go_wp2_with fail
              refine Calls.mono hwr ?_
              rintro e w5 ⟨rfl, T1, hv5, hst5, hW⟩
              have hE5 := hE4.stp (stp_v hst5 V)
              have hV5 := hV4.stp hst5 hW.x
              obtain ⟨s, s1, s2, s3, s4', s5', s6, s7⟩ := wrote_sR hv4 HR.out.frz.rst hW
              have hcp := vComplete_ok hv5 0 ⟨T.S.last + 1, b, outOf T b⟩ s true (by rw [wrote_qR HR.out.frz.rst hW]; rfl) (by rw [wrote_qR HR.out.frz.rst hW]; simp) s2 s3 s4' s5' s6
              have HS : Hid (s.zs = chs T.P (b : Int) ∧ T1.Y = Pt.fput T.Y (b : Int) (some s)) := ⟨s1, s7⟩
              clear hwr s1 s2 s3 s4' s5' s6 s7
              dsimp only
              go_wp2_with (first | (go_at_call 15; refine Calls.mono hcp ?_; rintro e w8 ⟨rfl, T2, hv8, hst8, hEnd⟩))
              go_meet
              case rel => exact ⟨T2, V, hv8, hV5.stp hst8 hEnd.vx, hE5.stp (stp_v hst8 V), HR.out.wrote hv4 hW hmay HS.out.1 HS.out.2 hEnd⟩
        case rest =>
          obtain ⟨T1, V1, h1, hV1, hE1, hR1⟩ := hcut
          clear hch hla hvW hVW hEW HR HM hm4 hm4i hl4 r0 r1 r2 r3 r4 r5 s0 s1 s2 s3 s4 s5 hbW hrW hW1 W1
          have hNL8 : NL ≤ 100 := by rw [HNL.out]; exact hLl
          have hjK := hjI
          clear hjI
          go_wp2_with fail
          rename World => wo
          go_loopw [87] (fun iv wr => ∃ (t : Nat) (T : Vs), t ≤ NL ∧ iv = .int .i64 (t : Int) ∧ VI 0 B wr A T ∧ VW wr A T V1 ∧ EnvV w Bv (.slice pv NL cv) gs L A T V1 wr ∧ RndV L T V1 (j + 1) (14 + 25 * j + t)) (fun iv _ => NL - (intOf iv).toNat)
          case atStart => exact ⟨0, T1, by omega, rfl, h1, hV1, hE1, hR1.more (Nat.le_refl _) (by omega)⟩
          case round =>
            clear h1 hV1 hE1 hR1
            obtain ⟨t, T2, ht, rfl, h2, hV2, hE2, hR2⟩ := hrel
            have hN12 := h2.cd.ci.N12
            have hN2 := hR2.frz.N
            have hNLn := HNL.out
            by_cases htl : t < NL
            · have htI : (t : Int) < (NL : Int) := by omega
              have ht0 : (0 : Int) ≤ (t : Int) := by omega
              obtain ⟨q, hq⟩ : ∃ q, gs[t]? = some q := ⟨_, List.getElem?_eq_getElem (by have := hE2.im.len; omega)⟩
              obtain ⟨xs, hx⟩ : ∃ xs, L[t]? = some xs := ⟨_, List.getElem?_eq_getElem (by omega)⟩
              obtain ⟨p', c', hvv, hcs⟩ := hE2.im.shape
              obtain ⟨rfl, hll, rfl⟩ : pv = p' ∧ NL = L.length ∧ cv = c' := by simpa using hvv
              clear hll
              obtain ⟨gq, rfl, hcell⟩ := hcs t q hq
              have hold := vOld_ok h2 hV2 t (by omega) (by have := hR2.C; omega)
              have hxo : oldOf T2 V1 t = xs := by rw [hR2.frz.old t (by omega), List.getD_eq_getElem?_getD, hx]; rfl
              rw [hxo] at hold
              have hb := (hS xs (List.mem_of_getElem? hx)).2
              have HX : Hid (gs[t]? = some q ∧ L[t]? = some xs ∧ Pt.Num.Byt xs ∧ T2.S.N = L.length) := ⟨hq, hx, hb, hN2⟩
              clear hcs hvv hq hx hxo hb hN2 hNLn
              go_wp2_with fail
              refine Calls.mono hold ?_
              rintro e w9 ⟨q9, cap9, C9, rfl, hO9, hv9, hst9, hC9⟩
              have hE9 := hE2.stp (stp_v hst9 V1)
              have heq := equal_any (some ⟨q.1, 0, none⟩) (some ⟨q9, 0, none⟩) 128 q.2 128 cap9 xs xs w9 ((hE9.im.el t q xs HX.out.1 HX.out.2.1).bi (by omega) HX.out.2.2.1) (hO9.bi (by omega) HX.out.2.2.1)
              rw [show (xs == xs) = true from by simp] at heq
              clear hold hcell
              dsimp only
              go_wp2_with (first | (go_at_call 25; refine same_at heq ?_))
              go_roundw
              case rel =>
                have hr := hR2
                have hf := hr.frz
                exact ⟨t + 1, _, by omega, by go_num, hv9, hV2.stp hst9 rfl, hE9, ⟨⟨⟨hf.rst.gd, hf.rst.q, hf.rst.Y, hf.rst.blk⟩, hf.N, hf.old, hf.key, hf.room⟩, hr.last, hr.Sl, hr.NW, by show C9.hi + C9.mi ≤ _; have := hr.C; omega⟩⟩
              case measure => simp [intOf]; omega
            · obtain rfl : t = NL := by omega
              have htI : ¬ (t : Int) < (t : Int) := by omega
              have HF : Hid (t ≤ 12) := by show t ≤ 12; omega
              clear hNLn hN2 hN12
              go_wp2_with fail
              go_roundw
              case rel => exact ⟨j + 1, T2, V1, by omega, by omega, by go_num, h2, hV2, hE2, hR2.more (Nat.le_refl _) (by have := HF.out; omega)⟩
              case measure => simp [intOf]; omega
      · obtain rfl : j = 31 := by omega
        have hbr := vBroken_ok hvW hVW
        have hkp := vKept_ok hvW hVW
        have hbk := vBlocks_ok hvW
        have hrm := hR.frz.room
        rw [← hrm] at hbk
        clear hrm
        go_wp2_with (first
          | (go_at_call 26; refine same_at hbr ?_)
          | (go_at_call 27; refine Calls.mono hkp ?_; rintro e w7 ⟨nk, rfl, hnk, rfl⟩)
          | (go_at_call 21; refine same_at hbk ?_))
        go_ret
        exact ⟨by simp, hEW.bel⟩
    · have hjI : ¬ (j : Int) < (m2 : Int) := by omega
      have hbr := vBroken_ok hv hV
      have hkp := vKept_ok hv hV
      have hbk := vBlocks_ok hv
      have hrm := hR.frz.room
      rw [← hrm] at hbk
      clear hrm
      go_wp2_with (first
        | (go_at_call 26; refine same_at hbr ?_)
        | (go_at_call 27; refine Calls.mono hkp ?_; rintro e w7 ⟨nk, rfl, hnk, rfl⟩)
        | (go_at_call 21; refine same_at hbk ?_))
      go_ret
      exact ⟨by simp, hE.bel⟩
end Go.Proofs.YtinigfidofgaiaaGreat

/- Marks, a byte a patch: what a crash leaves has, of each patch that it has, all that this needs. -/
namespace Go.Proofs.YtinigfidofgaiaaGreat
open Go.RowKit Go.Maps
set_option linter.unusedVariables false
set_option maxRecDepth 100000

/-- The mark of patch i + 1. -/
def mrk (f : Nat → List Int) (i : Nat) : Int := (f (i % 8)).getD i 0

/-- Patches of one byte, a mark each. -/
def Sh (m : Nat) (P : List Pt.Pv) : Prop := ∀ p ∈ P, p.blk = (p.id - 1) % 8 ∧ p.off = p.id - 1 ∧ p.bs = [1] ∧ 1 ≤ p.id ∧ p.id ≤ m

theorem Sh.sub {m : Nat} {P P' : List Pt.Pv} (h : Sh m P) (hs : ∀ p ∈ P', p ∈ P) : Sh m P' := fun p hp => h p (hs p hp)

theorem getD_of {xs : List Int} {i : Nat} {v : Int} (h : xs[i]? = some v) : xs.getD i 0 = v := by rw [List.getD_eq_getElem?_getD, h]; rfl

/-- One patch laid. -/
theorem ovr_mark {m : Nat} (hm : m ≤ 100) {xs : List Int} (hx : xs.length = 128) {p : Pt.Pv} (hp : p.off = p.id - 1 ∧ p.bs = [1] ∧ 1 ≤ p.id ∧ p.id ≤ m) (i : Nat) (hi : i < 128) : (Pt.ovr xs p).getD i 0 = (if i = p.id - 1 then 1 else xs.getD i 0) ∧ (Pt.ovr xs p).length = 128 := by
  obtain ⟨h1, h2, h3, h4⟩ := hp
  have hl : p.off + p.bs.length ≤ xs.length := by rw [h1, h2, hx]; simp; omega
  refine ⟨?_, by rw [Pt.ovr_len hl, hx]⟩
  have hg := Pt.ovr_get hl i (by omega)
  rw [h2] at hg
  rw [List.getD_eq_getElem?_getD, hg]
  by_cases e : i = p.id - 1
  · rw [if_pos e, if_pos (by rw [h1]; simp; omega)]
    have : i - p.off = 0 := by omega
    rw [this]
    rfl
  · rw [if_neg e, if_neg (by rw [h1]; simp; omega), ← List.getD_eq_getElem?_getD]

/-- Many laid. -/
theorem ovrs_mark {m : Nat} (hm : m ≤ 100) : ∀ (l : List Pt.Pv) (xs : List Int), xs.length = 128 → (∀ p ∈ l, p.off = p.id - 1 ∧ p.bs = [1] ∧ 1 ≤ p.id ∧ p.id ≤ m) → ∀ i, i < 128 → (Pt.ovrs l xs).getD i 0 = if l.any (fun p => decide (i = p.id - 1)) then 1 else xs.getD i 0
  | [], xs, _, _, i, _ => by simp [Pt.ovrs]
  | p :: l, xs, hx, hl, i, hi => by
    obtain ⟨h1, h2⟩ := ovr_mark hm hx (hl p (by simp)) i hi
    show (Pt.ovrs l (Pt.ovr xs p)).getD i 0 = _
    rw [ovrs_mark hm l _ h2 (fun q hq => hl q (by simp [hq])) i hi, h1, List.any_cons]
    by_cases e : i = p.id - 1
    · simp [e]
    · simp [e]

/-- What a plan lays: no mark of what is not chosen. -/
theorem pst_mark {m : Nat} (hm : m ≤ 100) (P : List Pt.Pv) : ∀ (l : List Pt.Pv) (c xs : List Int), xs.length = 128 → (∀ p ∈ l, p.off = p.id - 1 ∧ p.bs = [1] ∧ 1 ≤ p.id ∧ p.id ≤ m) → ∀ i, i < 128 → (((i + 1 : Nat) : Int) ∉ (Pt.pst P l (c, xs)).1) → (Pt.pst P l (c, xs)).2.getD i 0 = xs.getD i 0
  | [], c, xs, _, _, i, _, _ => rfl
  | p :: l, c, xs, hx, hl, i, hi, hn => by
    have hp := hl p (by simp)
    have hstep : Pt.pst P (p :: l) (c, xs) = Pt.pst P l (Pt.nextC P c p, Pt.nextO P c xs p) := rfl
    rw [hstep] at hn ⊢
    by_cases hk : Pt.lk P c p = true
    · have e1 : Pt.nextC P c p = c := by unfold Pt.nextC; rw [if_pos hk]
      have e2 : Pt.nextO P c xs p = xs := by unfold Pt.nextO; rw [if_pos hk]
      rw [e1, e2] at hn ⊢
      exact pst_mark hm P l c xs hx (fun q hq => hl q (by simp [hq])) i hi hn
    · have e1 : Pt.nextC P c p = c ++ [(p.id : Int)] := by unfold Pt.nextC; rw [if_neg hk]
      have e2 : Pt.nextO P c xs p = Pt.ovr xs p := by unfold Pt.nextO; rw [if_neg hk]
      rw [e1, e2] at hn ⊢
      obtain ⟨h1, h2⟩ := ovr_mark hm hx hp i hi
      rw [pst_mark hm P l _ _ h2 (fun q hq => hl q (by simp [hq])) i hi hn, h1]
      rw [if_neg]
      intro e
      apply hn
      refine (Pt.pst_closed P l _).1 _ ?_
      have : ((i + 1 : Nat) : Int) = (p.id : Int) := by omega
      rw [this]
      simp

/-- A volume whose patches are marks. -/
structure Mks (of : List (List Int)) (T : Vs) : Prop where
  onw : OnW T
  N : T.S.N = 8
  m : of.length ≤ 60
  last : T.last = of.length
  sh : Sh of.length T.P
  len : ∀ b, (T.S.f b).length = 128
  ql : ∀ y ∈ T.S.q, y.bytes.length = 128
  one : ∀ i, i < of.length → Pt.fP T.P ((i + 1 : Nat) : Int) = none → mrk T.S.f i = 1
  zero : ∀ p ∈ T.P, mrk T.S.f (p.id - 1) = 0
  nd : ∀ p ∈ T.P, ∀ n ∈ of.getD (p.id - 1) [], (Pt.fP T.P n).isSome = true → n ∈ p.nd
  dn : ∀ i, i < of.length → Pt.fP T.P ((i + 1 : Nat) : Int) = none → ∀ n ∈ of.getD i [], (Pt.fP T.P n).isSome = false
  low : ∀ i, i < of.length → ∀ n ∈ of.getD i [], 1 ≤ n ∧ n ≤ (i : Int)
  qz : ∀ y ∈ T.S.q, ∀ s, T.Y (y.block : Int) = some s → ∀ p ∈ T.P, p.blk = y.block → (p.id : Int) ∉ s.zs → y.bytes.getD (p.id - 1) 0 = 0
  inc : T.S.q.Pairwise (fun y z => y.id < z.id)
  top : ∀ y ∈ T.S.q, y.id ≤ T.S.last

section
variable {g : Int} {B : Nat} {w w' : World} {A : At} {T T' : Vs} {b : Nat} {of : List (List Int)}
theorem sh_ofB {m : Nat} {P : List Pt.Pv} (h : Sh m P) (b : Int) : ∀ p ∈ Pt.ofB P b, p.off = p.id - 1 ∧ p.bs = [1] ∧ 1 ≤ p.id ∧ p.id ≤ m := fun p hp => (h p (List.mem_filter.1 hp).1).2

theorem any_mark {m : Nat} {P : List Pt.Pv} (h : Sh m P) (i : Nat) : (Pt.ofB P ((i % 8 : Nat) : Int)).any (fun p => decide (i = p.id - 1)) = (Pt.fP P ((i + 1 : Nat) : Int)).isSome := by
  rw [Bool.eq_iff_iff, List.any_eq_true, Pt.fP_isSome]
  constructor
  · rintro ⟨p, hp, e⟩
    have hP := (List.mem_filter.1 hp).1
    have := h p hP
    refine ⟨p, hP, ?_⟩
    have e' : i = p.id - 1 := by simpa using e
    omega
  · rintro ⟨p, hp, e⟩
    have h1 := h p hp
    refine ⟨p, List.mem_filter.2 ⟨hp, ?_⟩, by simp; omega⟩
    have : i = p.id - 1 := by omega
    rw [h1.1, this]
    simp

/-- A write on the way has the marks of what is done, and of its own. -/
theorem Mks.bytes (h : Mks of T) {y : Wr} {s : Sn} (hy : y ∈ T.S.q) (hs : Wy T y s) (i : Nat) (hi : i < of.length) (hb : i % 8 = y.block) (hd : Pt.fP T.P ((i + 1 : Nat) : Int) = none ∨ ((i + 1 : Nat) : Int) ∈ s.zs) : y.bytes.getD i 0 = 1 := by
  have hm : of.length ≤ 100 := by have := h.m; omega
  have hi8 : i < 128 := by have := h.m; omega
  have hk : Sh of.length (Pt.kpP T.P s.zs) := h.sh.sub (fun p hp => (Pt.mem_kpP.1 hp).1)
  have hn := congrArg (fun l : List Int => l.getD i 0) hs.now
  rw [ovrs_mark hm _ _ (h.ql y hy) (sh_ofB hk _) i hi8, ovrs_mark hm _ _ (h.len _) (sh_ofB h.sh _) i hi8, ← hb, any_mark hk, any_mark h.sh, Pt.fP_kp] at hn
  rcases hd with hd | hd
  · have h1 := h.one i hi hd
    unfold mrk at h1
    rw [hd] at hn
    by_cases e : ((i + 1 : Nat) : Int) ∈ s.zs
    · rw [if_pos e] at hn
      simp at hn
      rw [List.getD_eq_getElem?_getD] at h1
      rw [List.getD_eq_getElem?_getD]
      rw [hn]; exact h1
    · rw [if_neg e] at hn
      simp at hn
      rw [List.getD_eq_getElem?_getD] at h1
      rw [List.getD_eq_getElem?_getD]
      rw [hn]; exact h1
  · rw [if_pos hd] at hn
    by_cases e : (Pt.fP T.P ((i + 1 : Nat) : Int)).isSome = true
    · rw [e] at hn
      simp at hn
      rw [List.getD_eq_getElem?_getD]
      exact hn
    · have e' : Pt.fP T.P ((i + 1 : Nat) : Int) = none := by simpa using e
      have h1 := h.one i hi e'
      unfold mrk at h1
      rw [e'] at hn
      simp at hn
      rw [List.getD_eq_getElem?_getD] at h1
      rw [List.getD_eq_getElem?_getD]
      rw [hn]; exact h1
end
end Go.Proofs.YtinigfidofgaiaaGreat
