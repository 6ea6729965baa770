/- V6 V7 V8 V9 -/
import Derived.Test.YtinigfidofgaiaaGreatGr22
import Derived.Deep.RegionHeld3

/- Which blocks may be written: mayWrite, ready. -/
namespace Go.Proofs.YtinigfidofgaiaaGreat
open Go.RowKit Go.Maps
set_option linter.unusedVariables false
set_option maxRecDepth 100000

theorem pst_fst (P : List Pt.Pv) : ∀ (l : List Pt.Pv) (c xs ys : List Int), (Pt.pst P l (c, xs)).1 = (Pt.pst P l (c, ys)).1
  | [], _, _, _ => rfl
  | p :: l, c, xs, ys => by unfold Pt.pst; exact pst_fst P l _ _ _
/-- The patches of a block that may be written. -/
def chs (P : List Pt.Pv) (b : Int) : List Int := (Pt.pst P (Pt.ofB P b) ([], [])).1
theorem chs_any (P : List Pt.Pv) (b : Int) (xs : List Int) : (Pt.pst P (Pt.ofB P b) ([], xs)).1 = chs P b := pst_fst P _ _ _ _

theorem made_zero (n : Nat) : (madeCells (Value.int .u8 0).cells (n * 1)).toList = List.replicate n (Value.int .u8 0) := by
  refine List.ext_getElem ?_ ?_
  · simp [madeCells]
  · intro i h1 h2
    simp [madeCells, Value.cells, Nat.mod_one]
def zz : List Int := List.replicate 128 0
theorem zeros_ok (w : World) : ∃ Z, (Instr.makeSlice 42 (.int .i64 128) (.int .i64 128)).run Tryz.prog w = .ok (.slice (some ⟨w.heap.size, 0, none⟩) 128 128) (w.alloc (.cells Z 5)) ∧ ∀ W : World, W.heap[w.heap.size]? = some (.cells Z 5 (0, 0)) → Pt.BI W (some ⟨w.heap.size, 0, none⟩) 128 zz := by
  obtain ⟨i0, hi, hz0, hz1, hz2⟩ := info_parts info5
  have h := run_makeSlice (P := Tryz.prog) w 42 5 i0 (.int .u8 0) Tryz.underlying42 hi hz0 .i64 .i64 128 128 (by omega) (by omega) (by rw [hz1]; decide) (by rw [hz2]; decide) (by omega)
  rw [hz1] at h
  obtain ⟨Z, hZ⟩ : ∃ Z, Z = madeCells (Value.int .u8 0).cells ((128 : Int).toNat * 1) := ⟨_, rfl⟩
  rw [← hZ] at h
  refine ⟨Z, h, fun W hW => ⟨by simp [zz], by omega, fun i => ?_, fun _ => ⟨_, 0, rfl, fun i hi => ?_⟩⟩⟩
  · unfold zz
    rw [List.getD_eq_getElem?_getD, List.getElem?_replicate]
    split <;> simp
  · rw [Nat.zero_add, cell_of_row _ _ i _ 5 _ hW]
    have e : Z.toList = List.replicate 128 (Value.int .u8 0) := by rw [hZ]; exact made_zero 128
    unfold zz
    rw [← Array.getElem?_toList, e, List.getElem?_replicate, if_pos hi, List.getD_eq_getElem?_getD, List.getElem?_replicate, if_pos hi]
    rfl

section
variable {g : Int} {B : Nat} {w w' : World} {A : At} {T : Vs}
set_option maxHeartbeats 1000000 in
theorem mayWrite_ok (h : VI g B w A T) (b : Int) (hb : Pt.I64 b) : Calls Tryz.prog 79 #[.pointer (some ⟨A.v, 0, none⟩), .int .i64 b] w fun e w' => e = .returned (.bool (!(chs T.P b).isEmpty)) ∧ Below w.heap.size w w' := by
  have c4 := h.c4
  obtain ⟨Z, hz, hZ⟩ := zeros_ok w.drew
  have hbd : Below w.heap.size w w.drew := (Below.refl _ _).drew
  have hbz : Below w.drew.heap.size w.drew (w.drew.alloc (.cells Z 5)) := (Below.refl _ _).alloc (Nat.le_refl _) _
  have hp := Pt.plan_ok ((h.ps.kept hbd).kept hbz) b hb (some ⟨w.heap.size, 0, none⟩) 128 zz (hZ _ (at_new rfl))
  rw [show Pt.pst T.P (Pt.ofB T.P b) ([], zz) = (chs T.P b, (Pt.pst T.P (Pt.ofB T.P b) ([], zz)).2) from Prod.ext (chs_any _ _ _) rfl] at hp
  have c4d : w.drew.cell? ⟨A.v, 4, none⟩ = some (.pointer (some ⟨A.s, 0, none⟩)) := c4
  have c4Z : (w.drew.alloc (.cells Z 5)).cell? ⟨A.v, 4, none⟩ = some (.pointer (some ⟨A.s, 0, none⟩)) := ((h.later hbd).later hbz).c4
  have HV : Hid (VI g B (w.drew.alloc (.cells Z 5)) A T ∧ Below w.heap.size w (w.drew.alloc (.cells Z 5))) := ⟨(h.later hbd).later hbz, hbd.trans hbz⟩
  clear hZ h hbz hbd
  go_enter Tryz.func79, Tryz.ntmps79
  go_wp2_with fail
  go_region_held3 (fun w' => w'.cell? ⟨A.v, 4, none⟩ = some (.pointer (some ⟨A.s, 0, none⟩))) (first | exact c4d | exact c4Z | exact c4A)
    (first | (go_at_call 120; refine Calls.mono hp ?_; rintro e w1 ⟨ov, iv, er, rfl, hb1, HP⟩; have c4A : w1.cell? ⟨A.v, 4, none⟩ = some (.pointer (some ⟨A.s, 0, none⟩)) := (HV.out.1.later hb1).c4))
  have hP := HP.out
  rcases hP with ⟨e1, _, _, e4⟩ | ⟨e1, e2, _, _⟩
  · subst e4
    have e1' : chs T.P b = [] := e1
    go_wp2_with fail
    go_ret
    refine ⟨?_, HV.out.2.trans (hb1.mono HV.out.2.size)⟩
    rfl
  · subst e2
    have e1' : (chs T.P b).isEmpty = false := by cases hc : chs T.P b with | nil => exact absurd hc e1 | cons _ _ => rfl
    go_wp2_with fail
    go_ret
    refine ⟨?_, HV.out.2.trans (hb1.mono HV.out.2.size)⟩
    rfl

/-- May block b be written? -/
def may (T : Vs) (b : Int) : Bool := !(qbs T.S).contains b && !(chs T.P b).isEmpty
/-- The blocks that may be written. -/
def rdy (T : Vs) (L : List Int) : List Int := L.filter (may T)

theorem contains_ii {q n c : Nat} {zs : List Int} (h : Pt.II w (some ⟨q, 0, none⟩) n zs) (x : Int) : Calls Tryz.prog 78 #[.slice (some ⟨q, 0, none⟩) n c, .int .i64 x] w fun e w' => e = .returned (.bool (zs.contains x)) ∧ w' = w := by
  have hl := h.len
  have hbg := h.big
  rcases Nat.eq_zero_or_pos n with hn | hn
  · subst hn
    obtain rfl : zs = [] := List.eq_nil_of_length_eq_zero hl
    exact Pt.sh_slices_Contains_int_empty _ _ _ _
  · obtain ⟨b, o, e, hc⟩ := h.cells hn
    simp only [Option.some.injEq, Addr.mk.injEq] at e
    obtain ⟨rfl, rfl, _⟩ := e
    have := Pt.sh_slices_Contains_int q 0 n c zs x w (by omega) (by omega) (fun j hj => hc j (by omega))
    rw [List.take_of_length_le (by omega)] at this
    exact this

set_option maxHeartbeats 2000000 in
theorem ready_ok (h : VI g B w A T) : Calls Tryz.prog 42 #[.pointer (some ⟨A.v, 0, none⟩)] w fun e w' => ∃ v, e = .returned v ∧ Pt.Nums w.heap.size w' v (rdy T (Pt.blks T.P)) ∧ Below w.heap.size w w' := by
  obtain ⟨i0, hi, hz0, hz1, hz2⟩ := info_parts info3z
  have how := onWay_ok h
  have hq64 := h.cd.di.q64
  have hPl : (Pt.blks T.P).length ≤ 1000 := by
    have h1 := h.ps.len
    have h2 := h.ps.sml
    have h3 : (Pt.blks T.P).length ≤ (T.P.map (fun p => (p.blk : Int))).length := Pt.rs_length _
    rw [List.length_map] at h3
    omega
  go_enter Tryz.func42, Tryz.ntmps42
  go_wp2_with fail
  refine Calls.mono how ?_
  rintro e w1 ⟨q, c, rfl, hII, hq, hb1⟩
  have hv1 := h.later hb1
  have c4 := hv1.c4
  have hbl := Pt.blocks_ok hv1.ps
  clear how
  dsimp only
  go_wp2_with fail
  refine Calls.mono hbl ?_
  rintro e w2 ⟨p, c2, rfl, hz, _, _, hb2⟩
  have hb12 : Below w.heap.size w w2 := hb1.trans (hb2.mono hb1.size)
  have hII2 := hII.kept hb2
  obtain ⟨L, hL⟩ : ∃ L, L = Pt.blks T.P := ⟨_, rfl⟩
  rw [← hL] at hz hPl
  rw [← hL]
  obtain ⟨n, hn⟩ : ∃ n, n = L.length := ⟨_, rfl⟩
  rw [← hn] at hz hPl
  rw [← hn]
  have hl := hz.len
  have HL := (show Hid _ from hL)
  clear hL hn hbl c4 hv1 hII
  dsimp only
  go_wp2_with fail
  go_loopw [4, 15] (fun s i wr => ∃ j : Nat, j ≤ n ∧ i = .int .i64 (j : Int) ∧ Pt.Nums w2.heap.size wr s (rdy T (L.take j)) ∧ Below w2.heap.size w2 wr) (fun s i _ => n - (intOf i).toNat)
  case atStart => exact ⟨0, by omega, rfl, Pt.Nums.nil _ _, Below.refl _ _⟩
  case round =>
    obtain ⟨j, hj, rfl, hN, hbr⟩ := hrel
    have hbW : Below w.heap.size w wr := hb12.trans (hbr.mono hb12.size)
    by_cases hlt : j < n
    · obtain ⟨b1, o1, rfl, hc1⟩ := (hz.kept hbr).cells (by omega)
      have e1 := hc1 j hlt
      have hct := contains_ii (c := c) (hII2.kept hbr) (L.getD j 0)
      have hmw := mayWrite_ok (h.later hbW) (L.getD j 0) (hz.fitAt j)
      have hjI : (j : Int) < (n : Int) := by omega
      have hj0 : (0 : Int) ≤ (j : Int) := by omega
      have HT : Hid _ := Pt.take_one (zs := L) (j := j) (by omega)
      have hlen : (rdy T (L.take j)).length ≤ j := Nat.le_trans (List.length_filter_le _ _) (by simp; omega)
      clear hc1
      generalize L.getD j 0 = y at e1 hct hmw HT
      have HS : Hid (rdy T (L.take (j + 1)) = rdy T (L.take j) ++ [y].filter (may T)) := by
        show _ = _
        unfold rdy
        rw [HT.out, List.filter_append]
      have HM : Hid (may T y = (!(qbs T.S).contains y && !(chs T.P y).isEmpty)) := rfl
      cases hc : (qbs T.S).contains y with
      | true =>
        rw [hc] at hct HM
        have HS2 : Hid (rdy T (L.take (j + 1)) = rdy T (L.take j)) := by show _ = _; rw [HS.out]; simp [HM.out]
        clear hc
        go_wp2_with (first | (go_at_call 78; refine same_at hct ?_))
        go_roundw
        case rel => exact ⟨j + 1, by omega, by go_num, by rw [HS2.out]; exact hN, hbr⟩
        case measure => simp [intOf]; omega
      | false =>
        rw [hc] at hct HM
        clear hc
        cases hm : (chs T.P y).isEmpty with
        | true =>
          rw [hm] at hmw HM
          have HS2 : Hid (rdy T (L.take (j + 1)) = rdy T (L.take j)) := by show _ = _; rw [HS.out]; simp [HM.out]
          clear hm
          go_wp2_with (first | (go_at_call 78; refine same_at hct ?_) | (go_at_call 79; refine Pt.below_at hmw ?_; intro w3 hb3))
          go_roundw
          case rel => exact ⟨j + 1, by omega, by go_num, by rw [HS2.out]; exact hN.kept hb3, Pt.below_on hbr hb3⟩
          case measure => simp [intOf]; omega
        | false =>
          rw [hm] at hmw HM
          have HS2 : Hid (rdy T (L.take (j + 1)) = rdy T (L.take j) ++ [y]) := by show _ = _; rw [HS.out]; simp [HM.out]
          clear hm
          go_wp2_with (first
            | (go_at_call 78; refine same_at hct ?_)
            | (go_at_call 79; refine Pt.below_at hmw ?_; intro w3 hb3; have hN2 := hN.kept hb3; have hb4 := Pt.below_on hbW hb3; have hb5 := Pt.below_on hbr hb3)
            | (at_builtin; refine wpList_append_own _ rfl _ _ 23 rfl w2.heap.size 3 i0 (.int .i64 0) 1 8 Tryz.underlying23 hi hz0 hz1 hz2 rfl (by decide) _ _ _ rfl (World.ownsRow.alloc hN2 _) ⟨w3.heap.size, 0, none⟩ 1 1 [.int .i64 y] rfl rfl (cell_one_new _ _ _) (by simp [Value.oneCell']) (by unfold maxLen; omega) (by omega) (by have := hb5.size; simp; omega) ?_; intro v' w5 hown hgrow _; have hown := Pt.Nums.snoc hown; obtain ⟨g', cap', rfl⟩ := Pt.Nums.succ hown))
          have hb6 := (hb5.alloc (by have := hb5.size; omega) _).grown hgrow (by have := hb5.size; simp; omega) (by intro k hk; exact (World.ownsRow.lt hN2 k hk).1)
          go_roundw
          case rel => exact ⟨j + 1, by omega, by go_num, by rw [HS2.out]; exact hown, hb6⟩
          case measure => simp [intOf]; omega
    · obtain rfl : j = n := by omega
      rw [List.take_of_length_le (by omega)] at hN
      go_wp2
      go_ret
      exact ⟨_, rfl, by rw [← HL.out]; exact Pt.Nums.base hN hb12.size, hbW⟩

theorem vReady_ok (h : VI 0 B w A T) : Calls Tryz.prog 11 #[.pointer (some ⟨A.v, 0, none⟩)] w fun e w' => ∃ v, e = .returned v ∧ Pt.Nums w.heap.size w' v (rdy T (Pt.blks T.P)) ∧ (∀ k, v.ownBlock = some k → ¬ fp A T k) ∧ VI 0 B w' A T ∧ Pt.Stp (fp A T) (fp A T) w w' := by
  have hg := h.guard 1
  have hsz : (w.setCell ⟨A.v, 0, none⟩ (.int .i32 1)).heap.size = w.heap.size := by simp
  refine (vready_of h.vrow (R := fun r w1 => Pt.Nums w.heap.size w1 r (rdy T (Pt.blks T.P)) ∧ VI 1 B w1 A T ∧ Pt.Stp (fp A T) (fp A T) (w.setCell ⟨A.v, 0, none⟩ (.int .i32 1)) w1) ((ready_ok hg).mono ?_)).mono ?_
  · rintro e w1 ⟨v, rfl, hN, hb⟩
    rw [hsz] at hN
    exact ⟨_, _, rfl, (hg.later hb).vheld, hN, hg.later hb, below_stp hb⟩
  · rintro e w2 ⟨r, y, w1, rfl, _, ⟨hN, hv, hst⟩, rfl⟩
    obtain ⟨hv0, hs0⟩ := unguard hst hv
    have hnf : ∀ k, r.ownBlock = some k → ¬ fp A T k := fun k hk hf => by
      have h1 := (World.ownsRow.lt hN k hk).1
      have h2 := h.lt k hf
      omega
    refine ⟨r, rfl, ?_, hnf, hv0, hs0⟩
    refine ownsRow_kept hN (fun k hk => ?_)
    exact (Frame.setCell (X := fun i => i = A.v) w1 (p := ⟨A.v, 0, none⟩) (.int .i32 0) rfl).block k (World.ownsRow.lt hN k hk).2 (fun e => hnf k hk (.inl e))
end
end Go.Proofs.YtinigfidofgaiaaGreat

/- A block is written: plan, write. -/
namespace Go.Proofs.YtinigfidofgaiaaGreat
open Go.RowKit Go.Maps
set_option linter.unusedVariables false
set_option maxRecDepth 100000

/-- What is written of block b. -/
def outOf (T : Vs) (b : Nat) : List Int := (Pt.pst T.P (Pt.ofB T.P (b : Int)) ([], T.S.f b)).2

theorem pst_sect (P : List Pt.Pv) (hP : ∀ p ∈ P, Pt.Num.Byt p.bs ∧ p.off + p.bs.length ≤ 128) : ∀ (l : List Pt.Pv) (c xs : List Int), (∀ p ∈ l, p ∈ P) → xs.length = 128 → Pt.Num.Byt xs → (Pt.pst P l (c, xs)).2.length = 128 ∧ Pt.Num.Byt (Pt.pst P l (c, xs)).2
  | [], _, _, _, h1, h2 => ⟨h1, h2⟩
  | p :: l, c, xs, hl, h1, h2 => by
    unfold Pt.pst
    have hp := hP p (hl p (by simp))
    have hx : (Pt.nextO P c xs p).length = 128 ∧ Pt.Num.Byt (Pt.nextO P c xs p) := by
      unfold Pt.nextO
      split
      · exact ⟨h1, h2⟩
      · exact ⟨by rw [Pt.ovr_len (by omega)]; exact h1, Pt.ovr_byt h2 hp.1⟩
    exact pst_sect P hP l _ _ (fun q hq => hl q (by simp [hq])) hx.1 hx.2

section
variable {g : Int} {B : Nat} {w w' : World} {A : At} {T : Vs}
theorem VI.sect (h : VI g B w A T) (b : Nat) : Sect (outOf T b) := by
  have hS := h.sy.ok.sec b
  have := pst_sect T.P (fun p hp => ⟨(h.ps.byt p hp).1.byt, (h.ps.ids p hp).2.2.2.2⟩) (Pt.ofB T.P (b : Int)) [] (T.S.f b) (fun p hp => (List.mem_filter.1 hp).1) hS.1 hS.2
  exact ⟨this.1, this.2⟩

set_option maxHeartbeats 1000000 in
theorem vplan_ok (h : VI g B w A T) (b : Nat) (hb : b < T.S.N) (hm : (chs T.P (b : Int)).isEmpty = false) (hc : T.C.hi + T.C.mi < 4611686018427387904) :
    Calls Tryz.prog 80 #[.pointer (some ⟨A.v, 0, none⟩), .int .i64 (b : Int)] w fun e w' => ∃ q cap iv C', e = .returned (.tuple #[.slice (some ⟨q, 0, none⟩) 128 cap, iv, .int .i64 0]) ∧ Own w.heap.size w' q 128 cap (outOf T b) ∧ Pt.Nums w.heap.size w' iv (chs T.P (b : Int)) ∧ ¬ fp A { T with C := C' } q ∧ (∀ k, iv.ownBlock = some k → ¬ fp A { T with C := C' } k) ∧
      VI g B w' A { T with C := C' } ∧ Pt.Stp (fp A T) (fp A { T with C := C' }) w w' ∧ C'.hi + C'.mi = T.C.hi + T.C.mi + 1 := by
  have hN := h.cd.ci.N12
  have hI : Pt.I64 (b : Int) := ⟨by omega, by omega⟩
  have hmw := mayWrite_ok h (b : Int) hI
  rw [hm] at hmw
  have hne : chs T.P (b : Int) ≠ [] := by intro e; rw [e] at hm; cases hm
  have HM := (show Hid _ from hne)
  clear hm hne
  go_enter Tryz.func80, Tryz.ntmps80
  go_wp2_with fail
  refine Calls.mono hmw ?_
  rintro e w0 ⟨rfl, hb0⟩
  have h0 := h.later hb0
  have c3 := h0.c3
  have hget := getc h0.cd h0.sy b hb hc h0.lo.2
  clear hmw
  dsimp only [Bool.not_false]
  go_wp2_with fail
  refine Calls.mono hget ?_
  rintro e w1 ⟨q, cap, C', rfl, hO, hcd, hy, hcnt, hbd, hfr, hnew⟩
  obtain ⟨hv1, hst⟩ := h0.cache hcd hy hfr hnew
  have c4 := hv1.c4
  have hS := h.sy.ok.sec b
  have hpl := Pt.plan_ok hv1.ps (b : Int) hI (some ⟨q, 0, none⟩) cap (T.S.f b) (hO.bi (by omega) hS.2).pt
  clear hget c3
  dsimp only
  go_wp2_with fail
  refine Calls.mono hpl ?_
  rintro e w2 ⟨ov, iv, er, rfl, hb2, HP⟩
  have hP := HP.out
  have hch : (Pt.pst T.P (Pt.ofB T.P (b : Int)) ([], T.S.f b)).1 = chs T.P (b : Int) := chs_any _ _ _
  rcases hP with ⟨e1, _⟩ | ⟨_, rfl, ⟨q2, cap2, rfl, hO2⟩, hNu⟩
  · exact absurd (hch.symm.trans e1) HM.out
  · rw [hch] at hNu
    have hsz : w.heap.size ≤ w1.heap.size := Nat.le_trans hb0.size hst.fr.size
    have HO : Hid (Own w.heap.size w2 q2 128 cap2 (outOf T b)) := Own.base hO2 hsz
    have HNu : Hid (Pt.Nums w.heap.size w2 iv (chs T.P (b : Int))) := Pt.Nums.base hNu hsz
    have HF : Hid (¬ fp A { T with C := C' } q2) := fun hf => by have := hv1.lt q2 hf; have := hO2.spot; omega
    have HG : Hid (∀ k, iv.ownBlock = some k → ¬ fp A { T with C := C' } k) := fun k hk hf => by have := hv1.lt k hf; have := (World.ownsRow.lt hNu k hk).1; omega
    clear hNu hO2 HP hch
    dsimp only
    go_wp2_with fail
    go_ret3
    refine ⟨q2, cap2, iv, C', rfl, HO.out, HNu.out, HF.out, HG.out, hv1.later hb2, stp_below ?_ hb2, hcnt⟩
    exact ⟨⟨hst.fr.os.trans hb0.os, hst.fr.tape.trans hb0.tape, hst.fr.output.trans hb0.output, Nat.le_trans hb0.size hst.fr.size, fun k hk hn => (hst.fr.block k (Nat.lt_of_lt_of_le hk hb0.size) hn).trans (hb0.block k hk)⟩, fun k hk => (hst.new k hk).imp id (fun h => Nat.le_trans hb0.size h)⟩
end
end Go.Proofs.YtinigfidofgaiaaGreat

/- The disk has turned; the way has turned; write. -/
namespace Go.Proofs.YtinigfidofgaiaaGreat
open Go.RowKit Go.Maps
set_option linter.unusedVariables false
set_option maxRecDepth 100000

section
variable {g : Int} {B : Nat} {w w' : World} {A : At} {T : Vs}
/-- The disk has turned. -/
theorem VI.disk (h : VI g B w A T) {dq' : Value} {S' : St} (hdi : DI B w' A.d A.dm A.df dq' S') (hN : S'.N = T.S.N) (hy : Sy T.C S') (hf : Frame (foot A.d A.dm A.df T.dq) w w') (hn : ∀ k, foot A.d A.dm A.df dq' k → foot A.d A.dm A.df T.dq k ∨ w.heap.size ≤ k) :
    VI g B w' A { T with S := S', dq := dq' } ∧ Pt.Stp (fp A T) (fp A { T with S := S', dq := dq' }) w w' := by
  have hlt := h.lt
  have ho : ∀ k, fp A T k → ¬ foot A.d A.dm A.df T.dq k → w'.heap[k]? = w.heap[k]? := fun k hk hn => hf.block k (hlt k hk) hn
  have nvc : ¬ foot A.d A.dm A.df T.dq A.v := fun hc => h.nv A.v (.inr (.inl (.inl hc))) rfl
  have hd : ∀ k, dfoot A { T with S := S', dq := dq' } k → dfoot A T k ∨ w.heap.size ≤ k := by
    rintro k (hk | hk)
    · rcases hn k hk with h1 | h1
      · exact .inl (.inl h1)
      · exact .inr h1
    · exact .inl (.inr hk)
  have nwc : ∀ k, wfoot A T k → ¬ foot A.d A.dm A.df T.dq k := fun k hk hc => (h.nw k hk).1 (.inl hc)
  have hci : CI B w' A.c A.cm A.d S'.N T.C := by
    rw [hN]
    exact ⟨h.cd.ci.toCW.kept (fun k hk => ho k (.inr (.inr (.inl (.inr hk)))) (h.cd.apart k hk)), h.cd.ci.ord, h.cd.ci.us⟩
  refine ⟨⟨(ho _ (.inl rfl) nvc).trans h.row, ⟨hci, hdi, h.cd.ne⟩, hy, ?_, h.wy.kept (ho _ (.inr (.inl (.inl rfl))) (nwc _ (.inl rfl))), fun b s hs' => ⟨(h.wr b s hs').1.keptIf (fun k hk _ => ho k (.inr (.inl (.inr ⟨b, s, hs', hk⟩))) (nwc k (.inr ⟨b, s, hs', hk⟩))), (h.wr b s hs').2⟩, fun k hk => Nat.lt_of_lt_of_le (h.wl k hk) hf.size, h.nm, ?_, ?_, ?_, h.lo.1, Nat.le_trans h.lo.2 hf.size⟩, ⟨hf.pt fun k hk => .inr (.inr (.inl (.inl hk))), ?_⟩⟩
  · exact h.ps.else hf.size (fun k hk _ => ho k (.inr (.inr (.inr hk))) (fun hc => h.nd k (.inl hc) hk))
  · rintro k (hk | hk | hk)
    · exact h.nv k (.inl hk)
    · rcases hd k hk with h1 | h1
      · exact h.nv k (.inr (.inl h1))
      · have := hlt A.v (.inl rfl); omega
    · exact h.nv k (.inr (.inr hk))
  · intro k hk
    refine ⟨fun hk' => ?_, (h.nw k hk).2⟩
    rcases hd k hk' with h1 | h1
    · exact (h.nw k hk).1 h1
    · have := h.wl k hk; omega
  · intro k hk hp
    rcases hd k hk with h1 | h1
    · exact h.nd k h1 hp
    · have := hlt k (.inr (.inr (.inr hp))); omega
  · rintro k (hk | hk | hk | hk)
    · exact .inl (.inl hk)
    · exact .inl (.inr (.inl hk))
    · rcases hd k hk with h1 | h1
      · exact .inl (.inr (.inr (.inl h1)))
      · exact .inr h1
    · exact .inl (.inr (.inr (.inr hk)))

/-- The way has turned: its map alone. -/
theorem VI.way (h : VI g B w A T) {Y' : Int → Option Sn} {N' : Nat} (hM : Pt.Mf w' A.m N' (fun b => (Y' b).map Sn.v)) (hg : w.grownBy w' (some A.m))
    (hY : ∀ b s, Y' b = some s → T.Y b = some s ∨ (Pt.II w s.p s.zs.length s.zs ∧ Pt.Plain s.p ∧ ∀ k, Pt.blkOf s.p = some k → k < w.heap.size ∧ ¬ fp A T k)) :
    VI g B w' A { T with Y := Y', NW := N' } ∧ Frame (fp A T) w w' := by
  have hlt := h.lt
  have ho : ∀ k, k < w.heap.size → k ≠ A.m → w'.heap[k]? = w.heap[k]? := fun k hk hn => hg.block k hk (by intro e; exact hn (Option.some.inj e))
  have nm : ∀ k, (k = A.v ∨ dfoot A T k ∨ pfoot A T k) → k ≠ A.m := by
    rintro k (rfl | hk | hk) e
    · exact h.nv A.m (.inl (.inl rfl)) e.symm
    · subst e; exact (h.nw _ (.inl rfl)).1 hk
    · subst e; exact (h.nw _ (.inl rfl)).2 hk
  have hfo : ∀ k, (k = A.v ∨ dfoot A T k ∨ pfoot A T k) → w'.heap[k]? = w.heap[k]? := by
    intro k hk
    refine ho k (hlt k ?_) (nm k hk)
    rcases hk with hk | hk | hk
    · exact .inl hk
    · exact .inr (.inr (.inl hk))
    · exact .inr (.inr (.inr hk))
  have hw : ∀ k, wfoot A { T with Y := Y', NW := N' } k → wfoot A T k ∨ (k < w.heap.size ∧ ¬ fp A T k) := by
    rintro k (rfl | ⟨b, s, hs, hk⟩)
    · exact .inl (.inl rfl)
    · rcases hY b s hs with h1 | ⟨_, _, h3⟩
      · exact .inl (.inr ⟨b, s, h1, hk⟩)
      · exact .inr (h3 k hk)
  refine ⟨⟨(hfo _ (.inl rfl)).trans h.row, ⟨⟨h.cd.ci.toCW.kept (fun k hk => hfo k (.inr (.inl (.inr hk)))), h.cd.ci.ord, h.cd.ci.us⟩, h.cd.di.kept (fun k hk => hfo k (.inr (.inl (.inl hk)))), h.cd.ne⟩, h.sy, h.ps.else hg.size (fun k hk _ => hfo k (.inr (.inr hk))), hM, ?_, ?_, ?_, ?_, ?_, h.nd, h.lo.1, Nat.le_trans h.lo.2 hg.size⟩, ⟨hg.os, hg.tape, hg.output, hg.size, fun k hk hn => ho k hk (fun e => hn (.inr (.inl (.inl e))))⟩⟩
  · intro b s hs
    have nrow : ∀ k, Pt.blkOf s.p = some k → k < w.heap.size → w'.heap[k]? = w.heap[k]? := by
      intro k hk hkl
      refine ho k hkl (fun e => ?_)
      subst e
      rcases hY b s hs with h1 | ⟨_, _, h3⟩
      · exact h.nm b s h1 hk
      · exact (h3 _ hk).2 (.inr (.inl (.inl rfl)))
    rcases hY b s hs with h1 | ⟨h1, h2, _⟩
    · exact ⟨(h.wr b s h1).1.keptIf nrow, (h.wr b s h1).2⟩
    · exact ⟨h1.keptIf nrow, h2⟩
  · intro k hk
    rcases hw k hk with h1 | ⟨h1, _⟩
    · exact Nat.lt_of_lt_of_le (h.wl k h1) hg.size
    · exact Nat.lt_of_lt_of_le h1 hg.size
  · intro b s hs hk
    rcases hY b s hs with h1 | ⟨_, _, h3⟩
    · exact h.nm b s h1 hk
    · exact (h3 _ hk).2 (.inr (.inl (.inl rfl)))
  · rintro k (hk | hk | hk)
    · rcases hw k hk with h1 | ⟨_, h2⟩
      · exact h.nv k (.inl h1)
      · exact fun e => h2 (.inl e)
    · exact h.nv k (.inr (.inl hk))
    · exact h.nv k (.inr (.inr hk))
  · intro k hk
    rcases hw k hk with h1 | ⟨_, h2⟩
    · exact h.nw k h1
    · exact ⟨fun hd => h2 (.inr (.inr (.inl hd))), fun hp => h2 (.inr (.inr (.inr hp)))⟩

/-- T' is T behind a write of block b. -/
structure Wrote (T T' : Vs) (b : Nat) : Prop where
  S : T'.S = T.S.put b (outOf T b)
  P : T'.P = T.P
  last : T'.last = T.last
  x : T'.x = T.x
  Y : ∃ s : Sn, s.id = T.S.last + 1 ∧ s.zs = chs T.P (b : Int) ∧ T'.Y = Pt.fput T.Y (b : Int) (some s)
  C : T'.C.hi + T'.C.mi = T.C.hi + T.C.mi + 1
  N : T'.NW ≤ T.NW + 1

theorem ok_of {a mb fb : Nat} {qv : Value} {S : St} (h : DI B w a mb fb qv S) (hs : ∀ b, Sect (S.f b)) (hf : ∀ b, S.fl b = 0) : Ok S := ⟨h.N1, h.N2, h.q64, h.qok, h.lok, hs, fun b => by rw [hf b]; omega⟩

theorem map_fput (Y : Int → Option Sn) (b : Int) (s : Option Sn) : (fun k => (Pt.fput Y b s k).map Sn.v) = Pt.fput (fun k => (Y k).map Sn.v) b (s.map Sn.v) := by
  funext k
  unfold Pt.fput
  split <;> rfl

theorem sn_vR {s : Sn} (h : Pt.Plain s.p) : ∃ d, Pt.vR s.v = some (d, []) := by
  obtain ⟨id, p, c, zs⟩ := s
  rcases h with h | ⟨b, o, h⟩
  · dsimp only at h; subst h; exact ⟨_, rfl⟩
  · dsimp only at h; subst h; exact ⟨_, rfl⟩

theorem pst_mem (P : List Pt.Pv) : ∀ (l : List Pt.Pv) (c xs : List Int) (x : Int), x ∈ (Pt.pst P l (c, xs)).1 → x ∈ c ∨ ∃ p ∈ l, x = (p.id : Int)
  | [], _, _, _, h => .inl h
  | p :: l, c, xs, x, h => by
    unfold Pt.pst at h
    rcases pst_mem P l _ _ x h with h1 | ⟨q, hq, e⟩
    · unfold Pt.nextC at h1
      split at h1
      · exact .inl h1
      · rcases List.mem_append.1 h1 with h2 | h2
        · exact .inl h2
        · simp at h2; exact .inr ⟨p, by simp, h2⟩
    · exact .inr ⟨q, by simp [hq], e⟩
theorem chs_mem {P : List Pt.Pv} {b x : Int} (h : x ∈ chs P b) : ∃ p ∈ P, p ∈ Pt.ofB P b ∧ x = (p.id : Int) := by
  rcases pst_mem P _ _ _ x h with h1 | ⟨p, hp, e⟩
  · cases h1
  · exact ⟨p, (List.mem_filter.1 hp).1, hp, e⟩

theorem stp_trans {D D' D'' : Nat → Prop} {w w1 w2 : World} (h : Pt.Stp D D' w w1) (k : Pt.Stp D' D'' w1 w2) : Pt.Stp D D'' w w2 := h.trans k

set_option maxHeartbeats 2000000 in
theorem vwr_ok (h : VI g B w A T) (b : Nat) (hb : b < T.S.N) (hm : may T (b : Int) = true) (hc : T.C.hi + T.C.mi < 4611686018427387904) (hq : T.S.q.length < 64) (hl : T.S.last < 9223372036854775807) (hNW : T.NW < 100000) :
    Calls Tryz.prog 43 #[.pointer (some ⟨A.v, 0, none⟩), .int .i64 (b : Int)] w fun e w' => e = .returned (.int .i64 0) ∧ ∃ T', VI g B w' A T' ∧ Pt.Stp (fp A T) (fp A T') w w' ∧ Wrote T T' b := by
  have hN := h.cd.ci.N12
  have hI : Pt.I64 (b : Int) := ⟨by omega, by omega⟩
  have hh := vhas_ok h b hb
  have how := onWay_ok h
  unfold may at hm
  rw [Bool.and_eq_true] at hm
  obtain ⟨hm1, hm2⟩ := hm
  have hct : (qbs T.S).contains (b : Int) = false := by simpa using hm1
  have hch : (chs T.P (b : Int)).isEmpty = false := by simpa using hm2
  have hany : (T.S.q.any fun x => (x.block : Int) == (b : Int)) = false := by
    rw [Bool.eq_false_iff]
    intro ha
    obtain ⟨x, hx, hxe⟩ := List.any_eq_true.1 ha
    have : (qbs T.S).contains (b : Int) = true := by
      rw [List.contains_iff_mem]
      exact List.mem_map.2 ⟨x, hx, by simpa using hxe⟩
    rw [hct] at this
    cases this
  clear hm1 hm2
  go_enter Tryz.func43, Tryz.ntmps43
  go_wp2_with fail
  refine same_at hh ?_
  dsimp only
  go_wp2_with fail
  refine Calls.mono how ?_
  rintro e w1 ⟨q, c, rfl, hII, hq1, hb1⟩
  have hcc := contains_ii (c := c) hII (b : Int)
  rw [hct] at hcc
  have h1 := h.later hb1
  have hpl := vplan_ok h1 b hb hch hc
  clear hh how
  dsimp only
  go_wp2_with fail
  refine same_at hcc ?_
  dsimp only
  go_wp2_with fail
  refine Calls.mono hpl ?_
  rintro e w2 ⟨q2, cap2, iv, C', rfl, hO, hNu, hf1, hf2, h2, hst2, hcn⟩
  obtain ⟨ip, ic, rfl, hii, hpla⟩ := hNu.ii (by have := Pt.pst_len T.P (Pt.ofB T.P (b : Int)) ([], []); have := h.ps.len; have := h.ps.sml; have : (Pt.ofB T.P (b : Int)).length ≤ T.P.length := List.length_filter_le _ _; unfold chs; simp at *; omega) (fun x hx => by obtain ⟨p, hp, _, rfl⟩ := chs_mem hx; have := h.ps.ids p hp; have := h.ps.sml; exact ⟨by omega, by omega⟩)
  have c2 := h2.c2
  have hS := h.sect b
  have hbi : BI w2 (some ⟨q2, 0, none⟩) 128 (outOf T b) := hO.bi (by omega) hS.2
  have hdw := write_new h2.cd.di h2.lo.2 b (some ⟨q2, 0, none⟩) cap2 (outOf T b) hbi hb hany hq hl
  clear hpl hcc
  dsimp only
  go_wp2_with fail
  refine Calls.mono hdw ?_
  rintro e w3 ⟨dq', rfl, hdi, hfr, hown⟩
  have hnew : ∀ k, foot A.d A.dm A.df dq' k → foot A.d A.dm A.df T.dq k ∨ w2.heap.size ≤ k := by
    rintro k (rfl | rfl | rfl | hk)
    · exact .inl (.inl rfl)
    · exact .inl (.inr (.inl rfl))
    · exact .inl (.inr (.inr (.inl rfl)))
    · rcases hown with h1 | ⟨k', h1, h2⟩
      · exact .inl (.inr (.inr (.inr (h1 ▸ hk))))
      · rw [h1] at hk; cases hk; exact .inr h2
  have hokP : Ok (T.S.put b (outOf T b)) := ok_of hdi (fun b => h.sy.ok.sec b) h.sy.fl
  obtain ⟨h3, hst3⟩ := h2.disk hdi rfl ⟨h2.sy.xs, h2.sy.pin, h2.sy.fl, hokP⟩ hfr hnew
  have c5 := h3.c5
  have hpn : ∀ k, Pt.blkOf ip = some k → w2.heap.size > k ∧ ¬ fp A { T with C := C' } k := fun k hk => by
    have hk' : (Value.slice ip (chs T.P (b : Int)).length ic).ownBlock = some k := by
      cases ip with
      | none => cases hk
      | some a => simpa [Pt.blkOf, Value.ownBlock] using hk
    exact ⟨(World.ownsRow.lt hNu k hk').2, hf2 k hk'⟩
  have hpn3 : ∀ k, Pt.blkOf ip = some k → k < w3.heap.size ∧ ¬ fp A { T with C := C', S := T.S.put b (outOf T b), dq := dq' } k := fun k hk => by
    obtain ⟨h1, h2'⟩ := hpn k hk
    refine ⟨Nat.lt_of_lt_of_le h1 hfr.size, fun hf => ?_⟩
    rcases hst3.new k hf with h4 | h4
    · exact h2' h4
    · omega
  obtain ⟨s, hs⟩ : ∃ s : Sn, s = ⟨T.S.last + 1, ip, ic, chs T.P (b : Int)⟩ := ⟨_, rfl⟩
  obtain ⟨dd, hdd⟩ := sn_vR (s := s) (by rw [hs]; exact hpla)
  obtain ⟨w4, hrun, hM4, hg4⟩ := h3.wy.put hNW (t := 73) (e := 98) Tryz.underlying73 (b : Int) hI s.v hdd
  rw [show s.v = .agg #[.int .i64 (T.S.last + 1), .slice ip (chs T.P (b : Int)).length ic] from by rw [hs]; rfl] at hrun
  clear hdw
  dsimp only
  go_wp2_with fail
  go_ret
  have hM' : Pt.Mf w4 A.m (if ((T.Y (b : Int)).map Sn.v).isSome then T.NW else T.NW + 1) (fun k => (Pt.fput T.Y (b : Int) (some s) k).map Sn.v) := by
    rw [map_fput]; exact hM4
  have hb23 : Below w2.heap.size w2 w3 → True := fun _ => trivial
  obtain ⟨h4, hf4⟩ := h3.way hM' hg4 (fun b' s' hs' => by
    unfold Pt.fput at hs'
    split at hs'
    · cases hs'
      right
      rw [hs]
      exact ⟨hii.keptIf (fun k hk _ => hfr.block k (hpn k hk).1 (fun hf => (hpn k hk).2 (.inr (.inr (.inl (.inl hf)))))), hpla, hpn3⟩
    · exact .inl hs')
  refine ⟨rfl, _, h4, ?_, ⟨rfl, rfl, rfl, rfl, ⟨s, by rw [hs], by rw [hs], rfl⟩, hcn, ?_⟩⟩
  · have hs23 := stp_trans hst2 hst3
    have hup : ∀ k, fp A { T with C := C', S := T.S.put b (outOf T b), dq := dq' } k → fp A T k ∨ w.heap.size ≤ k := fun k hk => (hs23.new k hk).imp id (fun h => Nat.le_trans hb1.size h)
    refine ⟨⟨hf4.os.trans (hs23.fr.os.trans hb1.os), hf4.tape.trans (hs23.fr.tape.trans hb1.tape), hf4.output.trans (hs23.fr.output.trans hb1.output), Nat.le_trans hb1.size (Nat.le_trans hs23.fr.size hf4.size), fun k hk hn => ?_⟩, ?_⟩
    · have hk1 := Nat.lt_of_lt_of_le hk hb1.size
      refine (hf4.block k (Nat.lt_of_lt_of_le hk1 hs23.fr.size) (fun hf => ?_)).trans ((hs23.fr.block k hk1 hn).trans (hb1.block k hk))
      rcases hup k hf with h5 | h5
      · exact hn h5
      · omega
    · rintro k (hk | hk | hk | hk)
      · exact .inl (.inl hk)
      · rcases hk with hk | ⟨b', s', hs', hk⟩
        · exact .inl (.inr (.inl (.inl hk)))
        · have hs'' : Pt.fput T.Y (b : Int) (some s) b' = some s' := hs'
          unfold Pt.fput at hs''
          split at hs''
          · cases hs''
            rw [hs] at hk
            have hk' : (Value.slice ip (chs T.P (b : Int)).length ic).ownBlock = some k := by
              cases ip with
              | none => cases hk
              | some a => simpa [Pt.blkOf, Value.ownBlock] using hk
            exact .inr (Nat.le_trans hb1.size (World.ownsRow.lt hNu k hk').1)
          · exact .inl (.inr (.inl (.inr ⟨b', s', hs'', hk⟩)))
      · exact hup k (.inr (.inr (.inl hk)))
      · exact .inl (.inr (.inr (.inr hk)))
  · dsimp only
    split <;> omega
end
end Go.Proofs.YtinigfidofgaiaaGreat

/- A write is taken off the way. -/
namespace Go.Proofs.YtinigfidofgaiaaGreat
open Go.RowKit Go.Maps
set_option linter.unusedVariables false
set_option maxRecDepth 100000

theorem zero98 (w : World) : (zeroValue 98).run Tryz.prog w = .ok (.agg #[.int .i64 0, .slice none 0 0]) w := by kernel_rfl

section
variable {g : Int} {B : Nat} {w w' : World} {A : At} {T : Vs}
theorem VI.drew (h : VI g B w A T) : VI g B w.drew A T := h.later ((Below.refl _ _).drew)

/-- What a look-up of the way tells. -/
theorem VI.look (h : VI g B w A T) (b : Nat) (hb : b ≤ 100) {s : Sn} (hs : T.Y (b : Int) = some s) : (Instr.lookup 73 (.map (some A.m)) (.int .i64 (b : Int)) false).run Tryz.prog w = .ok s.v w := by
  have := h.wy.get (t := 73) (e := 98) Tryz.underlying73 (z := .agg #[.int .i64 0, .slice none 0 0]) (zero98 w) rfl (b : Int) ⟨by omega, by omega⟩
  rw [hs] at this
  exact this

set_option maxHeartbeats 2000000 in
theorem takeOff_ok (h : VI g B w A T) (x : Wr) (hx : x.block ≤ 100) (v2 : Value) (s : Sn) (hs : T.Y (x.block : Int) = some s) (hid : s.id = x.id) :
    Calls Tryz.prog 82 #[.pointer (some ⟨A.v, 0, none⟩), .agg #[.int .i64 x.id, .int .i64 (x.block : Int), v2]] w fun e w' => e = .returned (.slice s.p s.zs.length s.c) ∧ VI g B w' A { T with Y := Pt.fput T.Y (x.block : Int) none } ∧ Frame (fp A T) w w' ∧ Pt.II w' s.p s.zs.length s.zs := by
  obtain ⟨W, hW⟩ : ∃ W, w.alloc (.cells #[.int .i64 x.id, .int .i64 (x.block : Int), v2] 62) = W := ⟨_, rfl⟩
  have hbW : Below w.heap.size w W := by rw [← hW]; exact (Below.refl _ _).alloc (Nat.le_refl _) _
  have hrW : W.heap[w.heap.size]? = some (.cells #[.int .i64 x.id, .int .i64 (x.block : Int), v2] 62 (0, 0)) := by rw [← hW]; exact at_new rfl
  have hV := (h.later hbW).drew
  have c5 := hV.c5
  have k1 : W.drew.cell? ⟨w.heap.size, 1, none⟩ = some (.int .i64 (x.block : Int)) := (cell_of_row _ _ 1 _ 62 _ hrW).trans rfl
  have hlk := hV.look x.block hx hs
  have hsW : W.heap.size = w.heap.size + 1 := by rw [← hW]; simp
  have kb : ∀ cs, Below w.heap.size w (W.alloc (.cells cs 98)).drew := fun cs => (hbW.alloc (by omega) _).drew
  have kr : ∀ cs, (W.alloc (.cells cs 98)).drew.heap[w.heap.size]? = some (.cells #[.int .i64 x.id, .int .i64 (x.block : Int), v2] 62 (0, 0)) := fun cs => at_old hrW
  have k5 : ∀ cs, (W.alloc (.cells cs 98)).drew.cell? ⟨A.v, 5, none⟩ = some (.map (some A.m)) := fun cs => (h.later (kb cs)).c5
  have kc1 : ∀ cs, (W.alloc (.cells cs 98)).drew.cell? ⟨w.heap.size, 1, none⟩ = some (.int .i64 (x.block : Int)) := fun cs => (cell_of_row _ _ 1 _ 62 _ (kr cs)).trans rfl
  have kl : ∀ cs, (Instr.lookup 73 (.map (some A.m)) (.int .i64 (x.block : Int)) false).run Tryz.prog (W.alloc (.cells cs 98)).drew = .ok (.agg #[.int .i64 x.id, .slice s.p s.zs.length s.c]) (W.alloc (.cells cs 98)).drew := fun cs => by
    have := (h.later (kb cs)).look x.block hx hs
    unfold Sn.v at this
    rw [hid] at this
    exact this
  unfold Sn.v at hlk
  rw [hid] at hlk
  have a5 := k5 #[.int .i64 0, .slice none 0 0]
  have a1 := kc1 #[.int .i64 0, .slice none 0 0]
  have al := kl #[.int .i64 0, .slice none 0 0]
  obtain ⟨WC, hWC⟩ : ∃ WC, (W.alloc (.cells #[.int .i64 x.id, .slice s.p s.zs.length s.c] 98)).drew = WC := ⟨_, rfl⟩
  have e5 : WC.cell? ⟨A.v, 5, none⟩ = some (.map (some A.m)) := by rw [← hWC]; exact k5 _
  have e1 : WC.cell? ⟨w.heap.size, 1, none⟩ = some (.int .i64 (x.block : Int)) := by rw [← hWC]; exact kc1 _
  have el : (Instr.lookup 73 (.map (some A.m)) (.int .i64 (x.block : Int)) false).run Tryz.prog WC = .ok (.agg #[.int .i64 x.id, .slice s.p s.zs.length s.c]) WC := by rw [← hWC]; exact kl _
  have rC : WC.heap[w.heap.size + 1]? = some (.cells #[.int .i64 x.id, .slice s.p s.zs.length s.c] 98 (0, 0)) := by rw [← hWC]; exact at_new hsW.symm
  have hrC : WC.heap[w.heap.size]? = some (.cells #[.int .i64 x.id, .int .i64 (x.block : Int), v2] 62 (0, 0)) := by rw [← hWC]; exact kr _
  have hbT : Below w.heap.size w WC := by rw [← hWC]; exact kb _
  have e0 : WC.cell? ⟨w.heap.size, 0, none⟩ = some (.int .i64 x.id) := (cell_of_row _ _ 0 _ 62 _ hrC).trans rfl
  have n0 : WC.cell? ⟨w.heap.size + 1, 0, none⟩ = some (.int .i64 x.id) := (cell_of_row _ _ 0 _ 98 _ rC).trans rfl
  have hVC := h.later hbT
  obtain ⟨WD, hrun, hMD, hgD⟩ := (hVC.drew).wy.del (t := 73) (e := 98) Tryz.underlying73 (x.block : Int) ⟨by omega, by omega⟩ 0
  have HV : Hid (VI g B WC A T ∧ Below w.heap.size w WC ∧ Pt.Mf WD A.m T.NW (Pt.fput (fun b => (T.Y b).map Sn.v) (x.block : Int) none) ∧ WC.drew.grownBy WD (some A.m)) := ⟨hVC, hbT, hMD, hgD⟩
  have n1 : WD.cell? ⟨w.heap.size + 1, 1, none⟩ = some (.slice s.p s.zs.length s.c) := by
    have hm : A.m < w.heap.size := h.wl _ (.inl rfl)
    rw [World.cell?_of_block (w := WC) (hgD.block (w.heap.size + 1) (Array.getElem?_eq_some_iff.1 rC).1 (by intro e; have := Option.some.inj e; omega))]
    exact (cell_of_row _ _ 1 _ 98 _ rC).trans rfl
  clear hVC hbT hrC rC hMD hgD kl kc1 k5 kr kb hV hbW hrW
  go_enter Tryz.func82, Tryz.ntmps82
  go_wp2_with fail
  go_region_held3 (fun w' => w'.cell? ⟨A.v, 5, none⟩ = some (.map (some A.m)) ∧ w'.cell? ⟨w.heap.size, 1, none⟩ = some (.int .i64 (x.block : Int)) ∧ (Instr.lookup 73 (.map (some A.m)) (.int .i64 (x.block : Int)) false).run Tryz.prog w' = .ok (.agg #[.int .i64 x.id, .slice s.p s.zs.length s.c]) w') (first | exact ⟨c5, k1, hlk⟩ | exact ⟨a5, a1, al⟩ | exact ⟨e5, e1, el⟩) (fail)
  all_goals go_wp2_with fail
  all_goals go_region
  all_goals go_wp2_with fail
  all_goals go_ret
  all_goals
    obtain ⟨hVC, hbT, hMD, hgD⟩ := HV.out
    have hM' : Pt.Mf WD A.m T.NW (fun k => (Pt.fput T.Y (x.block : Int) none k).map Sn.v) := by rw [map_fput]; exact hMD
    obtain ⟨h4, hf4⟩ := hVC.drew.way hM' hgD (fun b' s' hs' => by
      unfold Pt.fput at hs'
      split at hs'
      · cases hs'
      · exact .inl hs')
    refine ⟨rfl, h4, ⟨hf4.os.trans hbT.os, hf4.tape.trans hbT.tape, hf4.output.trans hbT.output, Nat.le_trans hbT.size hf4.size, fun k hk hn => (hf4.block k (Nat.lt_of_lt_of_le hk hbT.size) hn).trans (hbT.block k hk)⟩, ?_⟩
    refine (hVC.wr _ s hs).1.keptIf (fun k hk hkl => ?_)
    refine hgD.block k hkl (fun e => h.nm _ s hs (hk.trans ?_))
    exact e
end
end Go.Proofs.YtinigfidofgaiaaGreat
