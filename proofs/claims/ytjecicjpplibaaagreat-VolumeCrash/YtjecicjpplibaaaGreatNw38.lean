/- V6 V7 -/
import Derived.Test.YtjecicjpplibaaaGreatNw37
import Derived.Deep.RegionHeld3

/- Which blocks may be written: mayWrite, ready. -/
namespace Go.Proofs.YtjecicjpplibaaaGreat
open Go.RowKit Go.Maps
set_option linter.unusedVariables false
set_option maxRecDepth 100000

theorem pst_fst (P : List Pt.Pv) : ∀ (l : List Pt.Pv) (c xs ys : List Int), (Pt.pst P l (c, xs)).1 = (Pt.pst P l (c, ys)).1
  | [], _, _, _ => rfl
  | p :: l, c, xs, ys => by unfold Pt.pst; exact pst_fst P l _ _ _
/-- The patches of a block that may be written. -/
def chs (P : List Pt.Pv) (b : Int) : List Int := (Pt.pst P (Pt.ofB P b) ([], [])).1
theorem chs_any (P : List Pt.Pv) (b : Int) (xs : List Int) : (Pt.pst P (Pt.ofB P b) ([], xs)).1 = chs P b := pst_fst P _ _ _ _

theorem made_zero (n : Nat) : (madeCells (Value.int .u8 0).cells (n * 1)).toList = List.replicate n (Value.int .u8 0) := by
  refine List.ext_getElem ?_ ?_
  · simp [madeCells]
  · intro i h1 h2
    simp [madeCells, Value.cells, Nat.mod_one]
def zz : List Int := List.replicate 128 0
theorem zeros_ok (w : World) : ∃ Z, (Instr.makeSlice 42 (.int .i64 128) (.int .i64 128)).run Tryz.prog w = .ok (.slice (some ⟨w.heap.size, 0, none⟩) 128 128) (w.alloc (.cells Z 5)) ∧ ∀ W : World, W.heap[w.heap.size]? = some (.cells Z 5 (0, 0)) → Pt.BI W (some ⟨w.heap.size, 0, none⟩) 128 zz := by
  obtain ⟨i0, hi, hz0, hz1, hz2⟩ := info_parts info5
  have h := run_makeSlice (P := Tryz.prog) w 42 5 i0 (.int .u8 0) Tryz.underlying42 hi hz0 .i64 .i64 128 128 (by omega) (by omega) (by rw [hz1]; decide) (by rw [hz2]; decide) (by omega)
  rw [hz1] at h
  obtain ⟨Z, hZ⟩ : ∃ Z, Z = madeCells (Value.int .u8 0).cells ((128 : Int).toNat * 1) := ⟨_, rfl⟩
  rw [← hZ] at h
  refine ⟨Z, h, fun W hW => ⟨by simp [zz], by omega, fun i => ?_, fun _ => ⟨_, 0, rfl, fun i hi => ?_⟩⟩⟩
  · unfold zz
    rw [List.getD_eq_getElem?_getD, List.getElem?_replicate]
    split <;> simp
  · rw [Nat.zero_add, cell_of_row _ _ i _ 5 _ hW]
    have e : Z.toList = List.replicate 128 (Value.int .u8 0) := by rw [hZ]; exact made_zero 128
    unfold zz
    rw [← Array.getElem?_toList, e, List.getElem?_replicate, if_pos hi, List.getD_eq_getElem?_getD, List.getElem?_replicate, if_pos hi]
    rfl

section
variable {g : Int} {B : Nat} {w w' : World} {A : At} {T : Vs}
set_option maxHeartbeats 1000000 in
theorem mayWrite_ok (h : VI g B w A T) (b : Int) (hb : Pt.I64 b) : Calls Tryz.prog 79 #[.pointer (some ⟨A.v, 0, none⟩), .int .i64 b] w fun e w' => e = .returned (.bool (!(chs T.P b).isEmpty)) ∧ Below w.heap.size w w' := by
  have c4 := h.c4
  obtain ⟨Z, hz, hZ⟩ := zeros_ok w.drew
  have hbd : Below w.heap.size w w.drew := (Below.refl _ _).drew
  have hbz : Below w.drew.heap.size w.drew (w.drew.alloc (.cells Z 5)) := (Below.refl _ _).alloc (Nat.le_refl _) _
  have hp := Pt.plan_ok ((h.ps.kept hbd).kept hbz) b hb (some ⟨w.heap.size, 0, none⟩) 128 zz (hZ _ (at_new rfl))
  rw [show Pt.pst T.P (Pt.ofB T.P b) ([], zz) = (chs T.P b, (Pt.pst T.P (Pt.ofB T.P b) ([], zz)).2) from Prod.ext (chs_any _ _ _) rfl] at hp
  have c4d : w.drew.cell? ⟨A.v, 4, none⟩ = some (.pointer (some ⟨A.s, 0, none⟩)) := c4
  have c4Z : (w.drew.alloc (.cells Z 5)).cell? ⟨A.v, 4, none⟩ = some (.pointer (some ⟨A.s, 0, none⟩)) := ((h.later hbd).later hbz).c4
  have HV : Hid (VI g B (w.drew.alloc (.cells Z 5)) A T ∧ Below w.heap.size w (w.drew.alloc (.cells Z 5))) := ⟨(h.later hbd).later hbz, hbd.trans hbz⟩
  clear hZ h hbz hbd
  go_enter Tryz.func79, Tryz.ntmps79
  go_wp2_with fail
  go_region_held3 (fun w' => w'.cell? ⟨A.v, 4, none⟩ = some (.pointer (some ⟨A.s, 0, none⟩))) (first | exact c4d | exact c4Z | exact c4A)
    (first | (go_at_call 120; refine Calls.mono hp ?_; rintro e w1 ⟨ov, iv, er, rfl, hb1, HP⟩; have c4A : w1.cell? ⟨A.v, 4, none⟩ = some (.pointer (some ⟨A.s, 0, none⟩)) := (HV.out.1.later hb1).c4))
  have hP := HP.out
  rcases hP with ⟨e1, _, _, e4⟩ | ⟨e1, e2, _, _⟩
  · subst e4
    have e1' : chs T.P b = [] := e1
    go_wp2_with fail
    go_ret
    refine ⟨?_, HV.out.2.trans (hb1.mono HV.out.2.size)⟩
    rfl
  · subst e2
    have e1' : (chs T.P b).isEmpty = false := by cases hc : chs T.P b with | nil => exact absurd hc e1 | cons _ _ => rfl
    go_wp2_with fail
    go_ret
    refine ⟨?_, HV.out.2.trans (hb1.mono HV.out.2.size)⟩
    rfl

/-- May block b be written? -/
def may (T : Vs) (b : Int) : Bool := !(qbs T.S).contains b && !(chs T.P b).isEmpty
/-- The blocks that may be written. -/
def rdy (T : Vs) (L : List Int) : List Int := L.filter (may T)

theorem contains_ii {q n c : Nat} {zs : List Int} (h : Pt.II w (some ⟨q, 0, none⟩) n zs) (x : Int) : Calls Tryz.prog 78 #[.slice (some ⟨q, 0, none⟩) n c, .int .i64 x] w fun e w' => e = .returned (.bool (zs.contains x)) ∧ w' = w := by
  have hl := h.len
  have hbg := h.big
  rcases Nat.eq_zero_or_pos n with hn | hn
  · subst hn
    obtain rfl : zs = [] := List.eq_nil_of_length_eq_zero hl
    exact Pt.sh_slices_Contains_int_empty _ _ _ _
  · obtain ⟨b, o, e, hc⟩ := h.cells hn
    simp only [Option.some.injEq, Addr.mk.injEq] at e
    obtain ⟨rfl, rfl, _⟩ := e
    have := Pt.sh_slices_Contains_int q 0 n c zs x w (by omega) (by omega) (fun j hj => hc j (by omega))
    rw [List.take_of_length_le (by omega)] at this
    exact this

set_option maxHeartbeats 2000000 in
theorem ready_ok (h : VI g B w A T) : Calls Tryz.prog 42 #[.pointer (some ⟨A.v, 0, none⟩)] w fun e w' => ∃ v, e = .returned v ∧ Pt.Nums w.heap.size w' v (rdy T (Pt.blks T.P)) ∧ Below w.heap.size w w' := by
  obtain ⟨i0, hi, hz0, hz1, hz2⟩ := info_parts info3z
  have how := onWay_ok h
  have hq64 := h.cd.di.q64
  have hPl : (Pt.blks T.P).length ≤ 1000 := by
    have h1 := h.ps.len
    have h2 := h.ps.sml
    have h3 : (Pt.blks T.P).length ≤ (T.P.map (fun p => (p.blk : Int))).length := Pt.rs_length _
    rw [List.length_map] at h3
    omega
  go_enter Tryz.func42, Tryz.ntmps42
  go_wp2_with fail
  refine Calls.mono how ?_
  rintro e w1 ⟨q, c, rfl, hII, hq, hb1⟩
  have hv1 := h.later hb1
  have c4 := hv1.c4
  have hbl := Pt.blocks_ok hv1.ps
  clear how
  dsimp only
  go_wp2_with fail
  refine Calls.mono hbl ?_
  rintro e w2 ⟨p, c2, rfl, hz, _, _, hb2⟩
  have hb12 : Below w.heap.size w w2 := hb1.trans (hb2.mono hb1.size)
  have hII2 := hII.kept hb2
  obtain ⟨L, hL⟩ : ∃ L, L = Pt.blks T.P := ⟨_, rfl⟩
  rw [← hL] at hz hPl
  rw [← hL]
  obtain ⟨n, hn⟩ : ∃ n, n = L.length := ⟨_, rfl⟩
  rw [← hn] at hz hPl
  rw [← hn]
  have hl := hz.len
  have HL := (show Hid _ from hL)
  clear hL hn hbl c4 hv1 hII
  dsimp only
  go_wp2_with fail
  go_loopw [4, 15] (fun s i wr => ∃ j : Nat, j ≤ n ∧ i = .int .i64 (j : Int) ∧ Pt.Nums w2.heap.size wr s (rdy T (L.take j)) ∧ Below w2.heap.size w2 wr) (fun s i _ => n - (intOf i).toNat)
  case atStart => exact ⟨0, by omega, rfl, Pt.Nums.nil _ _, Below.refl _ _⟩
  case round =>
    obtain ⟨j, hj, rfl, hN, hbr⟩ := hrel
    have hbW : Below w.heap.size w wr := hb12.trans (hbr.mono hb12.size)
    by_cases hlt : j < n
    · obtain ⟨b1, o1, rfl, hc1⟩ := (hz.kept hbr).cells (by omega)
      have e1 := hc1 j hlt
      have hct := contains_ii (c := c) (hII2.kept hbr) (L.getD j 0)
      have hmw := mayWrite_ok (h.later hbW) (L.getD j 0) (hz.fitAt j)
      have hjI : (j : Int) < (n : Int) := by omega
      have hj0 : (0 : Int) ≤ (j : Int) := by omega
      have HT : Hid _ := Pt.take_one (zs := L) (j := j) (by omega)
      have hlen : (rdy T (L.take j)).length ≤ j := Nat.le_trans (List.length_filter_le _ _) (by simp; omega)
      clear hc1
      generalize L.getD j 0 = y at e1 hct hmw HT
      have HS : Hid (rdy T (L.take (j + 1)) = rdy T (L.take j) ++ [y].filter (may T)) := by
        show _ = _
        unfold rdy
        rw [HT.out, List.filter_append]
      have HM : Hid (may T y = (!(qbs T.S).contains y && !(chs T.P y).isEmpty)) := rfl
      cases hc : (qbs T.S).contains y with
      | true =>
        rw [hc] at hct HM
        have HS2 : Hid (rdy T (L.take (j + 1)) = rdy T (L.take j)) := by show _ = _; rw [HS.out]; simp [HM.out]
        clear hc
        go_wp2_with (first | (go_at_call 78; refine same_at hct ?_))
        go_roundw
        case rel => exact ⟨j + 1, by omega, by go_num, by rw [HS2.out]; exact hN, hbr⟩
        case measure => simp [intOf]; omega
      | false =>
        rw [hc] at hct HM
        clear hc
        cases hm : (chs T.P y).isEmpty with
        | true =>
          rw [hm] at hmw HM
          have HS2 : Hid (rdy T (L.take (j + 1)) = rdy T (L.take j)) := by show _ = _; rw [HS.out]; simp [HM.out]
          clear hm
          go_wp2_with (first | (go_at_call 78; refine same_at hct ?_) | (go_at_call 79; refine Pt.below_at hmw ?_; intro w3 hb3))
          go_roundw
          case rel => exact ⟨j + 1, by omega, by go_num, by rw [HS2.out]; exact hN.kept hb3, Pt.below_on hbr hb3⟩
          case measure => simp [intOf]; omega
        | false =>
          rw [hm] at hmw HM
          have HS2 : Hid (rdy T (L.take (j + 1)) = rdy T (L.take j) ++ [y]) := by show _ = _; rw [HS.out]; simp [HM.out]
          clear hm
          go_wp2_with (first
            | (go_at_call 78; refine same_at hct ?_)
            | (go_at_call 79; refine Pt.below_at hmw ?_; intro w3 hb3; have hN2 := hN.kept hb3; have hb4 := Pt.below_on hbW hb3; have hb5 := Pt.below_on hbr hb3)
            | (at_builtin; refine wpList_append_own _ rfl _ _ 23 rfl w2.heap.size 3 i0 (.int .i64 0) 1 8 Tryz.underlying23 hi hz0 hz1 hz2 rfl (by decide) _ _ _ rfl (World.ownsRow.alloc hN2 _) ⟨w3.heap.size, 0, none⟩ 1 1 [.int .i64 y] rfl rfl (cell_one_new _ _ _) (by simp [Value.oneCell']) (by unfold maxLen; omega) (by omega) (by have := hb5.size; simp; omega) ?_; intro v' w5 hown hgrow _; have hown := Pt.Nums.snoc hown; obtain ⟨g', cap', rfl⟩ := Pt.Nums.succ hown))
          have hb6 := (hb5.alloc (by have := hb5.size; omega) _).grown hgrow (by have := hb5.size; simp; omega) (by intro k hk; exact (World.ownsRow.lt hN2 k hk).1)
          go_roundw
          case rel => exact ⟨j + 1, by omega, by go_num, by rw [HS2.out]; exact hown, hb6⟩
          case measure => simp [intOf]; omega
    · obtain rfl : j = n := by omega
      rw [List.take_of_length_le (by omega)] at hN
      go_wp2
      go_ret
      exact ⟨_, rfl, by rw [← HL.out]; exact Pt.Nums.base hN hb12.size, hbW⟩

theorem vReady_ok (h : VI 0 B w A T) : Calls Tryz.prog 11 #[.pointer (some ⟨A.v, 0, none⟩)] w fun e w' => ∃ v, e = .returned v ∧ Pt.Nums w.heap.size w' v (rdy T (Pt.blks T.P)) ∧ (∀ k, v.ownBlock = some k → ¬ fp A T k) ∧ VI 0 B w' A T ∧ Pt.Stp (fp A T) (fp A T) w w' := by
  have hg := h.guard 1
  have hsz : (w.setCell ⟨A.v, 0, none⟩ (.int .i32 1)).heap.size = w.heap.size := by simp
  refine (vready_of h.vrow (R := fun r w1 => Pt.Nums w.heap.size w1 r (rdy T (Pt.blks T.P)) ∧ VI 1 B w1 A T ∧ Pt.Stp (fp A T) (fp A T) (w.setCell ⟨A.v, 0, none⟩ (.int .i32 1)) w1) ((ready_ok hg).mono ?_)).mono ?_
  · rintro e w1 ⟨v, rfl, hN, hb⟩
    rw [hsz] at hN
    exact ⟨_, _, rfl, (hg.later hb).vheld, hN, hg.later hb, below_stp hb⟩
  · rintro e w2 ⟨r, y, w1, rfl, _, ⟨hN, hv, hst⟩, rfl⟩
    obtain ⟨hv0, hs0⟩ := unguard hst hv
    have hnf : ∀ k, r.ownBlock = some k → ¬ fp A T k := fun k hk hf => by
      have h1 := (World.ownsRow.lt hN k hk).1
      have h2 := h.lt k hf
      omega
    refine ⟨r, rfl, ?_, hnf, hv0, hs0⟩
    refine ownsRow_kept hN (fun k hk => ?_)
    exact (Frame.setCell (X := fun i => i = A.v) w1 (p := ⟨A.v, 0, none⟩) (.int .i32 0) rfl).block k (World.ownsRow.lt hN k hk).2 (fun e => hnf k hk (.inl e))
end
end Go.Proofs.YtjecicjpplibaaaGreat

/- A block is written: plan, write. -/
namespace Go.Proofs.YtjecicjpplibaaaGreat
open Go.RowKit Go.Maps
set_option linter.unusedVariables false
set_option maxRecDepth 100000

/-- What is written of block b. -/
def outOf (T : Vs) (b : Nat) : List Int := (Pt.pst T.P (Pt.ofB T.P (b : Int)) ([], T.S.f b)).2

theorem pst_sect (P : List Pt.Pv) (hP : ∀ p ∈ P, Pt.Num.Byt p.bs ∧ p.off + p.bs.length ≤ 128) : ∀ (l : List Pt.Pv) (c xs : List Int), (∀ p ∈ l, p ∈ P) → xs.length = 128 → Pt.Num.Byt xs → (Pt.pst P l (c, xs)).2.length = 128 ∧ Pt.Num.Byt (Pt.pst P l (c, xs)).2
  | [], _, _, _, h1, h2 => ⟨h1, h2⟩
  | p :: l, c, xs, hl, h1, h2 => by
    unfold Pt.pst
    have hp := hP p (hl p (by simp))
    have hx : (Pt.nextO P c xs p).length = 128 ∧ Pt.Num.Byt (Pt.nextO P c xs p) := by
      unfold Pt.nextO
      split
      · exact ⟨h1, h2⟩
      · exact ⟨by rw [Pt.ovr_len (by omega)]; exact h1, Pt.ovr_byt h2 hp.1⟩
    exact pst_sect P hP l _ _ (fun q hq => hl q (by simp [hq])) hx.1 hx.2

section
variable {g : Int} {B : Nat} {w w' : World} {A : At} {T : Vs}
theorem VI.sect (h : VI g B w A T) (b : Nat) : Sect (outOf T b) := by
  have hS := h.sy.ok.sec b
  have := pst_sect T.P (fun p hp => ⟨(h.ps.byt p hp).1.byt, (h.ps.ids p hp).2.2.2.2⟩) (Pt.ofB T.P (b : Int)) [] (T.S.f b) (fun p hp => (List.mem_filter.1 hp).1) hS.1 hS.2
  exact ⟨this.1, this.2⟩

set_option maxHeartbeats 1000000 in
theorem vplan_ok (h : VI g B w A T) (b : Nat) (hb : b < T.S.N) (hm : (chs T.P (b : Int)).isEmpty = false) (hc : T.C.hi + T.C.mi < 4611686018427387904) :
    Calls Tryz.prog 80 #[.pointer (some ⟨A.v, 0, none⟩), .int .i64 (b : Int)] w fun e w' => ∃ q cap iv C', e = .returned (.tuple #[.slice (some ⟨q, 0, none⟩) 128 cap, iv, .int .i64 0]) ∧ Own w.heap.size w' q 128 cap (outOf T b) ∧ Pt.Nums w.heap.size w' iv (chs T.P (b : Int)) ∧ ¬ fp A { T with C := C' } q ∧ (∀ k, iv.ownBlock = some k → ¬ fp A { T with C := C' } k) ∧
      VI g B w' A { T with C := C' } ∧ Pt.Stp (fp A T) (fp A { T with C := C' }) w w' ∧ C'.hi + C'.mi = T.C.hi + T.C.mi + 1 := by
  have hN := h.cd.ci.N12
  have hI : Pt.I64 (b : Int) := ⟨by omega, by omega⟩
  have hmw := mayWrite_ok h (b : Int) hI
  rw [hm] at hmw
  have hne : chs T.P (b : Int) ≠ [] := by intro e; rw [e] at hm; cases hm
  have HM := (show Hid _ from hne)
  clear hm hne
  go_enter Tryz.func80, Tryz.ntmps80
  go_wp2_with fail
  refine Calls.mono hmw ?_
  rintro e w0 ⟨rfl, hb0⟩
  have h0 := h.later hb0
  have c3 := h0.c3
  have hget := getc h0.cd h0.sy b hb hc h0.lo.2
  clear hmw
  dsimp only [Bool.not_false]
  go_wp2_with fail
  refine Calls.mono hget ?_
  rintro e w1 ⟨q, cap, C', rfl, hO, hcd, hy, hcnt, hbd, hfr, hnew⟩
  obtain ⟨hv1, hst⟩ := h0.cache hcd hy hfr hnew
  have c4 := hv1.c4
  have hS := h.sy.ok.sec b
  have hpl := Pt.plan_ok hv1.ps (b : Int) hI (some ⟨q, 0, none⟩) cap (T.S.f b) (hO.bi (by omega) hS.2).pt
  clear hget c3
  dsimp only
  go_wp2_with fail
  refine Calls.mono hpl ?_
  rintro e w2 ⟨ov, iv, er, rfl, hb2, HP⟩
  have hP := HP.out
  have hch : (Pt.pst T.P (Pt.ofB T.P (b : Int)) ([], T.S.f b)).1 = chs T.P (b : Int) := chs_any _ _ _
  rcases hP with ⟨e1, _⟩ | ⟨_, rfl, ⟨q2, cap2, rfl, hO2⟩, hNu⟩
  · exact absurd (hch.symm.trans e1) HM.out
  · rw [hch] at hNu
    have hsz : w.heap.size ≤ w1.heap.size := Nat.le_trans hb0.size hst.fr.size
    have HO : Hid (Own w.heap.size w2 q2 128 cap2 (outOf T b)) := Own.base hO2 hsz
    have HNu : Hid (Pt.Nums w.heap.size w2 iv (chs T.P (b : Int))) := Pt.Nums.base hNu hsz
    have HF : Hid (¬ fp A { T with C := C' } q2) := fun hf => by have := hv1.lt q2 hf; have := hO2.spot; omega
    have HG : Hid (∀ k, iv.ownBlock = some k → ¬ fp A { T with C := C' } k) := fun k hk hf => by have := hv1.lt k hf; have := (World.ownsRow.lt hNu k hk).1; omega
    clear hNu hO2 HP hch
    dsimp only
    go_wp2_with fail
    go_ret3
    refine ⟨q2, cap2, iv, C', rfl, HO.out, HNu.out, HF.out, HG.out, hv1.later hb2, stp_below ?_ hb2, hcnt⟩
    exact ⟨⟨hst.fr.os.trans hb0.os, hst.fr.tape.trans hb0.tape, hst.fr.output.trans hb0.output, Nat.le_trans hb0.size hst.fr.size, fun k hk hn => (hst.fr.block k (Nat.lt_of_lt_of_le hk hb0.size) hn).trans (hb0.block k hk)⟩, fun k hk => (hst.new k hk).imp id (fun h => Nat.le_trans hb0.size h)⟩
end
end Go.Proofs.YtjecicjpplibaaaGreat
