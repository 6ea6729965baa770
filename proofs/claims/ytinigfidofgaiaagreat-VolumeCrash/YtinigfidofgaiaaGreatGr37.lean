/- XE -/
import Derived.Test.YtinigfidofgaiaaGreatGr36
import Derived.Deep.CutBlock
import Derived.Deep.DeepCutAuto

/- Whichever writes are done when it crashes, the disk has, of each patch that it has, all that this needs (P9.11). -/
namespace Go.Proofs.YtinigfidofgaiaaGreat
open Go.RowKit Go.Maps
set_option linter.unusedVariables false
set_option maxRecDepth 100000

/-- The rest of memory: what was handed in, and the rows of needs, beside the volume. -/
structure EnvC (w : World) (A : At) (T : Vs) (v : Value) (us : List Value) (of : List (List Int)) (wr : World) : Prop where
  ofs : Ofs w.heap.size wr v us of
  oo : ∀ k, ofoot v us k → ¬ fp A T k
  bel : Below w.heap.size w wr
  own : ∀ k, fp A T k → w.heap.size ≤ k
  bd : ∀ zs ∈ of, zs.length ≤ 140737488355328
section
variable {w wr w' : World} {A : At} {T T' : Vs} {v : Value} {us : List Value} {of : List (List Int)}
theorem EnvC.stp (h : EnvC w A T v us of wr) (hs : Pt.Stp (fp A T) (fp A T') wr w') : EnvC w A T' v us of w' := by
  refine ⟨h.ofs.kept (fun k hk => hs.fr.block k (h.ofs.in k hk).2 (h.oo k hk)), fun k hk hf => ?_, ?_, ?_, h.bd⟩
  · rcases hs.new k hf with h1 | h1
    · exact h.oo k hk h1
    · have := (h.ofs.in k hk).2; omega
  · refine ⟨hs.fr.os.trans h.bel.os, hs.fr.tape.trans h.bel.tape, hs.fr.output.trans h.bel.output, Nat.le_trans h.bel.size hs.fr.size, fun i hi => ?_⟩
    exact (hs.fr.block i (Nat.lt_of_lt_of_le hi h.bel.size) (fun hf => by have := h.own i hf; omega)).trans (h.bel.block i hi)
  · intro k hk
    rcases hs.new k hk with h1 | h1
    · exact h.own k h1
    · have := h.bel.size; omega
theorem EnvC.below (h : EnvC w A T v us of wr) (hb : Below wr.heap.size wr w') : EnvC w A T v us of w' :=
  ⟨h.ofs.kept (fun k hk => hb.block k (h.ofs.in k hk).2), h.oo, h.bel.trans (hb.mono h.bel.size), h.own, h.bd⟩
end
theorem info23 : (Tryz.prog.info? 23).map (fun i => (i.zero, i.size, i.bytes)) = some (some (.slice none 0 0), 1, 24) := by kernel_rfl

theorem nums_base {w : World} {B B' : Nat} {v : Value} {zs : List Int} (h : Pt.Nums B w v zs) (hb : B' ≤ B) : Pt.Nums B' w v zs := by
  refine ⟨h.1, ?_⟩
  rcases h.2 with h' | ⟨g, cap, cur, h', hbg, rest⟩
  · exact .inl h'
  · exact .inr ⟨g, cap, cur, h', Nat.le_trans hb hbg, rest⟩
theorem EnvC.push {w wr w3 : World} {A : At} {T : Vs} {v v3 u : Value} {us : List Value} {of : List (List Int)} {zs : List Int} {g : Int} {B : Nat} (h : EnvC w A T v us of wr) (hu : Pt.Nums w.heap.size wr u zs) (huf : ∀ k, u.ownBlock = some k → ¬ fp A T k) (ho3 : w3.ownsRow w.heap.size 23 1 v3 (us.length + 1) (us ++ [u])) (hg : wr.grownBy w3 v.ownBlock) (hx2 : ∀ k, v3.ownBlock = some k → v.ownBlock = some k ∨ wr.heap.size ≤ k) (hv : VI g B wr A T) (hzl : zs.length ≤ 140737488355328) :
    EnvC w A T v3 (us ++ [u]) (of ++ [zs]) w3 ∧ VI g B w3 A T := by
  have hfr : Frame (fun k => v.ownBlock = some k) wr w3 := frame_of_grown hg (fun k hk => hk)
  refine ⟨⟨h.ofs.push hu ho3 hg, ?_, h.bel.grown hg h.bel.size (fun k hk => (h.ofs.in k (.inl hk)).1), h.own, ?_⟩, hv.frame hfr (fun k hk hc => h.oo k (.inl hc) hk)⟩
  rotate_left
  · intro ys hy
    rcases List.mem_append.1 hy with h1 | h1
    · exact h.bd ys h1
    · simp at h1; subst h1; exact hzl
  rintro k (hk | ⟨r, hr, hk⟩)
  · rcases hx2 k hk with h1 | h1
    · exact h.oo k (.inl h1)
    · exact fun hf => by have := hv.lt k hf; omega
  · rcases List.mem_append.1 hr with h1 | h1
    · exact h.oo k (.inr ⟨r, h1, hk⟩)
    · simp at h1
      subst h1
      exact huf k hk

section
variable {g : Int} {B : Nat} {w : World} {A : At} {T : Vs} {of : List (List Int)}
theorem may_parts {b : Nat} (h : may T (b : Int) = true) : (b : Int) ∉ qbs T.S ∧ chs T.P (b : Int) ≠ [] := by
  unfold may at h
  rw [Bool.and_eq_true] at h
  refine ⟨fun hm => ?_, fun e => ?_⟩
  · have := h.1
    simp [hm] at this
  · have := h.2
    simp [e] at this
theorem chs_lenM (h : VI g B w A T) (hM : Mks of T) (b : Nat) : (chs T.P (b : Int)).length ≤ 1000 := by
  have hn : (chs T.P (b : Int)).Nodup := Pt.pst_nodup T.P _ _ (by simp) (hM.onw.gd.srt.sublist List.filter_sublist) (by simp)
  have hs : ∀ x ∈ chs T.P (b : Int), x ∈ (T.P.map fun p => (p.id : Int)) := fun x hx => by
    obtain ⟨p, hp, _, e⟩ := chs_mem hx
    exact List.mem_map.2 ⟨p, hp, e.symm⟩
  have h1 : (chs T.P (b : Int)).length ≤ (T.P.map fun p => (p.id : Int)).length := List.Nodup.length_le_of_subset hn hs
  rw [List.length_map] at h1
  have h2 := h.ps.sml
  have h3 : T.P.length ≤ T.last := h.ps.len
  omega
/-- No more writes are on the way than there are patches. -/
theorem q_len (h : Mks of T) : T.S.q.length ≤ 60 := by
  have hn : (T.S.q.map (fun y => y.block)).Nodup := List.pairwise_map.2 h.onw.two
  have hs : ∀ x ∈ T.S.q.map (fun y => y.block), x ∈ List.range 8 := fun x hx => by
    obtain ⟨y, hy, rfl⟩ := List.mem_map.1 hx
    obtain ⟨s, hs⟩ := h.onw.wy y hy
    obtain ⟨p, hp, hm⟩ := hs.some
    have h1 := hs.blk p hp hm
    have h2 := h.onw.blk p hp
    rw [h.N] at h2
    exact List.mem_range.2 (by omega)
  have h1 := List.Nodup.length_le_of_subset hn hs
  rw [List.length_map, List.length_range] at h1
  omega
end

theorem Ofs.shape {B : Nat} {w : World} {v : Value} {us : List Value} {of : List (List Int)} (h : Ofs B w v us of) : ∃ p c, v = .slice p us.length c ∧ ∀ j u, us[j]? = some u → ∃ g, p = some ⟨g, 0, none⟩ ∧ w.cell? ⟨g, j, none⟩ = some u := by
  have hr := h.row
  rcases hr.2 with ⟨rfl, h0⟩ | ⟨g, cap, cur, rfl, _⟩
  · refine ⟨none, 0, by rw [h0], fun j u hj => ?_⟩
    have := (List.getElem?_eq_some_iff.1 hj).1
    omega
  · refine ⟨some ⟨g, 0, none⟩, cap, rfl, fun j u hj => ⟨g, rfl, ?_⟩⟩
    have hjl := (List.getElem?_eq_some_iff.1 hj).1
    rw [hr.cellAt j (by omega), hj]
theorem img_at {B : Nat} {w : World} {gI : Nat} {gs : List Nat} {F : Nat → List Int} (h : Img B w gI 8 gs F) (i : Nat) (hi : i < 60) : ∃ gb, w.cell? ⟨gI, i % 8, none⟩ = some (.slice (some ⟨gb, 0, none⟩) 128 128) ∧ w.cell? ⟨gb, i, none⟩ = some (.int .u8 (mrk F i)) := by
  have hl := h.len
  have hb : i % 8 < 8 := Nat.mod_lt _ (by omega)
  have he := h.el (i % 8) hb
  refine ⟨gs.getD (i % 8) 0, ?_, ?_⟩
  · rw [h.row.cellAt (i % 8) (by omega), List.getElem?_map, List.getElem?_eq_getElem (by omega), List.getD_eq_getElem?_getD, List.getElem?_eq_getElem (by omega)]
    rfl
  · have h1 := he.1
    rw [List.length_map] at h1
    rw [World.ownsRow.cellAt he i (by omega), List.getElem?_map, List.getElem?_eq_getElem (by omega)]
    unfold mrk
    rw [List.getD_eq_getElem?_getD, List.getElem?_eq_getElem (by omega)]
    rfl
set_option maxHeartbeats 8000000 in
theorem volumeCrash_walk (p : Option Addr) (m c : Nat) (R : List (List Int)) (q : Option Addr) (mo co : Nat) (zs : List Int) (mask : Int) (w : World) (hR : Rws w p m R) (hZ : Pt.II w q mo zs) : Calls Tryz.prog 6 #[.slice p m c, .slice q mo co, .int .u64 mask] w fun e w' => e = .returned (.bool true) ∧ Below w.heap.size w w' := by
  obtain ⟨i0, hi, hz0, hz1, hz2⟩ := info_parts info3z
  obtain ⟨j0, gi, gz0, gz1, gz2⟩ := info_parts info23
  have hnew := new_ok 8 (by omega) (by omega) w
  go_enter Tryz.func6, Tryz.ntmps6
  go_wp2_with fail
  refine Calls.mono hnew ?_
  rintro e w1 ⟨a, dm, df, rfl, hdi, hb1⟩
  have hop := vOpen_ok hdi hb1.size (by show 8 ≤ 12; omega) (fun _ => rfl) (fun b => sect_zer) 8 (by omega)
  clear hnew
  dsimp only
  go_wp2_with fail
  refine Calls.mono hop ?_
  rintro e w2 ⟨A, rfl, eA1, eA2, eA3, hv2, hb2, hfp2⟩
  have hb12 : Below w.heap.size w w2 := hb1.trans (hb2.mono hb1.size)
  have hE2 : EnvC w A (new0 ⟨8, fun _ => zer, [], 0, fun _ => 0⟩ (.slice none 0 0) 8) (.slice none 0 0) [] [] w2 := by
    refine ⟨⟨⟨rfl, .inl ⟨rfl, rfl⟩⟩, rfl, fun i u zs hu => by simp at hu⟩, ?_, hb12, fun k hk => ?_, fun zs hz => by cases hz⟩
    · rintro k (hk | ⟨u, hu, _⟩)
      · cases hk
      · cases hu
    · rcases hfp2 k hk with h1 | h1
      · exact (hdi.in k h1).1
      · have := hb1.size; omega
  have hP2 : Ph1 [] (new0 ⟨8, fun _ => zer, [], 0, fun _ => 0⟩ (.slice none 0 0) 8) := ⟨⟨Pt.gd_nil, rfl, rfl, rfl, fun p hp => by cases hp⟩, rfl, rfl, rfl, by simp, rfl, (fun p hp => by cases hp), (fun i hi => by simp at hi), (fun p hp => by cases hp), (fun i hi => by simp at hi)⟩
  have hRl := hR.len
  have hRb := hR.big
  subst eA1
  clear hop hfp2 hb12 hb2 hb1 hdi eA2 eA3
  dsimp only
  go_upto_block 0 with fail
  go_cut [11] (fun v wx => ∃ T us of, VI 0 w.heap.size wx A T ∧ EnvC w A T v us of wx ∧ Ph1 of T)
  case first =>
    go_wp2_with fail
    go_loopw [47, 11] (fun iv v wr => ∃ (j : Nat) (T : Vs) (us : List Value) (of : List (List Int)), j ≤ m ∧ of.length = j ∧ j ≤ 60 ∧ iv = .int .i64 (j : Int) ∧ VI 0 w.heap.size wr A T ∧ EnvC w A T v us of wr ∧ Ph1 of T) (fun iv v _ => m - (intOf iv).toNat)
    case atStart => exact ⟨0, _, [], [], by omega, rfl, by omega, rfl, hv2, hE2, hP2⟩
    case round =>
      clear hv2 hE2 hP2
      obtain ⟨j, T, us, of, hj, hol, hj60, rfl, hv, hE, hP⟩ := hrel
      by_cases hlt : j < m
      · obtain ⟨l0, hl0⟩ : ∃ l0, R[j]? = some l0 := ⟨_, List.getElem?_eq_getElem (by omega)⟩
        obtain ⟨g0, o0, rfl, hc⟩ := hR.cells (by omega)
        obtain ⟨q0, m0, c0, hcell, hII0, hm0⟩ := hc j l0 hl0
        have hcr : wr.cell? ⟨g0, o0 + j, none⟩ = some (.slice q0 m0 c0) := (hE.bel.cell (p := ⟨g0, o0 + j, none⟩) (lt_of_cell hcell)).trans hcell
        have hII := hII0.kept hE.bel
        have hjI : (j : Int) < (m : Int) := by omega
        have hj0 : (0 : Int) ≤ (j : Int) := by omega
        clear hc hl0 hcell hII0
        by_cases hj6 : j < 60
        · have hg60 : ¬ (60 : Int) ≤ (j : Int) := by omega
          have hd60 : decide ((60 : Int) ≤ (j : Int)) = false := decide_eq_false hg60
          have hd60' : decide (60 ≤ j) = false := decide_eq_false (by omega)
          have hus : us.length = j := hE.ofs.len.trans hol
          have HUS : Hid (us.length = j) := hus
          have H2 : Hid (us.length + 1 ≤ maxLen) := by show _ ≤ _; unfold maxLen; omega
          have H3 : Hid ((us.length + 1) * 24 ≤ 140737488355328) := by show _ ≤ _; omega
          clear hus
          have hwj1 : IntKind.i64.wrap ((j : Int) + 1) = (j : Int) + 1 := IntWalk.i64_in _ (by omega)
          clear hg60
          rename World => wo
          go_wp2_with fail
          go_loopw [56, 14] (fun iv s w2 => ∃ t : Nat, t ≤ m0 ∧ iv = .int .i64 (t : Int) ∧ Pt.Nums wo.heap.size w2 s (Pt.zsOf j (l0.take t)) ∧ Below wo.heap.size wo w2) (fun iv s _ => m0 - (intOf iv).toNat)
          case atStart => exact ⟨0, by omega, rfl, by rw [List.take_zero, zsOf_nil]; exact Pt.Nums.nil _ _, Below.refl _ _⟩
          case round =>
            obtain ⟨t, ht, rfl, hN, hb3⟩ := hrel
            by_cases htl : t < m0
            · obtain ⟨b5, o5, rfl, hc5⟩ := (hII.kept hb3).cells (by omega)
              have e5 := hc5 t htl
              have htI : (t : Int) < (m0 : Int) := by omega
              have ht0 : (0 : Int) ≤ (t : Int) := by omega
              have HT5 : Hid (l0.take (t + 1) = l0.take t ++ [l0.getD t 0]) := Pt.take_one (by rw [hII.len]; exact htl)
              have hzl : (Pt.zsOf j (l0.take t)).length ≤ t := Nat.le_trans (zsOf_len _ _) (by rw [List.length_take]; omega)
              clear hc5
              generalize l0.getD t 0 = y at e5 HT5
              rcases Nat.eq_zero_or_pos j with hz | hz
              · have HZ : Hid (Pt.zsOf j (l0.take (t + 1)) = Pt.zsOf j (l0.take t)) := by show _ = _; rw [hz]; rfl
                have hdz2 : decide ((0 : Int) < (j : Int)) = false := decide_eq_false (by omega)
                have hdz : decide (0 < j) = false := decide_eq_false (by omega)
                clear hz
                go_wp2_with fail
                go_roundw
                case rel => exact ⟨t + 1, by omega, by go_num, by rw [HZ.out]; exact hN, hb3⟩
                case measure => simp [intOf]; omega
              · have hjp : (0 : Int) < (j : Int) := by omega
                have hm1 := Pt.mq_wrap (K := j) hz (by omega) y
                have hm1i := mq_wrapI (K := j) hz (by omega) y
                have hm2 := Pt.mq_lt hz y
                have hwj : IntKind.u64.wrap (j : Int) = (j : Int) := by rw [IntKind.wrap_u64]; omega
                have hw1 : IntKind.i64.wrap (1 + (Pt.mq j y : Int)) = 1 + (Pt.mq j y : Int) := IntWalk.i64_in _ (by omega)
                have hw2 : wrap64 (1 + (Pt.mq j y : Int)) = 1 + (Pt.mq j y : Int) := by unfold wrap64; omega
                have HZ : Hid (Pt.zsOf j (l0.take (t + 1)) = Pt.zsOf j (l0.take t) ++ [1 + (Pt.mq j y : Int)]) := by show _ = _; rw [HT5.out, zsOf_snoc (by omega)]
                have hne0 : ¬ j = 0 := by omega
                go_wp2_with (first
                  | (at_builtin; refine wpList_append_own _ rfl _ _ 23 rfl wo.heap.size 3 i0 (.int .i64 0) 1 8 Tryz.underlying23 hi hz0 hz1 hz2 rfl (by decide) _ _ _ rfl (World.ownsRow.alloc hN _) ⟨wr.heap.size, 0, none⟩ 1 1 [.int .i64 (1 + (Pt.mq j y : Int))] rfl rfl (cell_one_new _ _ _) (by simp [Value.oneCell']) (by unfold maxLen; omega) (by omega) (by have := hb3.size; simp; omega) ?_; intro v' w3 hown hgrow _; have hown := Pt.Nums.snoc hown; obtain ⟨g', cap', rfl⟩ := Pt.Nums.succ hown))
                have hb4 := (hb3.alloc (by have := hb3.size; omega) _).grown hgrow (by have := hb3.size; simp; omega) (by intro k hk; exact (World.ownsRow.lt hN k hk).1)
                go_roundw
                case rel => exact ⟨t + 1, by omega, by go_num, by rw [HZ.out]; exact hown, hb4⟩
                case measure => simp [intOf]; omega
            · obtain rfl : t = m0 := by omega
              rw [List.take_of_length_le (by rw [hII.len]; exact Nat.le_refl _)] at hN
              have htI : ¬ (t : Int) < (t : Int) := by omega
              have hzk : ∀ x ∈ Pt.zsOf j l0, 1 ≤ x ∧ x ≤ (j : Int) := fun x hx => by
                unfold Pt.zsOf at hx
                split at hx
                · cases hx
                · obtain ⟨y, _, rfl⟩ := List.mem_map.1 hx
                  have := Pt.mq_lt (K := j) (by omega) y
                  omega
              have hzl : (Pt.zsOf j l0).length ≤ t := Nat.le_trans (zsOf_len _ _) (by rw [hII.len]; exact Nat.le_refl _)
              obtain ⟨q6, c6, hv6, hI6, _⟩ := hN.ii (by omega) (fun x hx => by have := hzk x hx; exact ⟨by omega, by omega⟩)
              subst hv6
              obtain ⟨W5, hW5⟩ : ∃ W5, wr.alloc (.cells #[.int .u8 1] 5) = W5 := ⟨_, rfl⟩
              have hb5 : Below wr.heap.size wr W5 := by rw [← hW5]; exact (Below.refl _ _).alloc (Nat.le_refl _) _
              have hr5 : W5.heap[wr.heap.size]? = some (.cells #[.int .u8 1] 5 (0, 0)) := by rw [← hW5]; exact at_new rfl
              have hbi5 : BI W5 (some ⟨wr.heap.size, 0, none⟩) 1 [1] := by
                refine ⟨rfl, by omega, fun i => ?_, fun _ => ⟨wr.heap.size, 0, rfl, fun i hi => ?_⟩⟩
                · cases i with
                  | zero => simp
                  | succ i => simp
                · obtain rfl : i = 0 := by omega
                  exact (cell_of_row _ _ 0 _ 5 _ hr5).trans rfl
              have hb35 : Below wo.heap.size wo W5 := hb3.trans (hb5.mono hb3.size)
              have hv5 := hv.later hb35
              have hE5 := hE.below hb35
              have hN5 : Pt.Nums wo.heap.size W5 (.slice q6 (Pt.zsOf j l0).length c6) (Pt.zsOf j l0) := Pt.Nums.kept hN hb5
              have hlast : T.last = j := hP.last.trans hol
              have hSN : T.S.N = 8 := by rw [hP.S]
              have hq6 : ∀ k, Pt.blkOf q6 = some k → wo.heap.size ≤ k ∧ k < wr.heap.size := fun k hk => by
                have hk' : (Value.slice q6 (Pt.zsOf j l0).length c6).ownBlock = some k := by
                  cases q6 with
                  | none => cases hk
                  | some a => simpa [Pt.blkOf, Value.ownBlock] using hk
                exact World.ownsRow.lt hN k hk'
              have hAv : A.v < wo.heap.size := hv.lt _ (.inl rfl)
              have hch := vChange_ok hv5 hP.good.x (by omega) (j % 8) j (by omega) (some ⟨wr.heap.size, 0, none⟩) 1 1 [1] hbi5 (fun k hk e => by simp [Pt.blkOf] at hk; have := hb3.size; omega) ⟨by omega, by omega, by omega, by omega⟩ q6 _ c6 (Pt.zsOf j l0) (hI6.kept hb5) (fun k hk e => by have := hq6 k hk; omega) (by rw [hlast]; exact List.all_eq_true.2 (fun x hx => Pt.kn_true.2 (hzk x hx))) (by have := hv.ps.len; omega)
              rw [hlast, show ((j % 8 : Nat) : Int) = (j : Int) % 8 from by omega] at hch
              have hmod : (j : Int).tmod 8 = ((j % 8 : Nat) : Int) := by rw [Int.tmod_eq_emod_of_nonneg (by omega)]; omega
              have hmodw : IntKind.i64.wrap ((j : Int).tmod 8) = ((j % 8 : Nat) : Int) := by rw [hmod]; exact IntWalk.i64_in _ (by omega)
              have hmodw2 : wrap64 ((j : Int).tmod 8) = ((j % 8 : Nat) : Int) := by rw [hmod]; unfold wrap64; omega
              have HH : Hid (T.last = j ∧ T.S.N = 8 ∧ (∀ x ∈ Pt.zsOf j l0, 1 ≤ x ∧ x ≤ (j : Int)) ∧ (Pt.zsOf j l0).length ≤ t ∧ of.length = j ∧ W5.heap.size = wr.heap.size + 1) := ⟨hlast, hSN, hzk, hzl, hol, by rw [← hW5]; simp⟩
              have HQ : Hid (∀ k, Pt.blkOf q6 = some k → wo.heap.size ≤ k ∧ k < wr.heap.size) := hq6
              have HZL : Hid ((Pt.zsOf j l0).length ≤ 140737488355328) := by show _ ≤ _; omega
              generalize Pt.zsOf j l0 = Z at hN5 hch HH HZL
              obtain ⟨nz, hnz⟩ : ∃ nz, nz = Z.length := ⟨_, rfl⟩
              rw [← hnz] at hch ⊢
              have HNZ : Hid (nz = Z.length) := hnz
              clear hnz hlast hSN hzk hzl hol hq6 hI6 hN hr5 hbi5
              go_wp2_with fail
              refine Calls.mono hch ?_
              rintro e w6 ⟨rfl, T', h6, hst6, hC6⟩
              clear hmod hmodw hmodw2
              have hE6 := hE5.stp hst6
              have hN6 : Pt.Nums wo.heap.size w6 (.slice q6 nz c6) Z := by
                rw [HNZ.out]
                refine ownsRow_kept hN5 (fun k hk => hst6.fr.block k (World.ownsRow.lt hN5 k hk).2 (fun hf => ?_))
                have h1 := (World.ownsRow.lt hN5 k hk).1
                have h2 := hv.lt k hf
                omega
              have hb7 : Below w6.heap.size w6 (w6.alloc (.cells #[.slice q6 nz c6] 23)) := (Below.refl _ _).alloc (Nat.le_refl _) _
              have hE7 := hE6.below hb7
              have hN7 : Pt.Nums w.heap.size (w6.alloc (.cells #[.slice q6 nz c6] 23)) (.slice q6 nz c6) Z := nums_base (Pt.Nums.kept hN6 hb7) hE.bel.size
              have HC : Hid (Changed T T' (j % 8) j [1] Z) := hC6
              have H1 : Hid (∀ u ∈ [Value.slice q6 nz c6], u.oneCell' = true) := fun u hu => by rw [List.mem_singleton] at hu; subst hu; rfl
              clear hch hC6
              dsimp only
              go_wp2_with (at_builtin; refine wpList_append_own_at _ rfl _ _ 51 rfl w.heap.size 23 j0 (.slice none 0 0) 1 24 Tryz.underlying51 gi gz0 gz1 gz2 rfl (by decide) _ _ _ rfl hE7.ofs.row ⟨w6.heap.size, 0, none⟩ 1 1 [.slice q6 nz c6] rfl rfl (cell_one_new w6 _ 23) H1.out H2.out H3.out hE7.bel.size ?_; intro v3 w8 ho3 hg3 hx1 hx2)
              have hres := hE7.push hN7 (fun k hk hf => by
                have h1 := (World.ownsRow.lt hN6 k hk)
                rcases hst6.new k hf with h2 | h2
                · exact absurd (hv.lt k h2) (Nat.not_lt.2 h1.1)
                · have hk2 := HQ.out k (by cases q6 with
                    | none => cases hk
                    | some a => simpa [Pt.blkOf, Value.ownBlock] using hk)
                  rw [HH.out.2.2.2.2.2] at h2
                  exact absurd (Nat.lt_of_lt_of_le (Nat.lt_succ_of_lt hk2.2) h2) (Nat.lt_irrefl _)) ho3 hg3 (fun k hk => by
                rcases hx2 with e | e
                · exact .inl (e ▸ hk)
                · rw [e] at hk
                  exact .inr (Nat.le_of_eq (Option.some.inj hk))) (h6.later hb7) HZL.out
              clear ho3 hg3 hx1 hx2 hN6 hN7 hE6 hE7 hb7 HQ hst6 h6 hN5
              go_roundw
              case rel =>
                obtain ⟨hh1, hh2, hh3, hh4, hh5, hh6⟩ := HH.out
                refine ⟨j + 1, T', us ++ [.slice q6 nz c6], of ++ [Z], by omega, by simp; omega, by omega, by go_num, hres.2, hres.1, ?_⟩
                have hc := HC.out
                rw [← hh5] at hc hh3
                exact hP.changed (hv.later hb35) hc (by omega) hh3
              case measure => simp [intOf]; omega
        · obtain rfl : j = 60 := by omega
          go_wp2_with fail
          go_meet
          case rel => exact ⟨T, us, of, hv, hE, hP⟩
      · have hjI : ¬ (j : Int) < (m : Int) := by omega
        go_wp2_with fail
        go_meet
        case rel => exact ⟨T, us, of, hv, hE, hP⟩
  case rest =>
    clear hv2 hE2 hP2 hR hRl hRb
    obtain ⟨T1, us, of, h1, hE1, hP1⟩ := hcut
    have hM1 := hP1.mks
    have hR1 : 0 ≤ T1.S.last ∧ T1.S.last ≤ ((0 : Nat) : Int) ∧ T1.NW ≤ 0 ∧ T1.C.hi + T1.C.mi ≤ 0 := by rw [hP1.S, hP1.N, hP1.C]; simp
    have hZb := hZ.big
    clear hP1
    go_upto_block 4 with fail
    go_cut [] (fun wx => ∃ T, VI 0 w.heap.size wx A T ∧ EnvC w A T u11 us of wx ∧ Mks of T)
    case first =>
      go_wp2_with fail
      go_loopw [98] (fun iv wr => ∃ (j : Nat) (T : Vs), j ≤ mo ∧ j ≤ 30 ∧ iv = .int .i64 (j : Int) ∧ VI 0 w.heap.size wr A T ∧ EnvC w A T u11 us of wr ∧ Mks of T ∧ Hid (0 ≤ T.S.last ∧ T.S.last ≤ (j : Int) ∧ T.NW ≤ j ∧ T.C.hi + T.C.mi ≤ j)) (fun iv _ => mo - (intOf iv).toNat)
      case atStart => exact ⟨0, T1, by omega, by omega, rfl, h1, hE1, hM1, hR1⟩
      case round =>
        clear h1 hE1 hM1 hR1
        obtain ⟨j, T, hj, hj30, rfl, hv, hE, hM, HR⟩ := hrel
        by_cases hlt : j < mo
        · have hZr := hZ.kept hE.bel
          obtain ⟨b5, o5, rfl, hc5⟩ := hZr.cells (by omega)
          have e5 := hc5 j hlt
          have hjI : (j : Int) < (mo : Int) := by omega
          have hj0 : (0 : Int) ≤ (j : Int) := by omega
          generalize zs.getD j 0 = y at e5
          have hrd := vReady_ok hv
          clear hc5 hZr
          go_wp2_with fail
          refine Calls.mono hrd ?_
          rintro e w4 ⟨v4, rfl, hN4, hno4, hv4, hst4⟩
          have hE4 := hE.stp hst4
          clear hrd hst4 hv hE
          by_cases hj3 : j < 30
          · have hd30' : decide (30 ≤ j) = false := decide_eq_false (by omega)
            have hd30 : decide ((30 : Int) ≤ (j : Int)) = false := decide_eq_false (by omega)
            obtain ⟨RL, hRL⟩ : ∃ RL, RL = rdy T (Pt.blks T.P) := ⟨_, rfl⟩
            have hin : ∀ x ∈ RL, ∃ b : Nat, x = (b : Int) ∧ b < T.S.N ∧ may T (b : Int) = true := fun x hx => by
              rw [hRL] at hx
              obtain ⟨h1, h2⟩ := List.mem_filter.1 hx
              obtain ⟨p, hp, rfl⟩ := List.mem_map.1 ((Pt.mem_rs _ _).1 h1)
              exact ⟨p.blk, rfl, hM.onw.blk p hp, h2⟩
            have hlen : RL.length ≤ 60 := by rw [hRL]; exact Nat.le_trans (rdy_len T) (Nat.le_trans hv4.ps.len (by rw [hM.last]; exact hM.m))
            rw [← hRL] at hN4
            have hN8 := hM.N
            obtain ⟨p4, c4, rfl, hII4, hPl⟩ := hN4.ii (by omega) (fun x hx => by obtain ⟨b, rfl, hb, _⟩ := hin x hx; exact ⟨by omega, by omega⟩)
            obtain ⟨K, hK⟩ : ∃ K, K = RL.length := ⟨_, rfl⟩
            rw [← hK] at hII4 hlen ⊢
            have HK : Hid (K = RL.length) := hK
            have HIN : Hid (∀ x ∈ RL, ∃ b : Nat, x = (b : Int) ∧ b < T.S.N ∧ may T (b : Int) = true) := hin
            clear hRL hN4 hno4 hin hK hN8 hPl
            dsimp only
            go_upto_region 27 with fail
            go_cut [114] (fun tv wx => ∃ tb : Bool, tv = .bool tb ∧ (tb = true → 0 < K) ∧ wx = w4)
            case first =>
              rcases Nat.eq_zero_or_pos K with hK0 | hK0
              · subst hK0
                go_wp2_with fail
                go_meet
                case rel => exact ⟨_, rfl, fun h => by simp at h, rfl⟩
              · have hKI : (0 : Int) < (K : Int) := by omega
                go_wp2_with fail
                go_meet
                case rel => exact ⟨_, rfl, fun _ => hK0, rfl⟩
            case rest =>
              obtain ⟨tb, rfl, htb, rfl⟩ := hcut
              cases tb with
              | true =>
                have hK0 := htb rfl
                obtain ⟨b6, o6, rfl, hc6⟩ := hII4.cells hK0
                have hmq := Pt.mq_lt (K := K) hK0 y
                have e6 := hc6 (Pt.mq K y) hmq
                have hkl : Pt.mq K y < RL.length := by rw [← HK.out]; exact hmq
                obtain ⟨b, hb, hbN, hmay⟩ := HIN.out (RL.getD (Pt.mq K y) 0) (by rw [List.getD_eq_getElem?_getD, List.getElem?_eq_getElem hkl]; exact List.getElem_mem _)
                rw [hb] at e6
                have hm1 := Pt.mq_wrap (K := K) hK0 (by omega) y
                have hm1i := mq_wrapI (K := K) hK0 (by omega) y
                have hwK : IntKind.u64.wrap (K : Int) = (K : Int) := by rw [IntKind.wrap_u64]; omega
                have hKn : ¬ K = 0 := by omega
                have hmI : (Pt.mq K y : Int) < (K : Int) := by omega
                have hmI0 : (0 : Int) ≤ (Pt.mq K y : Int) := by omega
                have hql : T.S.q.length < 64 := Nat.lt_of_le_of_lt (q_len hM) (by omega)
                have hwr := vWrite_ok hv4 b hbN hmay (by have := HR.out; omega) hql (by have := HR.out; omega) (by have := HR.out; omega)
                have hbq : (b : Int) ∉ qbs T.S ∧ chs T.P (b : Int) ≠ [] := may_parts hmay
                have HBQ : Hid ((b : Int) ∉ qbs T.S ∧ chs T.P (b : Int) ≠ []) := hbq
                generalize Pt.mq K y = M at hmq e6 hkl hm1 hm1i hmI hmI0
                clear hc6 hII4 hb hkl htb hbq hlen hql
                go_wp2_with (first | (go_at_call 12; refine Calls.mono hwr ?_; rintro e w5 ⟨rfl, T', h5, hst5, hW⟩))
                go_roundw
                case rel =>
                  refine ⟨j + 1, T', by omega, by omega, by go_num, h5, hE4.stp hst5, hM.wrote hv4 hW HBQ.out.1 HBQ.out.2 (chs_lenM hv4 hM b), ?_⟩
                  show _ ∧ _ ∧ _ ∧ _
                  have hr := HR.out
                  have hwS := hW.S
                  have hwC := hW.C
                  have hwN := hW.N
                  have hl : T'.S.last = T.S.last + 1 := by rw [hwS]; rfl
                  refine ⟨?_, ?_, ?_, ?_⟩ <;> omega
                case measure => simp [intOf]; omega
              | false =>
                have hwy := vWay_ok hv4
                clear hII4 htb hlen HK HIN
                go_wp2_with fail
                refine Calls.mono hwy ?_
                rintro e w5 ⟨p5, c5, rfl, hv5, hst5⟩
                have hE5 := hE4.stp hst5
                clear hwy hst5 hv4 hE4
                obtain ⟨nq, hnq⟩ : ∃ nq, nq = T.S.q.length := ⟨_, rfl⟩
                have HNQ : Hid (nq = T.S.q.length) := hnq
                rw [← hnq]
                clear hnq
                rcases Nat.eq_zero_or_pos nq with hK0 | hK0
                · subst hK0
                  dsimp only
                  go_wp2_with fail
                  go_roundw
                  case rel =>
                    have hr := HR.out
                    exact ⟨j + 1, T, by omega, by omega, by go_num, hv5, hE5, hM, ⟨hr.1, by omega, by omega, by omega⟩⟩
                  case measure => simp [intOf]; omega
                · have hKI : (0 : Int) < (nq : Int) := by omega
                  have hwy := vWay_ok hv5
                  rw [← HNQ.out] at hwy
                  dsimp only
                  go_wp2_with fail
                  refine Calls.mono hwy ?_
                  rintro e w6 ⟨p6, c6, rfl, hv6, hst6⟩
                  have hE6 := hE5.stp hst6
                  have hq8 := q_len hM
                  have hmq := Pt.mq_lt (K := nq) hK0 y
                  have hm1 := Pt.mq_wrap (K := nq) hK0 (by have := HNQ.out; omega) y
                  have hm1i := mq_wrapI (K := nq) hK0 (by have := HNQ.out; omega) y
                  have hwK : IntKind.u64.wrap (nq : Int) = (nq : Int) := by rw [IntKind.wrap_u64]; have := HNQ.out; omega
                  have hKn : ¬ nq = 0 := by omega
                  generalize hMM : Pt.mq nq y = M at hmq hm1 hm1i
                  obtain ⟨x, hx⟩ : ∃ x, T.S.q[M]? = some x := ⟨_, List.getElem?_eq_getElem (by have := HNQ.out; omega)⟩
                  obtain ⟨s, hs⟩ := hM.onw.wy x (List.mem_of_getElem? hx)
                  have hcp := fun ok => vComplete_ok hv6 M x s ok hx (inc_idx hM.inc hx) hs.Y hs.id (List.all_eq_true.2 (fun z hz => Pt.kn_true.2 (hs.kn z hz))) (Pt.bad_none hM.onw.gd hs.cl) hs.len
                  have HXS : Hid (T.S.q[M]? = some x ∧ Wy T x s) := ⟨hx, hs⟩
                  clear hwy hst6 hv5 hE5 hx hs hq8 hMM
                  dsimp only
                  go_wp2_with fail
                  refine Calls.mono (hcp (y.tmod 2 == 0)) ?_
                  rintro e w7 ⟨rfl, T', h7, hst7, hEnd⟩
                  have hE7 := hE6.stp hst7
                  clear hcp
                  dsimp only
                  go_wp2_with fail
                  go_roundw
                  case rel =>
                    refine ⟨j + 1, T', by omega, by omega, by go_num, h7, hE7, hM.ended HXS.out.1 HXS.out.2 hEnd, ?_⟩
                    show _ ∧ _ ∧ _ ∧ _
                    have hr := HR.out
                    have hwC := hEnd.C
                    have hwN := hEnd.N
                    have hl : T'.S.last = T.S.last := by rw [hEnd.S]; rfl
                    refine ⟨?_, ?_, ?_, ?_⟩ <;> omega
                  case measure => simp [intOf]; omega
          · obtain rfl : j = 30 := by omega
            dsimp only
            go_wp2_with fail
            go_meet
            case rel => exact ⟨T, hv4, hE4, hM⟩
        · have hjI : ¬ (j : Int) < (mo : Int) := by omega
          go_wp2_with fail
          go_meet
          case rel => exact ⟨T, hv, hE, hM⟩
    case rest =>
      clear h1 hE1 hM1 hR1 T1
      obtain ⟨T, h, hE, hM⟩ := hcut
      have hq := queue_ok h.cd.di
      have hqok := h.cd.di.qok
      have hq60 := q_len hM
      obtain ⟨nq, hnq⟩ : ∃ nq, nq = T.S.q.length := ⟨_, rfl⟩
      rw [← hnq] at hq hq60
      have HNQ : Hid (nq = T.S.q.length) := hnq
      clear hnq
      go_wp2_with fail
      refine Calls.mono hq ?_
      rintro e w5 ⟨g5, gs5, rfl, hS5, hb5⟩
      have h5 := h.later hb5
      have hE5 := hE.below hb5
      have HQ : Hid (∀ x ∈ T.S.q, x.block < T.S.N ∧ Sect x.bytes ∧ -9223372036854775808 ≤ x.id ∧ x.id ≤ 9223372036854775807) := hqok
      clear hq h hE hb5 hqok
      dsimp only
      go_upto_block 6 with fail
      go_cut [22] (fun dv wx => ∃ ds : List Int, Pt.Nums w5.heap.size wx dv ds ∧ Below w5.heap.size w5 wx ∧ ds.length ≤ 60 ∧ ∀ id ∈ ds, ∃ y ∈ T.S.q, y.id = id)
      case first =>
        go_wp2_with fail
        go_loopw [149, 22] (fun iv dv wr => ∃ (j : Nat) (ds : List Int), j ≤ nq ∧ iv = .int .i64 (j : Int) ∧ Pt.Nums w5.heap.size wr dv ds ∧ Below w5.heap.size w5 wr ∧ ds.length ≤ j ∧ Hid (∀ id ∈ ds, ∃ y ∈ T.S.q, y.id = id)) (fun iv dv _ => nq - (intOf iv).toNat)
        case atStart => exact ⟨0, [], by omega, rfl, Pt.Nums.nil _ _, Below.refl _ _, by simp, fun id hid => by cases hid⟩
        case round =>
          obtain ⟨j, ds, hj, rfl, hN, hb, hdl, HD⟩ := hrel
          by_cases hlt : j < nq
          · have hjI : (j : Int) < (nq : Int) := by omega
            have hj0 : (0 : Int) ≤ (j : Int) := by omega
            obtain ⟨x, hx⟩ : ∃ x, T.S.q[j]? = some x := ⟨_, List.getElem?_eq_getElem (by have := HNQ.out; omega)⟩
            obtain ⟨k0, k1, k2⟩ := hS5.cells j x hx
            have hg5 := lt_of_cell k0
            have r0 := (hb.cell (p := ⟨g5, j * 3, none⟩) hg5).trans k0
            have r1 := (hb.cell (p := ⟨g5, j * 3 + 1, none⟩) hg5).trans k1
            have r2 : wr.cell? ⟨g5, j * 3 + 2, none⟩ = some (.slice (some ⟨gs5.getD j 0, 0, none⟩) 128 128) := (hb.cell (p := ⟨g5, j * 3 + 2, none⟩) hg5).trans k2
            generalize gs5.getD j 0 = gg at r2
            have HX : Hid (T.S.q[j]? = some x) := hx
            obtain ⟨W6, hW6⟩ : ∃ W6, wr.alloc (.cells #[.int .i64 x.id, .int .i64 (x.block : Int), .slice (some ⟨gg, 0, none⟩) 128 128] 62) = W6 := ⟨_, rfl⟩
            have hb6 : Below wr.heap.size wr W6 := by rw [← hW6]; exact (Below.refl _ _).alloc (Nat.le_refl _) _
            have hr6 : W6.heap[wr.heap.size]? = some (.cells #[.int .i64 x.id, .int .i64 (x.block : Int), .slice (some ⟨gg, 0, none⟩) 128 128] 62 (0, 0)) := by rw [← hW6]; exact at_new rfl
            have s0 : W6.cell? ⟨wr.heap.size, 0, none⟩ = some (.int .i64 x.id) := (cell_of_row _ _ 0 _ 62 _ hr6).trans rfl
            have hN6 := Pt.Nums.kept hN hb6
            have H2 : Hid (ds.length + 1 ≤ maxLen) := by show _ ≤ _; unfold maxLen; omega
            have H3 : Hid ((ds.length + 1) * 8 ≤ 140737488355328) := by show _ ≤ _; omega
            have H4 : Hid (w5.heap.size ≤ (W6.alloc (.cells #[.int .i64 x.id] 3)).heap.size) := by
              show _ ≤ _
              have h1 := hb.size
              have h2 := hb6.size
              rw [World.size_alloc]
              omega
            have hb56 : Below w5.heap.size w5 W6 := hb.trans (hb6.mono hb.size)
            have hbx : Below w5.heap.size w5 (W6.alloc (.cells #[.int .i64 x.id] 3)) := hb56.alloc hb56.size _
            clear k0 k1 k2 hx
            go_wp2_with (first
              | (at_builtin; refine wpList_append_own _ rfl _ _ 23 rfl w5.heap.size 3 i0 (.int .i64 0) 1 8 Tryz.underlying23 hi hz0 hz1 hz2 rfl (by decide) _ _ _ rfl (World.ownsRow.alloc hN6 _) ⟨W6.heap.size, 0, none⟩ 1 1 [.int .i64 x.id] rfl rfl (cell_one_new _ _ _) (by simp [Value.oneCell']) H2.out H3.out H4.out ?_; intro v' w3 hown hgrow _; have hown := Pt.Nums.snoc hown; obtain ⟨g', cap', rfl⟩ := Pt.Nums.succ hown))
            · have hb7 := hbx.grown hgrow H4.out (by intro k hk; exact (World.ownsRow.lt hN6 k hk).1)
              go_roundw
              case rel =>
                refine ⟨j + 1, ds ++ [x.id], by omega, by go_num, hown, hb7, by simp; omega, fun id hid => ?_⟩
                rcases List.mem_append.1 hid with h1 | h1
                · exact HD.out id h1
                · simp at h1
                  subst h1
                  exact ⟨x, List.mem_of_getElem? HX.out, rfl⟩
              case measure => simp [intOf]; omega
            · go_roundw
              case rel => exact ⟨j + 1, ds, by omega, by go_num, hN6, hb56, by omega, HD⟩
              case measure => simp [intOf]; omega
          · have hjI : ¬ (j : Int) < (nq : Int) := by omega
            go_wp2_with fail
            go_meet
            case rel => exact ⟨ds, hN, hb, by omega, HD.out⟩
      case rest =>
        obtain ⟨ds, hN, hb, hdl, hds⟩ := hcut
        have h6 := h5.later hb
        have hE6 := hE5.below hb
        obtain ⟨pd, cd, rfl, hId, _⟩ := hN.ii (by omega) (fun x hx => by
          obtain ⟨y, hy, rfl⟩ := hds x hx
          exact ⟨(HQ.out y hy).2.2.1, (HQ.out y hy).2.2.2⟩)
        have hcr := crash_ok h6.cd.di pd ds.length cd ds hId (fun k hk b o e hpos hbk => by
          subst e hbk
          have h1 := (World.ownsRow.lt hN b (by simp [Value.ownBlock])).1
          have h2 := h5.lt b (.inr (.inr (.inl (.inl hk))))
          omega) (fun id hid => by
          obtain ⟨y, hy, rfl⟩ := hds id hid
          obtain ⟨k, hk⟩ := List.getElem?_of_mem hy
          exact ⟨k, inc_idx hM.inc hk⟩)
        have hMc := hM.crash ds hds
        obtain ⟨F, hF⟩ : ∃ F, F = ds.foldl (crash1 T.S.q) T.S.f := ⟨_, rfl⟩
        rw [← hF] at hcr hMc
        have HMC : Hid (∀ i, i < of.length → mrk F i ≠ 0 → ∀ n ∈ of.getD i [], mrk F (n.toNat - 1) ≠ 0) := hMc
        have hN8 := hM.N
        have hm60 := hM.m
        have hlow := hM.low
        obtain ⟨nd, hnd⟩ : ∃ nd, nd = ds.length := ⟨_, rfl⟩
        rw [← hnd] at hcr ⊢
        clear hnd hF hMc hds hId hN
        go_wp2_with fail
        refine Calls.mono hcr ?_
        rintro e w7 ⟨rfl, hd7, hf7⟩
        have him := image_ok hd7
        dsimp only at him
        rw [hN8] at him
        have hO7 : Ofs w.heap.size w7 u11 us of := hE6.ofs.kept (fun k hk => hf7.block k (hE6.ofs.in k hk).2 (fun hf => hE6.oo k hk (.inr (.inr (.inl (.inl hf))))))
        have hB7 : Below w.heap.size w w7 := by
          refine ⟨hf7.os.trans hE6.bel.os, hf7.tape.trans hE6.bel.tape, hf7.output.trans hE6.bel.output, Nat.le_trans hE6.bel.size hf7.size, fun i hi => ?_⟩
          exact (hf7.block i (Nat.lt_of_lt_of_le hi hE6.bel.size) (fun hf => by have := hE6.own i (.inr (.inr (.inl (.inl hf)))); omega)).trans (hE6.bel.block i hi)
        clear hcr
        dsimp only
        go_wp2_with fail
        refine Calls.mono him ?_
        rintro e w8 ⟨gI, gsI, rfl, hI8, hb8⟩
        have hO8 : Ofs w.heap.size w8 u11 us of := hO7.kept (fun k hk => hb8.block k (hO7.in k hk).2)
        have hB8 := hB7.trans (hb8.mono hB7.size)
        have HBD : Hid (∀ zs ∈ of, zs.length ≤ 140737488355328) := hE6.bd
        clear him hO7 hB7 hb8 hf7 hd7 hE6 h6 hE5 h5 hb
        obtain ⟨po, cov, hsh, hcs⟩ := hO8.shape
        subst hsh
        have hol := hO8.len
        obtain ⟨nu, hnu⟩ : ∃ nu, nu = us.length := ⟨_, rfl⟩
        rw [← hnu]
        have HNU : Hid (nu = us.length ∧ us.length = of.length ∧ of.length ≤ 60) := ⟨hnu, hol, hm60⟩
        have HLO : Hid (∀ i, i < of.length → ∀ n ∈ of.getD i [], 1 ≤ n ∧ n ≤ (i : Int)) := hlow
        have hnu60 : nu ≤ 60 := by omega
        have HEL : Hid (∀ (i : Nat) (u : Value) (zs : List Int), us[i]? = some u → of[i]? = some zs → Pt.Nums w.heap.size w8 u zs) := hO8.el
        have HCS : Hid (∀ j u, us[j]? = some u → ∃ g, po = some ⟨g, 0, none⟩ ∧ w8.cell? ⟨g, j, none⟩ = some u) := hcs
        have HIM : Hid (∀ i, i < 60 → ∃ gb, w8.cell? ⟨gI, i % 8, none⟩ = some (.slice (some ⟨gb, 0, none⟩) 128 128) ∧ w8.cell? ⟨gb, i, none⟩ = some (.int .u8 (mrk F i))) := fun i hi => img_at hI8 i hi
        clear hnu hol hm60 hlow hcs hO8 hI8
        dsimp only
        go_wp2_with fail
        go_loopw [173] (fun iv wr => ∃ j : Nat, j ≤ nu ∧ iv = .int .i64 (j : Int) ∧ wr = w8) (fun iv _ => nu - (intOf iv).toNat)
        case atStart => exact ⟨0, by omega, rfl, rfl⟩
        case round =>
          obtain ⟨j, hj, rfl, hwr⟩ := hrel
          subst hwr
          by_cases hlt : j < nu
          · have hjI : (j : Int) < (nu : Int) := by omega
            have hj0 : (0 : Int) ≤ (j : Int) := by omega
            obtain ⟨u, hu⟩ : ∃ u, us[j]? = some u := ⟨_, List.getElem?_eq_getElem (by have := HNU.out; omega)⟩
            obtain ⟨l, hl⟩ : ∃ l, of[j]? = some l := ⟨_, List.getElem?_eq_getElem (by have := HNU.out; omega)⟩
            have hgl : of.getD j [] = l := by rw [List.getD_eq_getElem?_getD, hl]; rfl
            have hjo : j < of.length := by have := HNU.out; omega
            have hlow := HLO.out j hjo
            have hmc := HMC.out j hjo
            rw [hgl] at hlow hmc
            have hNl := HEL.out j u l hu hl
            obtain ⟨g9, rfl, hc9⟩ := HCS.out j u hu
            have hnl : l.length ≤ 140737488355328 := HBD.out l (List.mem_of_getElem? hl)
            obtain ⟨qu, cu, rfl, hIu, _⟩ := hNl.ii hnl (fun x hx => by have := hlow x hx; exact ⟨by omega, by omega⟩)
            obtain ⟨gb, hg1, hg2⟩ := HIM.out j (by omega)
            obtain ⟨r, hr⟩ : ∃ r, r = j % 8 := ⟨_, rfl⟩
            rw [← hr] at hg1
            have hmd : (j : Int) % 8 = (r : Int) := by omega
            have hmt : (j : Int).tmod 8 = (r : Int) := by rw [Int.tmod_eq_emod_of_nonneg (by omega)]; exact hmd
            have hmw : IntKind.i64.wrap ((j : Int).tmod 8) = (r : Int) := by rw [hmt]; exact IntWalk.i64_in _ (by omega)
            have hr8 : (r : Int) < 8 := by omega
            have hr0 : (0 : Int) ≤ (r : Int) := by omega
            have hj128 : (j : Int) < 128 := by omega
            obtain ⟨nl, hnll⟩ : ∃ nl, nl = l.length := ⟨_, rfl⟩
            have HNL : Hid (nl = l.length ∧ nl ≤ 140737488355328) := ⟨hnll, by omega⟩
            rw [← hnll] at hc9 hIu
            have HLW : Hid (∀ n ∈ l, 1 ≤ n ∧ n ≤ (j : Int)) := hlow
            have HMJ : Hid (mrk F j ≠ 0 → ∀ n ∈ l, mrk F (n.toNat - 1) ≠ 0) := hmc
            clear hgl hjo hlow hmc hNl hnl hr hl hnll
            obtain ⟨mj, hmj⟩ : ∃ mj, mj = mrk F j := ⟨_, rfl⟩
            rw [← hmj] at hg2 HMJ
            clear hmj
            by_cases hz : mj = 0
            · subst hz
              go_wp2_with fail
              go_roundw
              case rel => exact ⟨j + 1, by omega, by go_num, trivial⟩
              case measure => simp [intOf]; omega
            · have hzb : (mj == 0) = false := beq_eq_false_iff_ne.2 hz
              have HML := (show Hid (∀ n ∈ l, mrk F (n.toNat - 1) ≠ 0) from HMJ.out hz)
              clear HMJ hz
              have hnlb : (nl : Int) ≤ 140737488355328 := by have := HNL.out.2; omega
              rename World => wz
              go_wp2_with fail
              go_loopw [189] (fun iv wr => ∃ t : Nat, t ≤ nl ∧ iv = .int .i64 (t : Int) ∧ wr = wz) (fun iv _ => nl - (intOf iv).toNat)
              case atStart => exact ⟨0, by omega, rfl, rfl⟩
              case round =>
                obtain ⟨t, ht, rfl, hwr⟩ := hrel
                subst hwr
                by_cases htl : t < nl
                · have htI : (t : Int) < (nl : Int) := by omega
                  have ht0 : (0 : Int) ≤ (t : Int) := by omega
                  obtain ⟨b7, o7, rfl, hc7⟩ := hIu.cells (by omega)
                  have e7 := hc7 t htl
                  have hmem : l.getD t 0 ∈ l := by rw [List.getD_eq_getElem?_getD, List.getElem?_eq_getElem (by have := HNL.out.1; omega)]; exact List.getElem_mem _
                  have hn1 := HLW.out _ hmem
                  have hn2 := HML.out _ hmem
                  clear hc7 hmem
                  generalize l.getD t 0 = n at e7 hn1 hn2
                  obtain ⟨kk, hkk⟩ : ∃ kk : Nat, kk = n.toNat - 1 := ⟨_, rfl⟩
                  rw [← hkk] at hn2
                  have hs1 : n - 1 = (kk : Int) := by omega
                  have hs1w : IntKind.i64.wrap (n - 1) = (kk : Int) := by rw [hs1]; exact IntWalk.i64_in _ (by omega)
                  have hs1v : wrap64 (n - 1) = (kk : Int) := by rw [hs1]; unfold wrap64; omega
                  obtain ⟨gb2, hg3, hg4⟩ := HIM.out kk (by omega)
                  obtain ⟨r2, hr2⟩ : ∃ r2, r2 = kk % 8 := ⟨_, rfl⟩
                  rw [← hr2] at hg3
                  have hmd2 : (kk : Int) % 8 = (r2 : Int) := by omega
                  have hmt2 : (kk : Int).tmod 8 = (r2 : Int) := by rw [Int.tmod_eq_emod_of_nonneg (by omega)]; exact hmd2
                  have hmw2 : IntKind.i64.wrap ((kk : Int).tmod 8) = (r2 : Int) := by rw [hmt2]; exact IntWalk.i64_in _ (by omega)
                  have hr28 : (r2 : Int) < 8 := by omega
                  have hr20 : (0 : Int) ≤ (r2 : Int) := by omega
                  have hk128 : (kk : Int) < 128 := by omega
                  have hk0 : (0 : Int) ≤ (kk : Int) := by omega
                  generalize mrk F kk = mk2 at hg4 hn2
                  have hzb2 : (mk2 == 0) = false := beq_eq_false_iff_ne.2 hn2
                  clear hkk hr2 hn1 hn2
                  go_wp2_with fail
                  go_roundw
                  case rel => exact ⟨t + 1, by omega, by go_num, trivial⟩
                  case measure => simp [intOf]; omega
                · have htI : ¬ (t : Int) < (nl : Int) := by omega
                  go_wp2_with fail
                  go_roundw
                  case rel => exact ⟨j + 1, by omega, by go_num, trivial⟩
                  case measure => simp [intOf]; omega
          · have hjI : ¬ (j : Int) < (nu : Int) := by omega
            go_wp2_with fail
            go_ret
            exact ⟨rfl, hB8⟩
end Go.Proofs.YtinigfidofgaiaaGreat
