/- VS -/
import Derived.Test.YtjecicjpplibaaaGreatSd02
import Derived.Test.YtjecicjpplibaaaGreatNw47

/- round: all that may be written is written, and ends. -/
namespace Go.Proofs.YtjecicjpplibaaaGreat
open Go.RowKit Go.Maps
set_option linter.unusedVariables false
set_option maxRecDepth 100000

theorem ii_stp {D D' : Nat → Prop} {w w' : World} {p : Option Addr} {n : Nat} {zs : List Int} (h : Pt.II w p n zs) (hs : Pt.Stp D D' w w') (hn : ∀ k, Pt.blkOf p = some k → ¬ D k) : Pt.II w' p n zs := h.keptIf (fun k hk hl => hs.fr.block k hl (hn k hk))

/-- Behind j writes. -/
structure Rdn (T T' : Vs) (RL : List Int) (j : Nat) : Prop where
  on : OnW T'
  all : allOf T' = allOf T
  P : T'.P = T.P
  q : qbs T'.S = RL.take j
  N : T'.S.N = T.S.N
  Sl : T'.S.last = T.S.last + (j : Int)
  last : T'.last = T.last
  C : T'.C.hi + T'.C.mi = T.C.hi + T.C.mi + j
  NW : T'.NW ≤ T.NW + j

section
variable {g : Int} {B : Nat} {w w' : World} {A : At} {T T' : Vs} {b : Nat}
theorem rdy_nd (T : Vs) : (rdy T (Pt.blks T.P)).Nodup := by
  have h1 : (Pt.blks T.P).Pairwise (fun x y => x < y) := Pt.rs_sorted _
  exact (h1.filter _).imp (fun h => by omega)
theorem rdy_12 (h : VI g B w A T) (hg : Good T) : (rdy T (Pt.blks T.P)).length ≤ 12 := by
  have h1 := List.Nodup.length_le_of_subset (rdy_nd T) (l₂ := (List.range T.S.N).map (fun (k : Nat) => (k : Int))) (fun x hx => by
    obtain ⟨b, rfl, hb, _⟩ := rdy_in hx hg
    exact List.mem_map.2 ⟨b, List.mem_range.2 hb, rfl⟩)
  simp at h1
  have := h.cd.ci.N12
  omega

set_option maxHeartbeats 4000000 in
theorem vround_ok (h : VI g B w A T) (hg : Good T) (hP : T.P ≠ []) (p : Option Addr) (n c : Nat) (O : List Int) (hz : Pt.II w p n O) (hup : O.Pairwise (fun x y => x < y)) (hin : ∀ pv ∈ T.P, (pv.id : Int) ∈ O) (hpf : ∀ k, Pt.blkOf p = some k → ¬ fp A T k) (hc : T.C.hi + T.C.mi < 100000) (hl : T.S.last < 100000) (hNW : T.NW < 10000) :
    Calls Tryz.prog 51 #[.pointer (some ⟨A.v, 0, none⟩), .slice p n c] w fun e w' => e = .returned (.int .i64 0) ∧ ∃ T', VI g B w' A T' ∧ Pt.Stp (fp A T) (fp A T') w w' ∧ Good T' ∧ allOf T' = allOf T ∧ (∀ pv ∈ T'.P, pv ∈ T.P) ∧ T'.P.length < T.P.length ∧ T'.S.N = T.S.N ∧ T'.last = T.last ∧ T'.C.hi + T'.C.mi ≤ T.C.hi + T.C.mi + 12 ∧ T'.S.last ≤ T.S.last + 12 ∧ T'.NW ≤ T.NW + 12 := by
  have hrd := ready_ok h
  have h12 := rdy_12 h hg
  have hnd := rdy_nd T
  have hne := rdy_some hg.gd hP hg.q
  have hri : ∀ x ∈ rdy T (Pt.blks T.P), ∃ b : Nat, x = (b : Int) ∧ b < T.S.N ∧ may T (b : Int) = true := fun x hx => rdy_in hx hg
  have hN12 := h.cd.ci.N12
  obtain ⟨RL, hRL⟩ : ∃ RL, RL = rdy T (Pt.blks T.P) := ⟨_, rfl⟩
  rw [← hRL] at hrd h12 hnd hne hri
  clear hRL
  go_enter Tryz.func51, Tryz.ntmps51
  go_wp2_with fail
  refine Calls.mono hrd ?_
  rintro e w1 ⟨v4, rfl, hN4, hb1⟩
  obtain ⟨p4, c4, rfl, hII4, hPl⟩ := hN4.ii (by omega) (fun x hx => by obtain ⟨b, rfl, hb, _⟩ := hri x hx; exact ⟨by omega, by omega⟩)
  obtain ⟨b4, o4, hp4, hc4⟩ := hII4.cells (List.length_pos_iff.2 hne)
  have hlt4 : ∀ k, Pt.blkOf p4 = some k → ¬ fp A T k := by
    intro k hk hf
    rcases hN4.2 with ⟨e1, e2⟩ | ⟨g', cap', cur, e1, hbg, hg', rest⟩
    · have := List.length_pos_iff.2 hne; omega
    · obtain ⟨rfl, _, _⟩ := Value.slice.inj e1
      have := Option.some.inj (show some g' = some k from hk)
      have := h.lt k hf
      omega
  have h1 := h.later hb1
  have hs1 := below_stp (D := fp A T) hb1
  have hz1 := hz.kept hb1
  obtain ⟨K, hK⟩ : ∃ K, K = RL.length := ⟨_, rfl⟩
  rw [← hK] at hII4 h12
  have hKp : 0 < K := by rw [hK]; exact List.length_pos_iff.2 hne
  have HK := (show Hid _ from hK)
  try rw [← HK.out]
  clear hrd hN4 hK hc4 hp4 b4 o4
  dsimp only
  go_wp2_with fail
  go_loopw [5, 11] (fun f iv wr => ∃ (j : Nat) (T' : Vs), j ≤ K ∧ f = .int .i64 0 ∧ iv = .int .i64 (j : Int) ∧ VI g B wr A T' ∧ Pt.Stp (fp A T) (fp A T') w1 wr ∧ Rdn T T' RL j) (fun f iv _ => K - (intOf iv).toNat)
  case atStart => exact ⟨0, T, by omega, rfl, rfl, h1, below_stp (Below.refl _ _), ⟨hg.onW, rfl, rfl, by unfold qbs; rw [hg.q]; rfl, rfl, by omega, rfl, by omega, by omega⟩⟩
  case round =>
    obtain ⟨j, T', hj, rfl, rfl, hv, hst, hR⟩ := hrel
    have hII := ii_stp hII4 hst hlt4
    have hO := ii_stp hz1 hst hpf
    have hql : T'.S.q.length = j := by
      have e := congrArg List.length hR.q
      unfold qbs at e
      rw [List.length_map, List.length_take, ← HK.out] at e
      omega
    by_cases hlt : j < K
    · obtain ⟨b6, o6, rfl, hc6⟩ := hII.cells (by omega)
      have e6 := hc6 j hlt
      have hjl : j < RL.length := by rw [← HK.out]; exact hlt
      have hget : RL.getD j 0 = RL[j] := by rw [List.getD_eq_getElem?_getD, List.getElem?_eq_getElem hjl]; rfl
      obtain ⟨b, hb, hbN, hmay⟩ := hri (RL.getD j 0) (by rw [hget]; exact List.getElem_mem _)
      have hnq : (b : Int) ∉ qbs T'.S := by
        rw [hR.q, ← hb, hget]
        intro hm
        obtain ⟨i, hi, e⟩ := List.mem_iff_getElem.1 hm
        rw [List.getElem_take] at e
        have hi2 : i < j := by rw [List.length_take] at hi; omega
        have := (List.pairwise_iff_getElem.1 hnd) i j (by omega) hjl hi2
        exact this e
      have hcn : chs T.P (b : Int) ≠ [] := by
        intro e
        unfold may at hmay
        rw [e] at hmay
        simp at hmay
      have hmay' : may T' (b : Int) = true := by
        unfold may
        rw [hR.P]
        have h3 : (qbs T'.S).contains (b : Int) = false := by
          rw [← Bool.not_eq_true]
          exact fun hcn => hnq (List.contains_iff_mem.1 hcn)
        rw [h3]
        cases hce : chs T.P (b : Int) with
        | nil => exact absurd hce hcn
        | cons _ _ => rfl
      rw [hb] at e6
      have hj0 : (0 : Int) ≤ (j : Int) := by omega
      have hjK : (j : Int) < (K : Int) := by omega
      have hone := vhasOne_ok hv (b : Int) ⟨by omega, by omega⟩ p n c O hO hup (by
        obtain ⟨pv, r, e⟩ := List.exists_cons_of_ne_nil hP
        exact List.ne_nil_of_mem (hin pv (by rw [e]; simp))) (by
        obtain ⟨z, hz⟩ := List.exists_mem_of_ne_nil _ hcn
        obtain ⟨pv, hp, hpo, rfl⟩ := chs_mem hz
        exact ⟨(pv.id : Int), List.mem_map.2 ⟨pv, by rw [hR.P]; exact hpo, rfl⟩, hin pv hp⟩)
      have HR := (show Hid _ from hR)
      have HB : Hid ((b : Int) ∉ qbs T'.S ∧ chs T.P (b : Int) ≠ [] ∧ may T' (b : Int) = true ∧ b < T.S.N ∧ RL.getD j 0 = (b : Int) ∧ j < RL.length) := ⟨hnq, hcn, hmay', hbN, hb, hjl⟩
      have HQ := (show Hid _ from hql)
      clear hc6 hnq hcn hmay' hbN hb hjl hget hmay hql hO hR
      go_wp2_with fail
      refine Pt.below_at hone ?_
      intro w3 hb3
      have hv3 := hv.later hb3
      have c2 := hv3.c2
      have hqu := queue_ok hv3.cd.di
      rw [HQ.out] at hqu
      have hj64 : (j : Int) < 64 := by omega
      clear hone
      dsimp only
      go_wp2_with fail
      refine Calls.mono hqu ?_
      rintro e w4 ⟨q5, gs5, rfl, _, hb4⟩
      have hv4 := hv3.later hb4
      have hwr := vwr_ok hv4 b (by rw [HR.out.N]; exact HB.out.2.2.2.1) HB.out.2.2.1 (by have := HR.out.C; omega) (by rw [HQ.out]; omega) (by have := HR.out.Sl; omega) (by have := HR.out.NW; omega)
      clear hqu
      dsimp only
      go_wp2_with fail
      refine Calls.mono hwr ?_
      rintro e w5 ⟨rfl, T5, hv5, hst5, hW⟩
      have HX : Hid (Rdn T T5 RL (j + 1)) := by
        have hr := HR.out
        have hb := HB.out
        have hl : (chs T'.P (b : Int)).length ≤ 1000 := by
          rw [hr.P]
          exact chs_len h b hg
        obtain ⟨o1, o2, o3, o4, o5, o6⟩ := hr.on.wrote hv hW hb.1 hl (by rw [hr.P]; exact hb.2.1)
        refine ⟨o1, o2.trans hr.all, o4.trans hr.P, ?_, o5.trans hr.N, by rw [o6, hr.Sl]; omega, hW.last.trans hr.last, by rw [hW.C, hr.C]; omega, by have := hW.N; have := hr.NW; omega⟩
        have : qbs T5.S = qbs T'.S ++ [(b : Int)] := by unfold qbs; rw [o3, List.map_append]; rfl
        rw [this, hr.q, ← hb.2.2.2.2.1]
        exact (Pt.take_one hb.2.2.2.2.2).symm
      have hst5' : Pt.Stp (fp A T) (fp A T5) w1 w5 := hst.trans ((below_stp (D := fp A T') (Pt.below_on hb3 hb4)).trans hst5)
      clear hwr
      dsimp only
      go_wp2_with fail
      go_roundw
      case rel => exact ⟨j + 1, T5, by omega, by simp, by go_num, hv5, hst5', HX.out⟩
      case measure => simp [intOf]; omega
    · obtain rfl : j = K := by omega
      have hI : ¬ (j : Int) < (j : Int) := by omega
      have hdr := vdrain_ok hv hR.on
      have HR := (show Hid _ from hR)
      have HQ := (show Hid _ from hql)
      clear hR hql
      go_wp2_with fail
      refine Calls.mono hdr ?_
      rintro e w6 ⟨rfl, T6, hv6, hst6, hq6, hD⟩
      have HD := (show Hid _ from hD)
      have HQ6 := (show Hid _ from hq6)
      have hst' : Pt.Stp (fp A T) (fp A T6) w w6 := hs1.trans (hst.trans hst6)
      clear hdr hD hq6
      dsimp only
      go_wp2_with fail
      go_ret
      have hd := HD.out
      have hr := HR.out
      refine ⟨by simp, T6, hv6, hst', hd.on.good HQ6.out, hd.all.trans hr.all, fun pv hp => by rw [← hr.P]; exact hd.P pv hp, ?_, hd.N.trans hr.N, hd.last.trans hr.last, ?_, ?_, ?_⟩
      · have h1 := hd.len
        rw [HQ6.out, HQ.out, hr.P] at h1
        simp at h1
        omega
      · have := hd.C
        have := hr.C
        omega
      · rw [hd.Sl, hr.Sl]
        omega
      · rw [hd.NW]
        have := hr.NW
        omega
end
end Go.Proofs.YtjecicjpplibaaaGreat
