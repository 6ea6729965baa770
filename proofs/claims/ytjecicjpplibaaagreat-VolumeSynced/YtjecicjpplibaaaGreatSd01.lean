/- VM VN -/
import Derived.Test.YtjecicjpplibaaaGreatNw47

/- A volume with writes on the way: what is read stays, write by write and end by end. -/
namespace Go.Proofs.YtjecicjpplibaaaGreat
open Go.RowKit Go.Maps
set_option linter.unusedVariables false
set_option maxRecDepth 100000

/-- x is on the way, with its patches zs: they are of its block, need none outside, and behind its end the block reads as now. -/
structure Wy (T : Vs) (x : Wr) (s : Sn) : Prop where
  Y : T.Y (x.block : Int) = some s
  id : s.id = x.id
  cl : Pt.Cl T.P s.zs
  kn : ∀ z ∈ s.zs, 1 ≤ z ∧ z ≤ (T.last : Int)
  len : s.zs.length ≤ 1000
  blk : ∀ p ∈ T.P, (p.id : Int) ∈ s.zs → p.blk = x.block
  some : ∃ p ∈ T.P, (p.id : Int) ∈ s.zs
  now : Pt.ovrs (Pt.ofB (Pt.kpP T.P s.zs) (x.block : Int)) x.bytes = Pt.ovrs (Pt.ofB T.P (x.block : Int)) (T.S.f x.block)

/-- A volume without a view, writes on the way. -/
structure OnW (T : Vs) : Prop where
  gd : Pt.Gd T.P
  x : T.x = none
  blk : ∀ p ∈ T.P, p.blk < T.S.N
  two : T.S.q.Pairwise (fun y z => y.block ≠ z.block)
  wy : ∀ y ∈ T.S.q, ∃ s, Wy T y s
  off : ∀ b : Int, b ∉ qbs T.S → T.Y b = none

section
variable {g : Int} {B : Nat} {w w' : World} {A : At} {T T' : Vs} {b : Nat}
theorem Good.onW (h : Good T) : OnW T := ⟨h.gd, h.x, h.blk, by rw [h.q]; exact List.Pairwise.nil, (by rw [h.q]; intro y hy; cases hy), fun b _ => by rw [h.Y]⟩
theorem OnW.good (h : OnW T) (hq : T.S.q = []) : Good T := ⟨h.gd, hq, by funext b; exact h.off b (by unfold qbs; rw [hq]; simp), h.x, h.blk⟩

theorem gd_same {P : List Pt.Pv} (h : Pt.Gd P) {p q : Pt.Pv} (hp : p ∈ P) (hq : q ∈ P) (e : p.id = q.id) : p = q := by
  obtain ⟨i, hi, rfl⟩ := List.mem_iff_getElem.1 hp
  obtain ⟨j, hj, rfl⟩ := List.mem_iff_getElem.1 hq
  rcases Nat.lt_trichotomy i j with h1 | h1 | h1
  · have := List.pairwise_iff_getElem.1 h.srt i j hi hj h1; omega
  · subst h1; rfl
  · have := List.pairwise_iff_getElem.1 h.srt j i hj hi h1; omega
theorem ofB_kp {P : List Pt.Pv} {zs : List Int} {b b' : Nat} (hz : ∀ p ∈ P, (p.id : Int) ∈ zs → p.blk = b) (hne : b' ≠ b) : Pt.ofB (Pt.kpP P zs) (b' : Int) = Pt.ofB P (b' : Int) := by
  unfold Pt.ofB Pt.kpP
  rw [List.filter_filter]
  refine List.filter_congr fun p hp => ?_
  by_cases e : p.blk = b'
  · have hn : (p.id : Int) ∉ zs := fun hm => hne (e.symm.trans (hz p hp hm))
    simp [hn, e]
  · have : ¬ ((p.blk : Int) = (b' : Int)) := by omega
    simp [this]

theorem cl_kp {P : List Pt.Pv} {C D : List Int} (h : Pt.Cl P C) : Pt.Cl (Pt.kpP P D) C := by
  intro p hp hm
  have h1 := Pt.lk_false.1 (h p (Pt.mem_kpP.1 hp).1 hm)
  refine Pt.lk_false.2 fun x hx hs => h1 x hx ?_
  obtain ⟨q, hq, e⟩ := Pt.fP_isSome.1 hs
  exact Pt.fP_isSome.2 ⟨q, (Pt.mem_kpP.1 hq).1, e⟩

theorem kp_comm (P : List Pt.Pv) (C D : List Int) : Pt.kpP (Pt.kpP P C) D = Pt.kpP (Pt.kpP P D) C := by
  unfold Pt.kpP
  rw [List.filter_filter, List.filter_filter]
  refine List.filter_congr fun p _ => ?_
  rw [Bool.and_comm]

/-- The premises of an end. -/
theorem OnW.head (h : OnW T) {y : Wr} {q : List Wr} (hq : T.S.q = y :: q) : ∃ s, Wy T y s ∧ T.S.q[0]? = some y ∧ T.S.q.findIdx? (fun z => z.id == y.id) = some 0 ∧ s.zs.all (Pt.kn T.last) = true ∧ (Pt.still T.P s.zs).any (Pt.bad T.P s.zs) = false := by
  obtain ⟨s, hs⟩ := h.wy y (by rw [hq]; simp)
  refine ⟨s, hs, by rw [hq]; rfl, by rw [hq]; simp [List.findIdx?_cons], ?_, Pt.bad_none h.gd hs.cl⟩
  rw [List.all_eq_true]
  intro z hz
  exact Pt.kn_true.2 (hs.kn z hz)

theorem OnW.ended (h : OnW T) {y : Wr} {q : List Wr} (hq : T.S.q = y :: q) {s : Sn} (hs : Wy T y s) (he : Ended T T' 0 y s true) :
    OnW T' ∧ T'.S.q = q ∧ allOf T' = allOf T ∧ T'.P = Pt.kpP T.P s.zs ∧ T'.S.N = T.S.N ∧ T'.S.last = T.S.last ∧ T'.P.length < T.P.length := by
  have eS : T'.S = T.S.done 0 y true := he.S
  have eP : T'.P = Pt.kpP T.P s.zs := he.P
  have eq' : T'.S.q = q := by rw [eS]; show T.S.q.eraseIdx 0 = q; rw [hq]; rfl
  have ef : T'.S.f = upd T.S.f y.block y.bytes := by rw [eS]; rfl
  have eN : T'.S.N = T.S.N := by rw [eS]; rfl
  have hbad : (Pt.still T.P s.zs).any (Pt.bad T.P s.zs) = false := Pt.bad_none h.gd hs.cl
  have htwo := h.two
  rw [hq] at htwo
  obtain ⟨h1, h2⟩ := List.pairwise_cons.1 htwo
  refine ⟨⟨by rw [eP]; exact h.gd.kp hbad, by rw [he.vx]; exact h.x, ?_, by rw [eq']; exact h2, ?_, ?_⟩, eq', ?_, eP, eN, by rw [eS]; rfl, ?_⟩
  · intro p hp
    rw [eP] at hp
    rw [eN]
    exact h.blk p (Pt.mem_kpP.1 hp).1
  · intro z hz
    rw [eq'] at hz
    have hne : z.block ≠ y.block := fun e => h1 z hz e.symm
    obtain ⟨s', hs'⟩ := h.wy z (by rw [hq]; simp [hz])
    refine ⟨s', ⟨?_, hs'.id, by rw [eP]; exact cl_kp hs'.cl, by rw [he.last]; exact hs'.kn, hs'.len, ?_, ?_, ?_⟩⟩
    · rw [he.Y]
      unfold Pt.fput
      rw [if_neg (by omega)]
      exact hs'.Y
    · intro p hp hm
      rw [eP] at hp
      exact hs'.blk p (Pt.mem_kpP.1 hp).1 hm
    · obtain ⟨p, hp, hm⟩ := hs'.some
      rw [eP]
      exact ⟨p, Pt.mem_kpP.2 ⟨hp, fun hm' => hne ((hs'.blk p hp hm).symm.trans (hs.blk p hp hm'))⟩, hm⟩
    · rw [eP, ef, kp_comm]
      rw [ofB_kp (P := Pt.kpP T.P s'.zs) (fun p hp hm => hs.blk p (Pt.mem_kpP.1 hp).1 hm) hne, ofB_kp hs.blk hne]
      unfold upd
      rw [if_neg hne]
      exact hs'.now
  · intro c hc
    rw [he.Y]
    unfold Pt.fput
    by_cases e : c = (y.block : Int)
    · rw [if_pos e]
    · rw [if_neg e]
      refine h.off c (fun hm => hc ?_)
      unfold qbs at hm ⊢
      rw [eq']
      rw [hq] at hm
      rcases List.mem_cons.1 hm with h3 | h3
      · exact absurd h3 e
      · exact h3
  · unfold allOf
    rw [eN]
    refine List.map_congr_left fun c _ => ?_
    unfold nowOf
    rw [eP, ef]
    unfold upd
    by_cases e : c = y.block
    · subst e
      rw [if_pos rfl]
      exact hs.now
    · rw [if_neg e, ofB_kp hs.blk e]
  · obtain ⟨p, hp, hm⟩ := hs.some
    rw [eP]
    show (T.P.filter _).length < _
    rw [List.length_filter_lt_length_iff_exists]
    exact ⟨p, hp, by simp [hm]⟩

theorem OnW.wrote (hv : VI g B w A T) (h : OnW T) (hw : Wrote T T' b) (hb : (b : Int) ∉ qbs T.S) (hl : (chs T.P (b : Int)).length ≤ 1000) (hc0 : chs T.P (b : Int) ≠ []) :
    OnW T' ∧ allOf T' = allOf T ∧ T'.S.q = T.S.q ++ [⟨T.S.last + 1, b, outOf T b⟩] ∧ T'.P = T.P ∧ T'.S.N = T.S.N ∧ T'.S.last = T.S.last + 1 := by
  obtain ⟨s, e1, e2, e3⟩ := hw.Y
  have eq' : T'.S.q = T.S.q ++ [⟨T.S.last + 1, b, outOf T b⟩] := by rw [hw.S]; rfl
  have ef : T'.S.f = T.S.f := by rw [hw.S]; rfl
  have eN : T'.S.N = T.S.N := by rw [hw.S]; rfl
  refine ⟨⟨by rw [hw.P]; exact h.gd, by rw [hw.x]; exact h.x, by rw [hw.P, eN]; exact h.blk, ?_, ?_, ?_⟩, wrote_all hw, eq', hw.P, eN, by rw [hw.S]; rfl⟩
  · rw [eq', List.pairwise_append]
    refine ⟨h.two, List.pairwise_singleton _ _, fun y hy z hz e => ?_⟩
    simp at hz
    subst hz
    exact hb (List.mem_map.2 ⟨y, hy, by rw [e]⟩)
  · intro y hy
    rw [eq'] at hy
    rcases List.mem_append.1 hy with h1 | h1
    · obtain ⟨s', hs'⟩ := h.wy y h1
      refine ⟨s', ⟨?_, hs'.id, by rw [hw.P]; exact hs'.cl, by rw [hw.last]; exact hs'.kn, hs'.len, by rw [hw.P]; exact hs'.blk, by rw [hw.P]; exact hs'.some, by rw [hw.P, ef]; exact hs'.now⟩⟩
      rw [e3]
      unfold Pt.fput
      rw [if_neg (fun e => hb (List.mem_map.2 ⟨y, h1, e⟩))]
      exact hs'.Y
    · simp at h1
      subst h1
      refine ⟨s, ⟨by rw [e3]; unfold Pt.fput; simp, e1, by rw [e2, hw.P]; exact (h.gd.planned (b : Int) []).1, ?_, by rw [e2]; exact hl, ?_, ?_, ?_⟩⟩
      · rw [e2, hw.last]
        intro z hz
        obtain ⟨p, hp, _, rfl⟩ := chs_mem hz
        have := hv.ps.ids p hp
        omega
      · rw [e2, hw.P]
        intro p hp hm
        obtain ⟨p', hp', e4, e5⟩ := (h.gd.planned (b : Int) []).2 _ hm
        have hid : p'.id = p.id := by omega
        have : p' = p := gd_same h.gd hp' hp hid
        subst this
        show p'.blk = b
        omega
      · rw [e2, hw.P]
        obtain ⟨z, hz⟩ := List.exists_mem_of_ne_nil _ hc0
        obtain ⟨p, hp, _, rfl⟩ := chs_mem hz
        exact ⟨p, hp, hz⟩
      · rw [e2, hw.P, ef]
        have := now_same h.gd (fun p hp => (hv.ps.ids p hp).2.2.2.2) T.S.f (fun c => (hv.sy.ok.sec c).1) b b
        unfold upd at this
        rw [if_pos rfl] at this
        exact this
  · intro c hc
    have hcb : c ≠ (b : Int) := fun e => hc (by unfold qbs; rw [eq', e]; simp)
    rw [e3]
    unfold Pt.fput
    rw [if_neg hcb]
    refine h.off c (fun hm => hc ?_)
    unfold qbs at hm ⊢
    rw [eq', List.map_append]
    exact List.mem_append_left _ hm
end
end Go.Proofs.YtjecicjpplibaaaGreat

/- drain: all writes on the way end well. -/
namespace Go.Proofs.YtjecicjpplibaaaGreat
open Go.RowKit Go.Maps
set_option linter.unusedVariables false
set_option maxRecDepth 100000

/-- Behind a part of a drain. -/
structure Drn (T T' : Vs) : Prop where
  on : OnW T'
  all : allOf T' = allOf T
  P : ∀ p ∈ T'.P, p ∈ T.P
  len : T'.P.length + (T.S.q.length - T'.S.q.length) ≤ T.P.length
  N : T'.S.N = T.S.N
  Sl : T'.S.last = T.S.last
  last : T'.last = T.last
  C : T'.C.hi + T'.C.mi = T.C.hi + T.C.mi
  NW : T'.NW = T.NW
section
variable {g : Int} {B : Nat} {w w' : World} {A : At} {T T' : Vs} {b : Nat}
set_option maxHeartbeats 2000000 in
theorem vdrain_ok (h : VI g B w A T) (ho : OnW T) : Calls Tryz.prog 49 #[.pointer (some ⟨A.v, 0, none⟩)] w fun e w' => e = .returned (.int .i64 0) ∧ ∃ T', VI g B w' A T' ∧ Pt.Stp (fp A T) (fp A T') w w' ∧ T'.S.q = [] ∧ Drn T T' := by
  have c2 := h.c2
  have hq := queue_ok h.cd.di
  have hq64 := h.cd.di.q64
  obtain ⟨n, hn⟩ : ∃ n, n = T.S.q.length := ⟨_, rfl⟩
  rw [← hn] at hq hq64
  have HN := (show Hid _ from hn)
  clear hn
  go_enter Tryz.func49, Tryz.ntmps49
  go_wp2_with fail
  refine Calls.mono hq ?_
  rintro e w1 ⟨q1, gs, rfl, hS, hb1⟩
  have h1 := h.later hb1
  have hs1 := below_stp (D := fp A T) hb1
  clear hq hS
  dsimp only
  go_wp2_with fail
  go_loopw [3, 10] (fun f iv wr => ∃ (j : Nat) (T' : Vs), f = .int .i64 0 ∧ iv = .int .i64 (j : Int) ∧ VI g B wr A T' ∧ Pt.Stp (fp A T) (fp A T') w wr ∧ T'.S.q.length + j = n ∧ Drn T T') (fun f iv _ => n - (intOf iv).toNat)
  case atStart => exact ⟨0, T, rfl, rfl, h1, hs1, HN.out.symm, ⟨ho, rfl, fun _ h => h, by omega, rfl, rfl, rfl, rfl, rfl⟩⟩
  case round =>
    clear h1 hs1
    obtain ⟨j, T', rfl, rfl, hv, hst, hj, hD⟩ := hrel
    by_cases hlt : j < n
    · have hI : (j : Int) < (n : Int) := by omega
      cases hq' : T'.S.q with
      | nil => rw [hq'] at hj; simp at hj; omega
      | cons y q =>
        obtain ⟨s, hs, k1, k2, k3, k4⟩ := hD.on.head hq'
        have hcp := vcpl_ok hv 0 y s true k1 k2 hs.Y hs.id k3 k4 hs.len
        have HQ := (show Hid _ from hq')
        have HJ := (show Hid _ from hj)
        clear k1 k2 k3 k4 hq' hj
        go_wp2_with fail
        refine Calls.mono hcp ?_
        rintro e w3 ⟨rfl, T3, hv3, hst3, hEnd⟩
        obtain ⟨o1, o2, o3, o4, o5, o6, o7⟩ := hD.on.ended HQ.out hs hEnd
        have HX : Hid (T3.S.q.length + (j + 1) = n ∧ Drn T T3) := by
          have hj := HJ.out
          have e0 : T'.S.q.length = q.length + 1 := by rw [HQ.out]; rfl
          have e1 : T3.S.q.length = q.length := by rw [o2]
          refine ⟨by omega, ⟨o1, o3.trans hD.all, fun p hp => ?_, ?_, o5.trans hD.N, o6.trans hD.Sl, hEnd.last.trans hD.last, hEnd.C.trans hD.C, hEnd.N.trans hD.NW⟩⟩
          · rw [o4] at hp
            exact hD.P p (Pt.mem_kpP.1 hp).1
          · have := hD.len
            have := HN.out
            omega
        clear hcp o1 o2 o3 o4 o5 o6 o7 hEnd
        dsimp only
        go_wp2_with fail
        go_roundw
        case rel => exact ⟨j + 1, T3, by simp, by go_num, hv3, hst.trans hst3, HX.out.1, HX.out.2⟩
        case measure => simp [intOf]; omega
    · have hI : ¬ (j : Int) < (n : Int) := by omega
      have hq0 : T'.S.q = [] := List.length_eq_zero_iff.1 (by omega)
      have HQ := (show Hid _ from hq0)
      clear hq0 hj
      go_wp2_with fail
      go_ret
      exact ⟨rfl, T', hv, hst, HQ.out, hD⟩
end
end Go.Proofs.YtjecicjpplibaaaGreat
