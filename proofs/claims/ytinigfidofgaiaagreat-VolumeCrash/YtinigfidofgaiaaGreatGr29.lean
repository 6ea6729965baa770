/- VM VN VQ VR VS -/
import Derived.Test.YtinigfidofgaiaaGreatGr28
import Derived.Shelf.Slices.SearchI
import Derived.Ground.Names2Prog

/- A volume with writes on the way: what is read stays, write by write and end by end. -/
namespace Go.Proofs.YtinigfidofgaiaaGreat
open Go.RowKit Go.Maps
set_option linter.unusedVariables false
set_option maxRecDepth 100000

/-- x is on the way, with its patches zs: they are of its block, need none outside, and behind its end the block reads as now. -/
structure Wy (T : Vs) (x : Wr) (s : Sn) : Prop where
  Y : T.Y (x.block : Int) = some s
  id : s.id = x.id
  cl : Pt.Cl T.P s.zs
  kn : ∀ z ∈ s.zs, 1 ≤ z ∧ z ≤ (T.last : Int)
  len : s.zs.length ≤ 1000
  blk : ∀ p ∈ T.P, (p.id : Int) ∈ s.zs → p.blk = x.block
  some : ∃ p ∈ T.P, (p.id : Int) ∈ s.zs
  now : Pt.ovrs (Pt.ofB (Pt.kpP T.P s.zs) (x.block : Int)) x.bytes = Pt.ovrs (Pt.ofB T.P (x.block : Int)) (T.S.f x.block)

/-- A volume without a view, writes on the way. -/
structure OnW (T : Vs) : Prop where
  gd : Pt.Gd T.P
  x : T.x = none
  blk : ∀ p ∈ T.P, p.blk < T.S.N
  two : T.S.q.Pairwise (fun y z => y.block ≠ z.block)
  wy : ∀ y ∈ T.S.q, ∃ s, Wy T y s
  off : ∀ b : Int, b ∉ qbs T.S → T.Y b = none

section
variable {g : Int} {B : Nat} {w w' : World} {A : At} {T T' : Vs} {b : Nat}
theorem Good.onW (h : Good T) : OnW T := ⟨h.gd, h.x, h.blk, by rw [h.q]; exact List.Pairwise.nil, (by rw [h.q]; intro y hy; cases hy), fun b _ => by rw [h.Y]⟩
theorem OnW.good (h : OnW T) (hq : T.S.q = []) : Good T := ⟨h.gd, hq, by funext b; exact h.off b (by unfold qbs; rw [hq]; simp), h.x, h.blk⟩

theorem gd_same {P : List Pt.Pv} (h : Pt.Gd P) {p q : Pt.Pv} (hp : p ∈ P) (hq : q ∈ P) (e : p.id = q.id) : p = q := by
  obtain ⟨i, hi, rfl⟩ := List.mem_iff_getElem.1 hp
  obtain ⟨j, hj, rfl⟩ := List.mem_iff_getElem.1 hq
  rcases Nat.lt_trichotomy i j with h1 | h1 | h1
  · have := List.pairwise_iff_getElem.1 h.srt i j hi hj h1; omega
  · subst h1; rfl
  · have := List.pairwise_iff_getElem.1 h.srt j i hj hi h1; omega
theorem ofB_kp {P : List Pt.Pv} {zs : List Int} {b b' : Nat} (hz : ∀ p ∈ P, (p.id : Int) ∈ zs → p.blk = b) (hne : b' ≠ b) : Pt.ofB (Pt.kpP P zs) (b' : Int) = Pt.ofB P (b' : Int) := by
  unfold Pt.ofB Pt.kpP
  rw [List.filter_filter]
  refine List.filter_congr fun p hp => ?_
  by_cases e : p.blk = b'
  · have hn : (p.id : Int) ∉ zs := fun hm => hne (e.symm.trans (hz p hp hm))
    simp [hn, e]
  · have : ¬ ((p.blk : Int) = (b' : Int)) := by omega
    simp [this]

theorem cl_kp {P : List Pt.Pv} {C D : List Int} (h : Pt.Cl P C) : Pt.Cl (Pt.kpP P D) C := by
  intro p hp hm
  have h1 := Pt.lk_false.1 (h p (Pt.mem_kpP.1 hp).1 hm)
  refine Pt.lk_false.2 fun x hx hs => h1 x hx ?_
  obtain ⟨q, hq, e⟩ := Pt.fP_isSome.1 hs
  exact Pt.fP_isSome.2 ⟨q, (Pt.mem_kpP.1 hq).1, e⟩

theorem kp_comm (P : List Pt.Pv) (C D : List Int) : Pt.kpP (Pt.kpP P C) D = Pt.kpP (Pt.kpP P D) C := by
  unfold Pt.kpP
  rw [List.filter_filter, List.filter_filter]
  refine List.filter_congr fun p _ => ?_
  rw [Bool.and_comm]

/-- The premises of an end. -/
theorem OnW.head (h : OnW T) {y : Wr} {q : List Wr} (hq : T.S.q = y :: q) : ∃ s, Wy T y s ∧ T.S.q[0]? = some y ∧ T.S.q.findIdx? (fun z => z.id == y.id) = some 0 ∧ s.zs.all (Pt.kn T.last) = true ∧ (Pt.still T.P s.zs).any (Pt.bad T.P s.zs) = false := by
  obtain ⟨s, hs⟩ := h.wy y (by rw [hq]; simp)
  refine ⟨s, hs, by rw [hq]; rfl, by rw [hq]; simp [List.findIdx?_cons], ?_, Pt.bad_none h.gd hs.cl⟩
  rw [List.all_eq_true]
  intro z hz
  exact Pt.kn_true.2 (hs.kn z hz)

theorem OnW.ended (h : OnW T) {y : Wr} {q : List Wr} (hq : T.S.q = y :: q) {s : Sn} (hs : Wy T y s) (he : Ended T T' 0 y s true) :
    OnW T' ∧ T'.S.q = q ∧ allOf T' = allOf T ∧ T'.P = Pt.kpP T.P s.zs ∧ T'.S.N = T.S.N ∧ T'.S.last = T.S.last ∧ T'.P.length < T.P.length := by
  have eS : T'.S = T.S.done 0 y true := he.S
  have eP : T'.P = Pt.kpP T.P s.zs := he.P
  have eq' : T'.S.q = q := by rw [eS]; show T.S.q.eraseIdx 0 = q; rw [hq]; rfl
  have ef : T'.S.f = upd T.S.f y.block y.bytes := by rw [eS]; rfl
  have eN : T'.S.N = T.S.N := by rw [eS]; rfl
  have hbad : (Pt.still T.P s.zs).any (Pt.bad T.P s.zs) = false := Pt.bad_none h.gd hs.cl
  have htwo := h.two
  rw [hq] at htwo
  obtain ⟨h1, h2⟩ := List.pairwise_cons.1 htwo
  refine ⟨⟨by rw [eP]; exact h.gd.kp hbad, by rw [he.vx]; exact h.x, ?_, by rw [eq']; exact h2, ?_, ?_⟩, eq', ?_, eP, eN, by rw [eS]; rfl, ?_⟩
  · intro p hp
    rw [eP] at hp
    rw [eN]
    exact h.blk p (Pt.mem_kpP.1 hp).1
  · intro z hz
    rw [eq'] at hz
    have hne : z.block ≠ y.block := fun e => h1 z hz e.symm
    obtain ⟨s', hs'⟩ := h.wy z (by rw [hq]; simp [hz])
    refine ⟨s', ⟨?_, hs'.id, by rw [eP]; exact cl_kp hs'.cl, by rw [he.last]; exact hs'.kn, hs'.len, ?_, ?_, ?_⟩⟩
    · rw [he.Y]
      unfold Pt.fput
      rw [if_neg (by omega)]
      exact hs'.Y
    · intro p hp hm
      rw [eP] at hp
      exact hs'.blk p (Pt.mem_kpP.1 hp).1 hm
    · obtain ⟨p, hp, hm⟩ := hs'.some
      rw [eP]
      exact ⟨p, Pt.mem_kpP.2 ⟨hp, fun hm' => hne ((hs'.blk p hp hm).symm.trans (hs.blk p hp hm'))⟩, hm⟩
    · rw [eP, ef, kp_comm]
      rw [ofB_kp (P := Pt.kpP T.P s'.zs) (fun p hp hm => hs.blk p (Pt.mem_kpP.1 hp).1 hm) hne, ofB_kp hs.blk hne]
      unfold upd
      rw [if_neg hne]
      exact hs'.now
  · intro c hc
    rw [he.Y]
    unfold Pt.fput
    by_cases e : c = (y.block : Int)
    · rw [if_pos e]
    · rw [if_neg e]
      refine h.off c (fun hm => hc ?_)
      unfold qbs at hm ⊢
      rw [eq']
      rw [hq] at hm
      rcases List.mem_cons.1 hm with h3 | h3
      · exact absurd h3 e
      · exact h3
  · unfold allOf
    rw [eN]
    refine List.map_congr_left fun c _ => ?_
    unfold nowOf
    rw [eP, ef]
    unfold upd
    by_cases e : c = y.block
    · subst e
      rw [if_pos rfl]
      exact hs.now
    · rw [if_neg e, ofB_kp hs.blk e]
  · obtain ⟨p, hp, hm⟩ := hs.some
    rw [eP]
    show (T.P.filter _).length < _
    rw [List.length_filter_lt_length_iff_exists]
    exact ⟨p, hp, by simp [hm]⟩

theorem OnW.wrote (hv : VI g B w A T) (h : OnW T) (hw : Wrote T T' b) (hb : (b : Int) ∉ qbs T.S) (hl : (chs T.P (b : Int)).length ≤ 1000) (hc0 : chs T.P (b : Int) ≠ []) :
    OnW T' ∧ allOf T' = allOf T ∧ T'.S.q = T.S.q ++ [⟨T.S.last + 1, b, outOf T b⟩] ∧ T'.P = T.P ∧ T'.S.N = T.S.N ∧ T'.S.last = T.S.last + 1 := by
  obtain ⟨s, e1, e2, e3⟩ := hw.Y
  have eq' : T'.S.q = T.S.q ++ [⟨T.S.last + 1, b, outOf T b⟩] := by rw [hw.S]; rfl
  have ef : T'.S.f = T.S.f := by rw [hw.S]; rfl
  have eN : T'.S.N = T.S.N := by rw [hw.S]; rfl
  refine ⟨⟨by rw [hw.P]; exact h.gd, by rw [hw.x]; exact h.x, by rw [hw.P, eN]; exact h.blk, ?_, ?_, ?_⟩, wrote_all hw, eq', hw.P, eN, by rw [hw.S]; rfl⟩
  · rw [eq', List.pairwise_append]
    refine ⟨h.two, List.pairwise_singleton _ _, fun y hy z hz e => ?_⟩
    simp at hz
    subst hz
    exact hb (List.mem_map.2 ⟨y, hy, by rw [e]⟩)
  · intro y hy
    rw [eq'] at hy
    rcases List.mem_append.1 hy with h1 | h1
    · obtain ⟨s', hs'⟩ := h.wy y h1
      refine ⟨s', ⟨?_, hs'.id, by rw [hw.P]; exact hs'.cl, by rw [hw.last]; exact hs'.kn, hs'.len, by rw [hw.P]; exact hs'.blk, by rw [hw.P]; exact hs'.some, by rw [hw.P, ef]; exact hs'.now⟩⟩
      rw [e3]
      unfold Pt.fput
      rw [if_neg (fun e => hb (List.mem_map.2 ⟨y, h1, e⟩))]
      exact hs'.Y
    · simp at h1
      subst h1
      refine ⟨s, ⟨by rw [e3]; unfold Pt.fput; simp, e1, by rw [e2, hw.P]; exact (h.gd.planned (b : Int) []).1, ?_, by rw [e2]; exact hl, ?_, ?_, ?_⟩⟩
      · rw [e2, hw.last]
        intro z hz
        obtain ⟨p, hp, _, rfl⟩ := chs_mem hz
        have := hv.ps.ids p hp
        omega
      · rw [e2, hw.P]
        intro p hp hm
        obtain ⟨p', hp', e4, e5⟩ := (h.gd.planned (b : Int) []).2 _ hm
        have hid : p'.id = p.id := by omega
        have : p' = p := gd_same h.gd hp' hp hid
        subst this
        show p'.blk = b
        omega
      · rw [e2, hw.P]
        obtain ⟨z, hz⟩ := List.exists_mem_of_ne_nil _ hc0
        obtain ⟨p, hp, _, rfl⟩ := chs_mem hz
        exact ⟨p, hp, hz⟩
      · rw [e2, hw.P, ef]
        have := now_same h.gd (fun p hp => (hv.ps.ids p hp).2.2.2.2) T.S.f (fun c => (hv.sy.ok.sec c).1) b b
        unfold upd at this
        rw [if_pos rfl] at this
        exact this
  · intro c hc
    have hcb : c ≠ (b : Int) := fun e => hc (by unfold qbs; rw [eq', e]; simp)
    rw [e3]
    unfold Pt.fput
    rw [if_neg hcb]
    refine h.off c (fun hm => hc ?_)
    unfold qbs at hm ⊢
    rw [eq', List.map_append]
    exact List.mem_append_left _ hm
end
end Go.Proofs.YtinigfidofgaiaaGreat

/- drain: all writes on the way end well. -/
namespace Go.Proofs.YtinigfidofgaiaaGreat
open Go.RowKit Go.Maps
set_option linter.unusedVariables false
set_option maxRecDepth 100000

/-- Behind a part of a drain. -/
structure Drn (T T' : Vs) : Prop where
  on : OnW T'
  all : allOf T' = allOf T
  P : ∀ p ∈ T'.P, p ∈ T.P
  len : T'.P.length + (T.S.q.length - T'.S.q.length) ≤ T.P.length
  N : T'.S.N = T.S.N
  Sl : T'.S.last = T.S.last
  last : T'.last = T.last
  C : T'.C.hi + T'.C.mi = T.C.hi + T.C.mi
  NW : T'.NW = T.NW
section
variable {g : Int} {B : Nat} {w w' : World} {A : At} {T T' : Vs} {b : Nat}
set_option maxHeartbeats 2000000 in
theorem vdrain_ok (h : VI g B w A T) (ho : OnW T) : Calls Tryz.prog 49 #[.pointer (some ⟨A.v, 0, none⟩)] w fun e w' => e = .returned (.int .i64 0) ∧ ∃ T', VI g B w' A T' ∧ Pt.Stp (fp A T) (fp A T') w w' ∧ T'.S.q = [] ∧ Drn T T' := by
  have c2 := h.c2
  have hq := queue_ok h.cd.di
  have hq64 := h.cd.di.q64
  obtain ⟨n, hn⟩ : ∃ n, n = T.S.q.length := ⟨_, rfl⟩
  rw [← hn] at hq hq64
  have HN := (show Hid _ from hn)
  clear hn
  go_enter Tryz.func49, Tryz.ntmps49
  go_wp2_with fail
  refine Calls.mono hq ?_
  rintro e w1 ⟨q1, gs, rfl, hS, hb1⟩
  have h1 := h.later hb1
  have hs1 := below_stp (D := fp A T) hb1
  clear hq hS
  dsimp only
  go_wp2_with fail
  go_loopw [3, 10] (fun f iv wr => ∃ (j : Nat) (T' : Vs), f = .int .i64 0 ∧ iv = .int .i64 (j : Int) ∧ VI g B wr A T' ∧ Pt.Stp (fp A T) (fp A T') w wr ∧ T'.S.q.length + j = n ∧ Drn T T') (fun f iv _ => n - (intOf iv).toNat)
  case atStart => exact ⟨0, T, rfl, rfl, h1, hs1, HN.out.symm, ⟨ho, rfl, fun _ h => h, by omega, rfl, rfl, rfl, rfl, rfl⟩⟩
  case round =>
    clear h1 hs1
    obtain ⟨j, T', rfl, rfl, hv, hst, hj, hD⟩ := hrel
    by_cases hlt : j < n
    · have hI : (j : Int) < (n : Int) := by omega
      cases hq' : T'.S.q with
      | nil => rw [hq'] at hj; simp at hj; omega
      | cons y q =>
        obtain ⟨s, hs, k1, k2, k3, k4⟩ := hD.on.head hq'
        have hcp := vcpl_ok hv 0 y s true k1 k2 hs.Y hs.id k3 k4 hs.len
        have HQ := (show Hid _ from hq')
        have HJ := (show Hid _ from hj)
        clear k1 k2 k3 k4 hq' hj
        go_wp2_with fail
        refine Calls.mono hcp ?_
        rintro e w3 ⟨rfl, T3, hv3, hst3, hEnd⟩
        obtain ⟨o1, o2, o3, o4, o5, o6, o7⟩ := hD.on.ended HQ.out hs hEnd
        have HX : Hid (T3.S.q.length + (j + 1) = n ∧ Drn T T3) := by
          have hj := HJ.out
          have e0 : T'.S.q.length = q.length + 1 := by rw [HQ.out]; rfl
          have e1 : T3.S.q.length = q.length := by rw [o2]
          refine ⟨by omega, ⟨o1, o3.trans hD.all, fun p hp => ?_, ?_, o5.trans hD.N, o6.trans hD.Sl, hEnd.last.trans hD.last, hEnd.C.trans hD.C, hEnd.N.trans hD.NW⟩⟩
          · rw [o4] at hp
            exact hD.P p (Pt.mem_kpP.1 hp).1
          · have := hD.len
            have := HN.out
            omega
        clear hcp o1 o2 o3 o4 o5 o6 o7 hEnd
        dsimp only
        go_wp2_with fail
        go_roundw
        case rel => exact ⟨j + 1, T3, by simp, by go_num, hv3, hst.trans hst3, HX.out.1, HX.out.2⟩
        case measure => simp [intOf]; omega
    · have hI : ¬ (j : Int) < (n : Int) := by omega
      have hq0 : T'.S.q = [] := List.length_eq_zero_iff.1 (by omega)
      have HQ := (show Hid _ from hq0)
      clear hq0 hj
      go_wp2_with fail
      go_ret
      exact ⟨rfl, T', hv, hst, HQ.out, hD⟩
end
end Go.Proofs.YtinigfidofgaiaaGreat

/- known, hasOneOf: a list asked by a function. -/
namespace Go.Proofs.YtinigfidofgaiaaGreat
open Go.RowKit Go.Maps
set_option linter.unusedVariables false
set_option maxRecDepth 100000

def ukn (l : Int) (x : Int) : Bool := decide (x < 1) || decide (l < x)
set_option maxHeartbeats 400000 in
theorem kn1_ok {w : World} {a : Nat} {l : Int} (h : w.cell? ⟨a, 0, none⟩ = some (.int .i64 l)) (x : Int) (hx : Pt.I64 x) : Calls Tryz.prog 87 #[.int .i64 x, .pointer (some ⟨a, 0, none⟩)] w fun e w' => e = .returned (.bool (ukn l x)) ∧ Below w.heap.size w w' := by
  have HU : Hid (ukn l x = (decide (x < 1) || decide (l < x))) := rfl
  by_cases h1 : x < 1
  · have HR : Hid (ukn l x = true) := by show _ = _; rw [HU.out, decide_eq_true h1]; rfl
    go_enter Tryz.func87, Tryz.ntmps87
    go_wp2_with fail
    go_ret
    exact ⟨by rw [HR.out]; try rfl, Below.refl _ _⟩
  · by_cases h2 : l < x
    · have HR : Hid (ukn l x = true) := by show _ = _; rw [HU.out, decide_eq_true h2]; simp
      go_enter Tryz.func87, Tryz.ntmps87
      go_wp2_with fail
      go_ret
      exact ⟨by rw [HR.out]; try rfl, Below.refl _ _⟩
    · have HR : Hid (ukn l x = false) := by show _ = _; rw [HU.out, decide_eq_false h2, decide_eq_false h1]; rfl
      go_enter Tryz.func87, Tryz.ntmps87
      go_wp2_with fail
      go_ret
      exact ⟨by rw [HR.out]; try rfl, Below.refl _ _⟩

set_option maxHeartbeats 1000000 in
theorem kn1_idx {w : World} {a : Nat} {l : Int} (h : w.cell? ⟨a, 0, none⟩ = some (.int .i64 l)) (p : Option Addr) (n c : Nat) (zs : List Int) (hz : Pt.II w p n zs) :
    Calls Tryz.prog 94 #[.slice p n c, .func (.func 87) #[] #[.pointer (some ⟨a, 0, none⟩)]] w fun e w' => ∃ r : Int, e = .returned (.int .i64 r) ∧ Hid (decide (0 ≤ r) = zs.any (ukn l)) ∧ Below w.heap.size w w' := by
  have hl := hz.len
  have hg := hz.big
  go_enter Tryz.func94, Tryz.ntmps94
  go_wp2_with fail
  go_loopw [8] (fun i wr => ∃ j : Nat, j ≤ n ∧ i = .int .i64 (j : Int) ∧ Hid ((zs.take j).any (ukn l) = false) ∧ Below w.heap.size w wr) (fun i _ => n - (intOf i).toNat)
  case atStart => exact ⟨0, by omega, rfl, rfl, Below.refl _ _⟩
  case round =>
    obtain ⟨j, hj, rfl, HA, hb⟩ := hrel
    by_cases hlt : j < n
    · obtain ⟨b1, o1, rfl, hc1⟩ := (hz.kept hb).cells (by omega)
      have e1 := hc1 j hlt
      have hh := kn1_ok ((hb.cell (p := ⟨a, 0, none⟩) (lt_of_cell h)).trans h) (zs.getD j 0) (hz.fitAt j)
      have hjI : (j : Int) < (n : Int) := by omega
      have hj0 : (0 : Int) ≤ (j : Int) := by omega
      have HT : Hid _ := Pt.take_one (zs := zs) (j := j) (by omega)
      have HM : Hid _ := Pt.getD_mem' (zs := zs) (j := j) (by omega)
      clear hc1
      generalize zs.getD j 0 = y at e1 hh HT HM
      cases hy : (ukn l) y with
      | true =>
        rw [hy] at hh
        have HR : Hid (zs.any (ukn l) = true) := List.any_eq_true.2 ⟨y, HM.out, hy⟩
        clear hy
        go_wp2_with (first | (go_at_call 87; refine Pt.below_at hh ?_; intro w1 hb1))
        go_ret
        exact ⟨_, rfl, by show _ = _; rw [HR.out]; exact decide_eq_true hj0, Pt.below_on hb hb1⟩
      | false =>
        rw [hy] at hh
        have HY : Hid _ := hy
        clear hy
        go_wp2_with (first | (go_at_call 87; refine Pt.below_at hh ?_; intro w1 hb1))
        go_roundw
        case rel => exact ⟨j + 1, by omega, by go_num, (by show _ = _; rw [HT.out, List.any_append, HA.out]; simp [HY.out]), Pt.below_on hb hb1⟩
        case measure => simp [intOf]; omega
    · obtain rfl : j = n := by omega
      have HR : Hid (zs.any (ukn l) = false) := by show _ = _; rw [← HA.out, List.take_of_length_le (by omega)]
      go_wp2
      go_ret
      exact ⟨-1, rfl, by show _ = _; rw [HR.out]; rfl, hb⟩

set_option maxHeartbeats 400000 in
theorem kn1_has {w : World} {a : Nat} {l : Int} (h : w.cell? ⟨a, 0, none⟩ = some (.int .i64 l)) (p : Option Addr) (n c : Nat) (zs : List Int) (hz : Pt.II w p n zs) :
    Calls Tryz.prog 86 #[.slice p n c, .func (.func 87) #[] #[.pointer (some ⟨a, 0, none⟩)]] w fun e w' => e = .returned (.bool (zs.any (ukn l))) ∧ Below w.heap.size w w' := by
  have hi := kn1_idx h p n c zs hz
  go_enter Tryz.func86, Tryz.ntmps86
  go_wp2_with (first | (go_at_call 94; refine hi.mono ?_; rintro e w' ⟨r, rfl, HR, hb⟩))
  go_ret
  exact ⟨by rw [← HR.out]; rfl, hb⟩

section
variable {g : Int} {B : Nat} {w w' : World} {A : At} {T T' : Vs} {b : Nat}
set_option maxHeartbeats 1000000 in
theorem vknown_ok (h : VI g B w A T) (p : Option Addr) (n c : Nat) (zs : List Int) (hz : Pt.II w p n zs) (hk : ∀ z ∈ zs, 1 ≤ z ∧ z ≤ (T.last : Int)) : Calls Tryz.prog 48 #[.pointer (some ⟨A.v, 0, none⟩), .slice p n c] w fun e w' => e = .returned (.bool true) ∧ Below w.heap.size w w' := by
  have c4 := h.c4
  have hla := Pt.last_ok h.ps
  go_enter Tryz.func48, Tryz.ntmps48
  go_wp2_with fail
  refine same_at hla ?_
  dsimp only
  obtain ⟨W1, hW1⟩ : ∃ W1, w.alloc (.cells #[.int .i64 (T.last : Int)] 3) = W1 := ⟨_, rfl⟩
  have hb1 : Below w.heap.size w W1 := by rw [← hW1]; exact (Below.refl _ _).alloc (Nat.le_refl _) _
  have hr1 : W1.heap[w.heap.size]? = some (.cells #[.int .i64 (T.last : Int)] 3 (0, 0)) := by rw [← hW1]; exact at_new rfl
  have hca := kn1_has ((cell_of_row _ _ 0 _ 3 _ hr1).trans rfl) p n c zs (hz.kept hb1)
  have hno : zs.any (ukn (T.last : Int)) = false := by
    rw [List.any_eq_false]
    intro z hz
    have := hk z hz
    unfold ukn
    rw [decide_eq_false (by omega), decide_eq_false (by omega)]
    decide
  rw [hno] at hca
  clear hla hno
  go_wp2_with (first | (go_at_call 86; refine Pt.below_at hca ?_; intro w2 hb2))
  go_ret
  exact ⟨rfl, Pt.below_on hb1 hb2⟩
end
end Go.Proofs.YtinigfidofgaiaaGreat

/- hasOneOf: whether a block has a patch of a rising list. -/
namespace Go.Proofs.YtinigfidofgaiaaGreat
open Go.RowKit Go.Maps
set_option linter.unusedVariables false
set_option maxRecDepth 100000

def sh_laysNm225_ren : Go.Shelf.Ren := ⟨fun | 25 => 128 | 31 => 155 | 32 => 156 | 37 => 170 | n => n, fun | 22 => 23 | 3 => 3 | 4 => 4 | 40 => 31 | 0 => 0 | n => n, fun | n => n⟩
theorem sh_laysNm225 : Go.Proofs.Lays2.n25 Tryz.prog sh_laysNm225_ren := {
  mixed := by kernel_rfl
  f25 := Tryz.func128.trans (congrArg some (by kernel_rfl))
  f31 := Tryz.func155.trans (congrArg some (by kernel_rfl))
  f32 := Tryz.func156.trans (congrArg some (by kernel_rfl))
  f37 := Tryz.func170.trans (congrArg some (by kernel_rfl))
  t0 := Tryz.underlying0
  a0 := Tryz.isAgg0
  z0 := Tryz.sizeOf0
  v0 := Tryz.zeroValue0
  t3 := Tryz.underlying3
  a3 := Tryz.isAgg3
  z3 := Tryz.sizeOf3
  v3 := Tryz.zeroValue3
  t4 := Tryz.underlying4
  a4 := Tryz.isAgg4
  z4 := Tryz.sizeOf4
  v4 := Tryz.zeroValue4
  t22 := Tryz.underlying23
  a22 := Tryz.isAgg23
  z22 := Tryz.sizeOf23
  v22 := Tryz.zeroValue23
  t40 := Tryz.underlying31
  a40 := Tryz.isAgg31
  z40 := Tryz.sizeOf31
  v40 := Tryz.zeroValue31 }
open Go.RowKit Go.Lib in
theorem sh_bsearch (b off n c : Nat) (zs : List Int) (x : Int) (w : World) (hz : n ≤ zs.length) (hbig : n < 4611686018427387904) (hc : ∀ j, j < zs.length → w.cell? ⟨b, off + j, none⟩ = some (.int .i64 (zs.getD j 0))) (hs : (zs.take n).Pairwise (· ≤ ·)) :
    Calls Tryz.prog 128 #[.slice (some ⟨b, off, none⟩) n c, .int .i64 x] w fun e w' => e = .returned (.tuple #[.int .i64 ((zs.take n).countP (· < x) : Nat), .bool ((zs.take n).contains x)]) ∧ ∃ q, w' = w.drewN q := Any.slices_BinarySearch_int sh_laysNm225 b off n c zs x w hz hbig hc hs

/-- A box with a rising list. -/
structure Bx (w : World) (a : Nat) (O : List Int) : Prop where
  ex : ∃ p n c, w.cell? ⟨a, 0, none⟩ = some (.slice p n c) ∧ Pt.II w p n O
  up : O.Pairwise (fun x y => x < y)
  ne : O ≠ []
theorem Bx.kept {w w' : World} {a : Nat} {O : List Int} (h : Bx w a O) (hb : Below w.heap.size w w') : Bx w' a O := by
  obtain ⟨p, n, c, h1, h2⟩ := h.ex
  exact ⟨⟨p, n, c, (hb.cell (p := ⟨a, 0, none⟩) (lt_of_cell h1)).trans h1, h2.kept hb⟩, h.up, h.ne⟩
def inO (O : List Int) (x : Int) : Bool := O.contains x
set_option maxHeartbeats 400000 in
theorem ho1_ok {w : World} {a : Nat} {O : List Int} (h : Bx w a O) (x : Int) (hx : Pt.I64 x) : Calls Tryz.prog 127 #[.int .i64 x, .pointer (some ⟨a, 0, none⟩)] w fun e w' => e = .returned (.bool (inO O x)) ∧ Below w.heap.size w w' := by
  obtain ⟨p, n, c, c0, hII⟩ := h.ex
  have hl := hII.len
  have hpos : 0 < O.length := List.length_pos_iff.2 h.ne
  obtain ⟨b, o, rfl, hc⟩ := hII.cells (by omega)
  have hbg := hII.big
  have hbs := sh_bsearch b o n c O x w (by omega) (by omega) (fun j hj => hc j (by omega)) (by rw [List.take_of_length_le (by omega)]; exact h.up.imp (fun h => by omega))
  rw [List.take_of_length_le (by omega)] at hbs
  have HI : Hid (O.contains x = inO O x) := rfl
  rw [HI.out] at hbs
  generalize O.countP (· < x) = cn at hbs
  generalize inO O x = r at hbs
  clear HI hc hII hl hpos h
  go_enter Tryz.func127, Tryz.ntmps127
  go_wp2_with (first | (go_at_call 128; refine Calls.mono hbs ?_; rintro e w1 ⟨rfl, q, rfl⟩))
  go_ret
  exact ⟨rfl, below_drewN (Below.refl _ _) _⟩

set_option maxHeartbeats 1000000 in
theorem ho1_idx {w : World} {a : Nat} {O : List Int} (h : Bx w a O) (p : Option Addr) (n c : Nat) (zs : List Int) (hz : Pt.II w p n zs) :
    Calls Tryz.prog 94 #[.slice p n c, .func (.func 127) #[] #[.pointer (some ⟨a, 0, none⟩)]] w fun e w' => ∃ r : Int, e = .returned (.int .i64 r) ∧ Hid (decide (0 ≤ r) = zs.any (inO O)) ∧ Below w.heap.size w w' := by
  have hl := hz.len
  have hg := hz.big
  go_enter Tryz.func94, Tryz.ntmps94
  go_wp2_with fail
  go_loopw [8] (fun i wr => ∃ j : Nat, j ≤ n ∧ i = .int .i64 (j : Int) ∧ Hid ((zs.take j).any (inO O) = false) ∧ Below w.heap.size w wr) (fun i _ => n - (intOf i).toNat)
  case atStart => exact ⟨0, by omega, rfl, rfl, Below.refl _ _⟩
  case round =>
    obtain ⟨j, hj, rfl, HA, hb⟩ := hrel
    by_cases hlt : j < n
    · obtain ⟨b1, o1, rfl, hc1⟩ := (hz.kept hb).cells (by omega)
      have e1 := hc1 j hlt
      have hh := ho1_ok (h.kept hb) (zs.getD j 0) (hz.fitAt j)
      have hjI : (j : Int) < (n : Int) := by omega
      have hj0 : (0 : Int) ≤ (j : Int) := by omega
      have HT : Hid _ := Pt.take_one (zs := zs) (j := j) (by omega)
      have HM : Hid _ := Pt.getD_mem' (zs := zs) (j := j) (by omega)
      clear hc1
      generalize zs.getD j 0 = y at e1 hh HT HM
      cases hy : (inO O) y with
      | true =>
        rw [hy] at hh
        have HR : Hid (zs.any (inO O) = true) := List.any_eq_true.2 ⟨y, HM.out, hy⟩
        clear hy
        go_wp2_with (first | (go_at_call 127; refine Pt.below_at hh ?_; intro w1 hb1))
        go_ret
        exact ⟨_, rfl, by show _ = _; rw [HR.out]; exact decide_eq_true hj0, Pt.below_on hb hb1⟩
      | false =>
        rw [hy] at hh
        have HY : Hid _ := hy
        clear hy
        go_wp2_with (first | (go_at_call 127; refine Pt.below_at hh ?_; intro w1 hb1))
        go_roundw
        case rel => exact ⟨j + 1, by omega, by go_num, (by show _ = _; rw [HT.out, List.any_append, HA.out]; simp [HY.out]), Pt.below_on hb hb1⟩
        case measure => simp [intOf]; omega
    · obtain rfl : j = n := by omega
      have HR : Hid (zs.any (inO O) = false) := by show _ = _; rw [← HA.out, List.take_of_length_le (by omega)]
      go_wp2
      go_ret
      exact ⟨-1, rfl, by show _ = _; rw [HR.out]; rfl, hb⟩

set_option maxHeartbeats 400000 in
theorem ho1_has {w : World} {a : Nat} {O : List Int} (h : Bx w a O) (p : Option Addr) (n c : Nat) (zs : List Int) (hz : Pt.II w p n zs) :
    Calls Tryz.prog 86 #[.slice p n c, .func (.func 127) #[] #[.pointer (some ⟨a, 0, none⟩)]] w fun e w' => e = .returned (.bool (zs.any (inO O))) ∧ Below w.heap.size w w' := by
  have hi := ho1_idx h p n c zs hz
  go_enter Tryz.func86, Tryz.ntmps86
  go_wp2_with (first | (go_at_call 94; refine hi.mono ?_; rintro e w' ⟨r, rfl, HR, hb⟩))
  go_ret
  exact ⟨by rw [← HR.out]; rfl, hb⟩

section
variable {g : Int} {B : Nat} {w w' : World} {A : At} {T T' : Vs} {b : Nat}
set_option maxHeartbeats 1000000 in
theorem vhasOne_ok (h : VI g B w A T) (b : Int) (hb : Pt.I64 b) (p : Option Addr) (n c : Nat) (O : List Int) (hz : Pt.II w p n O) (hup : O.Pairwise (fun x y => x < y)) (hne : O ≠ []) (hin : ∃ x ∈ Pt.idsOf T.P b, x ∈ O) : Calls Tryz.prog 93 #[.pointer (some ⟨A.v, 0, none⟩), .slice p n c, .int .i64 b] w fun e w' => e = .returned (.bool true) ∧ Below w.heap.size w w' := by
  obtain ⟨W1, hW1⟩ : ∃ W1, w.alloc (.cells #[.slice p n c] 23) = W1 := ⟨_, rfl⟩
  have hb1 : Below w.heap.size w W1 := by rw [← hW1]; exact (Below.refl _ _).alloc (Nat.le_refl _) _
  have hr1 : W1.heap[w.heap.size]? = some (.cells #[.slice p n c] 23 (0, 0)) := by rw [← hW1]; exact at_new rfl
  have hBx : Bx W1 w.heap.size O := ⟨⟨p, n, c, (cell_of_row _ _ 0 _ 23 _ hr1).trans rfl, hz.kept hb1⟩, hup, hne⟩
  have h1 := h.later hb1
  have c4 := h1.c4
  have hof := Pt.of_ok h1.ps b hb
  have HIN := (show Hid _ from hin)
  clear hin
  go_enter Tryz.func93, Tryz.ntmps93
  go_wp2_with fail
  refine Calls.mono hof ?_
  rintro e w2 ⟨v, rfl, hN, hb2⟩
  have hlen : (Pt.idsOf T.P b).length ≤ 1000 := by
    have h2 := h1.ps.sml
    have h3 : T.P.length ≤ T.last := h1.ps.len
    have h4 : (Pt.idsOf T.P b).length ≤ T.P.length := by unfold Pt.idsOf; rw [List.length_map]; exact List.length_filter_le _ _
    omega
  obtain ⟨p2, c2, rfl, hI2, _⟩ := hN.ii (by omega) (fun x hx => by
    obtain ⟨pv, hp, rfl⟩ := List.mem_map.1 hx
    have := h1.ps.ids pv (List.mem_filter.1 hp).1
    have := h1.ps.sml
    exact ⟨by omega, by omega⟩)
  have hca := ho1_has (hBx.kept hb2) p2 _ c2 _ hI2
  have hyes : (Pt.idsOf T.P b).any (inO O) = true := by
    obtain ⟨x, h3, h4⟩ := HIN.out
    exact List.any_eq_true.2 ⟨x, h3, List.contains_iff_mem.2 h4⟩
  rw [hyes] at hca
  clear hof hN hI2 hyes
  dsimp only
  go_wp2_with (first | (go_at_call 86; refine Pt.below_at hca ?_; intro w3 hb3))
  go_ret
  exact ⟨rfl, Pt.below_on (Pt.below_on hb1 hb2) hb3⟩
end
end Go.Proofs.YtinigfidofgaiaaGreat

/- round: all that may be written is written, and ends. -/
namespace Go.Proofs.YtinigfidofgaiaaGreat
open Go.RowKit Go.Maps
set_option linter.unusedVariables false
set_option maxRecDepth 100000

theorem ii_stp {D D' : Nat → Prop} {w w' : World} {p : Option Addr} {n : Nat} {zs : List Int} (h : Pt.II w p n zs) (hs : Pt.Stp D D' w w') (hn : ∀ k, Pt.blkOf p = some k → ¬ D k) : Pt.II w' p n zs := h.keptIf (fun k hk hl => hs.fr.block k hl (hn k hk))

/-- Behind j writes. -/
structure Rdn (T T' : Vs) (RL : List Int) (j : Nat) : Prop where
  on : OnW T'
  all : allOf T' = allOf T
  P : T'.P = T.P
  q : qbs T'.S = RL.take j
  N : T'.S.N = T.S.N
  Sl : T'.S.last = T.S.last + (j : Int)
  last : T'.last = T.last
  C : T'.C.hi + T'.C.mi = T.C.hi + T.C.mi + j
  NW : T'.NW ≤ T.NW + j

section
variable {g : Int} {B : Nat} {w w' : World} {A : At} {T T' : Vs} {b : Nat}
theorem rdy_nd (T : Vs) : (rdy T (Pt.blks T.P)).Nodup := by
  have h1 : (Pt.blks T.P).Pairwise (fun x y => x < y) := Pt.rs_sorted _
  exact (h1.filter _).imp (fun h => by omega)
theorem rdy_12 (h : VI g B w A T) (hg : Good T) : (rdy T (Pt.blks T.P)).length ≤ 12 := by
  have h1 := List.Nodup.length_le_of_subset (rdy_nd T) (l₂ := (List.range T.S.N).map (fun (k : Nat) => (k : Int))) (fun x hx => by
    obtain ⟨b, rfl, hb, _⟩ := rdy_in hx hg
    exact List.mem_map.2 ⟨b, List.mem_range.2 hb, rfl⟩)
  simp at h1
  have := h.cd.ci.N12
  omega

set_option maxHeartbeats 4000000 in
theorem vround_ok (h : VI g B w A T) (hg : Good T) (hP : T.P ≠ []) (p : Option Addr) (n c : Nat) (O : List Int) (hz : Pt.II w p n O) (hup : O.Pairwise (fun x y => x < y)) (hin : ∀ pv ∈ T.P, (pv.id : Int) ∈ O) (hpf : ∀ k, Pt.blkOf p = some k → ¬ fp A T k) (hc : T.C.hi + T.C.mi < 100000) (hl : T.S.last < 100000) (hNW : T.NW < 10000) :
    Calls Tryz.prog 51 #[.pointer (some ⟨A.v, 0, none⟩), .slice p n c] w fun e w' => e = .returned (.int .i64 0) ∧ ∃ T', VI g B w' A T' ∧ Pt.Stp (fp A T) (fp A T') w w' ∧ Good T' ∧ allOf T' = allOf T ∧ (∀ pv ∈ T'.P, pv ∈ T.P) ∧ T'.P.length < T.P.length ∧ T'.S.N = T.S.N ∧ T'.last = T.last ∧ T'.C.hi + T'.C.mi ≤ T.C.hi + T.C.mi + 12 ∧ T'.S.last ≤ T.S.last + 12 ∧ T'.NW ≤ T.NW + 12 := by
  have hrd := ready_ok h
  have h12 := rdy_12 h hg
  have hnd := rdy_nd T
  have hne := rdy_some hg.gd hP hg.q
  have hri : ∀ x ∈ rdy T (Pt.blks T.P), ∃ b : Nat, x = (b : Int) ∧ b < T.S.N ∧ may T (b : Int) = true := fun x hx => rdy_in hx hg
  have hN12 := h.cd.ci.N12
  obtain ⟨RL, hRL⟩ : ∃ RL, RL = rdy T (Pt.blks T.P) := ⟨_, rfl⟩
  rw [← hRL] at hrd h12 hnd hne hri
  clear hRL
  go_enter Tryz.func51, Tryz.ntmps51
  go_wp2_with fail
  refine Calls.mono hrd ?_
  rintro e w1 ⟨v4, rfl, hN4, hb1⟩
  obtain ⟨p4, c4, rfl, hII4, hPl⟩ := hN4.ii (by omega) (fun x hx => by obtain ⟨b, rfl, hb, _⟩ := hri x hx; exact ⟨by omega, by omega⟩)
  obtain ⟨b4, o4, hp4, hc4⟩ := hII4.cells (List.length_pos_iff.2 hne)
  have hlt4 : ∀ k, Pt.blkOf p4 = some k → ¬ fp A T k := by
    intro k hk hf
    rcases hN4.2 with ⟨e1, e2⟩ | ⟨g', cap', cur, e1, hbg, hg', rest⟩
    · have := List.length_pos_iff.2 hne; omega
    · obtain ⟨rfl, _, _⟩ := Value.slice.inj e1
      have := Option.some.inj (show some g' = some k from hk)
      have := h.lt k hf
      omega
  have h1 := h.later hb1
  have hs1 := below_stp (D := fp A T) hb1
  have hz1 := hz.kept hb1
  obtain ⟨K, hK⟩ : ∃ K, K = RL.length := ⟨_, rfl⟩
  rw [← hK] at hII4 h12
  have hKp : 0 < K := by rw [hK]; exact List.length_pos_iff.2 hne
  have HK := (show Hid _ from hK)
  try rw [← HK.out]
  clear hrd hN4 hK hc4 hp4 b4 o4
  dsimp only
  go_wp2_with fail
  go_loopw [5, 11] (fun f iv wr => ∃ (j : Nat) (T' : Vs), j ≤ K ∧ f = .int .i64 0 ∧ iv = .int .i64 (j : Int) ∧ VI g B wr A T' ∧ Pt.Stp (fp A T) (fp A T') w1 wr ∧ Rdn T T' RL j) (fun f iv _ => K - (intOf iv).toNat)
  case atStart => exact ⟨0, T, by omega, rfl, rfl, h1, below_stp (Below.refl _ _), ⟨hg.onW, rfl, rfl, by unfold qbs; rw [hg.q]; rfl, rfl, by omega, rfl, by omega, by omega⟩⟩
  case round =>
    obtain ⟨j, T', hj, rfl, rfl, hv, hst, hR⟩ := hrel
    have hII := ii_stp hII4 hst hlt4
    have hO := ii_stp hz1 hst hpf
    have hql : T'.S.q.length = j := by
      have e := congrArg List.length hR.q
      unfold qbs at e
      rw [List.length_map, List.length_take, ← HK.out] at e
      omega
    by_cases hlt : j < K
    · obtain ⟨b6, o6, rfl, hc6⟩ := hII.cells (by omega)
      have e6 := hc6 j hlt
      have hjl : j < RL.length := by rw [← HK.out]; exact hlt
      have hget : RL.getD j 0 = RL[j] := by rw [List.getD_eq_getElem?_getD, List.getElem?_eq_getElem hjl]; rfl
      obtain ⟨b, hb, hbN, hmay⟩ := hri (RL.getD j 0) (by rw [hget]; exact List.getElem_mem _)
      have hnq : (b : Int) ∉ qbs T'.S := by
        rw [hR.q, ← hb, hget]
        intro hm
        obtain ⟨i, hi, e⟩ := List.mem_iff_getElem.1 hm
        rw [List.getElem_take] at e
        have hi2 : i < j := by rw [List.length_take] at hi; omega
        have := (List.pairwise_iff_getElem.1 hnd) i j (by omega) hjl hi2
        exact this e
      have hcn : chs T.P (b : Int) ≠ [] := by
        intro e
        unfold may at hmay
        rw [e] at hmay
        simp at hmay
      have hmay' : may T' (b : Int) = true := by
        unfold may
        rw [hR.P]
        have h3 : (qbs T'.S).contains (b : Int) = false := by
          rw [← Bool.not_eq_true]
          exact fun hcn => hnq (List.contains_iff_mem.1 hcn)
        rw [h3]
        cases hce : chs T.P (b : Int) with
        | nil => exact absurd hce hcn
        | cons _ _ => rfl
      rw [hb] at e6
      have hj0 : (0 : Int) ≤ (j : Int) := by omega
      have hjK : (j : Int) < (K : Int) := by omega
      have hone := vhasOne_ok hv (b : Int) ⟨by omega, by omega⟩ p n c O hO hup (by
        obtain ⟨pv, r, e⟩ := List.exists_cons_of_ne_nil hP
        exact List.ne_nil_of_mem (hin pv (by rw [e]; simp))) (by
        obtain ⟨z, hz⟩ := List.exists_mem_of_ne_nil _ hcn
        obtain ⟨pv, hp, hpo, rfl⟩ := chs_mem hz
        exact ⟨(pv.id : Int), List.mem_map.2 ⟨pv, by rw [hR.P]; exact hpo, rfl⟩, hin pv hp⟩)
      have HR := (show Hid _ from hR)
      have HB : Hid ((b : Int) ∉ qbs T'.S ∧ chs T.P (b : Int) ≠ [] ∧ may T' (b : Int) = true ∧ b < T.S.N ∧ RL.getD j 0 = (b : Int) ∧ j < RL.length) := ⟨hnq, hcn, hmay', hbN, hb, hjl⟩
      have HQ := (show Hid _ from hql)
      clear hc6 hnq hcn hmay' hbN hb hjl hget hmay hql hO hR
      go_wp2_with fail
      refine Pt.below_at hone ?_
      intro w3 hb3
      have hv3 := hv.later hb3
      have c2 := hv3.c2
      have hqu := queue_ok hv3.cd.di
      rw [HQ.out] at hqu
      have hj64 : (j : Int) < 64 := by omega
      clear hone
      dsimp only
      go_wp2_with fail
      refine Calls.mono hqu ?_
      rintro e w4 ⟨q5, gs5, rfl, _, hb4⟩
      have hv4 := hv3.later hb4
      have hwr := vwr_ok hv4 b (by rw [HR.out.N]; exact HB.out.2.2.2.1) HB.out.2.2.1 (by have := HR.out.C; omega) (by rw [HQ.out]; omega) (by have := HR.out.Sl; omega) (by have := HR.out.NW; omega)
      clear hqu
      dsimp only
      go_wp2_with fail
      refine Calls.mono hwr ?_
      rintro e w5 ⟨rfl, T5, hv5, hst5, hW⟩
      have HX : Hid (Rdn T T5 RL (j + 1)) := by
        have hr := HR.out
        have hb := HB.out
        have hl : (chs T'.P (b : Int)).length ≤ 1000 := by
          rw [hr.P]
          exact chs_len h b hg
        obtain ⟨o1, o2, o3, o4, o5, o6⟩ := hr.on.wrote hv hW hb.1 hl (by rw [hr.P]; exact hb.2.1)
        refine ⟨o1, o2.trans hr.all, o4.trans hr.P, ?_, o5.trans hr.N, by rw [o6, hr.Sl]; omega, hW.last.trans hr.last, by rw [hW.C, hr.C]; omega, by have := hW.N; have := hr.NW; omega⟩
        have : qbs T5.S = qbs T'.S ++ [(b : Int)] := by unfold qbs; rw [o3, List.map_append]; rfl
        rw [this, hr.q, ← hb.2.2.2.2.1]
        exact (Pt.take_one hb.2.2.2.2.2).symm
      have hst5' : Pt.Stp (fp A T) (fp A T5) w1 w5 := hst.trans ((below_stp (D := fp A T') (Pt.below_on hb3 hb4)).trans hst5)
      clear hwr
      dsimp only
      go_wp2_with fail
      go_roundw
      case rel => exact ⟨j + 1, T5, by omega, by simp, by go_num, hv5, hst5', HX.out⟩
      case measure => simp [intOf]; omega
    · obtain rfl : j = K := by omega
      have hI : ¬ (j : Int) < (j : Int) := by omega
      have hdr := vdrain_ok hv hR.on
      have HR := (show Hid _ from hR)
      have HQ := (show Hid _ from hql)
      clear hR hql
      go_wp2_with fail
      refine Calls.mono hdr ?_
      rintro e w6 ⟨rfl, T6, hv6, hst6, hq6, hD⟩
      have HD := (show Hid _ from hD)
      have HQ6 := (show Hid _ from hq6)
      have hst' : Pt.Stp (fp A T) (fp A T6) w w6 := hs1.trans (hst.trans hst6)
      clear hdr hD hq6
      dsimp only
      go_wp2_with fail
      go_ret
      have hd := HD.out
      have hr := HR.out
      refine ⟨by simp, T6, hv6, hst', hd.on.good HQ6.out, hd.all.trans hr.all, fun pv hp => by rw [← hr.P]; exact hd.P pv hp, ?_, hd.N.trans hr.N, hd.last.trans hr.last, ?_, ?_, ?_⟩
      · have h1 := hd.len
        rw [HQ6.out, HQ.out, hr.P] at h1
        simp at h1
        omega
      · have := hd.C
        have := hr.C
        omega
      · rw [hd.Sl, hr.Sl]
        omega
      · rw [hd.NW]
        have := hr.NW
        omega
end
end Go.Proofs.YtinigfidofgaiaaGreat
