/- XB -/
import Derived.Test.YtinigfidofgaiaaGreatGr34

/- Marks: a write, its end, done or failed, a crash. -/
namespace Go.Proofs.YtinigfidofgaiaaGreat
open Go.RowKit Go.Maps
set_option linter.unusedVariables false
set_option maxRecDepth 100000

/-- One number of those that are done. -/
def crash1 (q : List Wr) (f : Nat → List Int) (id : Int) : Nat → List Int := match q.find? (fun y => y.id == id) with | some x => upd f x.block x.bytes | none => f

section
variable {g : Int} {B : Nat} {w w' : World} {A : At} {T T' : Vs} {b k : Nat} {of : List (List Int)} {y : Wr} {s : Sn} {ok : Bool}

theorem erase_mem {q : List Wr} {z : Wr} (hz : z ∈ q.eraseIdx k) : ∃ i, i ≠ k ∧ q[i]? = some z := List.mem_eraseIdx_iff_getElem?.1 hz
theorem erase_ne {q : List Wr} (h : q.Pairwise (fun y z => y.block ≠ z.block)) (hy : q[k]? = some y) {z : Wr} (hz : z ∈ q.eraseIdx k) : z.block ≠ y.block := by
  obtain ⟨i, hne, hi⟩ := erase_mem hz
  obtain ⟨h1, e1⟩ := List.getElem?_eq_some_iff.1 hy
  obtain ⟨h2, e2⟩ := List.getElem?_eq_some_iff.1 hi
  subst e1 e2
  rcases Nat.lt_or_gt_of_ne hne with hl | hl
  · exact List.pairwise_iff_getElem.1 h i k h2 h1 hl
  · exact fun e => List.pairwise_iff_getElem.1 h k i h1 h2 hl e.symm
theorem mem_erase {q : List Wr} {z : Wr} (hz : z ∈ q) (hy : q[k]? = some y) (hne : z.block ≠ y.block) : z ∈ q.eraseIdx k := by
  obtain ⟨i, hi⟩ := List.getElem?_of_mem hz
  refine List.mem_eraseIdx_iff_getElem?.2 ⟨i, fun e => ?_, hi⟩
  subst e
  rw [hy] at hi
  cases hi
  exact hne rfl

/-- The end of the kth write. -/
theorem OnW.endedK (h : OnW T) (hy : T.S.q[k]? = some y) (hs : Wy T y s) (he : Ended T T' k y s ok) : OnW T' := by
  have eS : T'.S = T.S.done k y ok := he.S
  have eq' : T'.S.q = T.S.q.eraseIdx k := by rw [eS]; rfl
  have ef : T'.S.f = if ok then upd T.S.f y.block y.bytes else T.S.f := by rw [eS]; rfl
  have eN : T'.S.N = T.S.N := by rw [eS]; rfl
  have eP : T'.P = if ok then Pt.kpP T.P s.zs else T.P := he.P
  have hsub : ∀ p ∈ T'.P, p ∈ T.P := by
    intro p hp
    rw [eP] at hp
    cases ok
    · exact hp
    · exact (Pt.mem_kpP.1 hp).1
  have hbad : (Pt.still T.P s.zs).any (Pt.bad T.P s.zs) = false := Pt.bad_none h.gd hs.cl
  refine ⟨?_, by rw [he.vx]; exact h.x, fun p hp => by rw [eN]; exact h.blk p (hsub p hp), by rw [eq']; exact h.two.sublist (List.eraseIdx_sublist _ _), ?_, ?_⟩
  · rw [eP]
    cases ok
    · exact h.gd
    · exact h.gd.kp hbad
  · intro z hz
    rw [eq'] at hz
    have hne := erase_ne h.two hy hz
    obtain ⟨i, _, hi⟩ := erase_mem hz
    obtain ⟨s', hs'⟩ := h.wy z (List.mem_of_getElem? hi)
    have hY' : T'.Y (z.block : Int) = some s' := by
      rw [he.Y]
      unfold Pt.fput
      rw [if_neg (by omega)]
      exact hs'.Y
    cases ok
    · have eP' : T'.P = T.P := eP
      have ef' : T'.S.f = T.S.f := ef
      exact ⟨s', ⟨hY', hs'.id, by rw [eP']; exact hs'.cl, by rw [he.last]; exact hs'.kn, hs'.len, by rw [eP']; exact hs'.blk, by rw [eP']; exact hs'.some, by rw [eP', ef']; exact hs'.now⟩⟩
    · have eP' : T'.P = Pt.kpP T.P s.zs := eP
      have ef' : T'.S.f = upd T.S.f y.block y.bytes := ef
      refine ⟨s', ⟨hY', hs'.id, by rw [eP']; exact cl_kp hs'.cl, by rw [he.last]; exact hs'.kn, hs'.len, ?_, ?_, ?_⟩⟩
      · intro p hp hm
        exact hs'.blk p (hsub p hp) hm
      · obtain ⟨p, hp, hm⟩ := hs'.some
        rw [eP']
        exact ⟨p, Pt.mem_kpP.2 ⟨hp, fun hm' => hne ((hs'.blk p hp hm).symm.trans (hs.blk p hp hm'))⟩, hm⟩
      · rw [eP', ef', kp_comm]
        rw [ofB_kp (P := Pt.kpP T.P s'.zs) (fun p hp hm => hs.blk p (Pt.mem_kpP.1 hp).1 hm) hne, ofB_kp hs.blk hne]
        unfold upd
        rw [if_neg hne]
        exact hs'.now
  · intro c hc
    rw [he.Y]
    unfold Pt.fput
    by_cases e : c = (y.block : Int)
    · rw [if_pos e]
    · rw [if_neg e]
      refine h.off c (fun hm => hc ?_)
      unfold qbs at hm ⊢
      obtain ⟨z, hz, rfl⟩ := List.mem_map.1 hm
      rw [eq']
      exact List.mem_map.2 ⟨z, mem_erase hz hy (by omega), rfl⟩

theorem Mks.ended (h : Mks of T) (hy : T.S.q[k]? = some y) (hs : Wy T y s) (he : Ended T T' k y s ok) : Mks of T' := by
  have hyq := List.mem_of_getElem? hy
  have eS : T'.S = T.S.done k y ok := he.S
  have eq' : T'.S.q = T.S.q.eraseIdx k := by rw [eS]; rfl
  have ef : T'.S.f = if ok then upd T.S.f y.block y.bytes else T.S.f := by rw [eS]; rfl
  have eN : T'.S.N = T.S.N := by rw [eS]; rfl
  have el : T'.S.last = T.S.last := by rw [eS]; rfl
  have eP : T'.P = if ok then Pt.kpP T.P s.zs else T.P := he.P
  have hsub : ∀ p ∈ T'.P, p ∈ T.P := by
    intro p hp
    rw [eP] at hp
    cases ok
    · exact hp
    · exact (Pt.mem_kpP.1 hp).1
  have hqs : ∀ z ∈ T'.S.q, z ∈ T.S.q := by
    intro z hz
    rw [eq'] at hz
    obtain ⟨i, _, hi⟩ := erase_mem hz
    exact List.mem_of_getElem? hi
  have hfs : ∀ n, (Pt.fP T'.P n).isSome = true → (Pt.fP T.P n).isSome = true := by
    intro n hn
    obtain ⟨p, hp, e⟩ := Pt.fP_isSome.1 hn
    exact Pt.fP_isSome.2 ⟨p, hsub p hp, e⟩
  have hm := h.m
  -- what is done now: done before, or of this write
  have hdone : ∀ i, i < of.length → Pt.fP T'.P ((i + 1 : Nat) : Int) = none → Pt.fP T.P ((i + 1 : Nat) : Int) = none ∨ (ok = true ∧ ((i + 1 : Nat) : Int) ∈ s.zs ∧ (Pt.fP T.P ((i + 1 : Nat) : Int)).isSome = true) := by
    intro i hi hn
    cases ok
    · rw [show T'.P = T.P from eP] at hn
      exact .inl hn
    · rw [show T'.P = Pt.kpP T.P s.zs from eP, Pt.fP_kp] at hn
      by_cases e : ((i + 1 : Nat) : Int) ∈ s.zs
      · cases hf : Pt.fP T.P ((i + 1 : Nat) : Int) with
        | none => exact .inl rfl
        | some p => exact .inr ⟨rfl, e, rfl⟩
      · rw [if_neg e] at hn
        exact .inl hn
  refine ⟨h.onw.endedK hy hs he, eN.trans h.N, h.m, he.last.trans h.last, h.sh.sub hsub, ?_, fun z hz => h.ql z (hqs z hz), ?_, ?_, ?_, ?_, h.low, ?_, by rw [eq']; exact h.inc.sublist (List.eraseIdx_sublist _ _), fun z hz => by rw [el]; exact h.top z (hqs z hz)⟩
  · intro c
    rw [ef]
    cases ok
    · exact h.len c
    · show (upd T.S.f y.block y.bytes c).length = 128
      unfold upd
      split
      · exact h.ql y hyq
      · exact h.len c
  · intro i hi hn
    have hd := hdone i hi hn
    rw [ef]
    cases ok
    · rcases hd with hd | ⟨hd, _⟩
      · exact h.one i hi hd
      · cases hd
    · show (upd T.S.f y.block y.bytes (i % 8)).getD i 0 = 1
      unfold upd
      by_cases e : i % 8 = y.block
      · rw [if_pos e]
        exact h.bytes hyq hs i hi e (hd.imp id (fun h => h.2.1))
      · rw [if_neg e]
        rcases hd with hd | ⟨_, hz, hp⟩
        · exact h.one i hi hd
        · obtain ⟨p, hp, e2⟩ := Pt.fP_isSome.1 hp
          have h1 := hs.blk p hp (by rw [e2]; exact hz)
          have h2 := h.sh p hp
          exfalso
          apply e
          rw [← h1, h2.1]
          congr 1
          omega
  · intro p hp
    have hpT := hsub p hp
    rw [ef]
    cases ok
    · exact h.zero p hpT
    · show (upd T.S.f y.block y.bytes ((p.id - 1) % 8)).getD (p.id - 1) 0 = 0
      rw [show T'.P = Pt.kpP T.P s.zs from eP] at hp
      have h2 := h.sh p hpT
      unfold upd
      by_cases e : (p.id - 1) % 8 = y.block
      · rw [if_pos e]
        exact h.qz y hyq s hs.Y p hpT (by rw [h2.1]; exact e) (Pt.mem_kpP.1 hp).2
      · rw [if_neg e]
        exact h.zero p hpT
  · intro p hp n hn hf
    exact h.nd p (hsub p hp) n hn (hfs n hf)
  · intro i hi hn n hni
    rcases hdone i hi hn with hd | ⟨rfl, hz, hp⟩
    · have h1 := h.dn i hi hd n hni
      cases hf : (Pt.fP T'.P n).isSome with
      | false => rfl
      | true => rw [hfs n hf] at h1; cases h1
    · obtain ⟨p, hp, e2⟩ := Pt.fP_isSome.1 hp
      rw [show T'.P = Pt.kpP T.P s.zs from eP, Pt.fP_kp]
      by_cases e : n ∈ s.zs
      · rw [if_pos e]; rfl
      · rw [if_neg e]
        cases hf : (Pt.fP T.P n).isSome with
        | false => rfl
        | true =>
          have hid : p.id - 1 = i := by omega
          have hnd := h.nd p hp n (by rw [hid]; exact hni) hf
          exact absurd (Pt.lk_false.1 (hs.cl p hp (by rw [e2]; exact hz)) n hnd hf) e
  · intro z hz s' hs' p hp hb hnz
    have hz' := hz
    rw [eq'] at hz'
    have hne := erase_ne h.onw.two hy hz'
    have hY : T.Y (z.block : Int) = some s' := by
      rw [he.Y] at hs'
      unfold Pt.fput at hs'
      rw [if_neg (by omega)] at hs'
      exact hs'
    exact h.qz z (hqs z hz) s' hY p (hsub p hp) hb hnz

theorem Mks.wrote (hv : VI g B w A T) (h : Mks of T) (hw : Wrote T T' b) (hb : (b : Int) ∉ qbs T.S) (hc0 : chs T.P (b : Int) ≠ []) (hl : (chs T.P (b : Int)).length ≤ 1000) : Mks of T' := by
  obtain ⟨ho, _, eq', eP, eN, el⟩ := h.onw.wrote hv hw hb hl hc0
  have ef : T'.S.f = T.S.f := by rw [hw.S]; rfl
  have hm := h.m
  refine ⟨ho, eN.trans h.N, h.m, hw.last.trans h.last, by rw [eP]; exact h.sh, by rw [ef]; exact h.len, ?_, by rw [eP, ef]; exact h.one, by rw [eP, ef]; exact h.zero, by rw [eP]; exact h.nd, by rw [eP]; exact h.dn, h.low, ?_, ?_, ?_⟩
  · intro z hz
    rw [eq'] at hz
    rcases List.mem_append.1 hz with h1 | h1
    · exact h.ql z h1
    · simp at h1
      subst h1
      exact (hv.sect b).1
  · intro z hz s' hs' p hp hbl hnz
    rw [eP] at hp
    rw [eq'] at hz
    obtain ⟨s, e1, e2, e3⟩ := hw.Y
    rw [e3] at hs'
    unfold Pt.fput at hs'
    rcases List.mem_append.1 hz with h1 | h1
    · rw [if_neg (fun e => hb (List.mem_map.2 ⟨z, h1, e⟩))] at hs'
      exact h.qz z h1 s' hs' p hp hbl hnz
    · simp at h1
      subst h1
      have hbl' : p.blk = b := hbl
      rw [if_pos rfl] at hs'
      cases hs'
      have h2 := h.sh p hp
      have hmk := pst_mark (m := of.length) (by omega) T.P (Pt.ofB T.P (b : Int)) [] (T.S.f b) (h.len b) (sh_ofB h.sh _) (p.id - 1) (by omega) (by
        rw [chs_any, ← e2]
        have : ((p.id - 1 + 1 : Nat) : Int) = (p.id : Int) := by omega
        rw [this]
        exact hnz)
      show (outOf T b).getD (p.id - 1) 0 = 0
      unfold outOf
      rw [hmk]
      have hz := h.zero p hp
      unfold mrk at hz
      rw [← h2.1, hbl'] at hz
      exact hz
  · rw [eq', List.pairwise_append]
    refine ⟨h.inc, List.pairwise_singleton _ _, fun z hz u hu => ?_⟩
    simp at hu
    subst hu
    have := h.top z hz
    show z.id < T.S.last + 1
    omega
  · intro z hz
    rw [eq'] at hz
    rw [el]
    rcases List.mem_append.1 hz with h1 | h1
    · have := h.top z h1; omega
    · simp at h1
      subst h1
      exact Int.le_refl _

theorem inc_same {q : List Wr} (h : q.Pairwise (fun y z => y.id < z.id)) {x z : Wr} (hx : x ∈ q) (hz : z ∈ q) (e : x.id = z.id) : x = z := by
  obtain ⟨i, hi, rfl⟩ := List.mem_iff_getElem.1 hx
  obtain ⟨j, hj, rfl⟩ := List.mem_iff_getElem.1 hz
  rcases Nat.lt_trichotomy i j with h1 | h1 | h1
  · have := List.pairwise_iff_getElem.1 h i j hi hj h1; omega
  · subst h1; rfl
  · have := List.pairwise_iff_getElem.1 h j i hj hi h1; omega

theorem inc_idx {q : List Wr} (h : q.Pairwise (fun y z => y.id < z.id)) {k : Nat} {x : Wr} (hx : q[k]? = some x) : q.findIdx? (fun y => y.id == x.id) = some k := by
  obtain ⟨hk, e⟩ := List.getElem?_eq_some_iff.1 hx
  rw [List.findIdx?_eq_some_iff_getElem]
  refine ⟨hk, by simp [e], fun j hj => ?_⟩
  have h3 := List.pairwise_iff_getElem.1 h j k (by omega) hk hj
  rw [e] at h3
  simp
  omega

theorem crash_fold {q : List Wr} (hi : q.Pairwise (fun y z => y.id < z.id)) : ∀ (ids : List Int) (f : Nat → List Int), (∀ id ∈ ids, ∃ y ∈ q, y.id = id) → ∀ b, (∃ y ∈ q, y.block = b ∧ y.id ∈ ids ∧ ids.foldl (crash1 q) f b = y.bytes) ∨ ((∀ y ∈ q, y.block = b → y.id ∉ ids) ∧ ids.foldl (crash1 q) f b = f b)
  | [], f, _, b => .inr ⟨fun y _ _ => by simp, rfl⟩
  | id :: ids, f, hall, b => by
    show (∃ y ∈ q, y.block = b ∧ y.id ∈ id :: ids ∧ ids.foldl (crash1 q) (crash1 q f id) b = y.bytes) ∨ _
    rcases crash_fold hi ids (crash1 q f id) (fun x hx => hall x (by simp [hx])) b with ⟨y, h1, h2, h3, h4⟩ | ⟨h1, h2⟩
    · exact .inl ⟨y, h1, h2, by simp [h3], h4⟩
    · obtain ⟨x0, hx0, e0⟩ := hall id (by simp)
      have hsome : (q.find? (fun y => y.id == id)).isSome = true := by rw [List.find?_isSome]; exact ⟨x0, hx0, by simp [e0]⟩
      obtain ⟨x, hx⟩ := Option.isSome_iff_exists.1 hsome
      have hxm := List.mem_of_find?_eq_some hx
      have hxe : x.id = id := by simpa using List.find?_some hx
      have hc : crash1 q f id = upd f x.block x.bytes := by unfold crash1; rw [hx]
      rw [hc] at h2 ⊢
      by_cases e : x.block = b
      · refine .inl ⟨x, hxm, e, by simp [hxe], ?_⟩
        rw [h2]
        unfold upd
        rw [if_pos e.symm]
      · refine .inr ⟨fun y hy hb hm => ?_, ?_⟩
        · rcases List.mem_cons.1 hm with h3 | h3
          · have := inc_same hi hy hxm (by rw [h3, hxe])
            subst this
            exact e hb
          · exact h1 y hy hb h3
        · show ids.foldl (crash1 q) (crash1 q f id) b = f b
          rw [hc, h2]
          unfold upd
          rw [if_neg (fun h => e h.symm)]

/-- Behind a crash each mark that is there has the marks of all that it needs. -/
theorem Mks.crash (h : Mks of T) (ids : List Int) (hall : ∀ id ∈ ids, ∃ y ∈ T.S.q, y.id = id) (i : Nat) (hi : i < of.length) (hne : mrk (ids.foldl (crash1 T.S.q) T.S.f) i ≠ 0) : ∀ n ∈ of.getD i [], mrk (ids.foldl (crash1 T.S.q) T.S.f) (n.toNat - 1) ≠ 0 := by
  have hm := h.m
  have hF := crash_fold h.inc ids T.S.f hall
  generalize ids.foldl (crash1 T.S.q) T.S.f = F at hF hne
  -- what is done has its mark
  have hdone : ∀ j, j < of.length → Pt.fP T.P ((j + 1 : Nat) : Int) = none → mrk F j = 1 := by
    intro j hj hn
    unfold mrk
    rcases hF (j % 8) with ⟨y, hy, hb, _, e⟩ | ⟨_, e⟩
    · obtain ⟨s, hs⟩ := h.onw.wy y hy
      rw [e]
      exact h.bytes hy hs j hj hb.symm (.inl hn)
    · rw [e]
      exact h.one j hj hn
  intro n hn
  have hlow := h.low i hi n hn
  have hnn : ((n.toNat - 1 + 1 : Nat) : Int) = n := by omega
  by_cases hp : (Pt.fP T.P n).isSome = true
  · -- n is pending: then i is of a write that was done, and n of the same
    cases hpi : Pt.fP T.P ((i + 1 : Nat) : Int) with
    | none =>
      have := h.dn i hi hpi n hn
      rw [hp] at this
      cases this
    | some pp =>
      obtain ⟨p, hpm, hpe⟩ := Pt.fP_isSome.1 (show (Pt.fP T.P ((i + 1 : Nat) : Int)).isSome = true by rw [hpi]; rfl)
      have hid : p.id - 1 = i := by omega
      have h2 := h.sh p hpm
      unfold mrk at hne
      rcases hF (i % 8) with ⟨y, hy, hb, _, e⟩ | ⟨_, e⟩
      · rw [e] at hne
        obtain ⟨s, hs⟩ := h.onw.wy y hy
        have hz : (p.id : Int) ∈ s.zs := by
          apply Classical.byContradiction
          intro hnz
          apply hne
          have := h.qz y hy s hs.Y p hpm (by rw [h2.1, hid]; exact hb.symm) hnz
          rw [hid] at this
          exact this
        have hnd := h.nd p hpm n (by rw [hid]; exact hn) hp
        have hnz := Pt.lk_false.1 (hs.cl p hpm hz) n hnd hp
        obtain ⟨u, hu, eu⟩ := Pt.fP_isSome.1 hp
        have hub := hs.blk u hu (by rw [eu]; exact hnz)
        have hus := h.sh u hu
        have hun : u.id - 1 = n.toNat - 1 := by omega
        have hblk : (n.toNat - 1) % 8 = i % 8 := by rw [← hun, ← hus.1, hub, hb]
        unfold mrk
        rw [hblk, e]
        rw [h.bytes hy hs (n.toNat - 1) (by omega) (by rw [hblk]; exact hb.symm) (.inr (by rw [hnn]; exact hnz))]
        decide
      · rw [e] at hne
        have := h.zero p hpm
        unfold mrk at this
        rw [hid] at this
        exact absurd this hne
  · have hnone : Pt.fP T.P ((n.toNat - 1 + 1 : Nat) : Int) = none := by rw [hnn]; simpa using hp
    rw [hdone (n.toNat - 1) (by omega) hnone]
    decide
end
end Go.Proofs.YtinigfidofgaiaaGreat
