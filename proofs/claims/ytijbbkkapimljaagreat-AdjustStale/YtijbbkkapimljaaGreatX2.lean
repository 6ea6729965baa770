/- bollardplain's Now of a volume without patches. -/
import Derived.Test.YtijbbkkapimljaaGreatX1
namespace Go.Proofs.YtijbbkkapimljaaGreat
open Go.RowKit Go.Maps Go.MuLone
set_option linter.unusedVariables false
set_option maxRecDepth 100000

/-- A row of rows with one row more, which is new since the world wr. -/
theorem PI.snoc {B : Nat} {wr w1 w3 : World} {u v3 : Value} {j m : Nat} {vs : List Value} {L : List (List Int)} {p1 : Option Addr} {c1 : Nat} {xs : List Int}
    (hp : PI B wr u j vs L) (hp1 : PI B w1 u j vs L) (hB : B ≤ wr.heap.size)
    (ho1 : w1.ownsRow wr.heap.size 5 1 (.slice p1 m c1) m (xs.map (Value.int .u8))) (hm : m ≤ 140737488355328) (hx : Num.Byt xs)
    (hkeep : ∀ (u' : Value) (l : Nat) (Lx : List Value), w1.ownsRow B 5 1 u' l Lx → w3.ownsRow B 5 1 u' l Lx)
    (hown3 : w3.ownsRow B 75 1 v3 (j + 1) (vs ++ [.slice p1 m c1])) : PI B w3 v3 (j + 1) (vs ++ [.slice p1 m c1]) (L ++ [xs]) := by
  have hl := hp.vlen
  have hll := hp.len
  have ho1' : w1.ownsRow B 5 1 (.slice p1 m c1) m (xs.map (Value.int .u8)) := by
    refine ⟨ho1.1, ?_⟩
    rcases ho1.2 with h' | ⟨g', cap', cur, h', hbg, rest⟩
    · exact .inl h'
    · exact .inr ⟨g', cap', cur, h', Nat.le_trans hB hbg, rest⟩
  have hold : ∀ (i : Nat) (u : Value) (k : Nat), vs[i]? = some u → u.ownBlock = some k → k < wr.heap.size := fun i u k hu hk => by
    have hil := (List.getElem?_eq_some_iff.1 hu).1
    obtain ⟨q, m, d, eu, ho, _⟩ := hp.el i u _ hu (List.getElem?_eq_getElem (by omega))
    rw [eu] at hk
    exact (ho.lt k hk).2
  refine ⟨hown3, by rw [List.length_append, hll]; rfl, ?_, ?_⟩
  · intro i u' ys hu hy
    by_cases hi : i < j
    · rw [List.getElem?_append_left (by omega)] at hu hy
      obtain ⟨q', m', d', eu, ho, hm, hbt⟩ := hp1.el i u' ys hu hy
      exact ⟨q', m', d', eu, hkeep _ _ _ ho, hm, hbt⟩
    · rw [List.getElem?_append_right (by omega)] at hu hy
      have hi0 : i - vs.length = 0 := by have := (List.getElem?_eq_some_iff.1 hu).1; simpa using this
      rw [hi0] at hu
      rw [hll, ← hl, hi0] at hy
      simp at hu hy
      subst hu
      subst hy
      exact ⟨p1, m, c1, rfl, hkeep _ _ _ ho1', hm, hx⟩
  · intro i i' u' u'' k hu hu' hk hk'
    have key : ∀ (i : Nat) (u' : Value), (vs ++ [Value.slice p1 m c1])[i]? = some u' → u'.ownBlock = some k → (i < j ∧ k < wr.heap.size ∧ vs[i]? = some u') ∨ (i = j ∧ wr.heap.size ≤ k) := by
      intro i u' hu hk
      by_cases hi : i < j
      · rw [List.getElem?_append_left (by omega)] at hu
        exact .inl ⟨hi, hold i u' k hu hk, hu⟩
      · rw [List.getElem?_append_right (by omega)] at hu
        have hi0 : i - vs.length = 0 := by have := (List.getElem?_eq_some_iff.1 hu).1; simpa using this
        rw [hi0] at hu
        simp at hu
        subst hu
        exact .inr ⟨by omega, (ho1.lt k hk).1⟩
    rcases key i u' hu hk with ⟨a1, a2, a3⟩ | ⟨a1, a2⟩
    · rcases key i' u'' hu' hk' with ⟨b1, b2, b3⟩ | ⟨b1, b2⟩
      · exact hp1.ne i i' u' u'' k a3 b3 hk hk'
      · omega
    · rcases key i' u'' hu' hk' with ⟨b1, b2, b3⟩ | ⟨b1, b2⟩
      · omega
      · omega

/-- It is there as long as rows of bytes, and of rows, stay. -/
theorem PI.keepT {B : Nat} {w w' : World} {v : Value} {n : Nat} {vs : List Value} {L : List (List Int)} (h : PI B w v n vs L) (hb : ∀ (k : Nat) (cs : Array Value) (t : TypeId), (t = 5 ∨ t = 75) → w.heap[k]? = some (Obj.cells cs t (0, 0)) → w'.heap[k]? = w.heap[k]?) : PI B w' v n vs L := by
  refine ⟨ownsRow_kept h.row (fun k hk => ?_), h.len, fun i u xs hu hx => ?_, h.ne⟩
  · obtain ⟨cs, hc⟩ := own_ty h.row hk
    exact hb k cs 75 (.inr rfl) hc
  · obtain ⟨q, m, d, eu, ho, hm, hbt⟩ := h.el i u xs hu hx
    refine ⟨q, m, d, eu, ownsRow_kept ho (fun k hk => ?_), hm, hbt⟩
    obtain ⟨cs, hc⟩ := own_ty ho hk
    exact hb k cs 5 (.inl rfl) hc

theorem imgL_succ (f : Nat → List Int) (n : Nat) : imgL f (n + 1) = imgL f n ++ [f n] := by simp [imgL, List.range_succ]

theorem VE.later {B : Nat} {w w' : World} {v d c s m mb p1 p2 dm df : Nat} {C : Ch} {S : St} {k : Nat} (h : VE B w v d c s m mb p1 p2 dm df C S k) (hb : Below w.heap.size w w') : VE B w' v d c s m mb p1 p2 dm df C S k :=
  ⟨h.cd.later hb, h.sn, kept_row h.set hb, kept_row h.pm2 hb, h.ne, h.ok, h.f0, h.lo⟩

/-- What changes one row of rows leaves the volume. -/
theorem VE.rows {B : Nat} {w w' : World} {v d c s m mb p1 p2 dm df : Nat} {C : Ch} {S : St} {k : Nat} (h : VE B w v d c s m mb p1 p2 dm df C S k) {u : Value} {B' n : Nat} {vs : List Value} (ho : w.ownsRow B' 75 1 u n vs) (hg : w.grownBy w' u.ownBlock) : VE B w' v d c s m mb p1 p2 dm df C S k := by
  have hne : ∀ j, u.ownBlock = some j → ∃ cs, w.heap[j]? = some (.cells cs 75 (0, 0)) := fun j hj => own_ty ho hj
  have key : ∀ j, j < w.heap.size → (∀ cs, w.heap[j]? ≠ some (.cells cs 75 (0, 0))) → w'.heap[j]? = w.heap[j]? := fun j hj hn => hg.block j hj (fun e => by obtain ⟨cs, hc⟩ := hne j e.symm; exact hn cs hc)
  refine ⟨⟨h.cd.ci.kept (fun j hj => key j (h.cd.ci.toCW.in j hj).2 (fun cs hc => cfoot_ne h.cd.ci.toCW hc (by decide) (by decide) hj)), h.cd.di.kept (fun j hj => key j (h.cd.di.in j hj).2 (fun cs hc => ?_)), h.cd.ne⟩, h.sn, (key s (Array.getElem?_eq_some_iff.1 h.set).1 (fun cs hc => by rw [h.set] at hc; simp at hc)).trans h.set, (key p2 (Array.getElem?_eq_some_iff.1 h.pm2).1 (fun cs hc => by rw [h.pm2] at hc; cases hc)).trans h.pm2, h.ne, h.ok, h.f0, h.lo⟩
  obtain ⟨D1, ⟨es1, k1, hm1, _⟩, _⟩ := h.cd.di.secs.ex
  obtain ⟨D2, ⟨es2, k2, hm2, _⟩, _⟩ := h.cd.di.fls.ex
  rcases hj with rfl | rfl | rfl | hk
  · have := h.cd.di.row; rw [hc] at this; simp at this
  · rw [hc] at hm1; cases hm1
  · rw [hc] at hm2; cases hm2
  · simp [Value.ownBlock] at hk

/-- A pair's own block. -/
def PRow (w : World) (p d v xd y : Nat) : Prop := w.heap[p]? = some (.cells #[.pointer (some ⟨d, 0, none⟩), .pointer (some ⟨v, 0, none⟩), .pointer (some ⟨xd, 0, none⟩), .pointer (some ⟨y, 0, none⟩)] 56 (0, 0))

set_option maxHeartbeats 2000000 in
theorem pnow_ok {B : Nat} {w : World} {p xd y v d c s m mb p1 p2 dm df : Nat} {C : Ch} {S : St} {k : Nat} (h : VE B w v d c s m mb p1 p2 dm df C S k) (hR : VRow w v d c s m none) (hP : PRow w p d v xd y) (hk : k ≤ 1000000) (hB : B ≤ w.heap.size) :
    Calls Tryz.prog 13 #[.pointer (some ⟨p, 0, none⟩)] w fun e w' => ∃ u vs, e = .returned u ∧ PI w.heap.size w' u S.N vs (imgL S.f S.N) ∧ Below B w w' := by
  obtain ⟨i9, hi9, hx0, hx1, hx2⟩ := info_parts info30
  have hN := h.cd.di.N2
  have hP1 := hP
  unfold PRow at hP1
  have k1 : w.cell? ⟨p, 1, none⟩ = some (.pointer (some ⟨v, 0, none⟩)) := cell_of_row _ _ 1 _ 56 _ hP1
  have hbl := vblocks_ok hR.made h.cd.di.c0
  have HV := (show Hid _ from h)
  have HR := (show Hid _ from hR)
  have HP := (show Hid _ from hP)
  clear h hR hP hP1
  go_enter Tryz.func13, Tryz.ntmps13
  go_wp2_with (first | (go_at_call 17; refine same_at hbl ?_))
  go_loopw [3, 12] (fun u i wr => ∃ (j : Nat) (vs : List Value) (C' : Ch) (u' : Value), j ≤ S.N ∧ i = .int .i64 (j : Int) ∧ u' = u ∧ PI w.heap.size wr u' j vs (imgL S.f j) ∧ VE B wr v d c s m mb p1 p2 dm df C' S (k + j) ∧ VRow wr v d c s m none ∧ PRow wr p d v xd y ∧ Below B w wr) (fun _ i _ => S.N - (intOf i).toNat)
  case atStart => exact ⟨0, [], C, _, by omega, rfl, rfl, ⟨World.ownsRow_nil _ _ _ _, by simp [imgL], by simp, by simp⟩, HV.out, HR.out, HP.out, Below.refl _ _⟩
  case round =>
    obtain ⟨j, vs, C', u, hj, rfl, rfl, hp, hv, hr, hpp, hb⟩ := hrel
    have hszw : w.heap.size ≤ wr.heap.size := hb.size
    by_cases hlt : j < S.N
    · have hpr := hpp
      unfold PRow at hpr
      have k2 : wr.cell? ⟨p, 1, none⟩ = some (.pointer (some ⟨v, 0, none⟩)) := cell_of_row _ _ 1 _ 56 _ hpr
      have hrd := vread_any hv hr (by omega) j hlt
      have hjI : (j : Int) < (S.N : Int) := by omega
      have HB := (show Hid _ from hb)
      have Hp := (show Hid _ from hp)
      have Hv := (show Hid _ from hv)
      have Hr := (show Hid _ from hr)
      have Hpp := (show Hid _ from hpp)
      clear hp hv hr hpp hpr hb
      go_wp2_with fail
      refine Calls.mono hrd ?_
      rintro e w1 ⟨x, cap, C2, rfl, ho, hv1, hr1, hfr⟩
      have cw := Hv.out.cd.ci.toCW
      have hrv := Hr.out
      unfold VRow at hrv
      have hpr := Hpp.out
      unfold PRow at hpr
      have far : ∀ (k : Nat) (cs : Array Value) (t : TypeId), (t = 5 ∨ t = 75 ∨ t = 56) → wr.heap[k]? = some (Obj.cells cs t (0, 0)) → w1.heap[k]? = wr.heap[k]? := fun k cs t ht hk => hfr.block k (Array.getElem?_eq_some_iff.1 hk).1 (fun e => by
        rcases e with rfl | e
        · rw [hrv] at hk
          simp only [Option.some.injEq, Obj.cells.injEq] at hk
          obtain ⟨_, rfl, _⟩ := hk
          rcases ht with h | h | h <;> cases h
        · exact cfoot_ne cw hk (by rcases ht with rfl | rfl | rfl <;> decide) (by rcases ht with rfl | rfl | rfl <;> decide) e)
      have hp1 := Hp.out.keepT (w' := w1) (fun k cs t ht hk => far k cs t (by rcases ht with h | h; exact .inl h; exact .inr (.inl h)) hk)
      have hpp1 : PRow w1 p d v xd y := (far p _ 56 (.inr (.inr rfl)) hpr).trans hpr
      have hbB : Below B wr w1 := hfr.below (by omega) (fun q hq => by
        rcases hq with rfl | hq
        · exact Hv.out.lo
        · exact (cw.in q hq).1)
      have hb1 : Below B w w1 := HB.out.trans hbB
      have hsz1 := hfr.size
      have hb2 := (Below.refl w1.heap.size w1).alloc (Nat.le_refl _) (.cells #[.slice (some ⟨x, 0, none⟩) 128 cap] 75)
      have hp2 := hp1.kept (w' := w1.alloc (.cells #[.slice (some ⟨x, 0, none⟩) 128 cap] 75)) (fun k _ hk => hb2.block k hk)
      have hnews : ∀ i u, [Value.slice (some ⟨x, 0, none⟩) 128 cap][i]? = some u → (w1.alloc (.cells #[.slice (some ⟨x, 0, none⟩) 128 cap] 75)).cell? ((⟨w1.heap.size, 0, none⟩ : Addr).add i) = some u := World.news_of_block (cs := #[Value.slice (some ⟨x, 0, none⟩) 128 cap]) (t := 75) (fr := (0, 0)) (at_new rfl)
      have hone : ∀ u ∈ [Value.slice (some ⟨x, 0, none⟩) 128 cap], u.oneCell' = true := by intro u hu; simp at hu; subst hu; rfl
      have HN1 := (show Hid _ from hnews)
      have HO := (show Hid _ from hone)
      have hrow2 := hp2.row
      have Hx := (show Hid (_ ∧ _ ∧ _ ∧ _ ∧ _ ∧ _ ∧ _) from ⟨ho, hv1, hr1, hpp1, hb1, hp1, hb2⟩)
      clear hnews hone hrd ho hv1 hr1 hpp1 hb1 hp1 hb2 hp2 far hrv hpr cw hfr hbB
      dsimp only
      go_wp2_with (at_builtin; refine wpList_append_own _ rfl _ _ 46 rfl w.heap.size 75 i9 (.slice none 0 0) 1 24 Tryz.underlying46 hi9 hx0 hx1 hx2 rfl (by decide) u j vs rfl hrow2 ⟨w1.heap.size, 0, none⟩ 1 1 [Value.slice (some ⟨x, 0, none⟩) 128 cap] rfl rfl HN1.out HO.out (by unfold maxLen; omega) (by omega) (by simp only [World.size_alloc]; omega) ?_)
      intro v3 w3 hown3 hgrow3 _
      obtain ⟨ho, hv1, hr1, hpp1, hb1, hp1, hb2⟩ := Hx.out
      have hb3 := (hb1.alloc (by omega) (.cells #[.slice (some ⟨x, 0, none⟩) 128 cap] 75)).grown hgrow3 (by simp only [World.size_alloc]; omega) (fun k hk => by have := (hrow2.lt k hk).1; omega)
      have hkeep : ∀ (u' : Value) (l : Nat) (Lx : List Value), w1.ownsRow w.heap.size 5 1 u' l Lx → w3.ownsRow w.heap.size 5 1 u' l Lx := fun u' l Lx ho => by
        have ho2 := ownsRow_kept ho (w' := w1.alloc (.cells #[.slice (some ⟨x, 0, none⟩) 128 cap] 75)) (fun k hk => hb2.block k (ho.lt k hk).2)
        exact ownsRow_kept ho2 (fun k hk => hgrow3.block k (ho2.lt k hk).2 (fun e => owns_ne ho2 hrow2 (by decide) hk e.symm))
      have other : ∀ (k : Nat) (cs : Array Value) (t : TypeId), t ≠ 75 → w1.heap[k]? = some (Obj.cells cs t (0, 0)) → w3.heap[k]? = some (Obj.cells cs t (0, 0)) := fun k cs t ht hk => by
        have h2 := kept_row hk hb2
        refine (hgrow3.block k (Array.getElem?_eq_some_iff.1 h2).1 (fun e => ?_)).trans h2
        obtain ⟨cs', hc'⟩ := own_ty hrow2 e.symm
        rw [h2] at hc'
        simp only [Option.some.injEq, Obj.cells.injEq] at hc'
        exact ht hc'.2.1
      have hv3 := (hv1.later hb2).rows hrow2 hgrow3
      have hr3 : VRow w3 v d c s m none := other v _ 40 (by decide) hr1
      have hpp3 : PRow w3 p d v xd y := other p _ 56 (by decide) hpp1
      go_wp2
      go_roundw
      case rel =>
        refine ⟨j + 1, vs ++ [.slice (some ⟨x, 0, none⟩) 128 cap], C2, _, by omega, by go_num, rfl, ?_, hv3, hr3, hpp3, hb3⟩
        rw [imgL_succ]
        exact Hp.out.snoc hp1 hszw ho (by omega) (Hv.out.ok.sec j).2 hkeep hown3
      case measure => simp [intOf]; omega
    · obtain rfl : j = S.N := by omega
      go_wp2
      go_ret
      exact ⟨_, vs, rfl, hp, hb⟩
end Go.Proofs.YtijbbkkapimljaaGreat
