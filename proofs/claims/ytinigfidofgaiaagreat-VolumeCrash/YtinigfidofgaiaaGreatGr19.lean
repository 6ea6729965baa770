/- PUpm PBack -/
import Derived.Test.YtinigfidofgaiaaGreatGr14
import Derived.Test.YtinigfidofgaiaaGreatGr13
import Derived.RangeFuncNested
import Derived.RangeFuncBound
import Derived.RangeFuncCalls
import Derived.RangeFuncLeaves
import Derived.RangeFuncBox
import Derived.Shelf.Abstract
import Derived.Shelf.RegionOpen
import Derived.OwnWalkIn
import Derived.TacticsInMore
import Derived.LoopNIn
import Derived.LoopIn

/- What uppermost tells: of each byte's place the latest patch that has it. -/
namespace Go.Proofs.YtinigfidofgaiaaGreat.Pt
open Go.RowKit Go.Maps
set_option maxRecDepth 100000
set_option linter.unusedVariables false

/-- A patch has a byte's place. -/
def cvs1 (p : Pv) (i : Nat) : Prop := p.off ≤ i ∧ i < endP p

/-- Patches gone through, until nothing is bare. -/
def uppF (p : Pv) : List Pv → List Bool × Int → List Int → List Int
  | [], _, I => I
  | u :: l, s, I => if 0 < (upS p u s).2 then uppF p l (upS p u s) (upI p u s I) else upI p u s I
def cov0 : List Bool := List.replicate 128 false
def uppL (P : List Pv) (p : Pv) : List Int := uppF p (ofB P (p.blk : Int)).reverse (cov0, (p.bs.length : Int)) []

theorem cvs_len (s : List Bool × Int) (i : Nat) : (cvs s i).1.length = s.1.length := by unfold cvs; split <;> simp
theorem cvr_len (s : List Bool × Int) (lo : Nat) : ∀ k, (cvr s lo k).1.length = s.1.length
  | 0 => rfl
  | k + 1 => by rw [show cvr s lo (k + 1) = cvs (cvr s lo k) (lo + k) from rfl, cvs_len, cvr_len s lo k]
theorem cvs_at (s : List Bool × Int) (i j : Nat) (hj : j < s.1.length) : (cvs s i).1.getD j true = true ↔ s.1.getD j true = true ∨ j = i := by
  unfold cvs
  by_cases h : s.1.getD i true = true
  · rw [if_pos h]
    constructor
    · exact .inl
    · rintro (h1 | rfl)
      · exact h1
      · exact h
  · rw [if_neg h]
    by_cases e : j = i
    · subst e
      simp [List.getD_eq_getElem?_getD, hj]
    · simp [List.getD_eq_getElem?_getD, e, Ne.symm e]
theorem cvr_at (s : List Bool × Int) (lo : Nat) (j : Nat) (hj : j < s.1.length) : ∀ k, (cvr s lo k).1.getD j true = true ↔ s.1.getD j true = true ∨ (lo ≤ j ∧ j < lo + k)
  | 0 => by
    rw [show cvr s lo 0 = s from rfl]
    constructor
    · exact .inl
    · rintro (h | h)
      · exact h
      · omega
  | k + 1 => by
    rw [show cvr s lo (k + 1) = cvs (cvr s lo k) (lo + k) from rfl, cvs_at _ _ _ (by rw [cvr_len]; exact hj), cvr_at s lo j hj k]
    constructor
    · rintro ((h | h) | h)
      · exact .inl h
      · exact .inr (by omega)
      · exact .inr (by omega)
    · rintro (h | h)
      · exact .inl (.inl h)
      · by_cases e : j = lo + k
        · exact .inr e
        · exact .inl (.inr (by omega))
theorem cvs_cnt (s : List Bool × Int) (i : Nat) : (cvs s i).2 + (trs (cvs s i).1 : Int) = s.2 + (trs s.1 : Int) := by
  unfold cvs
  by_cases h : s.1.getD i true = true
  · rw [if_pos h]
  · rw [if_neg h]
    have := trs_set s.1 i (by simpa using h)
    simp only [this]
    omega
theorem cvr_cnt (s : List Bool × Int) (lo : Nat) : ∀ k, (cvr s lo k).2 + (trs (cvr s lo k).1 : Int) = s.2 + (trs s.1 : Int)
  | 0 => rfl
  | k + 1 => by rw [show cvr s lo (k + 1) = cvs (cvr s lo k) (lo + k) from rfl, cvs_cnt, cvr_cnt s lo k]
theorem cvs_le (s : List Bool × Int) (i : Nat) : (cvs s i).2 ≤ s.2 := by unfold cvs; split <;> simp <;> omega
theorem cvr_le (s : List Bool × Int) (lo : Nat) : ∀ k, (cvr s lo k).2 ≤ s.2
  | 0 => Int.le_refl _
  | k + 1 => Int.le_trans (cvs_le _ _) (cvr_le s lo k)
/-- Where a place was bare, one less is. -/
theorem cvr_lt (s : List Bool × Int) (lo j : Nat) (hj : j < s.1.length) (hb : s.1.getD j true = false) : ∀ k, lo ≤ j → j < lo + k → (cvr s lo k).2 < s.2
  | 0, h1, h2 => by omega
  | k + 1, h1, h2 => by
    rw [show cvr s lo (k + 1) = cvs (cvr s lo k) (lo + k) from rfl]
    by_cases e : j < lo + k
    · exact Int.lt_of_le_of_lt (cvs_le _ _) (cvr_lt s lo j hj hb k h1 e)
    · obtain rfl : j = lo + k := by omega
      have hn : (cvr s lo k).1.getD (lo + k) true = false := by
        rw [← Bool.not_eq_true, cvr_at s lo (lo + k) hj k]
        rintro (h | h)
        · rw [hb] at h; cases h
        · omega
      have := cvr_le s lo k
      unfold cvs
      rw [hn]
      simp
      omega

theorem trs_win : ∀ (l : List Bool) (lo k : Nat), (∀ i, l[i]? = some true → lo ≤ i ∧ i < lo + k) → trs l ≤ k
  | [], _, k, _ => Nat.zero_le k
  | b :: l, 0, 0, h => by
    cases b with
    | true => have := h 0 rfl; omega
    | false =>
      have := trs_win l 0 0 (fun i hi => by have := h (i + 1) (by simpa using hi); omega)
      simp [trs]; omega
  | b :: l, 0, k + 1, h => by
    have := trs_win l 0 k (fun i hi => by have := h (i + 1) (by simpa using hi); omega)
    cases b <;> simp [trs] <;> omega
  | b :: l, lo + 1, k, h => by
    have := trs_win l lo k (fun i hi => by have := h (i + 1) (by simpa using hi); omega)
    cases b with
    | true => have := h 0 rfl; omega
    | false => simp [trs]; omega
/-- Where as many are covered as there are places, all are. -/
theorem trs_full {l : List Bool} {lo k : Nat} (h : ∀ i, l[i]? = some true → lo ≤ i ∧ i < lo + k) (hk : k ≤ trs l) {j : Nat} (hj : lo ≤ j ∧ j < lo + k) (hl : j < l.length) : l.getD j true = true := by
  by_cases e : l.getD j true = true
  · exact e
  · exfalso
    have h1 := trs_set l j (by simpa using e)
    have h2 := trs_win (l.set j true) lo k (fun i hi => by
      by_cases e2 : i = j
      · subst e2; exact hj
      · rw [List.getElem?_set_ne (Ne.symm e2)] at hi; exact h i hi)
    omega

theorem lo_k (p u : Pv) (i : Nat) : (loP p u ≤ i ∧ i < loP p u + kP p u) ↔ cvs1 p i ∧ cvs1 u i := by
  unfold cvs1 loP kP loP
  omega

/-- What is known behind some patches. -/
structure UInv (p : Pv) (V : List Pv) (s : List Bool × Int) (I : List Int) : Prop where
  len : s.1.length = 128
  cnt : s.2 + (trs s.1 : Int) = (p.bs.length : Int)
  cov : ∀ i, i < 128 → (s.1.getD i true = true ↔ cvs1 p i ∧ ∃ u ∈ V, cvs1 u i)
  mem : ∀ x ∈ I, ∃ u ∈ V, (u.id : Int) = x ∧ ∃ i, cvs1 p i ∧ cvs1 u i
  top : ∀ i, cvs1 p i → ∀ q ∈ V, cvs1 q i → ∃ u ∈ V, (u.id : Int) ∈ I ∧ cvs1 u i ∧ q.id ≤ u.id

theorem trs_rep : ∀ n, trs (List.replicate n false) = 0
  | 0 => rfl
  | n + 1 => by rw [List.replicate_succ]; simp [trs, trs_rep n]
theorem uinv_nil (p : Pv) (h : p.off + p.bs.length ≤ 128) : UInv p [] (cov0, (p.bs.length : Int)) [] := by
  have h0 : trs cov0 = 0 := trs_rep 128
  have h1 : ∀ i, i < 128 → cov0.getD i true = false := fun i hi => by
    unfold cov0
    rw [List.getD_eq_getElem?_getD, List.getElem?_replicate, if_pos hi]
    rfl
  have h2 : cov0.length = 128 := List.length_replicate
  generalize cov0 = c0 at *
  refine ⟨h2, by simp only [h0]; omega, fun i hi => ?_, (fun x hx => by cases hx), (fun i _ q hq => by cases hq)⟩
  constructor
  · intro h'
    have := h1 i hi
    simp only at h'
    rw [this] at h'
    cases h'
  · rintro ⟨_, u, hu, _⟩
    cases hu

theorem UInv.step {p : Pv} {V : List Pv} {s : List Bool × Int} {I : List Int} (h : UInv p V s I) (hp : p.off + p.bs.length ≤ 128) (u : Pv) (hu : ∀ q ∈ V, u.id < q.id) : UInv p (V ++ [u]) (upS p u s) (upI p u s I) := by
  have hat : ∀ i, i < 128 → ((upS p u s).1.getD i true = true ↔ s.1.getD i true = true ∨ (cvs1 p i ∧ cvs1 u i)) := fun i hi => by
    unfold upS
    rw [cvr_at s _ i (by rw [h.len]; exact hi), lo_k]
  have hlt : ∀ i, i < 128 → cvs1 p i → cvs1 u i → s.1.getD i true = false → (upS p u s).2 < s.2 := fun i hi h1 h2 hb => by
    have := (lo_k p u i).2 ⟨h1, h2⟩
    exact cvr_lt s _ i (by rw [h.len]; exact hi) hb _ this.1 this.2
  have hmono : ∀ x ∈ I, x ∈ upI p u s I := fun x hx => by
    unfold upI
    split
    · exact List.mem_append_left _ hx
    · exact hx
  refine ⟨by unfold upS; rw [cvr_len]; exact h.len, by unfold upS; rw [cvr_cnt]; exact h.cnt, fun i hi => ?_, fun x hx => ?_, fun i hpi q hq hqi => ?_⟩
  · rw [hat i hi, h.cov i hi]
    constructor
    · rintro (⟨h1, v, hv, h2⟩ | ⟨h1, h2⟩)
      · exact ⟨h1, v, List.mem_append_left _ hv, h2⟩
      · exact ⟨h1, u, by simp, h2⟩
    · rintro ⟨h1, v, hv, h2⟩
      rcases List.mem_append.1 hv with hv | hv
      · exact .inl ⟨h1, v, hv, h2⟩
      · simp only [List.mem_singleton] at hv
        subst hv
        exact .inr ⟨h1, h2⟩
  · unfold upI at hx
    split at hx
    · rename_i hl
      rcases List.mem_append.1 hx with hx | hx
      · obtain ⟨v, hv, e⟩ := h.mem x hx
        exact ⟨v, List.mem_append_left _ hv, e⟩
      · simp only [List.mem_singleton] at hx
        refine ⟨u, by simp, hx.symm, ?_⟩
        unfold upS at hl
        cases hk : kP p u with
        | zero => rw [hk] at hl; exact absurd hl (by simp [cvr])
        | succ k => exact ⟨loP p u, (lo_k p u _).1 ⟨Nat.le_refl _, by omega⟩⟩
    · obtain ⟨v, hv, e⟩ := h.mem x hx
      exact ⟨v, List.mem_append_left _ hv, e⟩
  · have hi : i < 128 := by have := hpi.2; unfold endP at this; omega
    rcases List.mem_append.1 hq with hq | hq
    · obtain ⟨v, hv, h1, h2, h3⟩ := h.top i hpi q hq hqi
      exact ⟨v, List.mem_append_left _ hv, hmono _ h1, h2, h3⟩
    · simp only [List.mem_singleton] at hq
      subst hq
      cases hb : s.1.getD i true with
      | true =>
        obtain ⟨_, v, hv, hvi⟩ := (h.cov i hi).1 hb
        obtain ⟨v2, hv2, h1, h2, h3⟩ := h.top i hpi v hv hvi
        exact ⟨v2, List.mem_append_left _ hv2, hmono _ h1, h2, by have := hu v hv; omega⟩
      | false =>
        refine ⟨q, by simp, ?_, hqi, Nat.le_refl _⟩
        unfold upI
        rw [if_pos (hlt i hi hpi hqi hb)]
        simp

theorem uppF_ok {p : Pv} (hp : p.off + p.bs.length ≤ 128) : ∀ (l V : List Pv) (s : List Bool × Int) (I : List Int), UInv p V s I → (V ++ l).Pairwise (fun a b => b.id < a.id) →
    (∀ x ∈ uppF p l s I, ∃ u ∈ V ++ l, (u.id : Int) = x ∧ ∃ i, cvs1 p i ∧ cvs1 u i) ∧
    (∀ i, cvs1 p i → ∀ q ∈ V ++ l, cvs1 q i → ∃ u ∈ V ++ l, (u.id : Int) ∈ uppF p l s I ∧ cvs1 u i ∧ q.id ≤ u.id)
  | [], V, s, I, h, hs => by
    rw [List.append_nil]
    exact ⟨h.mem, h.top⟩
  | u :: l, V, s, I, h, hs => by
    have hu : ∀ q ∈ V, u.id < q.id := fun q hq => (List.pairwise_append.1 hs).2.2 q hq u (by simp)
    have h' := h.step hp u hu
    have e : V ++ u :: l = V ++ [u] ++ l := by simp
    rw [e] at hs ⊢
    unfold uppF
    split
    · exact uppF_ok hp l _ _ _ h' hs
    · rename_i hz
      refine ⟨fun x hx => ?_, fun i hpi q hq hqi => ?_⟩
      · obtain ⟨v, hv, r⟩ := h'.mem x hx
        exact ⟨v, List.mem_append_left _ hv, r⟩
      · have hi : i < 128 := by have := hpi.2; unfold endP at this; omega
        have hfull : (upS p u s).1.getD i true = true := by
          refine trs_full (lo := p.off) (k := p.bs.length) (fun j hj => ?_) (by have := h'.cnt; omega) (j := i) (by have := hpi.1; have := hpi.2; unfold endP at *; omega) (by rw [h'.len]; exact hi)
          have hjl : j < 128 := by have := (List.getElem?_eq_some_iff.1 hj).1; rw [h'.len] at this; exact this
          have := (h'.cov j hjl).1 (by rw [List.getD_eq_getElem?_getD, hj]; rfl)
          have h1 := this.1
          unfold cvs1 endP at h1
          omega
        obtain ⟨_, v, hv, hvi⟩ := (h'.cov i hi).1 hfull
        rcases List.mem_append.1 hq with hq | hq
        · obtain ⟨v2, hv2, r⟩ := h'.top i hpi q hq hqi
          exact ⟨v2, List.mem_append_left _ hv2, r⟩
        · obtain ⟨v2, hv2, h1, h2, h3⟩ := h'.top i hpi v hv hvi
          have := (List.pairwise_append.1 hs).2.2 v hv q hq
          exact ⟨v2, List.mem_append_left _ hv2, h1, h2, by omega⟩

theorem mem_ofB {P : List Pv} {b : Int} {p : Pv} : p ∈ ofB P b ↔ p ∈ P ∧ (p.blk : Int) = b := by
  unfold ofB; rw [List.mem_filter, decide_eq_true_iff]

theorem uppL_ok {P : List Pv} (hs : P.Pairwise (fun p q => p.id < q.id)) {p : Pv} (hp : p.off + p.bs.length ≤ 128) :
    (∀ x ∈ uppL P p, ∃ u ∈ ofB P (p.blk : Int), (u.id : Int) = x ∧ ∃ i, cvs1 p i ∧ cvs1 u i) ∧
    (∀ i, cvs1 p i → ∀ q ∈ ofB P (p.blk : Int), cvs1 q i → ∃ u ∈ ofB P (p.blk : Int), (u.id : Int) ∈ uppL P p ∧ cvs1 u i ∧ q.id ≤ u.id) := by
  have := uppF_ok hp (ofB P (p.blk : Int)).reverse [] _ _ (uinv_nil p hp) (by rw [List.nil_append, List.pairwise_reverse]; exact List.Pairwise.filter _ hs)
  simpa [uppL] using this

theorem upI_len (p u : Pv) (s : List Bool × Int) (I : List Int) : (upI p u s I).length ≤ I.length + 1 := by unfold upI; split <;> simp
theorem uppF_len (p : Pv) : ∀ (l : List Pv) (s : List Bool × Int) (I : List Int), (uppF p l s I).length ≤ I.length + l.length
  | [], _, _ => by simp [uppF]
  | u :: l, s, I => by
    have h1 := upI_len p u s I
    unfold uppF
    split
    · have := uppF_len p l (upS p u s) (upI p u s I)
      simp; omega
    · simp; omega
theorem uppL_len (P : List Pv) (p : Pv) : (uppL P p).length ≤ P.length := by
  have h1 := uppF_len p (ofB P (p.blk : Int)).reverse (cov0, (p.bs.length : Int)) []
  have h2 : (ofB P (p.blk : Int)).length ≤ P.length := List.length_filter_le _ _
  unfold uppL
  simp at h1
  omega
end Go.Proofs.YtinigfidofgaiaaGreat.Pt

/- A block's numbers gone through from the last to the first, until it is enough. -/
namespace Go.Proofs.YtinigfidofgaiaaGreat.Pt
open Go.RowKit Go.Shelf Go.Maps
set_option maxRecDepth 100000
set_option linter.unusedVariables false
attribute [local go_sem] Oper.semAt_some

/-- What a round keeps: all below n₀, and three boxes. -/
def Kq (n₀ a b c : Nat) (W W' : World) : Prop := Below n₀ W W' ∧ W'.heap[a]? = W.heap[a]? ∧ W'.heap[b]? = W.heap[b]? ∧ W'.heap[c]? = W.heap[c]?
theorem Kq.refl (n₀ a b c : Nat) (W : World) : Kq n₀ a b c W W := ⟨Below.refl _ _, rfl, rfl, rfl⟩
theorem Kq.t {n₀ a b c : Nat} {A B C : World} (h : Kq n₀ a b c A B) (k : Kq n₀ a b c B C) : Kq n₀ a b c A C := ⟨h.1.trans k.1, k.2.1.trans h.2.1, k.2.2.1.trans h.2.2.1, k.2.2.2.trans h.2.2.2⟩
theorem Kq.b {n₀ a b c : Nat} {w : World} (h0 : n₀ ≤ w.heap.size) (ha : a < w.heap.size) (hb : b < w.heap.size) (hc : c < w.heap.size) (W : World) (l : Nat) (o o' : Obj) (hl : w.heap.size ≤ l) (hW : W.heap[l]? = some o) (h1 : o.isCells = false) (h2 : o.isWalk = false) : Kq n₀ a b c W (W.putObj l o') :=
  ⟨belowK_b h0 W l o o' hl hW h1 h2, World.putObj_heap_other (by omega), World.putObj_heap_other (by omega), World.putObj_heap_other (by omega)⟩

set_option maxRecDepth 100000 in
set_option maxHeartbeats 1000000 in
theorem back1_in {α : Type} (encs : α → Array Value) (ys : List α) (m l g g2 g3 n₀ : Nat) (hm : 1 ≤ m) (p : Option Addr) (n c : Nat) (zs : List Int) (hys : ys.length = n)
    (hen : ∀ (j : Nat) (x : α), ys[j]? = some x → encs x = #[.int .i64 ((n : Int) - 1 - (j : Int)), .int .i64 (zs.getD (n - 1 - j) 0)]) (J Jx : List α → World → Prop)
    (hY : ∀ pre x W, J pre W → pre.length < n → YieldAt Fence.wide (m - 1) Tryz.prog l (encs x) W fun e W' =>
      (e = .returned (.bool true) ∧ J (pre ++ [x]) W' ∧ Kq n₀ g g2 g3 W W') ∨ (e = .returned (.bool false) ∧ Jx (pre ++ [x]) W'))
    (W : World) (hg : Boxed W g 23 (.slice p n c)) (hrow : ∀ W', Below n₀ W W' → II W' p n zs) (h0 : J [] W) :
    CallsIn Fence.wide m Tryz.prog 172 #[.func (.yield l) #[] #[], .pointer (some ⟨g, 0, none⟩)] W fun e' W' => (∃ v, e' = .returned v) ∧
      ((∃ xs, xs = ys ∧ J xs W') ∨ (∃ pre : List α, (∃ r, ys = pre ++ r) ∧ Jx pre W')) := by
  have hl : zs.length = n := (hrow W (Below.refl _ _)).len
  have hbig := (hrow W (Below.refl _ _)).big
  have hcg := hg.cell
  refine callsIn_of_wp Tryz.func172 rfl trivial ?_ rfl
  simp only [Tryz.ntmps172, List.size_toArray, List.length_cons, List.length_nil, Nat.reduceAdd, Nat.reduceSub, Array.replicate_succ, Array.replicate_zero, List.push_toArray, List.append_toArray, List.nil_append, List.cons_append]
  gi_wp2
  gi_loopw [3] (fun i wr => ∃ (j : Nat), j ≤ n ∧ i = .int .i64 ((n : Int) - 1 - (j : Int)) ∧ Kq n₀ g g2 g3 W wr ∧ J (ys.take j) wr)
    (fun i _ => ((intOf i) + 1).toNat)
  case atStart => exact ⟨0, by omega, by simp, Kq.refl _ _ _ _ _, h0⟩
  case round =>
    obtain ⟨j, hj, rfl, hk, hJs⟩ := hrel
    have hg1 : Boxed wr g 23 (.slice p n c) := hk.2.1.trans hg
    have hcg1 := hg1.cell
    by_cases hlt : j < n
    · obtain ⟨b1, o1, rfl, hc1⟩ := (hrow wr hk.1).cells (by omega)
      have e1 := hc1 (n - 1 - j) (by omega)
      obtain ⟨x, hxj⟩ : ∃ x, ys[j]? = some x := ⟨_, List.getElem?_eq_getElem (by omega)⟩
      have hx := hen j x hxj
      obtain ⟨fn, tmps, assign, body, hy, hR⟩ := hY (ys.take j) x wr hJs (by rw [List.length_take]; omega)
      obtain ⟨t, ht⟩ : ∃ t, t = n - 1 - j := ⟨_, rfl⟩
      have hti : (n : Int) - 1 - (j : Int) = (t : Int) := by omega
      rw [hx, hti, ← ht] at hy
      rw [← ht] at e1
      rw [hti]
      have HB : Hid (ys.take (j + 1) = ys.take j ++ [x]) := by show _ = _; rw [List.take_add_one, hxj]; rfl
      have HP : Hid (ys = (ys.take j ++ [x]) ++ ys.drop (j + 1)) := by show _ = _; rw [← HB.out, List.take_append_drop]
      have htn : (t : Int) < (n : Int) := by omega
      have ht0 : (0 : Int) ≤ (t : Int) := by omega
      have HT : Hid _ := ht
      clear hc1 hcg hY hrow hti ht hl hx hen hxj
      generalize zs.getD t 0 = y at *
      gi_wp2
      refine hR.mono ?_
      rintro e3 W3 (⟨rfl, hJ3, hk3⟩ | ⟨rfl, hJx3⟩)
      · gi_wp2
        go_roundw
        case rel => exact ⟨j + 1, by omega, by have := HT.out; go_num, hk.t hk3, by rw [HB.out]; exact hJ3⟩
        case measure => have := HT.out; simp [intOf]
      · gi_wp2
        refine bodyPost_ret (results_none rfl _ _ _) rfl ?_
        exact ⟨⟨_, rfl⟩, .inr ⟨_, ⟨_, HP.out⟩, hJx3⟩⟩
    · obtain rfl : j = n := by omega
      have hm1 : (j : Int) - 1 - (j : Int) = -1 := by omega
      rw [hm1]
      rw [List.take_of_length_le (by omega)] at hJs
      gi_wp2
      go_end0
      exact ⟨⟨_, rfl⟩, .inl ⟨_, rfl, hJs⟩⟩

theorem back_stops {α : Type} (encs : α → Array Value) (ys : List α) (m g g2 g3 n₀ : Nat) (hm : 1 ≤ m) (p : Option Addr) (n c : Nat) (zs : List Int) (w : World) (hys : ys.length = n)
    (hen : ∀ (j : Nat) (x : α), ys[j]? = some x → encs x = #[.int .i64 ((n : Int) - 1 - (j : Int)), .int .i64 (zs.getD (n - 1 - j) 0)]) (hn : n₀ ≤ w.heap.size) (hg : Boxed w g 23 (.slice p n c)) (hrow : ∀ W', Below n₀ w W' → II W' p n zs) :
    SeqStopsK Fence.wide m Tryz.prog 172 #[.pointer (some ⟨g, 0, none⟩)] encs (Kq n₀ g g2 g3) (fun xs => xs = ys) (fun pre => ∃ r, ys = pre ++ r) n w := fun l J Jx W hW hJ _ hY h0 =>
  back1_in encs ys m l g g2 g3 n₀ hm p n c zs hys hen J Jx hY W ((hW.block g hg.lt).trans hg) (fun W' h => hrow W' ((hW.mono hn).trans h)) h0

set_option maxHeartbeats 400000 in
theorem backward_in (m : Nat) (hm : 1 ≤ m) (p : Option Addr) (n c : Nat) (w : World) :
    CallsIn Fence.wide m Tryz.prog 159 #[.slice p n c] w fun e w' => e = .returned (.func (.func 172) #[] #[.pointer (some ⟨w.heap.size, 0, none⟩)]) ∧ w' = w.alloc (.cells #[.slice p n c] 23) := by
  refine callsIn_of_wp Tryz.func159 rfl trivial ?_ rfl
  simp only [Tryz.ntmps159, List.size_toArray, List.length_cons, List.length_nil, Nat.reduceAdd, Nat.reduceSub, Array.replicate_succ, Array.replicate_zero, List.push_toArray, List.append_toArray, List.nil_append, List.cons_append]
  gi_wp2
  go_ret
  exact ⟨rfl, rfl⟩

/-- What was gone through makes no difference to what lies elsewhere: the closure's memory may lie in a world that has grown. -/
theorem UP.rebase {T : Nat} {w0 w : World} {p : Pv} {gb gp gv gi : Nat} {iv : Value} {cov : List Bool} {bare : Int} {I : List Int} (h : UP T w0 w p gb gp gv gi iv cov bare I) : UP T w w p gb gp gv gi iv cov bare I :=
  ⟨Below.refl _ _, h.hT, Oth.refl _ _, h.rb, h.rp, h.rv, h.ri, h.cl, h.br, h.ids, h.lo⟩
theorem UP.back {T : Nat} {w0 w w' : World} {p : Pv} {gb gp gv gi : Nat} {iv iv' : Value} {cov cov' : List Bool} {bare bare' : Int} {I I' : List Int} (h : UP T w0 w p gb gp gv gi iv cov bare I) (k : UP T w w' p gb gp gv gi iv' cov' bare' I') : UP T w0 w' p gb gp gv gi iv' cov' bare' I' :=
  ⟨h.bel.trans k.bel, h.sz, h.oth.trans k.oth, k.rb, k.rp, k.rv, k.ri, k.cl, k.br, k.ids, k.lo⟩

theorem UP.own {T : Nat} {w0 A B : World} {p : Pv} {gb gp gv gi : Nat} {iv : Value} {cov : List Bool} {bare : Int} {I : List Int} {row : Option Nat} (h : UP T w0 A p gb gp gv gi iv cov bare I) (hg : A.grownBy B row)
    (hr : ∀ r, row = some r → w0.heap.size ≤ r ∧ ∃ o : Obj, A.heap[r]? = some o ∧ o.isCells = false) : UP T w0 B p gb gp gv gi iv cov bare I := by
  have hc : ∀ {k : Nat} {cs : Array Value} {t : TypeId} {fr : Nat × Nat}, A.heap[k]? = some (.cells cs t fr) → B.heap[k]? = some (.cells cs t fr) := fun {k cs t fr} hk => by
    rw [hg.block k (Array.getElem?_eq_some_iff.1 hk).1 (fun e => by
      obtain ⟨_, o, ho, hoc⟩ := hr k e.symm
      rw [hk] at ho
      cases ho
      cases hoc)]
    exact hk
  refine ⟨h.bel.grown hg h.hT (fun k hk => Nat.le_trans h.sz (hr k hk).1), h.sz, ⟨Nat.le_trans h.oth.1 hg.size, fun k o hk hn h3 h1 => ?_⟩, hc h.rb, hc h.rp, hc h.rv, hc h.ri, h.cl, h.br, ?_, h.lo⟩
  · have hk2 := h.oth.2 k o hk hn h3 h1
    rw [hg.block k (Array.getElem?_eq_some_iff.1 hk2).1 (fun e => by
      have := (hr k e.symm).1
      have := (Array.getElem?_eq_some_iff.1 hk).1
      omega)]
    exact hk2
  · refine h.ids.keptAt (fun g hg' => ?_)
    obtain ⟨ds, h3⟩ := nums_row h.ids hg'
    rw [hc h3, h3]

/-- What eachBack hands on: a place, and a patch of the set. -/
abbrev Hand (P : List Pv) : Type := { x : Int × Pv // x.2 ∈ P }
abbrev encH {P : List Pv} (x : Hand P) : Array Value := #[.int .i64 x.1.1, .int .i64 (x.1.2.id : Int)]
theorem hands_ex {P : List Pv} : ∀ (R : List Pv) (s : Int), (∀ u ∈ R, u ∈ P) → ∃ ys : List (Hand P), ys.map (fun x => x.1.2) = R ∧ ∀ (j : Nat) (x : Hand P), ys[j]? = some x → x.1.1 = s - (j : Int)
  | [], s, _ => ⟨[], rfl, fun j x h => by simp at h⟩
  | u :: R, s, h => by
    obtain ⟨ys, h1, h2⟩ := hands_ex R (s - 1) (fun v hv => h v (by simp [hv]))
    refine ⟨⟨(s, u), h u (by simp)⟩ :: ys, by simp [h1], fun j x hx => ?_⟩
    cases j with
    | zero =>
      simp only [List.getElem?_cons_zero, Option.some.injEq] at hx
      rw [← hx]; simp
    | succ j =>
      rw [List.getElem?_cons_succ] at hx
      rw [h2 j x hx]
      omega

theorem hands_enc {P : List Pv} {L : List Pv} {ys : List (Hand P)} (h1 : ys.map (fun x => x.1.2) = L.reverse) (h2 : ∀ (j : Nat) (x : Hand P), ys[j]? = some x → x.1.1 = (L.length : Int) - 1 - (j : Int)) (j : Nat) (x : Hand P) (hx : ys[j]? = some x) :
    encH x = #[.int .i64 ((L.length : Int) - 1 - (j : Int)), .int .i64 ((L.map (fun p => (p.id : Int))).getD (L.length - 1 - j) 0)] := by
  have e1 := h2 j x hx
  have e2 : L.reverse[j]? = some x.1.2 := by rw [← h1, List.getElem?_map, hx]; rfl
  have hl : j < L.length := by have := (List.getElem?_eq_some_iff.1 e2).1; simpa using this
  rw [List.getElem?_reverse hl] at e2
  unfold encH
  rw [e1, List.getD_eq_getElem?_getD, List.getElem?_map, e2]
  rfl

theorem keeps_oth {gi : Nat} {W W' : World} (h : Oth gi W W') {iv : Value} (hi : W.heap[gi]? = some (.cells #[iv] 23 (0, 0))) : KeepsOthers W W' :=
  ⟨h.1, fun k o hk ho => h.2 k o hk (fun e => by subst e; rw [hi] at hk; cases hk; cases ho) (fun cs e => by subst e; cases ho) (fun cs e => by subst e; cases ho)⟩

set_option maxRecDepth 100000 in
set_option maxHeartbeats 4000000 in
theorem eachBack_in {B : Nat} {w0 w : World} {a mp mb last : Nat} {P : List Pv} {K : Int → Option Value} (h0 : PS B w0 a mp mb last P K) {p : Pv} {gb gp gv gi : Nat} {iv : Value} {cov : List Bool} {bare : Int} (h : UP w0.heap.size w0 w p gb gp gv gi iv cov bare []) (hp : p.off + p.bs.length ≤ 128) (b : Int) (hb : I64 b) :
    CallsIn Fence.wide 6 Tryz.prog 135 #[.pointer (some ⟨a, 0, none⟩), .int .i64 b, .func (.func 136) #[] #[.pointer (some ⟨gb, 0, none⟩), .pointer (some ⟨gp, 0, none⟩), .pointer (some ⟨gv, 0, none⟩), .pointer (some ⟨gi, 0, none⟩)]] w
      fun e w' => e = .returned (.tuple #[]) ∧ ∃ iv' cov' bare', UP w0.heap.size w0 w' p gb gp gv gi iv' cov' bare' (uppF p (ofB P b).reverse (cov, bare) []) := by
  have hf92 : Fence.wide.fn 159 := trivial
  have hf87 : Fence.wide.fn 136 := trivial
  obtain ⟨q, c, hK, hii, hpl⟩ := h0.row_ii b hb
  obtain ⟨L, hL⟩ : ∃ L, L = ofB P b := ⟨_, rfl⟩
  have hmem : ∀ u ∈ L.reverse, u ∈ P := fun u hu => by rw [hL, List.mem_reverse] at hu; exact (List.mem_filter.1 hu).1
  rw [idsOf_eq, ← hL] at hii hK
  rw [← hL]
  obtain ⟨ys, hy1, hy2⟩ := hands_ex L.reverse ((L.length : Int) - 1) hmem
  have hyl : ys.length = L.length := by have := congrArg List.length hy1; simpa using this
  have hen := hands_enc hy1 hy2
  rw [List.length_map] at hii hK
  have hsm : L.length ≤ 1000 := by
    have h1 := h0.len
    have h2 := h0.sml
    have h3 : L.length ≤ P.length := by rw [hL]; exact List.length_filter_le _ _
    omega
  clear hL
  obtain ⟨n, hn⟩ : ∃ n, L.length = n := ⟨_, rfl⟩
  rw [hn] at hii hK hyl hen hsm
  have hS := fun W => backward_in 5 (by omega) q n c W
  -- the boxes
  obtain ⟨A1, hA1⟩ : ∃ A1, w.alloc (.cells #[.pointer (some ⟨a, 0, none⟩)] 72) = A1 := ⟨_, rfl⟩
  obtain ⟨A2, hA2⟩ : ∃ A2, A1.alloc (.cells #[.func (.func 136) #[] #[.pointer (some ⟨gb, 0, none⟩), .pointer (some ⟨gp, 0, none⟩), .pointer (some ⟨gv, 0, none⟩), .pointer (some ⟨gi, 0, none⟩)]] 171) = A2 := ⟨_, rfl⟩
  obtain ⟨A3, hA3⟩ : ∃ A3, A2.alloc (.cells #[.slice q n c] 23) = A3 := ⟨_, rfl⟩
  have s1 : A1.heap.size = w.heap.size + 1 := by rw [← hA1]; simp
  have s2 : A2.heap.size = w.heap.size + 1 + 1 := by rw [← hA2]; simp [s1]
  have s3 : A3.heap.size = w.heap.size + 1 + 1 + 1 := by rw [← hA3]; simp [s2]
  have b1 : Boxed A1 w.heap.size 72 (.pointer (some ⟨a, 0, none⟩)) := by rw [← hA1]; exact Boxed.new w 72 _
  have b2 : Boxed A2 (w.heap.size + 1) 171 (.func (.func 136) #[] #[.pointer (some ⟨gb, 0, none⟩), .pointer (some ⟨gp, 0, none⟩), .pointer (some ⟨gv, 0, none⟩), .pointer (some ⟨gi, 0, none⟩)]) := by rw [← hA2, ← s1]; exact Boxed.new A1 171 _
  have b3 : Boxed A3 (w.heap.size + 1 + 1) 23 (.slice q n c) := by rw [← hA3, ← s2]; exact Boxed.new A2 23 _
  have b1' : Boxed A2 w.heap.size 72 (.pointer (some ⟨a, 0, none⟩)) := by rw [← hA2]; exact b1.alloc _
  have b1'' : Boxed A3 w.heap.size 72 (.pointer (some ⟨a, 0, none⟩)) := by rw [← hA3]; exact b1'.alloc _
  have b2'' : Boxed A3 (w.heap.size + 1) 171 (.func (.func 136) #[] #[.pointer (some ⟨gb, 0, none⟩), .pointer (some ⟨gp, 0, none⟩), .pointer (some ⟨gv, 0, none⟩), .pointer (some ⟨gi, 0, none⟩)]) := by rw [← hA3]; exact b2.alloc _
  have hb2 : Below w.heap.size w A2 := by rw [← hA2, ← hA1]; exact ((Below.refl _ w).alloc (Nat.le_refl _) _).alloc (by simp) _
  have hb3 : Below w.heap.size w A3 := by rw [← hA3]; exact hb2.alloc (by rw [s2]; omega) _
  have hU2 := h.kept hb2
  have hU3 := h.kept hb3
  have c2 := (h0.kept hU2.bel).c2
  have hlook := (h0.kept hU2.bel).list b hb
  rw [hK] at hlook
  have cs := b1'.cell
  refine callsIn_of_wp_marks Tryz.func135 rfl trivial ?_ rfl
  simp only [Tryz.ntmps135, List.size_toArray, List.length_cons, List.length_nil, Nat.reduceAdd, Nat.reduceSub, Array.replicate_succ, Array.replicate_zero, List.push_toArray, List.append_toArray, List.nil_append, List.cons_append]
  gi_wp2_with (first | (gi_at_call 159; refine (hS _).mono ?_; rintro _ w3 ⟨rfl, rfl⟩))
  have hmix : Tryz.prog.follows .mixedOrders = true := by kernel_rfl
  have hrow3 : ∀ W', Below w0.heap.size A3 W' → II W' q n (L.map (fun p => (p.id : Int))) := fun W' h => hii.kept (hU3.bel.trans h)
  have hw0 := h.bel.size
  clear hS c2 hlook cs hU2 hb2 b1 b1' b2 hK hii hA1 hA2 hA3
  refine wpIn_rangeFunc_ownG rfl (by omega) (gf := 172) (lb := #[.pointer (some ⟨w.heap.size + 1 + 1, 0, none⟩)]) rfl trivial (enters_of Tryz.func172 (by kernel_rfl) rfl)
    (back_stops encH ys 5 (w.heap.size + 1 + 1) w.heap.size (w.heap.size + 1) w0.heap.size (by omega) q n c (L.map (fun p => (p.id : Int))) A3 hyl hen (by omega) b3 hrow3) (fun h k => h.t k) (Kq.b (by omega) (by omega) (by omega) (by omega)) (Below.refl _ _) (fun _ => rfl)
    (fun pre W => (Boxed W w.heap.size 72 (.pointer (some ⟨a, 0, none⟩)) ∧ Boxed W (w.heap.size + 1) 171 (.func (.func 136) #[] #[.pointer (some ⟨gb, 0, none⟩), .pointer (some ⟨gp, 0, none⟩), .pointer (some ⟨gv, 0, none⟩), .pointer (some ⟨gi, 0, none⟩)]) ∧ Boxed W (w.heap.size + 1 + 1) 23 (.slice q n c)) ∧
      ∃ iv' cov' bare' I', UP w0.heap.size w0 W p gb gp gv gi iv' cov' bare' I' ∧ I'.length ≤ pre.length ∧ ∀ l, uppF p (pre.map (fun x => x.1.2) ++ l) (cov, bare) [] = uppF p l (cov', bare') I')
    (fun cd pre W => cd = .ret ∧ ∃ iv' cov' bare' I', UP w0.heap.size w0 W p gb gp gv gi iv' cov' bare' I' ∧ ∀ l, uppF p (pre.map (fun x => x.1.2) ++ l) (cov, bare) [] = I')
    ?own ?ownx ⟨⟨b1'', b2'', b3⟩, iv, cov, bare, [], hU3, by simp, fun l => rfl⟩
    (fun x => { tmps := #[.pointer (some ⟨a, 0, none⟩), .int .i64 b, .func (.func 136) #[] #[.pointer (some ⟨gb, 0, none⟩), .pointer (some ⟨gp, 0, none⟩), .pointer (some ⟨gv, 0, none⟩), .pointer (some ⟨gi, 0, none⟩)], .pointer (some ⟨w.heap.size, 0, none⟩), undef, .pointer (some ⟨w.heap.size + 1, 0, none⟩), undef, .int .i64 (x.1.2.id : Int), .pointer (some ⟨a, 0, none⟩), .pointer (some ⟨a, 0, none⟩), .pointer (some ⟨a, 2, none⟩), .map (some mb), .int .i64 b, .slice q n c, .func (.func 172) #[] #[.pointer (some ⟨w.heap.size + 1 + 1, 0, none⟩)], .int .i64 x.1.1, .int .i64 (x.1.2.id : Int), undef, undef, undef, undef, undef, undef, undef, undef, undef], defers := [] }) ?assign ?body ?done ?stop
  case own =>
    rintro pre A B row ⟨⟨k1, k2, k3⟩, iv', cov', bare', I', hU, hl, hF⟩ hg hr
    have hne : ∀ {k : Nat} {t : TypeId} {v : Value}, Boxed A k t v → some k ≠ row := fun {k t v} hk e => by
      obtain ⟨_, o, ho, hc⟩ := hr k e.symm
      rw [show A.heap[k]? = _ from hk] at ho
      cases ho
      cases hc
    exact ⟨⟨k1.kept hg (hne k1), k2.kept hg (hne k2), k3.kept hg (hne k3)⟩, iv', cov', bare', I', hU.own hg (fun r e => ⟨by have := (hr r e).1; omega, (hr r e).2⟩), hl, hF⟩
  case ownx =>
    rintro cd pre A B row ⟨rfl, iv', cov', bare', I', hU, hF⟩ hg hr
    exact ⟨rfl, iv', cov', bare', I', hU.own hg (fun r e => ⟨by have := (hr r e).1; omega, (hr r e).2⟩), hF⟩
  case assign =>
    intro l x W K hK
    gi_wp2
    exact hK
  case body =>
    rintro l pre x W ⟨⟨k1, k2, k3⟩, iv', cov', bare', I', hU, hl, hF⟩ hlt
    have hps := h0.kept hU.bel
    have hid := hps.ids x.1.2 x.2
    have hsml := hps.sml
    have c1 := hps.c1
    have hgt := hps.get (x.1.2.id : Int) ⟨by omega, by omega⟩
    rw [fP_mem hps.srt x.2] at hgt
    have hgt' : (Instr.lookup 119 (.map (some mp)) (.int .i64 (x.1.2.id : Int)) false).run Tryz.prog W.drew = .ok x.1.2.v W.drew := by
      have := (hps.kept ((Below.refl _ _).drew)).get (x.1.2.id : Int) ⟨by omega, by omega⟩
      rw [fP_mem hps.srt x.2] at this
      exact this
    have hcall := upp1_ok (hU.rebase.kept ((Below.refl _ _).drew)) x.1.2 hid.2.2.2.2 (by omega) hp (by omega)
    have cc1 : W.drew.cell? ⟨w.heap.size, 0, none⟩ = _ := k1.cell
    have cc2 : W.drew.cell? ⟨w.heap.size + 1, 0, none⟩ = _ := k2.cell
    have cc3 : W.drew.cell? ⟨a, 1, none⟩ = _ := c1
    have HF : Hid _ := hF
    have hl2 := upI_len p x.1.2 (cov', bare') I'
    have fin : ∀ (iv2 : Value) (W' : World), UP w0.heap.size W W' p gb gp gv gi iv2 (upS p x.1.2 (cov', bare')).1 (upS p x.1.2 (cov', bare')).2 (upI p x.1.2 (cov', bare') I') →
        KeepsFrom A3.heap.size W W' ∧ Kq w0.heap.size (w.heap.size + 1 + 1) w.heap.size (w.heap.size + 1) W W' ∧ (Boxed W' w.heap.size 72 (.pointer (some ⟨a, 0, none⟩)) ∧ Boxed W' (w.heap.size + 1) 171 (.func (.func 136) #[] #[.pointer (some ⟨gb, 0, none⟩), .pointer (some ⟨gp, 0, none⟩), .pointer (some ⟨gv, 0, none⟩), .pointer (some ⟨gi, 0, none⟩)]) ∧ Boxed W' (w.heap.size + 1 + 1) 23 (.slice q n c)) ∧
        UP w0.heap.size w0 W' p gb gp gv gi iv2 (upS p x.1.2 (cov', bare')).1 (upS p x.1.2 (cov', bare')).2 (upI p x.1.2 (cov', bare') I') := fun iv2 W' hV => by
      have hgi : gi < w.heap.size := (Array.getElem?_eq_some_iff.1 h.ri).1
      have j1 := hV.oth.2 _ _ k1 (by omega) (by simp) (by simp)
      have j2 := hV.oth.2 _ _ k2 (by omega) (by simp) (by simp)
      have j3 := hV.oth.2 _ _ k3 (by omega) (by simp) (by simp)
      exact ⟨(keeps_oth hV.oth hU.ri).from _, ⟨hV.bel, j3.trans k3.symm, j1.trans k1.symm, j2.trans k2.symm⟩, ⟨j1, j2, j3⟩, hU.back hV⟩
    have hb1 : x.1.2.v = .agg x.1.2.cells := rfl
    obtain ⟨t, ht⟩ : ∃ t, t = decide (0 < (upS p x.1.2 (cov', bare')).2) := ⟨_, rfl⟩
    rw [← ht] at hcall
    obtain ⟨Φ, hΦ⟩ : ∃ Φ : World → Prop, Φ = fun W' => ownPostG A3.heap.size (Kq w0.heap.size (w.heap.size + 1 + 1) w.heap.size (w.heap.size + 1))
      (fun pre W => (Boxed W w.heap.size 72 (.pointer (some ⟨a, 0, none⟩)) ∧ Boxed W (w.heap.size + 1) 171 (.func (.func 136) #[] #[.pointer (some ⟨gb, 0, none⟩), .pointer (some ⟨gp, 0, none⟩), .pointer (some ⟨gv, 0, none⟩), .pointer (some ⟨gi, 0, none⟩)]) ∧ Boxed W (w.heap.size + 1 + 1) 23 (.slice q n c)) ∧
        ∃ iv' cov' bare' I', UP w0.heap.size w0 W p gb gp gv gi iv' cov' bare' I' ∧ I'.length ≤ pre.length ∧ ∀ l, uppF p (pre.map (fun x => x.1.2) ++ l) (cov, bare) [] = uppF p l (cov', bare') I')
      (fun cd pre W => cd = .ret ∧ ∃ iv' cov' bare' I', UP w0.heap.size w0 W p gb gp gv gi iv' cov' bare' I' ∧ ∀ l, uppF p (pre.map (fun x => x.1.2) ++ l) (cov, bare) [] = I')
      (pre ++ [x]) W (if t then .normal else .ret) { tmps := #[], defers := [] } W' := ⟨_, rfl⟩
    have hcall2 : Calls Tryz.prog 136 #[x.1.2.v, .pointer (some ⟨gb, 0, none⟩), .pointer (some ⟨gp, 0, none⟩), .pointer (some ⟨gv, 0, none⟩), .pointer (some ⟨gi, 0, none⟩)] W.drew fun e w' => e = .returned (.bool t) ∧ Φ w' := by
      refine hcall.mono ?_
      rintro _ W2 ⟨rfl, iv2, hV⟩
      refine ⟨rfl, ?_⟩
      obtain ⟨f1, f2, f3, f4⟩ := fin iv2 W2 hV
      rw [hΦ]
      by_cases hpos : 0 < (upS p x.1.2 (cov', bare')).2
      · rw [decide_eq_true hpos] at ht
        subst ht
        refine ⟨f1, f2, f3, iv2, _, _, _, f4, by simp; omega, fun l => ?_⟩
        rw [List.map_append, List.append_assoc, hF]
        show uppF p (x.1.2 :: l) _ _ = _
        rw [uppF, if_pos hpos]
      · rw [decide_eq_false hpos] at ht
        subst ht
        refine ⟨f1, rfl, iv2, _, _, _, f4, fun l => ?_⟩
        rw [List.map_append, List.append_assoc, hF]
        show uppF p (x.1.2 :: l) _ _ = _
        rw [uppF, if_neg hpos]
    have HX : Hid _ := hΦ
    clear hcall fin HF hl2 ht hΦ hF hU hl hlt hps hid c1 hgt k1 k2 k3 hmem hy1 hy2 hen hrow3 b1'' b2'' b3 hU3 h h0 hsml hsm hyl hn s1 s2 s3 hb3 hw0 hp hpl hb
    rw [hb1] at hcall2 hgt'
    clear hb1
    generalize x.1.2.cells = uc at *
    generalize (x.1.2.id : Int) = ui at *
    gi_wp2_with fail
    gi_region_with_o (gi_at_call 136; refine (CallsIn.inRound l (callsIn_wide.2 hcall2)).mono ?_; rintro _ W2 ⟨rfl, hV⟩)
    all_goals
      rw [HX.out] at hV
      cases t with
      | true => gi_wp2; exact hV
      | false => gi_wp2; exact hV
  case done =>
    rintro D xs W hD rfl ⟨⟨k1, k2, k3⟩, iv', cov', bare', I', hU, hl, hF⟩ hK
    have hF' := hF []
    rw [List.append_nil, hy1] at hF'
    have HR : Hid _ := hF'
    gi_wp2
    refine ⟨by simp, .inl ⟨_, _, rfl, run_takeDeferred hK, ?_⟩⟩
    refine ⟨_, results_none rfl _ _ _, rfl, iv', cov', bare', ?_⟩
    rw [HR.out]
    exact hU.own (grownBy_putObj' _ D (.deferred none)) (fun r e => by cases e; exact ⟨by omega, _, hK, rfl⟩)
  case stop =>
    rintro D cd pre W hD ⟨r, hr⟩ ⟨rfl, iv', cov', bare', I', hU, hF⟩ hK
    have hF' := hF (r.map (fun x => x.1.2))
    rw [← List.map_append, ← hr, hy1] at hF'
    have HR : Hid _ := hF'
    gi_wp2
    refine ⟨by simp, .inl ⟨_, _, rfl, run_takeDeferred hK, ?_⟩⟩
    refine ⟨_, results_none rfl _ _ _, rfl, iv', cov', bare', ?_⟩
    rw [HR.out]
    exact hU.own (grownBy_putObj' _ D (.deferred none)) (fun r e => by cases e; exact ⟨by omega, _, hK, rfl⟩)
end Go.Proofs.YtinigfidofgaiaaGreat.Pt
