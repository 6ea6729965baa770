/- PUndo PUpm -/
import Derived.Test.YthdlpeejmmobmaaGreatYG13
import Derived.Test.YthdlpeejmmobmaaGreatYG11

namespace Go.Proofs.YthdlpeejmmobmaaGreat.Pt
open Go.RowKit Go.Maps
set_option maxRecDepth 100000
set_option linter.unusedVariables false
def upP (P : List Pv) (l : Nat) : List Pv := P.filter (fun p => decide (p.id ≤ l))
def behd (l : Nat) : Nat → List Int
 | 0 => []
 | k + 1 => behd l k ++ [((l + k + 1 : Nat) : Int)]
theorem mem_behd (l : Nat) : ∀ (k : Nat) (x : Int), x ∈ behd l k ↔ (l : Int) < x ∧ x ≤ ((l + k : Nat) : Int)
 | 0, x => by simp [behd]
 | k + 1, x => by
  rw [behd, List.mem_append, mem_behd l k x, List.mem_singleton]
  omega
theorem behd_len (l : Nat) : ∀ k, (behd l k).length = k
 | 0 => rfl
 | k + 1 => by simp [behd, behd_len l k]
theorem PS.setLast {B : Nat} {w : World} {a mp mb last : Nat} {P : List Pv} {K : Int → Option Value} (h : PS B w a mp mb last P K) (l : Nat) (hl : l ≤ last) (hP : ∀ p ∈ P, p.id ≤ l) :
  PS B (w.setCell ⟨a, 0, none⟩ (.int .i64 (l : Int))) a mp mb l P K ∧ Stp (dm a mp mb P K) (dm a mp mb P K) w (w.setCell ⟨a, 0, none⟩ (.int .i64 (l : Int))) := by
 have hk : ∀ k, k ≠ a → (w.setCell ⟨a, 0, none⟩ (.int .i64 (l : Int))).heap[k]? = w.heap[k]? := fun k hk => Below.heap_setCell _ _ _ _ hk
 obtain ⟨ep, cp, hmp⟩ := h.pm.isMap
 obtain ⟨eb, cb, hmb⟩ := h.bm.isMap
 have hlen : P.length ≤ l := len_ids (m := 0) h.srt (fun p hp => ⟨(h.ids p hp).1, hP p hp⟩)
 refine ⟨⟨?_, ?_, h.bm.kept (hk mb (map_ne h.row hmb).symm), fun p hp => ⟨(h.byt p hp).1.keptIf (fun g hg _ => hk g (h.apart p hp g (.inr hg)).2.1), (h.byt p hp).2⟩, fun p hp => ⟨(h.nee p hp).1.keptIf (fun g hg _ => hk g (h.apart p hp g (.inl hg)).2.1), (h.nee p hp).2⟩, fun b v hv => ?_, h.away, h.two, fun p hp k hk' => ⟨by rw [World.size_setCell]; exact (h.apart p hp k hk').1, (h.apart p hp k hk').2⟩, fun p hp => ⟨(h.ids p hp).1, hP p hp, (h.ids p hp).2.2⟩, h.srt, h.low, Nat.le_trans hl h.sml, h.base⟩, Frame.setCell w _ (.inl rfl), fun k hk => .inl hk⟩
 ·rw [heap_setCell_same _ _ _ _ _ _ h.row]; rfl
 ·refine Mf.mono (N := (P.map (fun p => (p.id : Int))).length) ?_ (by rw [List.length_map]; exact hlen)
  refine (h.pm.kept (hk mp (map_ne h.row hmp).symm)).count _ (fun k _ hn => ?_)
  cases e : fP P k with
  | none => rw [e] at hn; exact absurd rfl hn
  | some p => exact List.mem_map.2 ⟨p, (fP_some e).1, (fP_some e).2⟩
 ·obtain ⟨h1, h2, h3⟩ := h.rows b v hv
  refine ⟨h1, row_keptIf h2 (fun g hg => ?_), h3⟩
  obtain ⟨cs, hc⟩ := row_ty h2 hg
  exact hk g (own_ne hc h.row (by decide))
set_option maxRecDepth 100000 in
set_option maxHeartbeats 2000000 in
theorem undo_ok {B : Nat} {w : World} {a mp mb last : Nat} {P : List Pv} {K : Int → Option Value} (h : PS B w a mp mb last P K) (l : Nat) (hl : l ≤ last) :
  Calls Tryz.prog 153 #[.pointer (some ⟨a, 0, none⟩), .int .i64 (l : Int)] w fun e w' =>
   ((¬ (∀ k : Int, (l : Int) < k → k ≤ (last : Int) → (fP P k).isSome = true) ∧ e = .returned (.int .i64 3)) ∧ Below w.heap.size w w') ∨
   (((∀ k : Int, (l : Int) < k → k ≤ (last : Int) → (fP P k).isSome = true) ∧ e = .returned (.int .i64 0)) ∧ ∃ K', PS B w' a mp mb l (upP P l) K' ∧ Stp (dm a mp mb P K) (dm a mp mb (upP P l) K') w w') := by
 have hm := made_ok h
 have c0 := h.c0
 have hsm := h.sml
 obtain ⟨i0, hi, hz0, hz1, hz2⟩ := info_parts info3
 have d1 : decide ((l : Int) < 0) = false := decide_eq_false (by omega)
 have d2 : decide (last < l) = false := decide_eq_false (by omega)
 go_enter Tryz.func153, Tryz.ntmps153
 go_wp2_with (first | (go_at_call 122; refine same_at hm ?_))
 go_loopw [5, 6] (fun s i wr => ∃ k : Nat, k ≤ last - l ∧ i = .int .i64 ((l : Int) + 1 + (k : Int)) ∧ Nums w.heap.size wr s (behd l k) ∧ Below w.heap.size w wr ∧ Hid (∀ x : Int, (l : Int) < x → x ≤ ((l + k : Nat) : Int) → (fP P x).isSome = true)) (fun s i _ => last + 1 - (intOf i).toNat)
 case atStart => exact ⟨0, by omega, by simp, Nums.nil _ _, Below.refl _ _, fun x h1 h2 => by omega⟩
 case round =>
  obtain ⟨k, hk, rfl, hN, hb, HA⟩ := hrel
  have hps := h.kept hb
  have c0r := hps.c0
  by_cases hlt : k < last - l
  ·have hp := isPending_ok hps ((l : Int) + 1 + (k : Int)) ⟨by omega, by omega⟩
   have hle : (l : Int) + 1 + (k : Int) ≤ (last : Int) := by omega
   have hbl : (behd l k).length ≤ 10000 := by rw [behd_len]; omega
   have HE : Hid (behd l (k + 1) = behd l k ++ [(l : Int) + 1 + (k : Int)]) := by show behd l k ++ _ = _; congr 2; omega
   clear hps c0
   obtain ⟨y, hy⟩ : ∃ y, y = (l : Int) + 1 + (k : Int) := ⟨_, rfl⟩
   rw [← hy] at hp hle HE ⊢
   have HY : Hid _ := hy
   clear hy
   cases hf : (fP P y).isSome with
   | true =>
    rw [hf] at hp
    have HF : Hid _ := hf
    clear hf
    have hwy : IntKind.i64.wrap (y + 1) = y + 1 := IntWalk.i64_in _ (by have := HY.out; omega)
    go_wp2_with (first
     | (go_at_call 214; refine below_at hp ?_; intro w1 hb1; have hN2 := hN.kept hb1; have hb2 := below_on hb hb1)
     | (at_builtin; refine wpList_append_own _ rfl _ _ 49 rfl w.heap.size 3 i0 (.int .i64 0) 1 8 Tryz.underlying49 hi hz0 hz1 hz2 rfl (by decide) _ _ _ rfl (World.ownsRow.alloc hN2 _) ⟨w1.heap.size, 0, none⟩ 1 1 [.int .i64 y] rfl rfl (cell_one_new _ _ _) (by simp [Value.oneCell']) (by unfold maxLen; omega) (by omega) (by have := hb2.size; simp; omega) ?_; intro v' w3 hown hgrow _; have hown := Nums.snoc hown; obtain ⟨g', cap', rfl⟩ := Nums.succ hown))
    have hb3 := (hb2.alloc (by have := hb2.size; omega) _).grown hgrow (by have := hb2.size; simp; omega) (by intro k hk; exact (World.ownsRow.lt hN2 k hk).1)
    go_roundw
    case rel =>
     refine ⟨k + 1, by omega, by rw [HY.out]; go_num, by rw [HE.out]; exact hown, hb3, fun x h1 h2 => ?_⟩
     by_cases e : x ≤ ((l + k : Nat) : Int)
     ·exact HA.out x h1 e
     ·have : x = y := by have := HY.out; omega
      rw [this]; exact HF.out
    case measure => have := HY.out; simp [intOf]; omega
   | false =>
    rw [hf] at hp
    have HF : Hid _ := hf
    clear hf
    go_wp2_with (first | (go_at_call 214; refine below_at hp ?_; intro w1 hb1))
    go_ret
    refine .inl ⟨⟨fun hall => ?_, rfl⟩, below_on hb hb1⟩
    have := hall y (by have := HY.out; omega) hle
    rw [HF.out] at this
    cases this
  ·obtain rfl : k = last - l := by omega
   have hbl : (behd l (last - l)).length ≤ 10000 := by rw [behd_len]; omega
   have hgt : ¬ (l : Int) + 1 + ((last - l : Nat) : Int) ≤ (last : Int) := by omega
   have hdd : decide ((l : Int) + 1 + ((last - l : Nat) : Int) ≤ (last : Int)) = false := decide_eq_false hgt
   obtain ⟨q1, c1, hv1, hI1, hpl1⟩ := hN.ii (by omega) (fun x hx => by have := (mem_behd _ _ _).1 hx; exact ⟨by omega, by omega⟩)
   subst hv1
   have hrm := remove_ok hps q1 _ c1 _ hI1 (by omega)
   have HP : Hid (kpP P (behd l (last - l)) = upP P l) := by
    show _ = _
    unfold kpP upP
    apply List.filter_congr
    intro p hp
    have h1 := (h.ids p hp).2.1
    rw [Bool.eq_iff_iff, decide_eq_true_iff, Bool.not_eq_true', decide_eq_false_iff_not, mem_behd]
    omega
   rw [HP.out] at hrm
   clear hI1 hN
   have hwl : (l : Int) + 1 + ((last - l : Nat) : Int) = (last : Int) + 1 := by omega
   rw [hwl]
   go_wp2_with (first | (go_at_call 236; refine hrm.mono ?_; rintro _ w5 ⟨rfl, K', hPS, hSt⟩; have c5 := hPS.c0; have f5 : w5.frozen? ⟨a, 0, none⟩ = false := (by simp [World.frozen?, hPS.row]); obtain ⟨hP6, hS6⟩ := hPS.setLast l hl (fun p hp => of_decide_eq_true (List.mem_filter.1 hp).2)))
   go_ret
   exact .inr ⟨⟨fun x h1 h2 => HA.out x h1 (by omega), rfl⟩, K', hP6, ((stp_below hb).trans hSt).trans hS6⟩
end Go.Proofs.YthdlpeejmmobmaaGreat.Pt

namespace Go.Proofs.YthdlpeejmmobmaaGreat.Pt
open Go.RowKit Go.Maps
set_option maxRecDepth 100000
set_option linter.unusedVariables false
def cvs1 (p : Pv) (i : Nat) : Prop := p.off ≤ i ∧ i < endP p
def uppF (p : Pv) : List Pv → List Bool × Int → List Int → List Int
 | [], _, I => I
 | u :: l, s, I => if 0 < (upS p u s).2 then uppF p l (upS p u s) (upI p u s I) else upI p u s I
def cov0 : List Bool := List.replicate 128 false
def uppL (P : List Pv) (p : Pv) : List Int := uppF p (ofB P (p.blk : Int)).reverse (cov0, (p.bs.length : Int)) []
theorem cvs_len (s : List Bool × Int) (i : Nat) : (cvs s i).1.length = s.1.length := by unfold cvs; split <;> simp
theorem cvr_len (s : List Bool × Int) (lo : Nat) : ∀ k, (cvr s lo k).1.length = s.1.length
 | 0 => rfl
 | k + 1 => by rw [show cvr s lo (k + 1) = cvs (cvr s lo k) (lo + k) from rfl, cvs_len, cvr_len s lo k]
theorem cvs_at (s : List Bool × Int) (i j : Nat) (hj : j < s.1.length) : (cvs s i).1.getD j true = true ↔ s.1.getD j true = true ∨ j = i := by
 unfold cvs
 by_cases h : s.1.getD i true = true
 ·rw [if_pos h]
  constructor
  ·exact .inl
  ·rintro (h1 | rfl)
   ·exact h1
   ·exact h
 ·rw [if_neg h]
  by_cases e : j = i
  ·subst e
   simp [List.getD_eq_getElem?_getD, hj]
  ·simp [List.getD_eq_getElem?_getD, e, Ne.symm e]
theorem cvr_at (s : List Bool × Int) (lo : Nat) (j : Nat) (hj : j < s.1.length) : ∀ k, (cvr s lo k).1.getD j true = true ↔ s.1.getD j true = true ∨ (lo ≤ j ∧ j < lo + k)
 | 0 => by
  rw [show cvr s lo 0 = s from rfl]
  constructor
  ·exact .inl
  ·rintro (h | h)
   ·exact h
   ·omega
 | k + 1 => by
  rw [show cvr s lo (k + 1) = cvs (cvr s lo k) (lo + k) from rfl, cvs_at _ _ _ (by rw [cvr_len]; exact hj), cvr_at s lo j hj k]
  constructor
  ·rintro ((h | h) | h)
   ·exact .inl h
   ·exact .inr (by omega)
   ·exact .inr (by omega)
  ·rintro (h | h)
   ·exact .inl (.inl h)
   ·by_cases e : j = lo + k
    ·exact .inr e
    ·exact .inl (.inr (by omega))
theorem cvs_cnt (s : List Bool × Int) (i : Nat) : (cvs s i).2 + (trs (cvs s i).1 : Int) = s.2 + (trs s.1 : Int) := by
 unfold cvs
 by_cases h : s.1.getD i true = true
 ·rw [if_pos h]
 ·rw [if_neg h]
  have := trs_set s.1 i (by simpa using h)
  simp only [this]
  omega
theorem cvr_cnt (s : List Bool × Int) (lo : Nat) : ∀ k, (cvr s lo k).2 + (trs (cvr s lo k).1 : Int) = s.2 + (trs s.1 : Int)
 | 0 => rfl
 | k + 1 => by rw [show cvr s lo (k + 1) = cvs (cvr s lo k) (lo + k) from rfl, cvs_cnt, cvr_cnt s lo k]
theorem cvs_le (s : List Bool × Int) (i : Nat) : (cvs s i).2 ≤ s.2 := by unfold cvs; split <;> simp <;> omega
theorem cvr_le (s : List Bool × Int) (lo : Nat) : ∀ k, (cvr s lo k).2 ≤ s.2
 | 0 => Int.le_refl _
 | k + 1 => Int.le_trans (cvs_le _ _) (cvr_le s lo k)
theorem cvr_lt (s : List Bool × Int) (lo j : Nat) (hj : j < s.1.length) (hb : s.1.getD j true = false) : ∀ k, lo ≤ j → j < lo + k → (cvr s lo k).2 < s.2
 | 0, h1, h2 => by omega
 | k + 1, h1, h2 => by
  rw [show cvr s lo (k + 1) = cvs (cvr s lo k) (lo + k) from rfl]
  by_cases e : j < lo + k
  ·exact Int.lt_of_le_of_lt (cvs_le _ _) (cvr_lt s lo j hj hb k h1 e)
  ·obtain rfl : j = lo + k := by omega
   have hn : (cvr s lo k).1.getD (lo + k) true = false := by
    rw [← Bool.not_eq_true, cvr_at s lo (lo + k) hj k]
    rintro (h | h)
    ·rw [hb] at h; cases h
    ·omega
   have := cvr_le s lo k
   unfold cvs
   rw [hn]
   simp
   omega
theorem trs_win : ∀ (l : List Bool) (lo k : Nat), (∀ i, l[i]? = some true → lo ≤ i ∧ i < lo + k) → trs l ≤ k
 | [], _, k, _ => Nat.zero_le k
 | b :: l, 0, 0, h => by
  cases b with
  | true => have := h 0 rfl; omega
  | false =>
   have := trs_win l 0 0 (fun i hi => by have := h (i + 1) (by simpa using hi); omega)
   simp [trs]; omega
 | b :: l, 0, k + 1, h => by
  have := trs_win l 0 k (fun i hi => by have := h (i + 1) (by simpa using hi); omega)
  cases b <;> simp [trs] <;> omega
 | b :: l, lo + 1, k, h => by
  have := trs_win l lo k (fun i hi => by have := h (i + 1) (by simpa using hi); omega)
  cases b with
  | true => have := h 0 rfl; omega
  | false => simp [trs]; omega
theorem trs_full {l : List Bool} {lo k : Nat} (h : ∀ i, l[i]? = some true → lo ≤ i ∧ i < lo + k) (hk : k ≤ trs l) {j : Nat} (hj : lo ≤ j ∧ j < lo + k) (hl : j < l.length) : l.getD j true = true := by
 by_cases e : l.getD j true = true
 ·exact e
 ·exfalso
  have h1 := trs_set l j (by simpa using e)
  have h2 := trs_win (l.set j true) lo k (fun i hi => by
   by_cases e2 : i = j
   ·subst e2; exact hj
   ·rw [List.getElem?_set_ne (Ne.symm e2)] at hi; exact h i hi)
  omega
theorem lo_k (p u : Pv) (i : Nat) : (loP p u ≤ i ∧ i < loP p u + kP p u) ↔ cvs1 p i ∧ cvs1 u i := by
 unfold cvs1 loP kP loP
 omega
structure UInv (p : Pv) (V : List Pv) (s : List Bool × Int) (I : List Int) : Prop where
 len : s.1.length = 128
 cnt : s.2 + (trs s.1 : Int) = (p.bs.length : Int)
 cov : ∀ i, i < 128 → (s.1.getD i true = true ↔ cvs1 p i ∧ ∃ u ∈ V, cvs1 u i)
 mem : ∀ x ∈ I, ∃ u ∈ V, (u.id : Int) = x ∧ ∃ i, cvs1 p i ∧ cvs1 u i
 top : ∀ i, cvs1 p i → ∀ q ∈ V, cvs1 q i → ∃ u ∈ V, (u.id : Int) ∈ I ∧ cvs1 u i ∧ q.id ≤ u.id
theorem trs_rep : ∀ n, trs (List.replicate n false) = 0
 | 0 => rfl
 | n + 1 => by rw [List.replicate_succ]; simp [trs, trs_rep n]
theorem uinv_nil (p : Pv) (h : p.off + p.bs.length ≤ 128) : UInv p [] (cov0, (p.bs.length : Int)) [] := by
 have h0 : trs cov0 = 0 := trs_rep 128
 have h1 : ∀ i, i < 128 → cov0.getD i true = false := fun i hi => by
  unfold cov0
  rw [List.getD_eq_getElem?_getD, List.getElem?_replicate, if_pos hi]
  rfl
 have h2 : cov0.length = 128 := List.length_replicate
 generalize cov0 = c0 at *
 refine ⟨h2, by simp only [h0]; omega, fun i hi => ?_, (fun x hx => by cases hx), (fun i _ q hq => by cases hq)⟩
 constructor
 ·intro h'
  have := h1 i hi
  simp only at h'
  rw [this] at h'
  cases h'
 ·rintro ⟨_, u, hu, _⟩
  cases hu
theorem UInv.step {p : Pv} {V : List Pv} {s : List Bool × Int} {I : List Int} (h : UInv p V s I) (hp : p.off + p.bs.length ≤ 128) (u : Pv) (hu : ∀ q ∈ V, u.id < q.id) : UInv p (V ++ [u]) (upS p u s) (upI p u s I) := by
 have hat : ∀ i, i < 128 → ((upS p u s).1.getD i true = true ↔ s.1.getD i true = true ∨ (cvs1 p i ∧ cvs1 u i)) := fun i hi => by
  unfold upS
  rw [cvr_at s _ i (by rw [h.len]; exact hi), lo_k]
 have hlt : ∀ i, i < 128 → cvs1 p i → cvs1 u i → s.1.getD i true = false → (upS p u s).2 < s.2 := fun i hi h1 h2 hb => by
  have := (lo_k p u i).2 ⟨h1, h2⟩
  exact cvr_lt s _ i (by rw [h.len]; exact hi) hb _ this.1 this.2
 have hmono : ∀ x ∈ I, x ∈ upI p u s I := fun x hx => by
  unfold upI
  split
  ·exact List.mem_append_left _ hx
  ·exact hx
 refine ⟨by unfold upS; rw [cvr_len]; exact h.len, by unfold upS; rw [cvr_cnt]; exact h.cnt, fun i hi => ?_, fun x hx => ?_, fun i hpi q hq hqi => ?_⟩
 ·rw [hat i hi, h.cov i hi]
  constructor
  ·rintro (⟨h1, v, hv, h2⟩ | ⟨h1, h2⟩)
   ·exact ⟨h1, v, List.mem_append_left _ hv, h2⟩
   ·exact ⟨h1, u, by simp, h2⟩
  ·rintro ⟨h1, v, hv, h2⟩
   rcases List.mem_append.1 hv with hv | hv
   ·exact .inl ⟨h1, v, hv, h2⟩
   ·simp only [List.mem_singleton] at hv
    subst hv
    exact .inr ⟨h1, h2⟩
 ·unfold upI at hx
  split at hx
  ·rename_i hl
   rcases List.mem_append.1 hx with hx | hx
   ·obtain ⟨v, hv, e⟩ := h.mem x hx
    exact ⟨v, List.mem_append_left _ hv, e⟩
   ·simp only [List.mem_singleton] at hx
    refine ⟨u, by simp, hx.symm, ?_⟩
    unfold upS at hl
    cases hk : kP p u with
    | zero => rw [hk] at hl; exact absurd hl (by simp [cvr])
    | succ k => exact ⟨loP p u, (lo_k p u _).1 ⟨Nat.le_refl _, by omega⟩⟩
  ·obtain ⟨v, hv, e⟩ := h.mem x hx
   exact ⟨v, List.mem_append_left _ hv, e⟩
 ·have hi : i < 128 := by have := hpi.2; unfold endP at this; omega
  rcases List.mem_append.1 hq with hq | hq
  ·obtain ⟨v, hv, h1, h2, h3⟩ := h.top i hpi q hq hqi
   exact ⟨v, List.mem_append_left _ hv, hmono _ h1, h2, h3⟩
  ·simp only [List.mem_singleton] at hq
   subst hq
   cases hb : s.1.getD i true with
   | true =>
    obtain ⟨_, v, hv, hvi⟩ := (h.cov i hi).1 hb
    obtain ⟨v2, hv2, h1, h2, h3⟩ := h.top i hpi v hv hvi
    exact ⟨v2, List.mem_append_left _ hv2, hmono _ h1, h2, by have := hu v hv; omega⟩
   | false =>
    refine ⟨q, by simp, ?_, hqi, Nat.le_refl _⟩
    unfold upI
    rw [if_pos (hlt i hi hpi hqi hb)]
    simp
theorem uppF_ok {p : Pv} (hp : p.off + p.bs.length ≤ 128) : ∀ (l V : List Pv) (s : List Bool × Int) (I : List Int), UInv p V s I → (V ++ l).Pairwise (fun a b => b.id < a.id) →
  (∀ x ∈ uppF p l s I, ∃ u ∈ V ++ l, (u.id : Int) = x ∧ ∃ i, cvs1 p i ∧ cvs1 u i) ∧
  (∀ i, cvs1 p i → ∀ q ∈ V ++ l, cvs1 q i → ∃ u ∈ V ++ l, (u.id : Int) ∈ uppF p l s I ∧ cvs1 u i ∧ q.id ≤ u.id)
 | [], V, s, I, h, hs => by
  rw [List.append_nil]
  exact ⟨h.mem, h.top⟩
 | u :: l, V, s, I, h, hs => by
  have hu : ∀ q ∈ V, u.id < q.id := fun q hq => (List.pairwise_append.1 hs).2.2 q hq u (by simp)
  have h' := h.step hp u hu
  have e : V ++ u :: l = V ++ [u] ++ l := by simp
  rw [e] at hs ⊢
  unfold uppF
  split
  ·exact uppF_ok hp l _ _ _ h' hs
  ·rename_i hz
   refine ⟨fun x hx => ?_, fun i hpi q hq hqi => ?_⟩
   ·obtain ⟨v, hv, r⟩ := h'.mem x hx
    exact ⟨v, List.mem_append_left _ hv, r⟩
   ·have hi : i < 128 := by have := hpi.2; unfold endP at this; omega
    have hfull : (upS p u s).1.getD i true = true := by
     refine trs_full (lo := p.off) (k := p.bs.length) (fun j hj => ?_) (by have := h'.cnt; omega) (j := i) (by have := hpi.1; have := hpi.2; unfold endP at *; omega) (by rw [h'.len]; exact hi)
     have hjl : j < 128 := by have := (List.getElem?_eq_some_iff.1 hj).1; rw [h'.len] at this; exact this
     have := (h'.cov j hjl).1 (by rw [List.getD_eq_getElem?_getD, hj]; rfl)
     have h1 := this.1
     unfold cvs1 endP at h1
     omega
    obtain ⟨_, v, hv, hvi⟩ := (h'.cov i hi).1 hfull
    rcases List.mem_append.1 hq with hq | hq
    ·obtain ⟨v2, hv2, r⟩ := h'.top i hpi q hq hqi
     exact ⟨v2, List.mem_append_left _ hv2, r⟩
    ·obtain ⟨v2, hv2, h1, h2, h3⟩ := h'.top i hpi v hv hvi
     have := (List.pairwise_append.1 hs).2.2 v hv q hq
     exact ⟨v2, List.mem_append_left _ hv2, h1, h2, by omega⟩
theorem mem_ofB {P : List Pv} {b : Int} {p : Pv} : p ∈ ofB P b ↔ p ∈ P ∧ (p.blk : Int) = b := by
 unfold ofB; rw [List.mem_filter, decide_eq_true_iff]
theorem uppL_ok {P : List Pv} (hs : P.Pairwise (fun p q => p.id < q.id)) {p : Pv} (hp : p.off + p.bs.length ≤ 128) :
  (∀ x ∈ uppL P p, ∃ u ∈ ofB P (p.blk : Int), (u.id : Int) = x ∧ ∃ i, cvs1 p i ∧ cvs1 u i) ∧
  (∀ i, cvs1 p i → ∀ q ∈ ofB P (p.blk : Int), cvs1 q i → ∃ u ∈ ofB P (p.blk : Int), (u.id : Int) ∈ uppL P p ∧ cvs1 u i ∧ q.id ≤ u.id) := by
 have := uppF_ok hp (ofB P (p.blk : Int)).reverse [] _ _ (uinv_nil p hp) (by rw [List.nil_append, List.pairwise_reverse]; exact List.Pairwise.filter _ hs)
 simpa [uppL] using this
theorem upI_len (p u : Pv) (s : List Bool × Int) (I : List Int) : (upI p u s I).length ≤ I.length + 1 := by unfold upI; split <;> simp
theorem uppF_len (p : Pv) : ∀ (l : List Pv) (s : List Bool × Int) (I : List Int), (uppF p l s I).length ≤ I.length + l.length
 | [], _, _ => by simp [uppF]
 | u :: l, s, I => by
  have h1 := upI_len p u s I
  unfold uppF
  split
  ·have := uppF_len p l (upS p u s) (upI p u s I)
   simp; omega
  ·simp; omega
theorem uppL_len (P : List Pv) (p : Pv) : (uppL P p).length ≤ P.length := by
 have h1 := uppF_len p (ofB P (p.blk : Int)).reverse (cov0, (p.bs.length : Int)) []
 have h2 : (ofB P (p.blk : Int)).length ≤ P.length := List.length_filter_le _ _
 unfold uppL
 simp at h1
 omega
end Go.Proofs.YthdlpeejmmobmaaGreat.Pt
