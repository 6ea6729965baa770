/- J3 J4 J5 -/
import Derived.Test.YthdlpeejmmobmaaGreatYG36
import Derived.Test.YthdlpeejmmobmaaGreatYG01

namespace Go.Proofs.YthdlpeejmmobmaaGreat
open Go.RowKit Go.Maps
open Mk.Al (putY rowOf fN eN lo zc)
set_option linter.unusedVariables false
set_option maxRecDepth 100000
def onB (H : Nat → List Int) (B b : Nat) : Bool := Mk.Bit.on (rowOf false (H (b / B))) (b % B)
theorem onB_upd {H : Nat → List Int} {G B Q : Nat} (hm : Mk.Gm.May (G : Int) B Q) (x : Nat) (hl : (H (x / B)).length = 40) (hy : Mk.Num.Byt (H (x / B))) (bb : Bool) (y : Nat) :
  onB (updH H (x / B) (putY false (H (x / B)) (x % B) bb)) B y = if y = x then bb else onB H B y := by
 have hfe := Mk.Al.fe_lt hm false 0
 have hB8 : B ≤ 8 * 32 := hfe.2.1
 have hB0 : 0 < B := by have := hfe.1; have : fN false Q 0 < B := this; omega
 have hlt := Nat.mod_lt x hB0
 have hi : x % B / 8 < (rowOf false (H (x / B))).length := by rw [Mk.Al.row_len false hl]; show x % B / 8 < 32; omega
 have hby := Mk.Al.row_byt false hy
 unfold onB
 rw [row_updF false bb hl]
 by_cases e : y = x
 ·rw [if_pos e, e, if_pos rfl, Mk.Bit.put_on hby hi]
 ·rw [if_neg e]
  by_cases e2 : y / B = x / B
  ·rw [if_pos e2, Mk.Bit.put_other hby hi bb (fun e3 => e (by have h5 := Nat.div_add_mod y B; have h6 := Nat.div_add_mod x B; rw [e2, e3] at h5; omega)), e2]
  ·rw [if_neg e2]
structure Inw (I : Nat → List Int) (G B Q N : Nat) (H H0 : Nat → List Int) (val : Nat → Nat) : Prop where
 hds : Hds I G B H
 tre : Tre (adI I) val
 rng : ∀ i, i < 4230 → val i ≠ 0 → val i < N ∧ 2 + Q / 4 ≤ val i % B ∧ onB H0 B (val i) = false
 bits : ∀ b, b < N → (onB H B b = true ↔ onB H0 B b = true ∨ ∃ i, i < 4230 ∧ val i ≠ 0 ∧ val i = b)
 rows : ∀ n, n < G → rowOf true (H n) = rowOf true (H0 n)
structure Gvn1 (I I2 : Nat → List Int) (G B Q N : Nat) (H H2 : Nat → List Int) (b : Nat) : Prop where
 lt : b < N
 data : 2 + Q / 4 ≤ b % B
 off : onB H B b = false
 hds : Hds I2 G B H2
 bits : ∀ y, onB H2 B y = if y = b then true else onB H B y
 rows : ∀ n, n < G → rowOf true (H2 n) = rowOf true (H n)
 zero : ∀ q, adI I2 b q = 0
 else_ : ∀ c, c % B ≠ 1 → c ≠ b → I2 c = I c
theorem gvn1_mk {I : Nat → List Int} {G B Q N : Nat} {H : Nat → List Int} (hg : Geo G B Q N) (hH : Hds I G B H) (hs : ∀ b, (I b).length = 128) {near n i : Nat} (ho : nst H false G B Q near G = some (n, i)) :
  Gvn1 I (updI (putH I B n (putY false (H n) i true)) (n * B + i) 0 (Mk.zers 128)) G B Q N H (updH H n (putY false (H n) i true)) (n * B + i) := by
 have hfit := hg.fit
 obtain ⟨hn, hfr⟩ := nst_some (by omega) ho
 obtain ⟨h1, h2, h3⟩ := frs_some hg.may hfr
 have h1 : 2 + Q / 4 ≤ i := h1
 have h2 : i < B := h2
 obtain ⟨d1, d2⟩ := div_at (n := n) h2
 have hl := hH.len n hn
 have hy := hH.byt n hn
 have hne : ∀ k, n * B + i ≠ k * B + 1 := fun k e => by
  have := congrArg (· % B) e
  simp only [d2] at this
  rw [Nat.add_comm, Nat.add_mul_mod_self_right, Nat.mod_eq_of_lt (by omega)] at this
  omega
 have hput := hds_put hH (by omega) n (Mk.Al.putY_len false hl i true) (Mk.Al.putY_byt false hy i true)
 have hst : (putH I B n (putY false (H n) i true) (n * B + i)).length = 128 := by
  unfold putH; rw [if_neg (hne n)]; exact hs _
 refine ⟨hg.hd hn h2, by rw [d2]; exact h1, by unfold onB; rw [d1, d2]; exact h3, ⟨fun k hk => ?_, hput.len, hput.byt⟩, fun y => ?_, fun k hk => ?_, fun q => adI_zero hst q, fun c hc hcb => ?_⟩
 ·have := hput.at_ k hk
  unfold updI
  rw [if_neg (fun e => hne k e.symm)]
  exact this
 ·have := onB_upd (H := H) hg.may (n * B + i) (by rw [d1]; exact hl) (by rw [d1]; exact hy) true y
  rw [d1, d2] at this
  exact this
 ·unfold updH
  split
  ·rename_i e; subst e; exact Mk.Al.row_other false hl i true
  ·rfl
 ·unfold updI putH
  rw [if_neg hcb, if_neg]
  intro e
  rw [e] at hc
  rw [Nat.add_comm, Nat.add_mul_mod_self_right, Nat.mod_eq_of_lt (by omega)] at hc
  omega
def par (s : Nat) : Nat := if s < 70 then 4 else if s < 134 then 5 else 70 + (s - 134) / 64
def plc (s : Nat) : Nat := if s < 70 then s - 6 else if s < 134 then s - 70 else (s - 134) % 64
theorem par_kid {j p : Nat} (hj : inner j) (hp : p < 64) : par (kid j p) = j ∧ plc (kid j p) = p := by
 have e : ∀ s, (s < 70 → par s = 4 ∧ plc s = s - 6) ∧ (70 ≤ s → s < 134 → par s = 5 ∧ plc s = s - 70) ∧ (134 ≤ s → par s = 70 + (s - 134) / 64 ∧ plc s = (s - 134) % 64) := by
  intro s
  unfold par plc
  refine ⟨fun h => by rw [if_pos h, if_pos h]; exact ⟨rfl, rfl⟩, fun h1 h2 => ?_, fun h => ?_⟩
  ·rw [if_neg (by omega), if_pos h2, if_neg (by omega), if_pos h2]; exact ⟨rfl, rfl⟩
  ·rw [if_neg (by omega), if_neg (by omega), if_neg (by omega), if_neg (by omega)]; exact ⟨rfl, rfl⟩
 rcases hj with rfl | rfl | hj
 ·have k : kid 4 p = 6 + p := by unfold kid; rw [if_pos rfl]
  rw [k, ((e (6 + p)).1 (by omega)).1, ((e (6 + p)).1 (by omega)).2]; omega
 ·have k : kid 5 p = 70 + p := by unfold kid; rw [if_neg (by omega), if_pos rfl]
  rw [k, ((e (70 + p)).2.1 (by omega) (by omega)).1, ((e (70 + p)).2.1 (by omega) (by omega)).2]; omega
 ·have k : kid j p = 134 + 64 * (j - 70) + p := by unfold kid; rw [if_neg (by omega), if_neg (by omega)]
  rw [k, ((e (134 + 64 * (j - 70) + p)).2.2 (by omega)).1, ((e (134 + 64 * (j - 70) + p)).2.2 (by omega)).2]; omega
theorem par_in {s : Nat} (h6 : 6 ≤ s) (hs : s < 4230) : inner (par s) ∧ plc s < 64 ∧ kid (par s) (plc s) = s := by
 unfold par plc inner kid
 by_cases h1 : s < 70
 ·rw [if_pos h1, if_pos h1, if_pos rfl]; omega
 ·rw [if_neg h1, if_neg h1]
  by_cases h2 : s < 134
  ·rw [if_pos h2, if_pos h2, if_neg (by omega), if_pos rfl]; omega
  ·rw [if_neg h2, if_neg h2, if_neg (by omega), if_neg (by omega)]; omega
def putS (I : Nat → List Int) (val : Nat → Nat) (s b : Nat) : Nat → List Int := if s < 6 then I else updI I (val (par s)) (2 * plc s) (twoB (plc s) b)
theorem Inw.step {I I2 : Nat → List Int} {G B Q N : Nat} {H H2 H0 : Nat → List Int} {val : Nat → Nat} {s b : Nat} (hg : Geo G B Q N) (h : Inw I G B Q N H H0 val) (k : Gvn1 I I2 G B Q N H H2 b) (hN : N ≤ 2048) (hl : ∀ b, (I2 b).length = 128)
  (hs : s < 4230) (h0 : val s = 0) (hp : 6 ≤ s → val (par s) ≠ 0) : Inw (putS I2 val s b) G B Q N H2 H0 (updV val s b) ∧ ∀ c, c % B ≠ 1 → c % B < 2 + Q / 4 → putS I2 val s b c = I c := by
 have hfit := hg.fit
 have hb0 : b ≠ 0 := fun e => by have := k.data; rw [e, Nat.zero_mod] at this; omega
 have hf : ∀ i, i < 4230 → val i ≠ b := by
  intro i hi e
  have hv : val i ≠ 0 := by rw [e]; exact hb0
  have := (h.bits b k.lt).2 (.inr ⟨i, hi, hv, e⟩)
  rw [k.off] at this; cases this
 have hpd : 6 ≤ s → val (par s) % B ≠ 1 ∧ 2 + Q / 4 ≤ val (par s) % B ∧ val (par s) ≠ b := fun h6 => by
  have hi := inner_lt (par_in h6 hs).1
  have := (h.rng _ hi (hp h6)).2.1
  exact ⟨by omega, this, hf _ hi⟩
 have hold : ∀ j p, inner j → val j ≠ 0 → adI I2 (val j) p = adI I (val j) p := fun j p hj hv => by
  have hi := inner_lt hj
  have := (h.rng _ hi hv).2.1
  unfold adI
  rw [k.else_ _ (by omega) (hf _ hi)]
 refine ⟨⟨?_, ?_, ?_, ?_, fun n hn => (k.rows n hn).trans (h.rows n hn)⟩, ?_⟩
 ·refine ⟨fun n hn => ?_, k.hds.len, k.hds.byt⟩
  rw [← k.hds.at_ n hn]
  unfold putS
  split
  ·rfl
  ·unfold updI
   rw [if_neg]
   intro e
   have := (hpd (by omega)).1
   rw [← e, Nat.add_comm, Nat.add_mul_mod_self_right, Nat.mod_eq_of_lt (by omega)] at this
   exact this rfl
 ·refine h.tre.step hs h0 hb0 hf (fun j p hj hp6 e => ?_) (fun p hp6 => ?_) (fun j p hj hp6 e => ?_) (fun j p hj hv hp6 e => ?_)
  ·have h6 := (kid_lt hj hp6).1
   have := hp (by rw [← e]; exact h6)
   rw [← e, (par_kid hj hp6).1] at this
   exact this
  ·unfold putS
   split
   ·exact k.zero p
   ·rw [adI_else _ _ _ (fun e => (hpd (by omega)).2.2 e.symm)]; exact k.zero p
  ·have h6 := (kid_lt hj hp6).1
   obtain ⟨e1, e2⟩ := par_kid hj hp6
   unfold putS
   rw [if_neg (by omega), ← e, e1, e2, adI_new (hl _) (twoB_len hp6) hp6, twoB_num hp6 (by have := k.lt; omega)]
  ·unfold putS
   split
   ·exact hold j p hj hv
   ·rename_i h6
    have h6 : 6 ≤ s := by omega
    obtain ⟨a1, a2, a3⟩ := par_in h6 hs
    by_cases e2 : val j = val (par s)
    ·have ej := h.tre.inj j (par s) (inner_lt hj) (inner_lt a1) hv e2
     subst ej
     rw [adI_old (hl _) (twoB_len a2) a2 (fun e4 => e (by rw [e4]; exact a3))]
     exact hold _ p hj hv
    ·rw [adI_else _ _ _ e2]; exact hold j p hj hv
 ·intro i hi hv
  by_cases e : i = s
  ·subst e
   rw [updV_same]
   refine ⟨k.lt, k.data, ?_⟩
   cases hx : onB H0 B b with
   | false => rfl
   | true =>
    have := (h.bits b k.lt).2 (.inl hx)
    rw [k.off] at this; cases this
  ·rw [updV_ne _ _ e] at hv ⊢
   exact h.rng i hi hv
 ·intro y hy
  rw [k.bits]
  by_cases e : y = b
  ·rw [if_pos e]
   exact ⟨fun _ => .inr ⟨s, hs, by rw [updV_same]; exact hb0, by rw [updV_same, e]⟩, fun _ => rfl⟩
  ·rw [if_neg e, h.bits y hy]
   constructor
   ·rintro (h1 | ⟨i, hi, hv, e2⟩)
    ·exact .inl h1
    ·have : i ≠ s := fun e3 => hv (by rw [e3]; exact h0)
     exact .inr ⟨i, hi, by rw [updV_ne _ _ this]; exact hv, by rw [updV_ne _ _ this]; exact e2⟩
   ·rintro (h1 | ⟨i, hi, hv, e2⟩)
    ·exact .inl h1
    ·have : i ≠ s := fun e3 => e (by rw [← e2, e3, updV_same])
     rw [updV_ne _ _ this] at hv e2
     exact .inr ⟨i, hi, hv, e2⟩
 ·intro c hc1 hc2
  have h1 : I2 c = I c := k.else_ c hc1 (fun e => by have := k.data; rw [← e] at this; omega)
  unfold putS
  split
  ·exact h1
  ·unfold updI
   rw [if_neg (fun e => by have := (hpd (by omega)).2.1; rw [← e] at this; omega)]
   exact h1
end Go.Proofs.YthdlpeejmmobmaaGreat

namespace Go.Proofs.YthdlpeejmmobmaaGreat
set_option linter.unusedVariables false
set_option maxRecDepth 100000
def spk (f : Nat → List Nat) (s : Nat) : Nat → List Nat
 | 0 => []
 | k + 1 => spk f s k ++ f (kid s k)
def spn (val : Nat → Nat) : Nat → Nat → List Nat
 | 0, s => if val s = 0 then [] else [val s]
 | d + 1, s => if val s = 0 then [] else val s :: spk (spn val d) s 64
def span (val : Nat → Nat) : List Nat := spn val 0 0 ++ spn val 0 1 ++ spn val 0 2 ++ spn val 0 3 ++ spn val 1 4 ++ spn val 2 5
theorem spk_len {f : Nat → List Nat} {s m : Nat} (h : ∀ k, (f (kid s k)).length ≤ m) : ∀ k, (spk f s k).length ≤ k * m
 | 0 => by simp [spk]
 | k + 1 => by
  have h1 := spk_len h k
  have h2 := h k
  rw [spk, List.length_append, Nat.add_mul]
  omega
theorem spn_len0 (val : Nat → Nat) (s : Nat) : (spn val 0 s).length ≤ 1 := by
 unfold spn; split <;> simp
theorem spn_len1 (val : Nat → Nat) (s : Nat) : (spn val 1 s).length ≤ 65 := by
 unfold spn
 split
 ·simp
 ·have := spk_len (f := spn val 0) (s := s) (m := 1) (fun k => spn_len0 val _) 64
  rw [List.length_cons]; omega
theorem spn_len2 (val : Nat → Nat) (s : Nat) : (spn val 2 s).length ≤ 4161 := by
 unfold spn
 split
 ·simp
 ·have := spk_len (f := spn val 1) (s := s) (m := 65) (fun k => spn_len1 val _) 64
  rw [List.length_cons]; omega
theorem spn_len (val : Nat → Nat) {d : Nat} (hd : d ≤ 2) (s : Nat) : (spn val d s).length ≤ 4161 := by
 rcases (by omega : d = 0 ∨ d = 1 ∨ d = 2) with rfl | rfl | rfl
 ·exact Nat.le_trans (spn_len0 val s) (by omega)
 ·exact Nat.le_trans (spn_len1 val s) (by omega)
 ·exact spn_len2 val s
theorem mem_spk {f : Nat → List Nat} {s y : Nat} : ∀ {k}, y ∈ spk f s k ↔ ∃ p, p < k ∧ y ∈ f (kid s p)
 | 0 => by simp [spk]
 | k + 1 => by
  rw [spk, List.mem_append, mem_spk]
  constructor
  ·rintro (⟨p, h1, h2⟩ | h)
   ·exact ⟨p, by omega, h2⟩
   ·exact ⟨k, by omega, h⟩
  ·rintro ⟨p, h1, h2⟩
   by_cases e : p = k
   ·subst e; exact .inr h2
   ·exact .inl ⟨p, by omega, h2⟩
def Dep (d s : Nat) : Prop := s < 4230 ∧ (d = 1 → s = 4 ∨ (70 ≤ s ∧ s < 134)) ∧ (d = 2 → s = 5) ∧ d ≤ 2
theorem Dep.inner {d s : Nat} (h : Dep (d + 1) s) : inner s := by
 obtain ⟨h1, h2, h3, h4⟩ := h
 unfold Proofs.YthdlpeejmmobmaaGreat.inner
 rcases (by omega : d = 0 ∨ d = 1) with rfl | rfl
 ·have := h2 rfl; omega
 ·have := h3 rfl; omega
theorem Dep.kid {d s p : Nat} (h : Dep (d + 1) s) (hp : p < 64) : Dep d (kid s p) := by
 have hk := kid_lt h.inner hp
 refine ⟨hk.2.1, fun e => ?_, fun e => ?_, by have := h.2.2.2; omega⟩
 ·subst e
  have := h.2.2.1 rfl
  subst this
  unfold Proofs.YthdlpeejmmobmaaGreat.kid
  rw [if_neg (by omega), if_pos rfl]; omega
 ·have := h.2.2.2; omega
theorem spn_mem {val : Nat → Nat} {y : Nat} : ∀ {d s : Nat}, Dep d s → y ∈ spn val d s → ∃ i, i < 4230 ∧ val i ≠ 0 ∧ val i = y
 | 0, s, hd, h => by
  unfold spn at h
  split at h
  ·cases h
  ·rename_i hv; rw [List.mem_singleton] at h; exact ⟨s, hd.1, hv, h.symm⟩
 | d + 1, s, hd, h => by
  unfold spn at h
  split at h
  ·cases h
  ·rename_i hv
   rcases List.mem_cons.1 h with h | h
   ·exact ⟨s, hd.1, hv, h.symm⟩
   ·obtain ⟨p, hp, h⟩ := mem_spk.1 h
    exact spn_mem (hd.kid hp) h
theorem spn_self {val : Nat → Nat} {d s : Nat} (h : val s ≠ 0) : val s ∈ spn val d s := by
 cases d with
 | zero => unfold spn; rw [if_neg h]; exact List.mem_singleton.2 rfl
 | succ d => unfold spn; rw [if_neg h]; exact List.mem_cons_self ..
theorem spn_kid {val : Nat → Nat} {d s p y : Nat} (h : val s ≠ 0) (hp : p < 64) (hy : y ∈ spn val d (kid s p)) : y ∈ spn val (d + 1) s := by
 unfold spn; rw [if_neg h]
 exact List.mem_cons_of_mem _ (mem_spk.2 ⟨p, hp, hy⟩)
theorem Tre.up {A : Nat → Nat → Int} {val : Nat → Nat} (h : Tre A val) {s : Nat} (h6 : 6 ≤ s) (hs : s < 4230) (hv : val s ≠ 0) : val (par s) ≠ 0 := fun e => by
 obtain ⟨a1, a2, a3⟩ := par_in h6 hs
 have := h.dead _ a1 e _ a2
 rw [a3] at this
 exact hv this
theorem span_iff {A : Nat → Nat → Int} {val : Nat → Nat} (h : Tre A val) (y : Nat) : y ∈ span val ↔ ∃ i, i < 4230 ∧ val i ≠ 0 ∧ val i = y := by
 have d0 : ∀ s, s < 4230 → Dep 0 s := fun s hs => ⟨hs, fun e => by omega, fun e => by omega, by omega⟩
 have d4 : Dep 1 4 := ⟨by omega, fun _ => .inl rfl, fun e => by omega, by omega⟩
 have d5 : Dep 2 5 := ⟨by omega, fun e => by omega, fun _ => rfl, by omega⟩
 unfold span
 simp only [List.mem_append]
 constructor
 ·rintro (((((h | h) | h) | h) | h) | h)
  ·exact spn_mem (d0 0 (by omega)) h
  ·exact spn_mem (d0 1 (by omega)) h
  ·exact spn_mem (d0 2 (by omega)) h
  ·exact spn_mem (d0 3 (by omega)) h
  ·exact spn_mem d4 h
  ·exact spn_mem d5 h
 ·rintro ⟨i, hi, hv, rfl⟩
  have s0 : ∀ d, val i ∈ spn val d i := fun d => spn_self hv
  by_cases h6 : 6 ≤ i
  ·have hu := h.up h6 hi hv
   obtain ⟨a1, a2, a3⟩ := par_in h6 hi
   have s1 : ∀ d, val i ∈ spn val (d + 1) (par i) := fun d => spn_kid hu a2 (by rw [a3]; exact s0 d)
   by_cases h7 : i < 70
   ·have e : par i = 4 := by unfold par; rw [if_pos h7]
    have := s1 0
    rw [e] at this
    exact .inl (.inr this)
   ·by_cases h8 : i < 134
    ·have e : par i = 5 := by unfold par; rw [if_neg h7, if_pos h8]
     have := s1 1
     rw [e] at this
     exact .inr this
    ·have e : par i = 70 + (i - 134) / 64 := by unfold par; rw [if_neg h7, if_neg h8]
     have hp7 : ¬ par i < 70 := by omega
     have hp8 : par i < 134 := by omega
     have e2 : par (par i) = 5 := by
      have : par (par i) = if par i < 70 then 4 else if par i < 134 then 5 else 70 + (par i - 134) / 64 := rfl
      rw [this, if_neg hp7, if_pos hp8]
     have hu2 := h.up (show 6 ≤ par i by omega) (by omega) hu
     obtain ⟨b1, b2, b3⟩ := par_in (show 6 ≤ par i by omega) (by omega)
     have s2 : val i ∈ spn val 2 (par (par i)) := spn_kid hu2 b2 (by rw [b3]; exact s1 0)
     rw [e2] at s2
     exact .inr s2
  ·rcases (by omega : i = 0 ∨ i = 1 ∨ i = 2 ∨ i = 3 ∨ i = 4 ∨ i = 5) with rfl | rfl | rfl | rfl | rfl | rfl
   ·exact .inl (.inl (.inl (.inl (.inl (s0 0)))))
   ·exact .inl (.inl (.inl (.inl (.inr (s0 0)))))
   ·exact .inl (.inl (.inl (.inr (s0 0))))
   ·exact .inl (.inl (.inr (s0 0)))
   ·exact .inl (.inr (s0 1))
   ·exact .inr (s0 2)
end Go.Proofs.YthdlpeejmmobmaaGreat

namespace Go.Proofs.YthdlpeejmmobmaaGreat
open Go.RowKit Go.Maps
set_option linter.unusedVariables false
set_option maxRecDepth 100000
theorem cell_keq {w w' : World} {b o : Nat} (e : w'.heap[b]? = w.heap[b]?) : w'.cell? ⟨b, o, none⟩ = w.cell? ⟨b, o, none⟩ := by simp [World.cell?, e]
theorem info154 : (Tryz.prog.info? 154).map (·.size) = some 2 := by kernel_rfl
theorem next_two (x : Value) (hx1 : x.oneCell' = true) (qb qo b : Nat) (p : Int) (w : World) (h : w.cell? ⟨qb, qo, none⟩ = some (.int .i64 p)) :
  Calls Tryz.prog 149 #[.agg #[x, .slice (some ⟨qb, qo, none⟩) 2 2], .int .i64 (b : Int)] w fun e w' => e = .returned (.agg #[.iface 346 (.agg #[.int .i64 (b : Int), .int .i64 p]), .slice (some ⟨qb, qo + 1, none⟩) 1 1]) ∧ Below w.heap.size w w' := by
 obtain ⟨W, hW⟩ : ∃ W, (w.alloc (Obj.cells #[x, .slice (some ⟨qb, qo, none⟩) 2 2] 154)).alloc (Obj.cells #[.nilIface, .slice none 0 0] 154) = W := ⟨_, rfl⟩
 have hbW : Below w.heap.size w W := by rw [← hW]; exact ((Below.refl _ _).alloc (Nat.le_refl _) _).alloc (by simp) _
 have hx : W.heap[w.heap.size]? = some (.cells #[x, .slice (some ⟨qb, qo, none⟩) 2 2] 154 (0, 0)) := by rw [← hW]; exact at_old (at_new rfl)
 have hr : W.heap[w.heap.size + 1]? = some (.cells #[.nilIface, .slice none 0 0] 154 (0, 0)) := by rw [← hW]; exact at_new (by simp)
 have c1 := cell_of_row _ _ 1 _ _ _ hx
 have cq : W.cell? ⟨qb, qo, none⟩ = some (.int .i64 p) := Mk.cell_kept h hbW
 have hqb : qb < w.heap.size := Mk.lt_of_cell h
 have hcc : ∀ q, q ≠ w.heap.size + 1 → (W.drew.setRow (w.heap.size + 1) #[.iface 346 (.agg #[.int .i64 (b : Int), .int .i64 p]), .slice (some ⟨qb, qo + 1, none⟩) 1 1]).heap[q]? = W.heap[q]? := fun q hq => setRow_other _ _ _ _ hq
 have hrd : W.drew.heap[w.heap.size + 1]? = some (.cells #[.nilIface, .slice none 0 0] 154 (0, 0)) := hr
 go_enter Tryz.func149, Tryz.ntmps149
 go_wp2_with fail
 refine wp_region_held_drew (S := (fun w' => w'.cell? ⟨w.heap.size, 1, none⟩ = some (.slice (some ⟨qb, qo, none⟩) 2 2) ∧ w'.cell? ⟨qb, qo, none⟩ = some (.int .i64 p))) (by kernel_rfl) ⟨c1, cq⟩ (fun hHeld => ?_)
 refine tk 0 ⟨some 5, .move (.tmp 1), 3, "way.go:91", #[], none⟩ ?_ ?_ hHeld ?_
 rotate_left
 ·(intro w hSw; (try dsimp only at hSw); go_simp; try (with_reducible rfl))
 simp only [Act.put, sA, sZ, sS]
 refine tk 1 ⟨some 6, .fieldAddr 154 (.tmp 2) 1, 0, "way.go:91", #[], none⟩ ?_ ?_ hHeld ?_
 rotate_left
 ·(intro w hSw; (try dsimp only at hSw); go_simp; try (with_reducible rfl))
 simp only [Act.put, sA, sZ, sS]
 refine tk 2 ⟨some 7, .load 49 (.tmp 6), 49, "way.go:91", #[⟨1, .data⟩], none⟩ ?_ ?_ hHeld ?_
 rotate_left
 ·(intro w hSw; (try dsimp only at hSw); go_simp; try (with_reducible rfl))
 simp only [Act.put, sA, sZ, sS]
 refine tk 3 ⟨some 8, .indexAddr 49 (.tmp 7) (.const (.int .i64 0)), 0, "way.go:91", #[⟨2, .data⟩], none⟩ ?_ ?_ hHeld ?_
 rotate_left
 ·(intro w hSw; (try dsimp only at hSw); go_simp; try (with_reducible rfl))
 simp only [Act.put, sA, sZ, sS]
 refine tk 4 ⟨some 9, .load 3 (.tmp 8), 3, "way.go:91", #[⟨3, .data⟩], none⟩ ?_ ?_ hHeld ?_
 rotate_left
 ·(intro w hSw; (try dsimp only at hSw); go_simp; try (with_reducible rfl))
 simp only [Act.put, sA, sZ, sS]
 refine tk 5 ⟨some 10, .build 346 #[(0, .tmp 5), (1, .tmp 9)], 346, "way.go:91", #[⟨0, .data⟩, ⟨4, .data⟩], none⟩ ?_ ?_ hHeld ?_
 rotate_left
 ·(intro w hSw; (try dsimp only at hSw); go_simp; try (with_reducible rfl))
 simp only [Act.put, sA, sZ, sS]
 refine tk 6 ⟨some 11, .makeInterface 346 (.tmp 10), 152, "way.go:91", #[⟨5, .data⟩], none⟩ ?_ ?_ hHeld ?_
 rotate_left
 ·(intro w hSw; (try dsimp only at hSw); go_simp; try (with_reducible rfl))
 simp only [Act.put, sA, sZ, sS]
 refine tk 7 ⟨some 12, .fieldAddr 154 (.tmp 2) 1, 0, "way.go:91", #[], none⟩ ?_ ?_ hHeld ?_
 rotate_left
 ·(intro w hSw; (try dsimp only at hSw); go_simp; try (with_reducible rfl))
 simp only [Act.put, sA, sZ, sS]
 refine tk 8 ⟨some 13, .load 49 (.tmp 12), 49, "way.go:91", #[⟨7, .data⟩], none⟩ ?_ ?_ hHeld ?_
 rotate_left
 ·(intro w hSw; (try dsimp only at hSw); go_simp; try (with_reducible rfl))
 simp only [Act.put, sA, sZ, sS]
 refine tk 9 ⟨some 14, .slice 49 (.tmp 13) (some (.const (.int .i64 1))) none none, 49, "way.go:91", #[⟨8, .data⟩], none⟩ ?_ ?_ hHeld ?_
 rotate_left
 ·(intro w hSw; (try dsimp only at hSw); go_simp; try (with_reducible rfl))
 simp only [Act.put, sA, sZ, sS]
 refine tk 10 ⟨some 15, .build 154 #[(0, .tmp 11), (1, .tmp 14)], 154, "way.go:91", #[⟨6, .data⟩, ⟨9, .data⟩], none⟩ ?_ ?_ hHeld ?_
 rotate_left
 ·(intro w hSw; (try dsimp only at hSw); go_simp; try (with_reducible rfl))
 simp only [Act.put, sA, sZ, sS]
 refine wpAnyH_ready (rs := [11]) (by kernel_rfl) (by simp) ?_
 refine AllReadyH.cons (o := ⟨none, .store 154 (.tmp 4) (.tmp 15), 0, "way.go:91", #[⟨10, .data⟩, ⟨0, .phase⟩, ⟨1, .phase⟩, ⟨2, .phase⟩, ⟨3, .phase⟩, ⟨4, .phase⟩, ⟨5, .phase⟩, ⟨6, .phase⟩, ⟨7, .phase⟩, ⟨8, .phase⟩, ⟨9, .phase⟩, ⟨10, .phase⟩], none⟩) rfl (fun K hK => ?_) AllReadyH.nil
 rw [if_pos (by rfl)]
 refine wp_store_row 154 _ _ rfl (w.heap.size + 1) #[.iface 346 (.agg #[.int .i64 (b : Int), .int .i64 p]), .slice (some ⟨qb, qo + 1, none⟩) 1 1] rfl rfl 154 _ hrd info154 rfl (by simp [Value.oneCell']) ?_
 refine hK.out _ _ ⟨(cell_keq (hcc _ (by omega))).trans c1, (cell_keq (hcc _ (by omega))).trans cq⟩ (fun hHeld => ?_)
 clear hK K
 simp only [Act.put]
 refine wpAnyH_done (by kernel_rfl) ?_ _
 go_wp2_with fail
 refine bodyPost_ret (v := .agg #[.iface 346 (.agg #[.int .i64 (b : Int), .int .i64 p]), .slice (some ⟨qb, qo + 1, none⟩) 1 1]) (results_cell_row Tryz.results149 _ _ (w.heap.size + 1) 154 _ (0, 0) _ rfl (setRow_heap _ _ _ _ 154 _ hrd) Tryz.underlying154 rfl info154) rfl ?_
 exact ⟨rfl, below_setRow (hbW.drew) (Nat.le_succ _) _⟩
theorem next_one (x : Value) (hx1 : x.oneCell' = true) (qb qo b : Nat) (p : Int) (w : World) (h : w.cell? ⟨qb, qo, none⟩ = some (.int .i64 p)) :
  Calls Tryz.prog 149 #[.agg #[x, .slice (some ⟨qb, qo, none⟩) 1 1], .int .i64 (b : Int)] w fun e w' => e = .returned (.agg #[.iface 346 (.agg #[.int .i64 (b : Int), .int .i64 p]), .slice (some ⟨qb, qo, none⟩) 0 0]) ∧ Below w.heap.size w w' := by
 obtain ⟨W, hW⟩ : ∃ W, (w.alloc (Obj.cells #[x, .slice (some ⟨qb, qo, none⟩) 1 1] 154)).alloc (Obj.cells #[.nilIface, .slice none 0 0] 154) = W := ⟨_, rfl⟩
 have hbW : Below w.heap.size w W := by rw [← hW]; exact ((Below.refl _ _).alloc (Nat.le_refl _) _).alloc (by simp) _
 have hx : W.heap[w.heap.size]? = some (.cells #[x, .slice (some ⟨qb, qo, none⟩) 1 1] 154 (0, 0)) := by rw [← hW]; exact at_old (at_new rfl)
 have hr : W.heap[w.heap.size + 1]? = some (.cells #[.nilIface, .slice none 0 0] 154 (0, 0)) := by rw [← hW]; exact at_new (by simp)
 have c1 := cell_of_row _ _ 1 _ _ _ hx
 have cq : W.cell? ⟨qb, qo, none⟩ = some (.int .i64 p) := Mk.cell_kept h hbW
 have hqb : qb < w.heap.size := Mk.lt_of_cell h
 have hcc : ∀ q, q ≠ w.heap.size + 1 → (W.drew.setRow (w.heap.size + 1) #[.iface 346 (.agg #[.int .i64 (b : Int), .int .i64 p]), .slice (some ⟨qb, qo, none⟩) 0 0]).heap[q]? = W.heap[q]? := fun q hq => setRow_other _ _ _ _ hq
 have hrd : W.drew.heap[w.heap.size + 1]? = some (.cells #[.nilIface, .slice none 0 0] 154 (0, 0)) := hr
 go_enter Tryz.func149, Tryz.ntmps149
 go_wp2_with fail
 refine wp_region_held_drew (S := (fun w' => w'.cell? ⟨w.heap.size, 1, none⟩ = some (.slice (some ⟨qb, qo, none⟩) 1 1) ∧ w'.cell? ⟨qb, qo, none⟩ = some (.int .i64 p))) (by kernel_rfl) ⟨c1, cq⟩ (fun hHeld => ?_)
 refine tk 0 ⟨some 5, .move (.tmp 1), 3, "way.go:91", #[], none⟩ ?_ ?_ hHeld ?_
 rotate_left
 ·(intro w hSw; (try dsimp only at hSw); go_simp; try (with_reducible rfl))
 simp only [Act.put, sA, sZ, sS]
 refine tk 1 ⟨some 6, .fieldAddr 154 (.tmp 2) 1, 0, "way.go:91", #[], none⟩ ?_ ?_ hHeld ?_
 rotate_left
 ·(intro w hSw; (try dsimp only at hSw); go_simp; try (with_reducible rfl))
 simp only [Act.put, sA, sZ, sS]
 refine tk 2 ⟨some 7, .load 49 (.tmp 6), 49, "way.go:91", #[⟨1, .data⟩], none⟩ ?_ ?_ hHeld ?_
 rotate_left
 ·(intro w hSw; (try dsimp only at hSw); go_simp; try (with_reducible rfl))
 simp only [Act.put, sA, sZ, sS]
 refine tk 3 ⟨some 8, .indexAddr 49 (.tmp 7) (.const (.int .i64 0)), 0, "way.go:91", #[⟨2, .data⟩], none⟩ ?_ ?_ hHeld ?_
 rotate_left
 ·(intro w hSw; (try dsimp only at hSw); go_simp; try (with_reducible rfl))
 simp only [Act.put, sA, sZ, sS]
 refine tk 4 ⟨some 9, .load 3 (.tmp 8), 3, "way.go:91", #[⟨3, .data⟩], none⟩ ?_ ?_ hHeld ?_
 rotate_left
 ·(intro w hSw; (try dsimp only at hSw); go_simp; try (with_reducible rfl))
 simp only [Act.put, sA, sZ, sS]
 refine tk 5 ⟨some 10, .build 346 #[(0, .tmp 5), (1, .tmp 9)], 346, "way.go:91", #[⟨0, .data⟩, ⟨4, .data⟩], none⟩ ?_ ?_ hHeld ?_
 rotate_left
 ·(intro w hSw; (try dsimp only at hSw); go_simp; try (with_reducible rfl))
 simp only [Act.put, sA, sZ, sS]
 refine tk 6 ⟨some 11, .makeInterface 346 (.tmp 10), 152, "way.go:91", #[⟨5, .data⟩], none⟩ ?_ ?_ hHeld ?_
 rotate_left
 ·(intro w hSw; (try dsimp only at hSw); go_simp; try (with_reducible rfl))
 simp only [Act.put, sA, sZ, sS]
 refine tk 7 ⟨some 12, .fieldAddr 154 (.tmp 2) 1, 0, "way.go:91", #[], none⟩ ?_ ?_ hHeld ?_
 rotate_left
 ·(intro w hSw; (try dsimp only at hSw); go_simp; try (with_reducible rfl))
 simp only [Act.put, sA, sZ, sS]
 refine tk 8 ⟨some 13, .load 49 (.tmp 12), 49, "way.go:91", #[⟨7, .data⟩], none⟩ ?_ ?_ hHeld ?_
 rotate_left
 ·(intro w hSw; (try dsimp only at hSw); go_simp; try (with_reducible rfl))
 simp only [Act.put, sA, sZ, sS]
 refine tk 9 ⟨some 14, .slice 49 (.tmp 13) (some (.const (.int .i64 1))) none none, 49, "way.go:91", #[⟨8, .data⟩], none⟩ ?_ ?_ hHeld ?_
 rotate_left
 ·(intro w hSw; (try dsimp only at hSw); go_simp; try (with_reducible rfl))
 simp only [Act.put, sA, sZ, sS]
 refine tk 10 ⟨some 15, .build 154 #[(0, .tmp 11), (1, .tmp 14)], 154, "way.go:91", #[⟨6, .data⟩, ⟨9, .data⟩], none⟩ ?_ ?_ hHeld ?_
 rotate_left
 ·(intro w hSw; (try dsimp only at hSw); go_simp; try (with_reducible rfl))
 simp only [Act.put, sA, sZ, sS]
 refine wpAnyH_ready (rs := [11]) (by kernel_rfl) (by simp) ?_
 refine AllReadyH.cons (o := ⟨none, .store 154 (.tmp 4) (.tmp 15), 0, "way.go:91", #[⟨10, .data⟩, ⟨0, .phase⟩, ⟨1, .phase⟩, ⟨2, .phase⟩, ⟨3, .phase⟩, ⟨4, .phase⟩, ⟨5, .phase⟩, ⟨6, .phase⟩, ⟨7, .phase⟩, ⟨8, .phase⟩, ⟨9, .phase⟩, ⟨10, .phase⟩], none⟩) rfl (fun K hK => ?_) AllReadyH.nil
 rw [if_pos (by rfl)]
 refine wp_store_row 154 _ _ rfl (w.heap.size + 1) #[.iface 346 (.agg #[.int .i64 (b : Int), .int .i64 p]), .slice (some ⟨qb, qo, none⟩) 0 0] rfl rfl 154 _ hrd info154 rfl (by simp [Value.oneCell']) ?_
 refine hK.out _ _ ⟨(cell_keq (hcc _ (by omega))).trans c1, (cell_keq (hcc _ (by omega))).trans cq⟩ (fun hHeld => ?_)
 clear hK K
 simp only [Act.put]
 refine wpAnyH_done (by kernel_rfl) ?_ _
 go_wp2_with fail
 refine bodyPost_ret (v := .agg #[.iface 346 (.agg #[.int .i64 (b : Int), .int .i64 p]), .slice (some ⟨qb, qo, none⟩) 0 0]) (results_cell_row Tryz.results149 _ _ (w.heap.size + 1) 154 _ (0, 0) _ rfl (setRow_heap _ _ _ _ 154 _ hrd) Tryz.underlying154 rfl info154) rfl ?_
 exact ⟨rfl, below_setRow (hbW.drew) (Nat.le_succ _) _⟩
def wayS (n : Nat) : Nat := if n < 4 then n else if n < 68 then 4 else 5
def wayP (n : Nat) : List Nat := if n < 4 then [] else if n < 68 then [n - 4] else [(n - 68) / 64, (n - 68) % 64]
def Plc (w : World) (q : Option Addr) (ps : List Nat) : Prop := ps.length ≤ 2 ∧ (ps ≠ [] → ∃ b o, q = some ⟨b, o, none⟩ ∧ ∀ i, i < ps.length → w.cell? ⟨b, o + i, none⟩ = some (.int .i64 ((ps.getD i 0 : Nat) : Int)))
theorem Plc.nil (w : World) (q : Option Addr) : Plc w q [] := ⟨by simp, fun h => absurd rfl h⟩
theorem Plc.keptIf {w w' : World} {q : Option Addr} {ps : List Nat} (h : Plc w q ps) (hb : ∀ k, Pt.blkOf q = some k → w'.heap[k]? = w.heap[k]?) : Plc w' q ps :=
 ⟨h.1, fun hp => by
  obtain ⟨b, o, rfl, hc⟩ := h.2 hp
  exact ⟨b, o, rfl, fun i hi => (cell_keq (hb b rfl)).trans (hc i hi)⟩⟩
theorem Plc.kept {w w' : World} {q : Option Addr} {ps : List Nat} (h : Plc w q ps) (hb : Below w.heap.size w w') : Plc w' q ps :=
 ⟨h.1, fun hp => by
  obtain ⟨b, o, rfl, hc⟩ := h.2 hp
  exact ⟨b, o, rfl, fun i hi => Mk.cell_kept (hc i hi) hb⟩⟩
theorem next_ok (x : Value) (hx1 : x.oneCell' = true) (q : Option Addr) (b p : Nat) (ps : List Nat) (w : World) (h : Plc w q (p :: ps)) :
  Calls Tryz.prog 149 #[.agg #[x, .slice q (ps.length + 1) (ps.length + 1)], .int .i64 (b : Int)] w fun e w' => ∃ q', e = .returned (.agg #[.iface 346 (.agg #[.int .i64 (b : Int), .int .i64 (p : Int)]), .slice q' ps.length ps.length]) ∧ Plc w' q' ps ∧ (∀ k, Pt.blkOf q' = some k → Pt.blkOf q = some k) ∧ Below w.heap.size w w' := by
 obtain ⟨qb, qo, rfl, hc⟩ := h.2 (by simp)
 have h0 := hc 0 (by simp)
 have hl := h.1
 match ps, h, hc, h0, hl with
 | [], h, hc, h0, hl =>
  refine (next_one x hx1 qb qo b (p : Int) w h0).mono ?_
  rintro e w' ⟨rfl, hb⟩
  exact ⟨_, rfl, Plc.nil _ _, fun k hk => hk, hb⟩
 | [r], h, hc, h0, hl =>
  refine (next_two x hx1 qb qo b (p : Int) w h0).mono ?_
  rintro e w' ⟨rfl, hb⟩
  refine ⟨_, rfl, ⟨by simp, fun _ => ⟨qb, qo + 1, rfl, fun i hi => ?_⟩⟩, fun k hk => hk, hb⟩
  obtain rfl : i = 0 := by simp at hi; exact hi
  exact Mk.cell_kept (hc 1 (by simp)) hb
 | _ :: _ :: _, h, hc, h0, hl => simp at hl
theorem way_nums {n : Nat} (h4 : 68 ≤ n) : ((n : Int) - 68) / 64 = (((n - 68) / 64 : Nat) : Int) ∧ ((n : Int) - 68) % 64 = (((n - 68) % 64 : Nat) : Int) := by omega
theorem wayTo_ok (x n : Nat) (hn : n < 4164) (w : World) : Calls Tryz.prog 80 #[.pointer (some ⟨x, 0, none⟩), .int .i64 (n : Int)] w fun e w' => ∃ q, e = .returned (.agg #[.iface 239 (.agg #[.pointer (some ⟨x, 3 + wayS n, none⟩)]), .slice q (wayP n).length (wayP n).length]) ∧ Plc w' q (wayP n) ∧ (∀ k, Pt.blkOf q = some k → w.heap.size ≤ k ∧ k < w'.heap.size) ∧ Below w.heap.size w w' := by
 go_enter Tryz.func80, Tryz.ntmps80
 go_wp2_with fail
 ·rename_i h4
  have e1 : wayS n = n := if_pos (by omega)
  have e2 : wayP n = [] := if_pos (by omega)
  have hn0 := at_new (w := w) (o := Obj.cells #[.iface 239 (.agg #[.pointer (some ⟨x, 3 + n, none⟩)]), .slice none 0 0] 154) rfl
  refine bodyPost_ret (v := .agg #[.iface 239 (.agg #[.pointer (some ⟨x, 3 + n, none⟩)]), .slice none 0 0]) (results_cell_row Tryz.results80 _ _ w.heap.size 154 _ (0, 0) _ rfl hn0 Tryz.underlying154 rfl info154) rfl ?_
  rw [e1, e2]
  exact ⟨none, rfl, Plc.nil _ _, (fun k hk => by cases hk), Mk.grew_alloc _ _⟩
 ·rename_i h4 h68
  have e1 : wayS n = 4 := (if_neg (by omega)).trans (if_pos (by omega))
  have e2 : wayP n = [n - 4] := (if_neg (by omega)).trans (if_pos (by omega))
  have en : (n : Int) - 4 = ((n - 4 : Nat) : Int) := by omega
  rw [en]
  obtain ⟨o, ho⟩ : ∃ o, Obj.cells #[.iface 239 (.agg #[.pointer (some ⟨x, 7, none⟩)]), .slice (some ⟨w.heap.size + 1, 0, none⟩) 1 1] 154 = o := ⟨_, rfl⟩
  have hn0 : ((w.alloc o).alloc (Obj.cells #[.int .i64 ((n - 4 : Nat) : Int)] 3)).heap[w.heap.size]? = some o := at_old (at_new rfl)
  have hn1 : ((w.alloc o).alloc (Obj.cells #[.int .i64 ((n - 4 : Nat) : Int)] 3)).heap[w.heap.size + 1]? = some (Obj.cells #[.int .i64 ((n - 4 : Nat) : Int)] 3) := at_new (by simp)
  rw [← ho] at hn0
  refine bodyPost_ret (v := .agg #[.iface 239 (.agg #[.pointer (some ⟨x, 7, none⟩)]), .slice (some ⟨w.heap.size + 1, 0, none⟩) 1 1]) (results_cell_row Tryz.results80 _ _ w.heap.size 154 _ (0, 0) _ rfl (by rw [ho]; rw [← ho]; exact hn0) Tryz.underlying154 rfl info154) rfl ?_
  rw [e1, e2]
  refine ⟨some ⟨w.heap.size + 1, 0, none⟩, rfl, ⟨by simp, fun _ => ⟨_, 0, rfl, fun i hi => ?_⟩⟩, (fun k hk => by have : w.heap.size + 1 = k := Option.some.inj hk; exact ⟨by omega, by simp; omega⟩), ((Below.refl _ _).alloc (Nat.le_refl _) _).alloc (by simp) _⟩
  obtain rfl : i = 0 := by simp at hi; exact hi
  rw [ho]
  exact cell_of_row _ _ 0 _ _ _ hn1
 ·rename_i h4 h68
  have e1 : wayS n = 5 := (if_neg (by omega)).trans (if_neg (by omega))
  have e2 : wayP n = [(n - 68) / 64, (n - 68) % 64] := (if_neg (by omega)).trans (if_neg (by omega))
  obtain ⟨m2, m3⟩ := way_nums (n := n) (by omega)
  rw [m2, m3]
  refine bodyPost_ret (v := .agg #[.iface 239 (.agg #[.pointer (some ⟨x, 8, none⟩)]), .slice (some ⟨w.heap.size + 1, 0, none⟩) 2 2]) (results_cell_row Tryz.results80 _ _ w.heap.size 154 _ (0, 0) _ rfl (at_old (at_new rfl)) Tryz.underlying154 rfl info154) rfl ?_
  rw [e1, e2]
  refine ⟨some ⟨w.heap.size + 1, 0, none⟩, rfl, ⟨by simp, fun _ => ⟨_, 0, rfl, fun i hi => ?_⟩⟩, (fun k hk => by have : w.heap.size + 1 = k := Option.some.inj hk; exact ⟨by omega, by simp; omega⟩), ((Below.refl _ _).alloc (Nat.le_refl _) _).alloc (by simp) _⟩
  have hi : i < 2 := hi
  rcases (by omega : i = 0 ∨ i = 1) with rfl | rfl
  ·exact cell_of_row _ _ 0 _ _ _ (at_new (by simp))
  ·exact cell_of_row _ _ 1 _ _ _ (at_new (by simp))
end Go.Proofs.YthdlpeejmmobmaaGreat
