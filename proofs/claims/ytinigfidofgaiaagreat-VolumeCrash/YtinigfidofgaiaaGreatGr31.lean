/- VW VX WR WA -/
import Derived.Test.YtinigfidofgaiaaGreatGr30
import Derived.Test.YtinigfidofgaiaaGreatGr28

/- Sync of all that is pending. -/
namespace Go.Proofs.YtinigfidofgaiaaGreat
open Go.RowKit Go.Maps
set_option linter.unusedVariables false
set_option maxRecDepth 100000

theorem stp_late {D D' : Nat → Prop} {w w1 w2 : World} {g : Nat} (h : Pt.Stp D D' w w1) (hf : Frame (fun k => k = g) w1 w2) (hg : w.heap.size ≤ g) : Pt.Stp D D' w w2 :=
  ⟨⟨hf.os.trans h.fr.os, hf.tape.trans h.fr.tape, hf.output.trans h.fr.output, Nat.le_trans h.fr.size hf.size, fun i hi hn => (hf.block i (Nat.lt_of_lt_of_le hi h.fr.size) (by omega)).trans (h.fr.block i hi hn)⟩, h.new⟩

/-- The list of what is still wanted. -/
structure Wn (b : Nat) (w : World) (A : At) (T : Vs) (q : Option Addr) (n c : Nat) (O : List Int) : Prop where
  ii : Pt.II w q n O
  up : O.Pairwise (fun x y => x < y)
  iff : ∀ x, x ∈ O ↔ ∃ pv ∈ T.P, (pv.id : Int) = x
  nc : n ≤ c
  at_ : 0 < n → ∃ g o, q = some ⟨g, o, none⟩ ∧ b ≤ g ∧ g < w.heap.size ∧ ¬ fp A T g ∧ ∀ k, k < n → w.frozen? ⟨g, o + k, none⟩ = false

/-- Behind rounds. -/
structure Syn (T T' : Vs) : Prop where
  good : Good T'
  all : allOf T' = allOf T
  N : T'.S.N = T.S.N
  last : T'.last = T.last
  len : T'.P.length ≤ T.P.length
  C : T'.C.hi + T'.C.mi + 12 * T'.P.length ≤ T.C.hi + T.C.mi + 12 * T.P.length
  Sl : T'.S.last + 12 * (T'.P.length : Int) ≤ T.S.last + 12 * (T.P.length : Int)
  NW : T'.NW + 12 * T'.P.length ≤ T.NW + 12 * T.P.length

section
variable {g : Int} {B : Nat} {w w' : World} {A : At} {T T' : Vs} {b : Nat}
theorem kept_iff {last : Nat} {P P' : List Pt.Pv} {O : List Int} (hO : ∀ x, x ∈ O ↔ ∃ pv ∈ P, (pv.id : Int) = x) (hs : ∀ pv ∈ P', pv ∈ P) (hid : ∀ pv ∈ P, 1 ≤ pv.id ∧ pv.id ≤ last) (x : Int) : x ∈ kept last P' O ↔ ∃ pv ∈ P', (pv.id : Int) = x := by
  unfold kept
  rw [List.mem_filter, hO x]
  constructor
  · rintro ⟨⟨pv, hp, rfl⟩, h2⟩
    have hk : Pt.kn last (pv.id : Int) = true := Pt.kn_true.2 (by have := hid pv hp; omega)
    unfold Pt.dn at h2
    rw [hk] at h2
    simp only [Bool.true_and, Bool.not_not] at h2
    exact Pt.fP_isSome.1 h2
  · rintro ⟨pv, hp, rfl⟩
    refine ⟨⟨pv, hs pv hp, rfl⟩, ?_⟩
    have : (Pt.fP P' (pv.id : Int)).isSome = true := Pt.fP_isSome.2 ⟨pv, hp, rfl⟩
    unfold Pt.dn
    rw [this]
    simp

theorem wn_len {b : Nat} {q : Option Addr} {n c : Nat} {O : List Int} (h : Wn b w A T q n c O) (hg : Pt.Gd T.P) : n = T.P.length := by
  have hnO : O.Nodup := h.up.imp (fun h => by omega)
  have hnP : (T.P.map fun p => (p.id : Int)).Nodup := List.pairwise_map.2 (hg.srt.imp (fun h => by omega))
  have h1 := List.Nodup.length_le_of_subset hnO (l₂ := T.P.map fun p => (p.id : Int)) (fun x hx => by
    obtain ⟨pv, hp, e⟩ := (h.iff x).1 hx
    exact List.mem_map.2 ⟨pv, hp, e⟩)
  have h2 := List.Nodup.length_le_of_subset hnP (l₂ := O) (fun x hx => by
    obtain ⟨pv, hp, e⟩ := List.mem_map.1 hx
    exact (h.iff x).2 ⟨pv, hp, e⟩)
  rw [List.length_map] at h1 h2
  have := h.ii.len
  omega
def lenOf : Value → Nat
  | .slice _ n _ => n
  | _ => 0
set_option maxHeartbeats 4000000 in
theorem vSync_ok (h : VI 0 B w A T) (hg : Good T) (p : Option Addr) (n c : Nat) (zs : List Int) (hz : Pt.II w p n zs) (hk : ∀ z ∈ zs, 1 ≤ z ∧ z ≤ (T.last : Int)) (hin : ∀ pv ∈ T.P, (pv.id : Int) ∈ zs) (hpf : ∀ k, Pt.blkOf p = some k → ¬ fp A T k) (hc : T.C.hi + T.C.mi < 1000) (hl : T.S.last < 1000) (hNW : T.NW < 1000) (h41 : T.P.length ≤ 41) :
    Calls Tryz.prog 17 #[.pointer (some ⟨A.v, 0, none⟩), .slice p n c] w fun e w' => e = .returned (.int .i64 0) ∧ ∃ T', VI 0 B w' A T' ∧ Pt.Stp (fp A T) (fp A T') w w' ∧ Syn T T' ∧ T'.P = [] := by
  have hgd := h.guard 1
  have hm := vmade_ok h.vrow.made
  have hlk := h.vrow.lock
  obtain ⟨WL, hWL⟩ : ∃ WL, w.setCell ⟨A.v, 0, none⟩ (.int .i32 1) = WL := ⟨_, rfl⟩
  have hoth : ∀ k, k < w.heap.size → k ≠ A.v → WL.heap[k]? = w.heap[k]? := fun k hk hn => by rw [← hWL]; exact (Frame.setCell (X := fun i => i = A.v) w (p := ⟨A.v, 0, none⟩) (.int .i32 1) rfl).block k hk hn
  have hzL : Pt.II WL p n zs := hz.keptIf (fun k hk hl => hoth k hl (fun e => hpf k hk (.inl e)))
  rw [hWL] at hgd hlk
  have hkn := vknown_ok hgd p n c zs hzL hk
  have hsml := h.ps.sml
  have hPl : T.P.length ≤ T.last := h.ps.len
  go_enter_defers Tryz.func17, Tryz.ntmps17
  go_wp2_with (first
    | (go_at_call 38; refine same_at hm ?_)
    | (go_at_call 39; refine Calls.mono hlk ?_; rintro e w' ⟨rfl, hw'⟩; subst w')
    | (go_at_call 48; refine Pt.below_at hkn ?_; intro w1 hb1))
  have hv1 := hgd.later hb1
  have hdr := vdrain_ok hv1 hg.onW
  have hz1 := hzL.kept hb1
  have hs1 := below_stp (D := fp A T) hb1
  refine Calls.mono hdr ?_
  rintro e w2 ⟨rfl, T2, hv2, hst2, hq2, hD2⟩
  have hz2 := ii_stp hz1 hst2 hpf
  have hcl := Pt.closure2_ok hv2.ps p n c zs hz2
  have c4 := hv2.c4
  have hG2 := hD2.on.good hq2
  have hS2 : Syn T T2 := by
    have hlen := hD2.len
    refine ⟨hG2, hD2.all, hD2.N, hD2.last, by omega, ?_, ?_, ?_⟩
    · have := hD2.C; omega
    · have := hD2.Sl; omega
    · have := hD2.NW; omega
  have hin2 : ∀ pv ∈ T2.P, (pv.id : Int) ∈ zs := fun pv hp => hin pv (hD2.P pv hp)
  have hs2 := hs1.trans hst2
  clear hdr hD2 hq2 hst2 hs1 hz1 hz2 hv1 hkn hin hzL hz
  dsimp only
  go_wp2_with fail
  refine Calls.mono hcl ?_
  rintro e w3 ⟨q, c', O, rfl, hII, hPlq, hiff, hnew, hHd, hcc, hb3⟩
  have hv3 := hv2.later hb3
  have hs3 := hs2.trans (below_stp (D := fp A T2) hb3)
  have hW3 : Wn WL.heap.size w3 A T2 q (Pt.rs O).length c' (Pt.rs O) := by
    refine ⟨hII, Pt.rs_sorted O, fun x => ?_, hcc, fun h0 => ?_⟩
    · rw [Pt.mem_rs, hiff]
      constructor
      · intro hr
        obtain ⟨pv, hp, e⟩ := Pt.fP_isSome.1 hr.pend
        exact ⟨pv, hp, e⟩
      · rintro ⟨pv, hp, rfl⟩
        exact .base (hin2 pv hp) (Pt.fP_isSome.2 ⟨pv, hp, rfl⟩)
    · obtain ⟨gq, o, rfl, hcq⟩ := hII.cells h0
      have hge := hnew gq rfl
      have hlt := lt_of_cell (hcq 0 h0)
      have hsz : WL.heap.size ≤ w2.heap.size := hs2.fr.size
      refine ⟨gq, o, rfl, by omega, hlt, fun hf => ?_, fun k hk => (hHd gq o rfl k (by simpa using hk)).2⟩
      have := hv2.lt gq hf
      omega
  generalize (Pt.rs O).length = n3 at hW3 ⊢
  generalize Pt.rs O = O3 at hW3
  clear hcl hII hPlq hiff hnew hHd hcc hb3 hs2 hv2 c4 hin2
  dsimp only
  go_wp2_with fail
  go_loopw [5, 6] (fun f wv wr => ∃ (T' : Vs) (q : Option Addr) (m c : Nat) (O : List Int), f = .int .i64 0 ∧ wv = .slice q m c ∧ VI 1 B wr A T' ∧ Pt.Stp (fp A T) (fp A T') WL wr ∧ Syn T T' ∧ Wn WL.heap.size wr A T' q m c O) (fun f wv _ => lenOf wv)
  case atStart => exact ⟨T2, q, n3, c', O3, rfl, rfl, hv3, hs3, hS2, hW3⟩
  case round =>
    clear hv3 hs3 hS2 hW3
    obtain ⟨T', q, m, c, O, rfl, rfl, hv, hst, hS, hW⟩ := hrel
    have hmP := wn_len hW hS.good.gd
    rcases Nat.eq_zero_or_pos m with h0 | h0
    · have HE : Hid (T'.P = []) := List.length_eq_zero_iff.1 (by omega)
      subst h0
      have HST := (show Hid _ from hst)
      have HS := (show Hid _ from hS)
      clear hW hmP hS hst
      go_wp2_with fail
      refine leaves_cons (f := 40) (args := #[.pointer (some ⟨A.v, 0, none⟩)]) (by simp) (by simp [go_sem]) ?_
      refine (hv.vheld.unlock .returning).mono ?_
      rintro e u' w'' ⟨rfl, rfl, rfl⟩
      have hst' := HST.out
      rw [← hWL] at hst'
      obtain ⟨hv0, hs0⟩ := unguard hst' hv
      exact ⟨_, results_tmp rfl _ _ _, by simp, T', hv0, hs0, HS.out, HE.out⟩
    · have hP : T'.P ≠ [] := fun e => by rw [e] at hmP; simp at hmP; omega
      obtain ⟨gq, o, rfl, hgb, hgl, hgf, hfz⟩ := hW.at_ h0
      have hlen := hS.len
      have hro := vround_ok hv hS.good hP (some ⟨gq, o, none⟩) m c O hW.ii hW.up (fun pv hp => (hW.iff _).2 ⟨pv, hp, rfl⟩) (fun k hk => by
        have := Option.some.inj (show some gq = some k from hk)
        subst this
        exact hgf) (by have := hS.C; omega) (by have := hS.Sl; omega) (by have := hS.NW; omega)
      have hmI : (0 : Int) < (m : Int) := by omega
      have HW := (show Hid _ from hW)
      have HS := (show Hid _ from hS)
      have HM : Hid (m = T'.P.length ∧ T'.P.length ≤ T.P.length) := ⟨hmP, hlen⟩
      clear hW hS hmP hlen
      go_wp2_with fail
      refine Calls.mono hro ?_
      rintro e w5 ⟨rfl, T5, hv5, hst5, r1, r2, r3, r4, r5, r6, r7, r8, r9⟩
      have hg5 : gq < w5.heap.size := Nat.lt_of_lt_of_le hgl hst5.fr.size
      have hn5 : ¬ fp A T5 gq := fun hf => by
        rcases hst5.new gq hf with h1 | h1
        · exact hgf h1
        · omega
      have hii5 : Pt.II w5 (some ⟨gq, o, none⟩) m O := ii_stp HW.out.ii hst5 (fun k hk => by
        have := Option.some.inj (show some gq = some k from hk)
        subst this
        exact hgf)
      have hfz5 : ∀ k, k < m → w5.frozen? ⟨gq, o + k, none⟩ = false := fun k hk => by
        have e := hst5.fr.block gq hgl hgf
        have := hfz k hk
        unfold World.frozen? at this ⊢
        rw [e]
        exact this
      have hdf := dfunc_ok hv5.ps gq o m c O hii5 hg5 hfz5 HW.out.nc h0 (fun hd => hn5 (.inr (.inr (.inr hd))))
      have hst5' := hst.trans hst5
      have c4 := hv5.c4
      have HX : Hid (Syn T T5 ∧ (∀ x, x ∈ kept T5.last T5.P O ↔ ∃ pv ∈ T5.P, (pv.id : Int) = x) ∧ T5.P.length < m) := by
        have hs := HS.out
        have hm := HM.out
        refine ⟨⟨r1, r2.trans hs.all, r5.trans hs.N, r6.trans hs.last, by omega, ?_, ?_, ?_⟩, fun x => kept_iff HW.out.iff r3 (fun pv hp => ?_) x, by omega⟩
        · have := hs.C; omega
        · have := hs.Sl; omega
        · have := hs.NW; omega
        · rw [r6]
          have := hv.ps.ids pv hp
          exact ⟨this.1, this.2.1⟩
      obtain ⟨KL, HKL⟩ : ∃ KL, Hid (KL = kept T5.last T5.P O) := ⟨_, rfl⟩
      rw [← HKL.out] at hdf HX
      clear hro r1 r2 r3 r4 r5 r6 r7 r8 r9 hst5 hii5 hfz5 hfz
      dsimp only
      go_wp2_with fail
      refine Calls.mono hdf ?_
      rintro e w6 ⟨rfl, hI6, hf6, hfr6⟩
      have hv6 := hv5.frame hfr6 (fun k hk e => hn5 (by rw [← e]; exact hk))
      have hs6 := stp_late hst5' hfr6 hgb
      have hW6 : Wn WL.heap.size w6 A T5 (some ⟨gq, o, none⟩) KL.length c KL := by
        refine ⟨hI6, by rw [HKL.out]; exact HW.out.up.filter _, HX.out.2.1, ?_, fun _ => ⟨gq, o, rfl, hgb, Nat.lt_of_lt_of_le hg5 hfr6.size, hn5, hf6⟩⟩
        have h1 : KL.length ≤ O.length := by rw [HKL.out]; exact List.length_filter_le _ _
        have := HW.out.nc
        have := HW.out.ii.len
        omega
      have hlt : KL.length < m := by
        have h1 := wn_len hW6 HX.out.1.good.gd
        have := HX.out.2.2
        omega
      clear hdf
      dsimp only
      go_wp2_with fail
      go_roundw
      case rel => exact ⟨T5, some ⟨gq, o, none⟩, KL.length, c, KL, rfl, rfl, hv6, hs6, HX.out.1, hW6⟩
      case measure => exact hlt
end
end Go.Proofs.YtinigfidofgaiaaGreat

/- Behind a sync of all the disk has what the volume has (P9.8). -/
namespace Go.Proofs.YtinigfidofgaiaaGreat
open Go.RowKit Go.Maps
set_option linter.unusedVariables false
set_option maxRecDepth 100000

def oneTo (t : Nat) : List Int := (List.range t).map (fun k => ((k : Nat) : Int) + 1)
theorem oneTo_succ (t : Nat) : oneTo (t + 1) = oneTo t ++ [(t : Int) + 1] := by unfold oneTo; rw [List.range_succ, List.map_append]; rfl
theorem oneTo_len (t : Nat) : (oneTo t).length = t := by unfold oneTo; simp
theorem mem_oneTo {t : Nat} {x : Int} : x ∈ oneTo t ↔ 1 ≤ x ∧ x ≤ (t : Int) := by
  unfold oneTo
  rw [List.mem_map]
  constructor
  · rintro ⟨k, hk, rfl⟩
    have := List.mem_range.1 hk
    omega
  · intro h
    exact ⟨(x - 1).toNat, List.mem_range.2 (by omega), by omega⟩

section
variable {g : Int} {B : Nat} {w w' : World} {A : At} {T T' : Vs} {b : Nat}
theorem vIsDone_ok (h : VI 0 B w A T) (hP : T.P = []) (k : Int) (hk : 1 ≤ k ∧ k ≤ (T.last : Int)) : Calls Tryz.prog 18 #[.pointer (some ⟨A.v, 0, none⟩), .int .i64 k] w fun e w' => e = .returned (.bool true) ∧ VI 0 B w' A T ∧ Pt.Stp (fp A T) (fp A T) w w' := by
  have hg := h.guard 1
  have hs := h.ps.sml
  have hd : Pt.dn T.last T.P k = true := by
    unfold Pt.dn
    rw [hP, Pt.kn_true.2 hk]
    rfl
  refine (visDone_of h.vrow k (R := fun r w1 => r = .bool true ∧ VI 1 B w1 A T ∧ Pt.Stp (fp A T) (fp A T) (w.setCell ⟨A.v, 0, none⟩ (.int .i32 1)) w1) ((Pt.isDone_ok hg.ps k ⟨by omega, by omega⟩).mono ?_)).mono ?_
  · rintro e w1 ⟨rfl, hb⟩
    exact ⟨_, _, rfl, (hg.later hb).vheld, by rw [hd], hg.later hb, below_stp hb⟩
  · rintro e w2 ⟨r, y, w1, rfl, _, ⟨rfl, hv, hst⟩, rfl⟩
    obtain ⟨hv0, hs0⟩ := unguard hst hv
    exact ⟨rfl, hv0, hs0⟩

theorem img_im {g n : Nat} {gs : List Nat} {f : Nat → List Int} (h : Img B w g n gs f) : Im B w (.slice (some ⟨g, 0, none⟩) n n) (gs.map fun k => (k, 128)) ((List.range n).map f) := by
  have hl := h.len
  refine ⟨?_, by simp [hl], fun i q xs hq hx => ?_⟩
  · have := h.row
    rw [List.length_map, hl, List.map_map]
    exact this
  · rw [List.getElem?_map] at hq hx
    obtain ⟨k, hk, rfl⟩ := Option.map_eq_some_iff.1 hq
    obtain ⟨j, hj, rfl⟩ := Option.map_eq_some_iff.1 hx
    have hjl := (List.getElem?_eq_some_iff.1 hj).1
    have hji : j = i := by rw [List.getElem?_eq_getElem hjl] at hj; simpa using hj.symm
    subst hji
    have hjn : j < n := by simpa using hjl
    have e : gs.getD j 0 = k := by rw [List.getD_eq_getElem?_getD, hk]; rfl
    have := h.el j hjn
    rw [e] at this
    exact this

set_option maxHeartbeats 4000000 in
theorem volumeSynced_walk (n : Int) (p : Option Addr) (m c : Nat) (D : List Dk) (w : World) (hD : DosI w p m D) : Calls Tryz.prog 4 #[.int .i64 n, .slice p m c] w fun e w' => e = .returned (.bool true) ∧ Below w.heap.size w w' := by
  obtain ⟨i0, hi, hz0, hz1, hz2⟩ := info_parts info3z
  have hbg := begun_ok n p m c D w hD
  go_enter Tryz.func4, Tryz.ntmps4
  go_wp2_with fail
  refine Calls.mono hbg ?_
  rintro e w1 ⟨A, T, rfl, B, j0, hj, hB⟩
  have hla := vLast_ok hB.vi
  obtain ⟨lst, HL⟩ : ∃ lst, Hid (lst = T.last ∧ lst ≤ 41) := ⟨T.last, rfl, by rw [hB.last]; exact hj⟩
  rw [← HL.out.1] at hla
  have hl41 : lst ≤ 41 := HL.out.2
  clear hbg
  dsimp only
  go_wp2_with (first | (go_at_call 16; refine same_at hla ?_))
  go_loopw [8, 24] (fun sv iv wr => ∃ t : Nat, t ≤ lst ∧ iv = .int .i64 (t : Int) ∧ Pt.Nums w1.heap.size wr sv (oneTo t) ∧ Below w1.heap.size w1 wr) (fun sv iv _ => lst - (intOf iv).toNat)
  case atStart => exact ⟨0, by omega, rfl, Pt.Nums.nil _ _, Below.refl _ _⟩
  case round =>
    obtain ⟨t, ht, rfl, hN, hb2⟩ := hrel
    by_cases htl : t < lst
    · have htI : (t : Int) < (lst : Int) := by omega
      have hw1 : IntKind.i64.wrap ((t : Int) + 1) = (t : Int) + 1 := IntWalk.i64_in _ (by omega)
      have hw2 : wrap64 ((t : Int) + 1) = (t : Int) + 1 := by unfold wrap64; omega
      have HO : Hid ((oneTo t).length = t) := oneTo_len t
      have HZ : Hid (oneTo (t + 1) = oneTo t ++ [(t : Int) + 1]) := oneTo_succ t
      go_wp2_with (first
        | (at_builtin; refine wpList_append_own _ rfl _ _ 23 rfl w1.heap.size 3 i0 (.int .i64 0) 1 8 Tryz.underlying23 hi hz0 hz1 hz2 rfl (by decide) _ _ _ rfl (World.ownsRow.alloc hN _) ⟨wr.heap.size, 0, none⟩ 1 1 [.int .i64 ((t : Int) + 1)] rfl rfl (cell_one_new _ _ _) (by simp [Value.oneCell']) (by have := HO.out; unfold maxLen; omega) (by have := HO.out; omega) (by have := hb2.size; simp; omega) ?_; intro v' w3 hown hgrow _; have hown := Pt.Nums.snoc hown; obtain ⟨g', cap', rfl⟩ := Pt.Nums.succ hown))
      have hb3 := (hb2.alloc (by have := hb2.size; omega) _).grown hgrow (by have := hb2.size; simp; omega) (by intro k hk; exact (World.ownsRow.lt hN k hk).1)
      go_roundw
      case rel => exact ⟨t + 1, by omega, by go_num, by rw [HZ.out]; exact hown, hb3⟩
      case measure => simp [intOf]; omega
    · obtain rfl : t = lst := by omega
      have hI : ¬ (t : Int) < (t : Int) := by omega
      have hv2 := hB.vi.later hb2
      have hall := all_ok hv2 (by rw [hB.C]; decide)
      have hol := oneTo_len t
      obtain ⟨q6, c6, rfl, hI6, _⟩ := hN.ii (by omega) (fun x hx => by have := mem_oneTo.1 hx; exact ⟨by omega, by omega⟩)
      have hno6 : ∀ k, Pt.blkOf q6 = some k → ¬ fp A T k ∧ k < wr.heap.size := by
        intro k hk
        rcases hN.2 with ⟨e1, e2⟩ | ⟨g', cap', cur, e1, hbg, hg', rest⟩
        · obtain ⟨rfl, _, _⟩ := Value.slice.inj e1
          cases hk
        · obtain ⟨rfl, _, _⟩ := Value.slice.inj e1
          have hgk := Option.some.inj (show some g' = some k from hk)
          have hlt := (Array.getElem?_eq_some_iff.1 hg').1
          exact ⟨fun hf => by have := hB.vi.lt k hf; omega, by omega⟩
      rw [hol] at hI6
      try rw [hol]
      clear hla hN hol
      go_wp2_with fail
      refine Calls.mono hall ?_
      rintro e w3 ⟨v, gs, C', rfl, hIm, hio, hv3, hst3, hC3⟩
      have hI3 := ii_stp hI6 hst3 (fun k hk => (hno6 k hk).1)
      have hbw := hB.bel.trans (hb2.mono hB.bel.size)
      have hE3 : Env w wr.heap.size v gs (allOf T) A { T with C := C' } w3 := by
        refine ⟨hIm, hio, ?_, ?_⟩
        · refine ⟨hst3.fr.os.trans hbw.os, hst3.fr.tape.trans hbw.tape, hst3.fr.output.trans hbw.output, Nat.le_trans hbw.size hst3.fr.size, fun i hi => ?_⟩
          exact (hst3.fr.block i (Nat.lt_of_lt_of_le hi hbw.size) (fun hf => by have := hB.own i hf; omega)).trans (hbw.block i hi)
        · intro k hk
          rcases hst3.new k hk with h1 | h1
          · exact hB.own k h1
          · have := hbw.size; omega
      have hg := hB.good
      have hTl : ({ T with C := C' } : Vs).last = t := HL.out.1.symm
      have hpf3 : ∀ k, Pt.blkOf q6 = some k → ¬ fp A { T with C := C' } k := fun k hk hf => by
        rcases hst3.new k hf with h1 | h1
        · exact (hno6 k hk).1 h1
        · have := (hno6 k hk).2; omega
      have hsy := vSync_ok hv3 ⟨hg.gd, hg.q, hg.Y, hg.x, hg.blk⟩ q6 t c6 (oneTo t) hI3 (fun z hz => by rw [hTl]; exact mem_oneTo.1 hz) (fun pv hp => by
        have := hv3.ps.ids pv hp
        rw [hTl] at this
        exact mem_oneTo.2 (by omega)) hpf3 (by show C'.hi + C'.mi < 1000; rw [hB.C] at hC3; have : C'.hi + C'.mi ≤ 0 + 0 + 12 := hC3; omega) (by show T.S.last < 1000; rw [hB.Sl]; decide) (by show T.NW < 1000; rw [hB.N]; decide) (by show T.P.length ≤ 41; rw [hB.len]; exact hj)
      obtain ⟨hS, hLl⟩ := all_sect hB.vi
      have hsz3 : wr.heap.size ≤ w3.heap.size := hst3.fr.size
      have HCb : Hid (C'.hi + C'.mi ≤ 12 ∧ T.P.length ≤ 41) := ⟨by rw [hB.C] at hC3; have : C'.hi + C'.mi ≤ 0 + 0 + 12 := hC3; omega, by rw [hB.len]; exact hj⟩
      clear hall hIm hio hC3 hB hst3 hI6 hg
      dsimp only
      go_wp2_with fail
      refine Calls.mono hsy ?_
      rintro e w4 ⟨rfl, T4, hv4, hst4, hSy, hP4⟩
      have hE4 := hE3.stp hst4
      have hI4 := ii_stp hI3 hst4 hpf3
      have hpf4 : ∀ k, Pt.blkOf q6 = some k → ¬ fp A T4 k ∧ k < w4.heap.size := fun k hk => by
        have h1 := (hno6 k hk).2
        have h2 := hst4.fr.size
        refine ⟨fun hf => ?_, ?_⟩
        · rcases hst4.new k hf with h3 | h3
          · exact hpf3 k hk h3
          · omega
        · omega
      have hdi := vDirty_ok hv4
      have hb0 : (Pt.blks T4.P).length = 0 := by rw [hP4]; unfold Pt.blks; rw [List.map_nil, Pt.rs_nil]; rfl
      rw [hb0] at hdi
      have hA4 : allOf T4 = allOf T := hSy.all
      have hF4 : (List.range T4.S.N).map T4.S.f = allOf T := by
        rw [← hA4]
        unfold allOf nowOf
        rw [hP4]
        rfl
      have hT4 : T4.last = t := hSy.last.trans hTl
      have hq4 := hSy.good.q
      have hC4 : T4.C.hi + T4.C.mi < 100000 := by
        have h1 : T4.C.hi + T4.C.mi + 12 * T4.P.length ≤ C'.hi + C'.mi + 12 * T.P.length := hSy.C
        have h2 := HCb.out
        omega
      have HQ : Hid (T4.S.q = [] ∧ T4.P = [] ∧ T4.last = t) := ⟨hq4, hP4, hT4⟩
      clear hsy hE3 hI3 hst4 hb0 hq4 hP4 hT4 hSy hv3 hTl
      dsimp only
      go_wp2_with fail
      refine Calls.mono hdi ?_
      rintro e w5 ⟨p5, c5, rfl, hv5, hst5⟩
      have hE5 := hE4.stp hst5
      have hI5 := ii_stp hI4 hst5 (fun k hk => (hpf4 k hk).1)
      have hwy := vWay_ok hv5
      rw [HQ.out.1] at hwy
      clear hdi
      dsimp only
      go_wp2_with fail
      refine Calls.mono hwy ?_
      rintro e w6 ⟨p6, c7, rfl, hv6, hst6⟩
      have hE6 := hE5.stp hst6
      have hs56 := hst5.trans hst6
      clear hwy hE5 hE4 hI5 hv5 hst5 hst6
      dsimp only
      go_wp2_with fail
      go_loopw [51] (fun iv wz => ∃ k : Nat, k ≤ t ∧ iv = .int .i64 (k : Int) ∧ VI 0 B wz A T4 ∧ Env w wr.heap.size v gs (allOf T) A T4 wz ∧ Pt.Stp (fp A T4) (fp A T4) w4 wz) (fun iv _ => t - (intOf iv).toNat)
      case atStart => exact ⟨0, by omega, rfl, hv6, hE6, hs56⟩
      case round =>
        clear hv6 hE6 hs56
        obtain ⟨k, hk, rfl, hv7, hE7, hs7⟩ := hrel
        have hI7 := ii_stp hI4 hs7 (fun k hk => (hpf4 k hk).1)
        by_cases hkt : k < t
        · obtain ⟨b7, o7, rfl, hc7⟩ := hI7.cells (by omega)
          have e7 := hc7 k hkt
          have hget : (oneTo t).getD k 0 = (k : Int) + 1 := by
            unfold oneTo
            rw [List.getD_eq_getElem?_getD, List.getElem?_map, List.getElem?_range hkt]
            rfl
          rw [hget] at e7
          have hkI : (k : Int) < (t : Int) := by omega
          have hk0 : (0 : Int) ≤ (k : Int) := by omega
          have hdn := vIsDone_ok hv7 HQ.out.2.1 ((k : Int) + 1) (by rw [HQ.out.2.2]; omega)
          clear hc7 hI7 hget
          go_wp2_with fail
          refine Calls.mono hdn ?_
          rintro e w8 ⟨rfl, hv8, hst8⟩
          have hE8 := hE7.stp hst8
          have hs8 := hs7.trans hst8
          clear hdn
          dsimp only
          go_wp2_with fail
          go_roundw
          case rel => exact ⟨k + 1, by omega, by go_num, hv8, hE8, hs8⟩
          case measure => simp [intOf]; omega
        · obtain rfl : k = t := by omega
          have hkI : ¬ (k : Int) < (k : Int) := by omega
          have him := image_ok hv7.cd.di
          clear hI7
          go_wp2_with fail
          refine Calls.mono him ?_
          rintro e w8 ⟨g8, gs8, rfl, hIg, hb8⟩
          have hv8 := hv7.later hb8
          have hE8 := hE7.stp (below_stp (D := fp A T4) hb8)
          have hIm8 := img_im hIg
          rw [hF4] at hIm8
          have hsa := vsame_ok hIm8 hE8.im hS hLl
          have hal := all_ok hv8 (by omega)
          rw [hA4] at hal
          clear him hIg hF4
          dsimp only
          go_wp2_with fail
          refine same_at hsa ?_
          dsimp only
          go_wp2_with fail
          refine Calls.mono hal ?_
          rintro e w9 ⟨v9, gs9, C9, rfl, hIm9, hio9, hv9, hst9, hC9⟩
          have hE9 := hE8.stp hst9
          have hsa9 := vsame_ok hIm9 hE9.im hS hLl
          clear hal hsa
          dsimp only
          go_wp2_with fail
          refine same_at hsa9 ?_
          dsimp only
          go_wp2_with fail
          go_ret
          exact ⟨by simp, hE9.bel⟩
end
end Go.Proofs.YtinigfidofgaiaaGreat

/- A write and its end, with whatever view: what is read stays. -/
namespace Go.Proofs.YtinigfidofgaiaaGreat
open Go.RowKit Go.Maps
set_option linter.unusedVariables false
set_option maxRecDepth 100000

/-- A volume at rest, with whatever view: nothing on the way. -/
structure Rst (T : Vs) : Prop where
  gd : Pt.Gd T.P
  q : T.S.q = []
  Y : T.Y = fun _ => none
  blk : ∀ p ∈ T.P, p.blk < T.S.N
theorem Good.rst {T : Vs} (h : Good T) : Rst T := ⟨h.gd, h.q, h.Y, h.blk⟩
theorem rdy_inR {T : Vs} {x : Int} (hx : x ∈ rdy T (Pt.blks T.P)) (hg : Rst T) : ∃ b : Nat, x = (b : Int) ∧ b < T.S.N ∧ may T (b : Int) = true := by
  obtain ⟨h1, h2⟩ := List.mem_filter.1 hx
  obtain ⟨p, hp, rfl⟩ := List.mem_map.1 ((Pt.mem_rs _ _).1 h1)
  exact ⟨p.blk, rfl, hg.blk p hp, h2⟩

section
variable {g : Int} {B : Nat} {w w' : World} {A : At} {T T1 T2 : Vs} {b : Nat}
theorem chs_lenR (h : VI g B w A T) (b : Nat) (hg : Rst T) : (chs T.P (b : Int)).length ≤ 1000 := by
  have hn : (chs T.P (b : Int)).Nodup := Pt.pst_nodup T.P _ _ (by simp) (hg.gd.srt.sublist List.filter_sublist) (by simp)
  have hs : ∀ x ∈ chs T.P (b : Int), x ∈ (T.P.map fun p => (p.id : Int)) := fun x hx => by
    obtain ⟨p, hp, _, e⟩ := chs_mem hx
    exact List.mem_map.2 ⟨p, hp, e.symm⟩
  have h1 : (chs T.P (b : Int)).length ≤ (T.P.map fun p => (p.id : Int)).length := List.Nodup.length_le_of_subset hn hs
  rw [List.length_map] at h1
  have h2 := h.ps.sml
  have h3 : T.P.length ≤ T.last := h.ps.len
  omega

theorem wrote_qR (hg : Rst T) (hw : Wrote T T1 b) : T1.S.q = [⟨T.S.last + 1, b, outOf T b⟩] := by
  rw [hw.S]
  show T.S.q ++ _ = _
  rw [hg.q]
  rfl

theorem wrote_sR (h : VI g B w A T) (hg : Rst T) (hw : Wrote T T1 b) : ∃ s : Sn, s.zs = chs T.P (b : Int) ∧ T1.Y (b : Int) = some s ∧ s.id = T.S.last + 1 ∧ s.zs.all (Pt.kn T1.last) = true ∧ (Pt.still T1.P s.zs).any (Pt.bad T1.P s.zs) = false ∧ s.zs.length ≤ 1000 ∧ T1.Y = Pt.fput T.Y (b : Int) (some s) := by
  obtain ⟨s, e1, e2, e3⟩ := hw.Y
  refine ⟨s, e2, by rw [e3]; unfold Pt.fput; simp, e1, ?_, ?_, by rw [e2]; exact chs_lenR h b hg, e3⟩
  · rw [List.all_eq_true, e2, hw.last]
    intro x hx
    obtain ⟨p, hp, _, rfl⟩ := chs_mem hx
    have := h.ps.ids p hp
    exact Pt.kn_true.2 (by omega)
  · rw [e2, hw.P]
    exact Pt.bad_none hg.gd (hg.gd.planned (b : Int) []).1

theorem ended_allR (h : VI g B w A T) (hg : Rst T) (hw : Wrote T T1 b) (hm : may T (b : Int) = true) {T1' : Vs} (e1 : T1'.S = T1.S) (e2 : T1'.P = T1.P) (e3 : T1'.Y = T1.Y) (e4 : T1'.x = T1.x) (e5 : T1'.NW = T1.NW) {s : Sn} (hs : s.zs = chs T.P (b : Int)) (hY : T1.Y = Pt.fput T.Y (b : Int) (some s)) {ok : Bool} (he : Ended T1' T2 0 ⟨T.S.last + 1, b, outOf T b⟩ s ok) :
    Rst T2 ∧ allOf T2 = allOf T ∧ T2.P.length ≤ T.P.length ∧ (ok = true → T2.P.length < T.P.length) ∧ T2.S.last = T.S.last + 1 ∧ T2.NW ≤ T.NW + 1 ∧ T2.S.N = T.S.N := by
  have eS : T2.S = (T.S.put b (outOf T b)).done 0 ⟨T.S.last + 1, b, outOf T b⟩ ok := by rw [he.S, e1, hw.S]
  have eP : T2.P = if ok then Pt.kpP T.P (chs T.P (b : Int)) else T.P := by rw [he.P, e2, hw.P, hs]
  have hbad : (Pt.still T.P (chs T.P (b : Int))).any (Pt.bad T.P (chs T.P (b : Int))) = false := Pt.bad_none hg.gd (hg.gd.planned (b : Int) []).1
  have eYY : T2.Y = fun _ => none := by
    rw [he.Y, e3, hY, hg.Y]
    funext k
    unfold Pt.fput
    by_cases hk : k = (b : Int) <;> simp [hk]
  have hq : T2.S.q = [] := by
    rw [eS]
    show (T.S.q ++ [_]).eraseIdx 0 = []
    rw [hg.q]
    rfl
  refine ⟨⟨?_, hq, eYY, ?_⟩, ?_, ?_, ?_, by rw [eS]; rfl, by rw [he.N, e5]; exact hw.N, by rw [eS]; rfl⟩
  · rw [eP]
    cases ok
    · exact hg.gd
    · exact hg.gd.kp hbad
  · intro p hp
    have hN : T2.S.N = T.S.N := by rw [eS]; rfl
    rw [hN]
    rw [eP] at hp
    cases ok
    · exact hg.blk p hp
    · exact hg.blk p (Pt.mem_kpP.1 hp).1
  · unfold allOf
    have hN : T2.S.N = T.S.N := by rw [eS]; rfl
    rw [hN]
    refine List.map_congr_left fun b' _ => ?_
    unfold nowOf
    rw [eS, eP]
    cases ok
    · rfl
    · exact now_same hg.gd (fun p hp => (h.ps.ids p hp).2.2.2.2) T.S.f (fun b => (h.sy.ok.sec b).1) b b'
  · rw [eP]
    cases ok
    · exact Nat.le_refl _
    · exact List.length_filter_le _ _
  · rintro rfl
    rw [eP]
    unfold may at hm
    have hc : chs T.P (b : Int) ≠ [] := by
      intro e
      rw [e] at hm
      simp at hm
    obtain ⟨x, hx⟩ := List.exists_mem_of_ne_nil _ hc
    obtain ⟨p, hp, _, rfl⟩ := chs_mem hx
    show (T.P.filter _).length < _
    rw [List.length_filter_lt_length_iff_exists]
    exact ⟨p, hp, by simp [hx]⟩
end
end Go.Proofs.YtinigfidofgaiaaGreat

/- A frozen view in memory, beside its volume. -/
namespace Go.Proofs.YtinigfidofgaiaaGreat
open Go.RowKit Go.Maps
set_option linter.unusedVariables false
set_option maxRecDepth 100000

/-- What a view keeps of a block. -/
structure Kp where
  g : Nat
  c : Nat
  xs : List Int
def Kp.v (k : Kp) : Value := .slice (some ⟨k.g, 0, none⟩) 128 k.c
structure Vw where
  x : Nat
  m : Nat
  room : Nat
  K : Int → Option Kp
/-- The view's own blocks. -/
def vf (V : Vw) (k : Nat) : Prop := k = V.x ∨ k = V.m ∨ ∃ b s, V.K b = some s ∧ s.g = k
/-- A view that is whole, beside the volume. -/
structure VW (w : World) (A : At) (T : Vs) (V : Vw) : Prop where
  tx : T.x = some ⟨V.x, 0, none⟩
  row : w.heap[V.x]? = some (.cells #[.int .i64 (V.room : Int), .map (some V.m), .bool false] 96 (0, 0))
  mf : Pt.Mf w V.m V.room (fun b => (V.K b).map Kp.v)
  bi : ∀ b s, V.K b = some s → Pt.BI w (some ⟨s.g, 0, none⟩) 128 s.xs
  lt : ∀ k, vf V k → k < w.heap.size
  out : ∀ k, vf V k → ¬ fp A T k
  ne : V.m ≠ V.x ∧ ∀ b s, V.K b = some s → s.g ≠ V.m ∧ s.g ≠ V.x
  rm : V.room ≤ 65536
def fpv (A : At) (T : Vs) (V : Vw) (k : Nat) : Prop := fp A T k ∨ vf V k

section
variable {g : Int} {B : Nat} {w w' : World} {A : At} {T T' : Vs} {V : Vw}
theorem VW.stay (h : VW w A T V) (hs : w.heap.size ≤ w'.heap.size) (hb : ∀ k, vf V k → w'.heap[k]? = w.heap[k]?) (hx : T'.x = T.x) (ho : ∀ k, vf V k → ¬ fp A T' k) : VW w' A T' V where
  tx := hx.trans h.tx
  row := (hb _ (.inl rfl)).trans h.row
  mf := h.mf.kept (hb _ (.inr (.inl rfl)))
  bi := fun b s hs' => (h.bi b s hs').keptIf (fun k hk _ => hb k (.inr (.inr ⟨b, s, hs', by simpa [Pt.blkOf] using hk⟩)))
  lt := fun k hk => Nat.lt_of_lt_of_le (h.lt k hk) hs
  out := ho
  ne := h.ne
  rm := h.rm
theorem VW.stp (h : VW w A T V) (hs : Pt.Stp (fp A T) (fp A T') w w') (hx : T'.x = T.x) : VW w' A T' V :=
  h.stay hs.fr.size (fun k hk => hs.fr.block k (h.lt k hk) (h.out k hk)) hx (fun k hk hf => by
    rcases hs.new k hf with h1 | h1
    · exact h.out k hk h1
    · have := h.lt k hk; omega)
theorem VW.later (h : VW w A T V) (hb : Below w.heap.size w w') : VW w' A T V := h.stay hb.size (fun k hk => hb.block k (h.lt k hk)) rfl h.out
theorem VW.guard (h : VW w A T V) (g : Int) : VW (w.setCell ⟨A.v, 0, none⟩ (.int .i32 g)) A T V :=
  h.stay (by simp) (fun k hk => Below.heap_setCell _ _ _ _ (fun e => h.out k hk (.inl e))) rfl h.out
theorem VW.c0 (h : VW w A T V) : w.cell? ⟨V.x, 0, none⟩ = some (.int .i64 (V.room : Int)) := cell_of_row w V.x 0 _ 96 _ h.row
theorem VW.c1 (h : VW w A T V) : w.cell? ⟨V.x, 1, none⟩ = some (.map (some V.m)) := cell_of_row w V.x 1 _ 96 _ h.row
theorem VW.c2 (h : VW w A T V) : w.cell? ⟨V.x, 2, none⟩ = some (.bool false) := cell_of_row w V.x 2 _ 96 _ h.row

/-- How many keys a map has. -/
theorem mf_len {mb N : Nat} {f : Int → Option Value} (h : Pt.Mf w mb N f) : ∃ es c, w.heap[mb]? = some (.map es c) ∧ es.size ≤ N := by
  obtain ⟨D, ⟨es, clock, hb, F, hs, rfl⟩, hN, _⟩ := h
  refine ⟨es, clock, hb, ?_⟩
  rw [size_eq, length_sorted] at hN
  simpa using hN

theorem zero42 (w : World) : (zeroValue 42).run Tryz.prog w = .ok (.slice none 0 0) w := by kernel_rfl

set_option maxHeartbeats 400000 in
theorem whole_some (h : VW w A T V) : Calls Tryz.prog 59 #[.pointer (some ⟨V.x, 0, none⟩)] w fun e w' => e = .returned (.bool true) ∧ w' = w := by
  have c2 := h.c2
  clear h
  go_enter Tryz.func59, Tryz.ntmps59
  go_wp2
  go_ret
  exact ⟨rfl, rfl⟩

set_option maxHeartbeats 400000 in
theorem lacks_some (h : VW w A T V) (b : Nat) (hb : b ≤ 1000) : Calls Tryz.prog 65 #[.pointer (some ⟨V.x, 0, none⟩), .int .i64 (b : Int)] w fun e w' => e = .returned (.bool (V.K (b : Int)).isNone) ∧ w' = w := by
  have hw := whole_some h
  have c1 := h.c1
  have hl := h.mf.get (t := 94) (e := 42) Tryz.underlying94 (zero42 w) (zd := .agg [.lit (.int .i64 0), .lit (.int .i64 0)]) rfl (b : Int) ⟨by omega, by omega⟩
  have q42 := eqlNil w
  clear h
  cases hk : V.K (b : Int) with
  | none =>
    rw [hk] at hl
    have hl2 : (Instr.lookup 94 (.map (some V.m)) (.int .i64 (b : Int)) false).run Tryz.prog w = .ok (.slice none 0 0) w := hl
    clear hl hk
    go_enter Tryz.func65, Tryz.ntmps65
    go_wp2_with (first | (go_at_call 59; refine same_at hw ?_))
    go_ret
    exact ⟨rfl, rfl⟩
  | some s =>
    rw [hk] at hl
    have hl2 : (Instr.lookup 94 (.map (some V.m)) (.int .i64 (b : Int)) false).run Tryz.prog w = .ok (.slice (some ⟨s.g, 0, none⟩) 128 s.c) w := hl
    clear hl hk
    go_enter Tryz.func65, Tryz.ntmps65
    go_wp2_with (first | (go_at_call 59; refine same_at hw ?_))
    go_ret
    exact ⟨rfl, rfl⟩

/-- A block is kept that was lacking. -/
theorem keep_ok (h : VW w A T V) (b : Nat) (hb : b ≤ 1000) (hk : V.K (b : Int) = none) (L : List Int) (hL : ∀ k, Pt.I64 k → V.K k ≠ none → k ∈ L) (hLr : L.length < V.room) (q c : Nat) (xs : List Int) (hbi : Pt.BI w (some ⟨q, 0, none⟩) 128 xs) (hq : q < w.heap.size) (hqf : ¬ fpv A T V q) :
    Calls Tryz.prog 67 #[.pointer (some ⟨V.x, 0, none⟩), .int .i64 (b : Int), .slice (some ⟨q, 0, none⟩) 128 c] w fun e w' => e = .returned (.tuple #[]) ∧
      VW w' A T { V with K := Pt.fput V.K (b : Int) (some ⟨q, c, xs⟩) } ∧ w.grownBy w' (some V.m) := by
  have c0 := h.c0
  have c1 := h.c1
  have hcnt := h.mf.count L (fun k hk hn => hL k hk (fun e => hn (by rw [e]; rfl)))
  obtain ⟨es, cl, hm, hes⟩ := mf_len hcnt
  have hrm := h.rm
  have hlt : ¬ ((V.room : Int) ≤ (es.size : Int)) := by omega
  obtain ⟨w2, hrun, hM, hgd⟩ := (show Pt.Mf w.drew V.m L.length _ from hcnt.kept rfl).put (by omega) (t := 94) (e := 42) Tryz.underlying94 (b : Int) ⟨by omega, by omega⟩ (.slice (some ⟨q, 0, none⟩) 128 c) (d := .agg [.lit (.int .i64 q), .lit (.int .i64 0), .lit (.int .i64 (128 : Nat)), .lit (.int .i64 c)]) rfl
  have hg : w.grownBy w2 (some V.m) := ⟨hgd.os, hgd.tape, hgd.output, hgd.size, hgd.block⟩
  have hdec : decide ((V.room : Int) ≤ (es.size : Int)) = false := decide_eq_false hlt
  have hge : decide (V.room ≤ es.size) = false := decide_eq_false (by omega)
  have HV : Hid (VW w A T V) := h
  have HX : Hid (∀ k, k < w.heap.size → k ≠ V.m → w2.heap[k]? = w.heap[k]?) := fun k hk hn => hg.block k hk (fun e => hn (Option.some.inj e))
  have HM : Hid (Pt.Mf w2 V.m V.room (fun k => (Pt.fput V.K (b : Int) (some ⟨q, c, xs⟩) k).map Kp.v)) := by
    have h1 : Pt.Mf w2 V.m (if ((V.K (b : Int)).map Kp.v).isSome then L.length else L.length + 1) (Pt.fput (fun k => (V.K k).map Kp.v) (b : Int) (some (.slice (some ⟨q, 0, none⟩) 128 c))) := hM
    rw [hk] at h1
    have h2 : Pt.Mf w2 V.m (L.length + 1) (Pt.fput (fun k => (V.K k).map Kp.v) (b : Int) (some (.slice (some ⟨q, 0, none⟩) 128 c))) := h1
    refine (h2.mono (by omega)).congr fun k _ => ?_
    unfold Pt.fput
    by_cases e : k = (b : Int)
    · rw [if_pos e, if_pos e]; rfl
    · rw [if_neg e, if_neg e]
  clear h hM hcnt hk hL hLr hes hlt hrm
  go_enter Tryz.func67, Tryz.ntmps67
  have hlen : ∀ ty, (Builtin.len_ #[94] ty #[.map (some V.m)]).run Tryz.prog w.drew = .ok (.int .i64 (es.size : Int)) w.drew := fun ty => run_len_map (P := Tryz.prog) w.drew 94 ty V.m es cl (by kernel_rfl) hm
  have c0d : w.drew.cell? ⟨V.x, 0, none⟩ = some (.int .i64 (V.room : Int)) := c0
  have c1d : w.drew.cell? ⟨V.x, 1, none⟩ = some (.map (some V.m)) := c1
  go_wp2_with fail
  go_region_held3 (fun w' => w'.cell? ⟨V.x, 0, none⟩ = some (.int .i64 (V.room : Int)) ∧ w'.cell? ⟨V.x, 1, none⟩ = some (.map (some V.m)) ∧ ∀ ty, (Builtin.len_ #[94] ty #[.map (some V.m)]).run Tryz.prog w' = .ok (.int .i64 (es.size : Int)) w') (exact ⟨c0d, c1d, hlen⟩) (fail)
  go_wp2_with fail
  go_end0
  have h := HV.out
  have ho := HX.out
  have hqne : q ≠ V.m ∧ q ≠ V.x := ⟨fun e => hqf (.inr (.inr (.inl e))), fun e => hqf (.inr (.inl e))⟩
  have hxm := h.lt V.x (.inl rfl)
  refine ⟨rfl, ⟨h.tx, (ho _ hxm (fun e => h.ne.1 e.symm)).trans h.row, HM.out, ?_, ?_, ?_, ⟨h.ne.1, ?_⟩, h.rm⟩, hg⟩
  · intro k s hs
    have hs' : Pt.fput V.K (b : Int) (some ⟨q, c, xs⟩) k = some s := hs
    unfold Pt.fput at hs'
    split at hs'
    · cases hs'
      exact hbi.keptIf (fun j hj hl => ho j hl (by simp [Pt.blkOf] at hj; omega))
    · exact (h.bi k s hs').keptIf (fun j hj hl => ho j hl (by simp [Pt.blkOf] at hj; have := (h.ne.2 k s hs').1; omega))
  · rintro k (hk | hk | ⟨b', s, hs, hk⟩)
    · exact Nat.lt_of_lt_of_le (h.lt k (.inl hk)) hg.size
    · exact Nat.lt_of_lt_of_le (h.lt k (.inr (.inl hk))) hg.size
    · have hs' : Pt.fput V.K (b : Int) (some ⟨q, c, xs⟩) b' = some s := hs
      unfold Pt.fput at hs'
      split at hs'
      · cases hs'
        have := hg.size
        simp at hk
        omega
      · exact Nat.lt_of_lt_of_le (h.lt k (.inr (.inr ⟨b', s, hs', hk⟩))) hg.size
  · rintro k (hk | hk | ⟨b', s, hs, hk⟩)
    · exact h.out k (.inl hk)
    · exact h.out k (.inr (.inl hk))
    · have hs' : Pt.fput V.K (b : Int) (some ⟨q, c, xs⟩) b' = some s := hs
      unfold Pt.fput at hs'
      split at hs'
      · cases hs'
        simp at hk
        subst hk
        exact fun hf => hqf (.inl hf)
      · exact h.out k (.inr (.inr ⟨b', s, hs', hk⟩))
  · intro b' s hs
    have hs' : Pt.fput V.K (b : Int) (some ⟨q, c, xs⟩) b' = some s := hs
    unfold Pt.fput at hs'
    split at hs'
    · cases hs'
      exact hqne
    · exact h.ne.2 b' s hs'
end
end Go.Proofs.YtinigfidofgaiaaGreat
