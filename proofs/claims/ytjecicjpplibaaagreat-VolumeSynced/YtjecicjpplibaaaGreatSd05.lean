/- VU VW -/
import Derived.Test.YtjecicjpplibaaaGreatSd04

/- slices.DeleteFunc of numbers by IsDone. -/
namespace Go.Proofs.YtjecicjpplibaaaGreat
open Go.RowKit Go.Maps
set_option linter.unusedVariables false
set_option maxRecDepth 100000

section
variable {B : Nat} {w w' : World} {a mp mb last : Nat} {P : List Pt.Pv} {K : Int → Option Value}
set_option maxHeartbeats 1000000 in
theorem done_idx (h : Pt.PS B w a mp mb last P K) (p : Option Addr) (n c : Nat) (zs : List Int) (hz : Pt.II w p n zs) :
    Calls Tryz.prog 94 #[.slice p n c, .func (.func 53) #[.pointer (some ⟨a, 0, none⟩)] #[]] w fun e w' => ∃ r : Int, e = .returned (.int .i64 r) ∧ Hid ((r = -1 ∧ zs.any (Pt.dn last P) = false) ∨ ∃ j : Nat, j < n ∧ r = (j : Int) ∧ (zs.take j).any (Pt.dn last P) = false ∧ Pt.dn last P (zs.getD j 0) = true) ∧ Below w.heap.size w w' := by
  have hl := hz.len
  have hg := hz.big
  go_enter Tryz.func94, Tryz.ntmps94
  go_wp2_with fail
  go_loopw [8] (fun i wr => ∃ j : Nat, j ≤ n ∧ i = .int .i64 (j : Int) ∧ Hid ((zs.take j).any (Pt.dn last P) = false) ∧ Below w.heap.size w wr) (fun i _ => n - (intOf i).toNat)
  case atStart => exact ⟨0, by omega, rfl, rfl, Below.refl _ _⟩
  case round =>
    obtain ⟨j, hj, rfl, HA, hb⟩ := hrel
    by_cases hlt : j < n
    · obtain ⟨b1, o1, rfl, hc1⟩ := (hz.kept hb).cells (by omega)
      have e1 := hc1 j hlt
      have hh := Pt.isDone_ok (h.kept hb) (zs.getD j 0) (hz.fitAt j)
      have hjI : (j : Int) < (n : Int) := by omega
      have hj0 : (0 : Int) ≤ (j : Int) := by omega
      have HT : Hid _ := Pt.take_one (zs := zs) (j := j) (by omega)
      have HM : Hid _ := Pt.getD_mem' (zs := zs) (j := j) (by omega)
      have HG : ∃ y, Hid (zs.getD j 0 = y) := ⟨_, rfl⟩
      clear hc1
      obtain ⟨y, HG⟩ := HG
      rw [HG.out] at e1 hh HT HM
      cases hy : Pt.dn last P y with
      | true =>
        rw [hy] at hh
        have HR : Hid (Pt.dn last P (zs.getD j 0) = true) := by show _ = _; rw [HG.out]; exact hy
        clear hy
        go_wp2_with (first | (go_at_call 53; refine Pt.below_at hh ?_; intro w1 hb1))
        go_ret
        exact ⟨_, rfl, .inr ⟨j, hlt, rfl, HA.out, HR.out⟩, Pt.below_on hb hb1⟩
      | false =>
        rw [hy] at hh
        have HY : Hid _ := hy
        clear hy
        go_wp2_with (first | (go_at_call 53; refine Pt.below_at hh ?_; intro w1 hb1))
        go_roundw
        case rel => exact ⟨j + 1, by omega, by go_num, (by show _ = _; rw [HT.out, List.any_append, HA.out]; simp [HY.out]), Pt.below_on hb hb1⟩
        case measure => simp [intOf]; omega
    · obtain rfl : j = n := by omega
      have HR : Hid (zs.any (Pt.dn last P) = false) := by show _ = _; rw [← HA.out, List.take_of_length_le (by omega)]
      go_wp2
      go_ret
      exact ⟨-1, rfl, .inl ⟨rfl, HR.out⟩, hb⟩

theorem frame_setCells (g : Nat) : ∀ (vs : List Value) (o : Nat) (w : World), Frame (fun k => k = g) w (w.setCells g o vs)
  | [], _, w => Frame.refl _ _
  | v :: vs, o, w => (Frame.setCell (X := fun k => k = g) w (p := ⟨g, o, none⟩) v rfl).trans (frame_setCells g vs (o + 1) _)
def kept (last : Nat) (P : List Pt.Pv) (zs : List Int) : List Int := zs.filter (fun x => !Pt.dn last P x)
/-- A list while it is thinned: i of the first j are kept. -/
structure Dl (w : World) (last : Nat) (P : List Pt.Pv) (g o n : Nat) (zs : List Int) (i j : Nat) (wr : World) : Prop where
  fr : Frame (fun k => k = g) w wr
  len : (kept last P (zs.take j)).length = i
  pre : ∀ k, k < i → wr.cell? ⟨g, o + k, none⟩ = some (.int .i64 ((kept last P (zs.take j)).getD k 0))
  suf : ∀ k, j ≤ k → k < n → wr.cell? ⟨g, o + k, none⟩ = some (.int .i64 (zs.getD k 0))
  fz : ∀ k, k < n → wr.frozen? ⟨g, o + k, none⟩ = false
  ex : ∀ k, k < n → (wr.cell? ⟨g, o + k, none⟩).isSome = true

theorem Dl.below {w wr w1 : World} {last : Nat} {P : List Pt.Pv} {g o n : Nat} {zs : List Int} {i j : Nat} (h : Dl w last P g o n zs i j wr) (hb : Below wr.heap.size wr w1) (hg : g < wr.heap.size) : Dl w last P g o n zs i j w1 where
  fr := ⟨hb.os.trans h.fr.os, hb.tape.trans h.fr.tape, hb.output.trans h.fr.output, Nat.le_trans h.fr.size hb.size, fun k hk hn => (hb.block k (Nat.lt_of_lt_of_le hk h.fr.size)).trans (h.fr.block k hk hn)⟩
  len := h.len
  pre := fun k hk => (hb.cell (p := ⟨g, o + k, none⟩) hg).trans (h.pre k hk)
  suf := fun k h1 h2 => (hb.cell (p := ⟨g, o + k, none⟩) hg).trans (h.suf k h1 h2)
  fz := fun k hk => by
    have e := hb.block g hg
    have := h.fz k hk
    unfold World.frozen? at this ⊢
    rw [e]
    exact this
  ex := fun k hk => by rw [hb.cell (p := ⟨g, o + k, none⟩) hg]; exact h.ex k hk

theorem kept_snoc (last : Nat) (P : List Pt.Pv) (l : List Int) (y : Int) : kept last P (l ++ [y]) = kept last P l ++ (if Pt.dn last P y then [] else [y]) := by
  unfold kept
  rw [List.filter_append]
  cases hd : Pt.dn last P y <;> simp [hd]

theorem Dl.skip {w wr : World} {last : Nat} {P : List Pt.Pv} {g o n : Nat} {zs : List Int} {i j : Nat} (h : Dl w last P g o n zs i j wr) (hj : j < zs.length) (hd : Pt.dn last P (zs.getD j 0) = true) : Dl w last P g o n zs i (j + 1) wr := by
  have e : kept last P (zs.take (j + 1)) = kept last P (zs.take j) := by rw [Pt.take_one hj, kept_snoc, hd]; simp
  exact ⟨h.fr, by rw [e]; exact h.len, by rw [e]; exact h.pre, fun k h1 h2 => h.suf k (by omega) h2, h.fz, h.ex⟩

theorem Dl.put {w wr : World} {last : Nat} {P : List Pt.Pv} {g o n : Nat} {zs : List Int} {i j : Nat} (h : Dl w last P g o n zs i j wr) (hj : j < zs.length) (hl : zs.length = n) (hi : i < j) (hd : Pt.dn last P (zs.getD j 0) = false) : Dl w last P g o n zs (i + 1) (j + 1) (wr.setCell ⟨g, o + i, none⟩ (.int .i64 (zs.getD j 0))) := by
  have e : kept last P (zs.take (j + 1)) = kept last P (zs.take j) ++ [zs.getD j 0] := by rw [Pt.take_one hj, kept_snoc, hd]; simp
  have hout : ∀ k, k ≠ i → (wr.setCell ⟨g, o + i, none⟩ (.int .i64 (zs.getD j 0))).cell? ⟨g, o + k, none⟩ = wr.cell? ⟨g, o + k, none⟩ := fun k hk => World.cell?_setCells_out g [.int .i64 (zs.getD j 0)] (o + i) wr ⟨g, o + k, none⟩ (fun _ _ => by simp; omega)
  have hsame : (wr.setCell ⟨g, o + i, none⟩ (.int .i64 (zs.getD j 0))).cell? ⟨g, o + i, none⟩ = some (.int .i64 (zs.getD j 0)) := by
    have := World.cell?_setCells_in g [.int .i64 (zs.getD j 0)] (o + i) wr (fun q hq => by
      obtain rfl : q = 0 := by simpa using hq
      exact h.ex i (by omega)) 0 (by simp)
    exact this
  have hlen := h.len
  refine ⟨?_, by rw [e]; simp [hlen], fun k hk => ?_, fun k h1 h2 => by rw [hout k (by omega)]; exact h.suf k (by omega) h2, fun k hk => (World.frozen?_setCells g [.int .i64 (zs.getD j 0)] (o + i) wr _).trans (h.fz k hk), fun k hk => ?_⟩
  · have hs := Frame.setCell (X := fun k => k = g) wr (p := ⟨g, o + i, none⟩) (.int .i64 (zs.getD j 0)) rfl
    exact h.fr.trans hs
  · rw [e]
    by_cases hki : k = i
    · subst hki
      rw [hsame]
      generalize zs.getD j 0 = y
      rw [List.getD_eq_getElem?_getD, List.getElem?_append_right (by omega), hlen]
      simp
    · rw [hout k hki, h.pre k (by omega)]
      generalize zs.getD j 0 = y
      rw [List.getD_eq_getElem?_getD, List.getD_eq_getElem?_getD, List.getElem?_append_left (by omega)]
  · by_cases hki : k = i
    · subst hki
      rw [hsame]
      rfl
    · rw [hout k hki]
      exact h.ex k hk

set_option maxHeartbeats 2000000 in
theorem dfunc_ok (h : Pt.PS B w a mp mb last P K) (g o n c : Nat) (zs : List Int) (hz : Pt.II w (some ⟨g, o, none⟩) n zs) (hg : g < w.heap.size) (hH : ∀ k, k < n → w.frozen? ⟨g, o + k, none⟩ = false) (hnc : n ≤ c) (hn0 : 0 < n) (hdm : ¬ Pt.dm a mp mb P K g) :
    Calls Tryz.prog 52 #[.slice (some ⟨g, o, none⟩) n c, .func (.func 53) #[.pointer (some ⟨a, 0, none⟩)] #[]] w fun e w' => e = .returned (.slice (some ⟨g, o, none⟩) (kept last P zs).length c) ∧ Pt.II w' (some ⟨g, o, none⟩) (kept last P zs).length (kept last P zs) ∧ (∀ k, k < (kept last P zs).length → w'.frozen? ⟨g, o + k, none⟩ = false) ∧ Frame (fun k => k = g) w w' := by
  have hl := hz.len
  have hbig := hz.big
  have hix := done_idx h (some ⟨g, o, none⟩) n c zs hz
  obtain ⟨b0, o0, e0, hc0⟩ := hz.cells hn0
  simp only [Option.some.injEq, Addr.mk.injEq] at e0
  obtain ⟨rfl, rfl, _⟩ := e0
  have hfit : ∀ x ∈ kept last P zs, Pt.I64 x := fun x hx => hz.fit x (List.mem_filter.1 hx).1
  go_enter Tryz.func52, Tryz.ntmps52
  go_wp2_with fail
  refine Calls.mono hix ?_
  rintro e w1 ⟨r, rfl, HR, hb1⟩
  have hg1 : g < w1.heap.size := Nat.lt_of_lt_of_le hg hb1.size
  rcases HR.out with ⟨rfl, hno⟩ | ⟨j0, hj0, rfl, hbef, hat⟩
  · have hall : kept last P zs = zs := by
      unfold kept
      rw [List.filter_eq_self]
      intro x hx
      have := List.any_eq_false.1 hno x hx
      simpa using this
    have HALL := (show Hid _ from hall)
    clear hall
    dsimp only
    go_wp2_with fail
    go_ret
    rw [HALL.out, hl]
    refine ⟨rfl, hz.kept hb1, fun k hk => ?_, ⟨hb1.os, hb1.tape, hb1.output, hb1.size, fun k hk _ => hb1.block k hk⟩⟩
    have e := hb1.block g hg
    have := hH k hk
    unfold World.frozen? at this ⊢
    rw [e]
    exact this
  · have hkp : kept last P (zs.take j0) = zs.take j0 := by
      unfold kept
      rw [List.filter_eq_self]
      intro x hx
      have := List.any_eq_false.1 hbef x hx
      simpa using this
    have hD0 : Dl w last P g o n zs j0 j0 w := by
      refine ⟨Frame.refl _ _, by rw [hkp, List.length_take]; omega, fun k hk => ?_, fun k _ hk => hc0 k hk, hH, fun k hk => by rw [hc0 k hk]; rfl⟩
      rw [hkp, hc0 k (by omega), List.getD_eq_getElem?_getD, List.getD_eq_getElem?_getD, List.getElem?_take, if_pos hk]
    have hD1 := (hD0.skip (by omega) hat).below hb1 hg
    have hj0I : (j0 : Int) ≠ -1 := by omega
    clear hix hD0 hkp hbef hat HR
    dsimp only
    go_wp2_with fail
    go_loopw [5, 6] (fun iv jv wr => ∃ i j : Nat, iv = .int .i64 (i : Int) ∧ jv = .int .i64 (j : Int) ∧ j ≤ n ∧ i < j ∧ Dl w last P g o n zs i j wr) (fun iv jv _ => n - (intOf jv).toNat)
    case atStart => exact ⟨j0, j0 + 1, by go_num, by go_num, by omega, by omega, hD1⟩
    case round =>
      clear hD1 hj0I
      obtain ⟨i, j, rfl, rfl, hj, hij, hD⟩ := hrel
      have hgr : g < wr.heap.size := Nat.lt_of_lt_of_le hg hD.fr.size
      by_cases hlt : j < n
      · have e1 := hD.suf j (Nat.le_refl _) hlt
        have hps := h.else hD.fr.size (fun k hk _ => hD.fr.block k (h.dm_lt hk) (fun e => hdm (by rw [← e]; exact hk)))
        have hh := Pt.isDone_ok hps (zs.getD j 0) (hz.fitAt j)
        have hjI : (j : Int) < (n : Int) := by omega
        have hj0' : (0 : Int) ≤ (j : Int) := by omega
        have hi0' : (0 : Int) ≤ (i : Int) := by omega
        have hiI : (i : Int) < (n : Int) := by omega
        obtain ⟨y, HG⟩ : ∃ y, Hid (zs.getD j 0 = y) := ⟨_, rfl⟩
        rw [HG.out] at e1 hh
        cases hy : Pt.dn last P y with
        | true =>
          rw [hy] at hh
          have HY : Hid (Dl w last P g o n zs i (j + 1) wr) := hD.skip (by omega) (by rw [HG.out]; exact hy)
          clear hy hD
          go_wp2_with (first | (go_at_call 53; refine Pt.below_at hh ?_; intro w2 hb2))
          go_roundw
          case rel =>
            refine ⟨_, _, _, _, _, _, _, _, _, _, _, _, _, _, _, _, _, _, _, _, _, _, _, ?_, rfl⟩
            exact ⟨i, j + 1, rfl, by go_num, by omega, by omega, HY.out.below hb2 hgr⟩
          case measure => simp [intOf]; omega
        | false =>
          rw [hy] at hh
          have HY : Hid (Pt.dn last P (zs.getD j 0) = false) := by show _ = _; rw [HG.out]; exact hy
          clear hy
          go_wp2_with fail
          refine Pt.below_at hh ?_
          intro w2 hb2
          have hD2 := hD.below hb2 hgr
          have hfz := hD2.fz i (by omega)
          obtain ⟨u, hu⟩ := Option.isSome_iff_exists.1 (hD2.ex i (by omega))
          have HP := (show Hid _ from hD2.put (by omega) hl hij HY.out)
          rw [HG.out] at HP
          clear hh hD hD2 hps e1
          dsimp only
          go_wp2_with fail
          go_roundw
          case rel => exact ⟨i + 1, j + 1, by go_num, by go_num, by omega, by omega, HP.out⟩
          case measure => simp [intOf]; omega
      · obtain rfl : j = n := by omega
        have hI : ¬ (j : Int) < (j : Int) := by omega
        have hcl := fun ty cc => Lib.run_clear_slice (P := Tryz.prog) wr 23 3 ty (.int .i64 0) Tryz.underlying23 Tryz.zeroValue3 rfl rfl g (o + i) (j - i) cc (by omega) (fun k hk => by rw [Nat.add_assoc]; exact hD.ex (i + k) (by omega)) (fun k hk => by rw [Nat.add_assoc]; exact hD.fz (i + k) (by omega))
        have hiI : (i : Int) ≤ (j : Int) := by omega
        have hiC : (i : Int) ≤ (c : Int) := by omega
        have hi0 : (0 : Int) ≤ (i : Int) := by omega
        have HK : Hid (kept last P zs = kept last P (zs.take j)) := by show _ = _; rw [List.take_of_length_le (by omega)]
        have HD := (show Hid _ from hD)
        have HF := (show Hid _ from hfit)
        clear hD hfit hz hH hc0
        go_wp2_with fail
        go_ret
        have hd := HD.out
        have hlen := hd.len
        rw [HK.out, hlen]
        refine ⟨rfl, ⟨hlen, by omega, by rw [← HK.out]; exact HF.out, fun h0 => ⟨g, o, rfl, fun k hk => ?_⟩⟩, fun k hk => (World.frozen?_setCells g _ _ wr _).trans (hd.fz k (by omega)), ?_⟩
        · rw [World.cell?_setCells_out g _ (o + i) wr ⟨g, o + k, none⟩ (fun _ _ => by show o + k < o + i ∨ _; omega)]
          exact hd.pre k hk
        · exact hd.fr.trans (frame_setCells g _ _ _)
end
end Go.Proofs.YtjecicjpplibaaaGreat

/- Sync of all that is pending. -/
namespace Go.Proofs.YtjecicjpplibaaaGreat
open Go.RowKit Go.Maps
set_option linter.unusedVariables false
set_option maxRecDepth 100000

theorem stp_late {D D' : Nat → Prop} {w w1 w2 : World} {g : Nat} (h : Pt.Stp D D' w w1) (hf : Frame (fun k => k = g) w1 w2) (hg : w.heap.size ≤ g) : Pt.Stp D D' w w2 :=
  ⟨⟨hf.os.trans h.fr.os, hf.tape.trans h.fr.tape, hf.output.trans h.fr.output, Nat.le_trans h.fr.size hf.size, fun i hi hn => (hf.block i (Nat.lt_of_lt_of_le hi h.fr.size) (by omega)).trans (h.fr.block i hi hn)⟩, h.new⟩

/-- The list of what is still wanted. -/
structure Wn (b : Nat) (w : World) (A : At) (T : Vs) (q : Option Addr) (n c : Nat) (O : List Int) : Prop where
  ii : Pt.II w q n O
  up : O.Pairwise (fun x y => x < y)
  iff : ∀ x, x ∈ O ↔ ∃ pv ∈ T.P, (pv.id : Int) = x
  nc : n ≤ c
  at_ : 0 < n → ∃ g o, q = some ⟨g, o, none⟩ ∧ b ≤ g ∧ g < w.heap.size ∧ ¬ fp A T g ∧ ∀ k, k < n → w.frozen? ⟨g, o + k, none⟩ = false

/-- Behind rounds. -/
structure Syn (T T' : Vs) : Prop where
  good : Good T'
  all : allOf T' = allOf T
  N : T'.S.N = T.S.N
  last : T'.last = T.last
  len : T'.P.length ≤ T.P.length
  C : T'.C.hi + T'.C.mi + 12 * T'.P.length ≤ T.C.hi + T.C.mi + 12 * T.P.length
  Sl : T'.S.last + 12 * (T'.P.length : Int) ≤ T.S.last + 12 * (T.P.length : Int)
  NW : T'.NW + 12 * T'.P.length ≤ T.NW + 12 * T.P.length

section
variable {g : Int} {B : Nat} {w w' : World} {A : At} {T T' : Vs} {b : Nat}
theorem kept_iff {last : Nat} {P P' : List Pt.Pv} {O : List Int} (hO : ∀ x, x ∈ O ↔ ∃ pv ∈ P, (pv.id : Int) = x) (hs : ∀ pv ∈ P', pv ∈ P) (hid : ∀ pv ∈ P, 1 ≤ pv.id ∧ pv.id ≤ last) (x : Int) : x ∈ kept last P' O ↔ ∃ pv ∈ P', (pv.id : Int) = x := by
  unfold kept
  rw [List.mem_filter, hO x]
  constructor
  · rintro ⟨⟨pv, hp, rfl⟩, h2⟩
    have hk : Pt.kn last (pv.id : Int) = true := Pt.kn_true.2 (by have := hid pv hp; omega)
    unfold Pt.dn at h2
    rw [hk] at h2
    simp only [Bool.true_and, Bool.not_not] at h2
    exact Pt.fP_isSome.1 h2
  · rintro ⟨pv, hp, rfl⟩
    refine ⟨⟨pv, hs pv hp, rfl⟩, ?_⟩
    have : (Pt.fP P' (pv.id : Int)).isSome = true := Pt.fP_isSome.2 ⟨pv, hp, rfl⟩
    unfold Pt.dn
    rw [this]
    simp

theorem wn_len {b : Nat} {q : Option Addr} {n c : Nat} {O : List Int} (h : Wn b w A T q n c O) (hg : Pt.Gd T.P) : n = T.P.length := by
  have hnO : O.Nodup := h.up.imp (fun h => by omega)
  have hnP : (T.P.map fun p => (p.id : Int)).Nodup := List.pairwise_map.2 (hg.srt.imp (fun h => by omega))
  have h1 := List.Nodup.length_le_of_subset hnO (l₂ := T.P.map fun p => (p.id : Int)) (fun x hx => by
    obtain ⟨pv, hp, e⟩ := (h.iff x).1 hx
    exact List.mem_map.2 ⟨pv, hp, e⟩)
  have h2 := List.Nodup.length_le_of_subset hnP (l₂ := O) (fun x hx => by
    obtain ⟨pv, hp, e⟩ := List.mem_map.1 hx
    exact (h.iff x).2 ⟨pv, hp, e⟩)
  rw [List.length_map] at h1 h2
  have := h.ii.len
  omega
def lenOf : Value → Nat
  | .slice _ n _ => n
  | _ => 0
set_option maxHeartbeats 4000000 in
theorem vSync_ok (h : VI 0 B w A T) (hg : Good T) (p : Option Addr) (n c : Nat) (zs : List Int) (hz : Pt.II w p n zs) (hk : ∀ z ∈ zs, 1 ≤ z ∧ z ≤ (T.last : Int)) (hin : ∀ pv ∈ T.P, (pv.id : Int) ∈ zs) (hpf : ∀ k, Pt.blkOf p = some k → ¬ fp A T k) (hc : T.C.hi + T.C.mi < 1000) (hl : T.S.last < 1000) (hNW : T.NW < 1000) (h41 : T.P.length ≤ 41) :
    Calls Tryz.prog 17 #[.pointer (some ⟨A.v, 0, none⟩), .slice p n c] w fun e w' => e = .returned (.int .i64 0) ∧ ∃ T', VI 0 B w' A T' ∧ Pt.Stp (fp A T) (fp A T') w w' ∧ Syn T T' ∧ T'.P = [] := by
  have hgd := h.guard 1
  have hm := vmade_ok h.vrow.made
  have hlk := h.vrow.lock
  obtain ⟨WL, hWL⟩ : ∃ WL, w.setCell ⟨A.v, 0, none⟩ (.int .i32 1) = WL := ⟨_, rfl⟩
  have hoth : ∀ k, k < w.heap.size → k ≠ A.v → WL.heap[k]? = w.heap[k]? := fun k hk hn => by rw [← hWL]; exact (Frame.setCell (X := fun i => i = A.v) w (p := ⟨A.v, 0, none⟩) (.int .i32 1) rfl).block k hk hn
  have hzL : Pt.II WL p n zs := hz.keptIf (fun k hk hl => hoth k hl (fun e => hpf k hk (.inl e)))
  rw [hWL] at hgd hlk
  have hkn := vknown_ok hgd p n c zs hzL hk
  have hsml := h.ps.sml
  have hPl : T.P.length ≤ T.last := h.ps.len
  go_enter_defers Tryz.func17, Tryz.ntmps17
  go_wp2_with (first
    | (go_at_call 38; refine same_at hm ?_)
    | (go_at_call 39; refine Calls.mono hlk ?_; rintro e w' ⟨rfl, hw'⟩; subst w')
    | (go_at_call 48; refine Pt.below_at hkn ?_; intro w1 hb1))
  have hv1 := hgd.later hb1
  have hdr := vdrain_ok hv1 hg.onW
  have hz1 := hzL.kept hb1
  have hs1 := below_stp (D := fp A T) hb1
  refine Calls.mono hdr ?_
  rintro e w2 ⟨rfl, T2, hv2, hst2, hq2, hD2⟩
  have hz2 := ii_stp hz1 hst2 hpf
  have hcl := Pt.closure2_ok hv2.ps p n c zs hz2
  have c4 := hv2.c4
  have hG2 := hD2.on.good hq2
  have hS2 : Syn T T2 := by
    have hlen := hD2.len
    refine ⟨hG2, hD2.all, hD2.N, hD2.last, by omega, ?_, ?_, ?_⟩
    · have := hD2.C; omega
    · have := hD2.Sl; omega
    · have := hD2.NW; omega
  have hin2 : ∀ pv ∈ T2.P, (pv.id : Int) ∈ zs := fun pv hp => hin pv (hD2.P pv hp)
  have hs2 := hs1.trans hst2
  clear hdr hD2 hq2 hst2 hs1 hz1 hz2 hv1 hkn hin hzL hz
  dsimp only
  go_wp2_with fail
  refine Calls.mono hcl ?_
  rintro e w3 ⟨q, c', O, rfl, hII, hPlq, hiff, hnew, hHd, hcc, hb3⟩
  have hv3 := hv2.later hb3
  have hs3 := hs2.trans (below_stp (D := fp A T2) hb3)
  have hW3 : Wn WL.heap.size w3 A T2 q (Pt.rs O).length c' (Pt.rs O) := by
    refine ⟨hII, Pt.rs_sorted O, fun x => ?_, hcc, fun h0 => ?_⟩
    · rw [Pt.mem_rs, hiff]
      constructor
      · intro hr
        obtain ⟨pv, hp, e⟩ := Pt.fP_isSome.1 hr.pend
        exact ⟨pv, hp, e⟩
      · rintro ⟨pv, hp, rfl⟩
        exact .base (hin2 pv hp) (Pt.fP_isSome.2 ⟨pv, hp, rfl⟩)
    · obtain ⟨gq, o, rfl, hcq⟩ := hII.cells h0
      have hge := hnew gq rfl
      have hlt := lt_of_cell (hcq 0 h0)
      have hsz : WL.heap.size ≤ w2.heap.size := hs2.fr.size
      refine ⟨gq, o, rfl, by omega, hlt, fun hf => ?_, fun k hk => (hHd gq o rfl k (by simpa using hk)).2⟩
      have := hv2.lt gq hf
      omega
  generalize (Pt.rs O).length = n3 at hW3 ⊢
  generalize Pt.rs O = O3 at hW3
  clear hcl hII hPlq hiff hnew hHd hcc hb3 hs2 hv2 c4 hin2
  dsimp only
  go_wp2_with fail
  go_loopw [5, 6] (fun f wv wr => ∃ (T' : Vs) (q : Option Addr) (m c : Nat) (O : List Int), f = .int .i64 0 ∧ wv = .slice q m c ∧ VI 1 B wr A T' ∧ Pt.Stp (fp A T) (fp A T') WL wr ∧ Syn T T' ∧ Wn WL.heap.size wr A T' q m c O) (fun f wv _ => lenOf wv)
  case atStart => exact ⟨T2, q, n3, c', O3, rfl, rfl, hv3, hs3, hS2, hW3⟩
  case round =>
    clear hv3 hs3 hS2 hW3
    obtain ⟨T', q, m, c, O, rfl, rfl, hv, hst, hS, hW⟩ := hrel
    have hmP := wn_len hW hS.good.gd
    rcases Nat.eq_zero_or_pos m with h0 | h0
    · have HE : Hid (T'.P = []) := List.length_eq_zero_iff.1 (by omega)
      subst h0
      have HST := (show Hid _ from hst)
      have HS := (show Hid _ from hS)
      clear hW hmP hS hst
      go_wp2_with fail
      refine leaves_cons (f := 40) (args := #[.pointer (some ⟨A.v, 0, none⟩)]) (by simp) (by simp [go_sem]) ?_
      refine (hv.vheld.unlock .returning).mono ?_
      rintro e u' w'' ⟨rfl, rfl, rfl⟩
      have hst' := HST.out
      rw [← hWL] at hst'
      obtain ⟨hv0, hs0⟩ := unguard hst' hv
      exact ⟨_, results_tmp rfl _ _ _, by simp, T', hv0, hs0, HS.out, HE.out⟩
    · have hP : T'.P ≠ [] := fun e => by rw [e] at hmP; simp at hmP; omega
      obtain ⟨gq, o, rfl, hgb, hgl, hgf, hfz⟩ := hW.at_ h0
      have hlen := hS.len
      have hro := vround_ok hv hS.good hP (some ⟨gq, o, none⟩) m c O hW.ii hW.up (fun pv hp => (hW.iff _).2 ⟨pv, hp, rfl⟩) (fun k hk => by
        have := Option.some.inj (show some gq = some k from hk)
        subst this
        exact hgf) (by have := hS.C; omega) (by have := hS.Sl; omega) (by have := hS.NW; omega)
      have hmI : (0 : Int) < (m : Int) := by omega
      have HW := (show Hid _ from hW)
      have HS := (show Hid _ from hS)
      have HM : Hid (m = T'.P.length ∧ T'.P.length ≤ T.P.length) := ⟨hmP, hlen⟩
      clear hW hS hmP hlen
      go_wp2_with fail
      refine Calls.mono hro ?_
      rintro e w5 ⟨rfl, T5, hv5, hst5, r1, r2, r3, r4, r5, r6, r7, r8, r9⟩
      have hg5 : gq < w5.heap.size := Nat.lt_of_lt_of_le hgl hst5.fr.size
      have hn5 : ¬ fp A T5 gq := fun hf => by
        rcases hst5.new gq hf with h1 | h1
        · exact hgf h1
        · omega
      have hii5 : Pt.II w5 (some ⟨gq, o, none⟩) m O := ii_stp HW.out.ii hst5 (fun k hk => by
        have := Option.some.inj (show some gq = some k from hk)
        subst this
        exact hgf)
      have hfz5 : ∀ k, k < m → w5.frozen? ⟨gq, o + k, none⟩ = false := fun k hk => by
        have e := hst5.fr.block gq hgl hgf
        have := hfz k hk
        unfold World.frozen? at this ⊢
        rw [e]
        exact this
      have hdf := dfunc_ok hv5.ps gq o m c O hii5 hg5 hfz5 HW.out.nc h0 (fun hd => hn5 (.inr (.inr (.inr hd))))
      have hst5' := hst.trans hst5
      have c4 := hv5.c4
      have HX : Hid (Syn T T5 ∧ (∀ x, x ∈ kept T5.last T5.P O ↔ ∃ pv ∈ T5.P, (pv.id : Int) = x) ∧ T5.P.length < m) := by
        have hs := HS.out
        have hm := HM.out
        refine ⟨⟨r1, r2.trans hs.all, r5.trans hs.N, r6.trans hs.last, by omega, ?_, ?_, ?_⟩, fun x => kept_iff HW.out.iff r3 (fun pv hp => ?_) x, by omega⟩
        · have := hs.C; omega
        · have := hs.Sl; omega
        · have := hs.NW; omega
        · rw [r6]
          have := hv.ps.ids pv hp
          exact ⟨this.1, this.2.1⟩
      obtain ⟨KL, HKL⟩ : ∃ KL, Hid (KL = kept T5.last T5.P O) := ⟨_, rfl⟩
      rw [← HKL.out] at hdf HX
      clear hro r1 r2 r3 r4 r5 r6 r7 r8 r9 hst5 hii5 hfz5 hfz
      dsimp only
      go_wp2_with fail
      refine Calls.mono hdf ?_
      rintro e w6 ⟨rfl, hI6, hf6, hfr6⟩
      have hv6 := hv5.frame hfr6 (fun k hk e => hn5 (by rw [← e]; exact hk))
      have hs6 := stp_late hst5' hfr6 hgb
      have hW6 : Wn WL.heap.size w6 A T5 (some ⟨gq, o, none⟩) KL.length c KL := by
        refine ⟨hI6, by rw [HKL.out]; exact HW.out.up.filter _, HX.out.2.1, ?_, fun _ => ⟨gq, o, rfl, hgb, Nat.lt_of_lt_of_le hg5 hfr6.size, hn5, hf6⟩⟩
        have h1 : KL.length ≤ O.length := by rw [HKL.out]; exact List.length_filter_le _ _
        have := HW.out.nc
        have := HW.out.ii.len
        omega
      have hlt : KL.length < m := by
        have h1 := wn_len hW6 HX.out.1.good.gd
        have := HX.out.2.2
        omega
      clear hdf
      dsimp only
      go_wp2_with fail
      go_roundw
      case rel => exact ⟨T5, some ⟨gq, o, none⟩, KL.length, c, KL, rfl, rfl, hv6, hs6, HX.out.1, hW6⟩
      case measure => exact hlt
end
end Go.Proofs.YtjecicjpplibaaaGreat
