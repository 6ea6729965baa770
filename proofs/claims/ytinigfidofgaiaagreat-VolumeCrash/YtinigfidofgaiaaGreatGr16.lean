/- PClo PClos PClo2 -/
import Derived.Test.YtinigfidofgaiaaGreatGr15
import Derived.Deep.RegionHeld3

/- Closure's closure: one number more is asked for. -/
namespace Go.Proofs.YtinigfidofgaiaaGreat.Pt
open Go.RowKit Go.Maps
set_option maxRecDepth 100000
set_option linter.unusedVariables false

/-- What Closure's closure stands in. -/
structure CI (B T : Nat) (w0 w : World) (a mp mb last : Nat) (P : List Pv) (K : Int → Option Value) (gs gc gi nb : Nat) (iv : Value) (U C I : List Int) : Prop where
  ps : PS B w0 a mp mb last P K
  bel : Below T w0 w
  sz : w0.heap.size = T
  rs : w.heap[gs]? = some (.cells #[.pointer (some ⟨a, 0, none⟩)] 72 (0, 0))
  rc : w.heap[gc]? = some (.cells #[.map (some nb)] 130 (0, 0))
  ri : w.heap[gi]? = some (.cells #[iv] 23 (0, 0))
  ns : Ns w nb U C
  ids : Nums T w iv I
  lo : T ≤ gs ∧ T ≤ gc ∧ T ≤ gi ∧ T ≤ nb

section
variable {B T : Nat} {w0 w w' : World} {a mp mb last : Nat} {P : List Pv} {K : Int → Option Value} {gs gc gi nb : Nat} {iv : Value} {U C I : List Int}
theorem CI.psn (h : CI B T w0 w a mp mb last P K gs gc gi nb iv U C I) : PS B w a mp mb last P K := h.ps.kept (by rw [h.sz]; exact h.bel)
theorem CI.hT (h : CI B T w0 w a mp mb last P K gs gc gi nb iv U C I) : T ≤ w.heap.size := by have := h.bel.size; rw [h.sz] at this; exact this
theorem CI.kept (h : CI B T w0 w a mp mb last P K gs gc gi nb iv U C I) (hb : Below w.heap.size w w') : CI B T w0 w' a mp mb last P K gs gc gi nb iv U C I := by
  have lt : ∀ {g : Nat} {o : Obj}, w.heap[g]? = some o → g < w.heap.size := fun e => (Array.getElem?_eq_some_iff.1 e).1
  exact ⟨h.ps, h.bel.trans (hb.mono h.hT), h.sz, by rw [hb.block _ (lt h.rs)]; exact h.rs, by rw [hb.block _ (lt h.rc)]; exact h.rc, by rw [hb.block _ (lt h.ri)]; exact h.ri, h.ns.kept hb, h.ids.kept hb, h.lo⟩
theorem CI.add (h : CI B T w0 w a mp mb last P K gs gc gi nb iv U C I) {C' : List Int} (hn : Ns w' nb U C') (F : Frame (fun k => k = nb) w w') : CI B T w0 w' a mp mb last P K gs gc gi nb iv U C' I := by
  have lt : ∀ {g : Nat} {o : Obj}, w.heap[g]? = some o → g < w.heap.size := fun e => (Array.getElem?_eq_some_iff.1 e).1
  obtain ⟨es, c, hm⟩ := Mf.isMap h.ns
  refine ⟨h.ps, frame_below h.bel h.hT F h.lo.2.2.2, h.sz, ?_, ?_, ?_, hn, ?_, h.lo⟩
  · rw [F.block gs (lt h.rs) (map_ne h.rs hm)]; exact h.rs
  · rw [F.block gc (lt h.rc) (map_ne h.rc hm)]; exact h.rc
  · rw [F.block gi (lt h.ri) (map_ne h.ri hm)]; exact h.ri
  · refine h.ids.keptAt (fun g hg => ?_)
    obtain ⟨ds, h3⟩ := nums_row h.ids hg
    exact F.block g (lt h3) (map_ne h3 hm)
theorem CI.store {o : Obj} {w5 : World} {v' : Value} {I' : List Int} (h : CI B T w0 w a mp mb last P K gs gc gi nb iv U C I)
    (hg : (w.alloc o).grownBy w5 iv.ownBlock) (hn : Nums T w5 v' I') : CI B T w0 (w5.setCell ⟨gi, 0, none⟩ v') a mp mb last P K gs gc gi nb v' U C I' := by
  have hT := h.hT
  obtain ⟨es, c, hm⟩ := Mf.isMap h.ns
  have r1 := grown_at h.ids hg h.rs (fun cs e => by simp at e)
  have r2 := grown_at h.ids hg h.rc (fun cs e => by simp at e)
  have r4 := grown_at h.ids hg h.ri (fun cs e => by simp at e)
  have r5 := grown_at h.ids hg hm (fun cs e => by cases e)
  have hb5 : Below T w0 w5 := (h.bel.alloc hT o).grown hg (by simp; omega) (fun k hk => (World.ownsRow.lt h.ids k hk).1)
  have other : ∀ k, k ≠ gi → (w5.setCell ⟨gi, 0, none⟩ v').heap[k]? = w5.heap[k]? := fun k hk => Below.heap_setCell w5 ⟨gi, 0, none⟩ v' k hk
  refine ⟨h.ps, hb5.setCell (p := ⟨gi, 0, none⟩) h.lo.2.2.1 v', h.sz, ?_, ?_, one_setCell r4, ?_, ?_, h.lo⟩
  · rw [other gs (own_ne r1 r4 (by decide))]; exact r1
  · rw [other gc (own_ne r2 r4 (by decide))]; exact r2
  · exact Mf.kept h.ns ((other nb (fun e => map_ne r4 r5 e.symm)).trans (r5.trans hm.symm))
  · refine hn.keptAt (fun g hg => ?_)
    obtain ⟨ds, h3⟩ := nums_row hn hg
    exact other g (own_ne h3 r4 (by decide))
end

/-- One number more, if it is pending and new. -/
def nxC (P : List Pv) (I : List Int) (k : Int) : List Int := if (fP P k).isSome && !decide (k ∈ I) then I ++ [k] else I

set_option maxRecDepth 100000 in
set_option maxHeartbeats 4000000 in
theorem clo1_ok {B T : Nat} {w0 w : World} {a mp mb last : Nat} {P : List Pv} {K : Int → Option Value} {gs gc gi nb : Nat} {iv : Value} {U I : List Int} (h : CI B T w0 w a mp mb last P K gs gc gi nb iv U I I) (hU : U.length < 100000) (k : Int) (hk : I64 k) (hkU : (fP P k).isSome = true → k ∈ U) (hI : I.length ≤ 100000) :
    Calls Tryz.prog 88 #[.int .i64 k, .pointer (some ⟨gs, 0, none⟩), .pointer (some ⟨gc, 0, none⟩), .pointer (some ⟨gi, 0, none⟩)] w
      fun e w' => e = .returned (.tuple #[]) ∧ ∃ iv', CI B T w0 w' a mp mb last P K gs gc gi nb iv' U (nxC P I k) (nxC P I k) := by
  have cs : w.cell? ⟨gs, 0, none⟩ = some (.pointer (some ⟨a, 0, none⟩)) := by rw [cell_of_row _ _ 0 _ 72 _ h.rs]; rfl
  have hpe := isPending_ok h.psn k hk
  cases hf : (fP P k).isSome with
  | false =>
    rw [hf] at hpe
    have HA : Hid (nxC P I k = I) := by show _ = _; unfold nxC; rw [hf]; rfl
    go_enter Tryz.func88, Tryz.ntmps88
    go_wp2_with (first | (go_at_call 89; refine below_at hpe ?_; intro w1 hb1))
    go_end0
    rw [HA.out]
    exact ⟨rfl, iv, h.kept hb1⟩
  | true =>
    rw [hf] at hpe
    have hkU' := hkU hf
    by_cases hin : k ∈ I
    · have HA : Hid (nxC P I k = I) := by show _ = _; unfold nxC; simp [hin]
      have hha := fun w1 (hb1 : Below w.heap.size w w1) => nhas_ok (h.kept hb1).ns k hk
      simp only [hin, decide_true] at hha
      clear hkU
      go_enter Tryz.func88, Tryz.ntmps88
      go_wp2_with (first | (go_at_call 89; refine below_at hpe ?_; intro w1 hb1; have h1 := h.kept hb1; have cc : w1.cell? ⟨gc, 0, none⟩ = some (.map (some nb)) := (by rw [cell_of_row _ _ 0 _ 130 _ h1.rc]; rfl); have hh1 := hha w1 hb1) | (go_at_call 90; refine below_at hh1 ?_; intro w2 hb2))
      go_end0
      rw [HA.out]
      exact ⟨rfl, iv, h1.kept hb2⟩
    · have HA : Hid (nxC P I k = I ++ [k]) := by show _ = _; unfold nxC; rw [hf]; simp [hin]
      have hha := fun w1 (hb1 : Below w.heap.size w w1) => nhas_ok (h.kept hb1).ns k hk
      simp only [hin, decide_false] at hha
      clear hkU
      go_enter Tryz.func88, Tryz.ntmps88
      go_wp2_with (first | (go_at_call 89; refine below_at hpe ?_; intro w1 hb1; have h1 := h.kept hb1; have cc : w1.cell? ⟨gc, 0, none⟩ = some (.map (some nb)) := (by rw [cell_of_row _ _ 0 _ 130 _ h1.rc]; rfl); have hh1 := hha w1 hb1) | (go_at_call 90; refine below_at hh1 ?_; intro w2 hb2; have h2 := h1.kept hb2; have cc2 : w2.cell? ⟨gc, 0, none⟩ = some (.map (some nb)) := (by rw [cell_of_row _ _ 0 _ 130 _ h2.rc]; rfl)))
      have hbW : Below w2.heap.size w2 (w2.alloc (.cells #[.int .i64 k] 3)) := (Below.refl _ w2).alloc (Nat.le_refl _) _
      have h3 := h2.kept hbW
      have hii : II (w2.alloc (.cells #[.int .i64 k] 3)) (some ⟨w2.heap.size, 0, none⟩) 1 [k] := by
        refine ⟨rfl, by omega, fun x hx => by rw [List.mem_singleton.1 hx]; exact hk, fun _ => ⟨_, 0, rfl, fun i hi => ?_⟩⟩
        obtain rfl : i = 0 := by omega
        rw [cell_of_row _ _ 0 _ 3 _ (at_new rfl)]; rfl
      have hadd := add_ok h3.ns hU (some ⟨w2.heap.size, 0, none⟩) 1 1 [k] hii (fun x hx => by rw [List.mem_singleton.1 hx]; exact hkU') (by
        have : nb < w2.heap.size := Mf.lt h2.ns
        simp only [blkOf, ne_eq, Option.some.injEq]; omega)
      refine hadd.mono ?_
      rintro e w3 ⟨rfl, hns3, hF3⟩
      have h4 := h3.add hns3 hF3
      have cg : w3.cell? ⟨gi, 0, none⟩ = some iv := by rw [cell_of_row _ _ 0 _ 23 _ h4.ri]; rfl
      have hN := h4.ids
      have hT := h4.hT
      obtain ⟨i0, hi, hz0, hz1, hz2⟩ := info_parts info3
      clear hadd h3 hii hbW hns3 hF3 h2 cc2 h1 cc hh1 hha hpe cs
      go_wp2_with (first
        | (at_builtin; refine wpList_append_own _ rfl _ _ 23 rfl T 3 i0 (.int .i64 0) 1 8 Tryz.underlying23 hi hz0 hz1 hz2 rfl (by decide) _ _ _ rfl (World.ownsRow.alloc hN _) ⟨w3.heap.size, 0, none⟩ 1 1 [.int .i64 k] rfl rfl (cell_one_new _ _ _) (by simp [Value.oneCell']) (by unfold maxLen; omega) (by omega) (by simp; omega) ?_; intro v' w5 hown hgrow _; have hown := Nums.snoc hown; obtain ⟨g', cap', rfl⟩ := Nums.succ hown; have hgrow' : (w3.alloc (.cells #[.int .i64 k] 3)).grownBy w5 iv.ownBlock := hgrow; have r5 := grown_at hN hgrow' h4.ri (fun cs e => by simp at e); have c5 : w5.cell? ⟨gi, 0, none⟩ = some iv := (by rw [cell_of_row _ _ 0 _ 23 _ r5]; rfl); have f5 : w5.frozen? ⟨gi, 0, none⟩ = false := (by simp [World.frozen?, r5])))
      go_end0
      refine ⟨rfl, .slice (some ⟨g', 0, none⟩) (I.length + 1) cap', ?_⟩
      rw [HA.out]
      exact h4.store hgrow' hown
end Go.Proofs.YtinigfidofgaiaaGreat.Pt

/- What is reached from numbers by needs. -/
namespace Go.Proofs.YtinigfidofgaiaaGreat.Pt
open Go.RowKit Go.Maps
set_option maxRecDepth 100000
set_option linter.unusedVariables false

/-- Pending, and asked for or needed by one that is reached. -/
inductive Rch (P : List Pv) (zs : List Int) : Int → Prop
  | base {x : Int} : x ∈ zs → (fP P x).isSome = true → Rch P zs x
  | step {x y : Int} {p : Pv} : Rch P zs y → fP P y = some p → x ∈ p.nd → (fP P x).isSome = true → Rch P zs x
theorem Rch.pend {P : List Pv} {zs : List Int} {x : Int} (h : Rch P zs x) : (fP P x).isSome = true := by cases h <;> assumption

theorem nodup_len : ∀ (n : Nat) (l : List Int), l.Nodup → (∀ x ∈ l, 1 ≤ x ∧ x ≤ (n : Int)) → l.length ≤ n
  | 0, l, _, h => by
    cases l with
    | nil => exact Nat.le_refl _
    | cons x l => have := h x List.mem_cons_self; omega
  | n + 1, l, hn, h => by
    by_cases hm : ((n + 1 : Nat) : Int) ∈ l
    · have h1 := nodup_len n (l.erase ((n + 1 : Nat) : Int)) (hn.erase _) (fun x hx => by
        have hx' := (List.Nodup.mem_erase_iff hn).1 hx
        have := h x hx'.2
        have := hx'.1
        omega)
      rw [List.length_erase_of_mem hm] at h1
      omega
    · have h1 := nodup_len n l hn (fun x hx => by
        have := h x hx
        have : x ≠ ((n + 1 : Nat) : Int) := fun e => hm (e ▸ hx)
        omega)
      omega

/-- What holds of the numbers found so far. -/
structure Fnd (P : List Pv) (zs : List Int) (O : List Int) : Prop where
  nd : O.Nodup
  rch : ∀ x ∈ O, Rch P zs x

theorem nxC_mem (P : List Pv) (I : List Int) (k x : Int) : x ∈ nxC P I k ↔ x ∈ I ∨ (x = k ∧ (fP P k).isSome = true) := by
  unfold nxC
  by_cases h1 : (fP P k).isSome = true
  · by_cases h2 : k ∈ I
    · simp [h1, h2]; rintro rfl; exact h2
    · simp [h1, h2]
  · simp [h1]
theorem nxC_nodup {P : List Pv} {I : List Int} (h : I.Nodup) (k : Int) : (nxC P I k).Nodup := by
  unfold nxC
  split
  · rename_i hc
    simp at hc
    rw [List.nodup_append]
    exact ⟨h, by simp, fun a ha b hb => by rw [List.mem_singleton.1 hb]; exact fun e => hc.2 (e ▸ ha)⟩
  · exact h
/-- k numbers more. -/
def nxCs (P : List Pv) (I : List Int) (l : List Int) : List Int := l.foldl (nxC P) I
theorem nxCs_snoc (P : List Pv) (I l : List Int) (k : Int) : nxCs P I (l ++ [k]) = nxC P (nxCs P I l) k := by unfold nxCs; rw [List.foldl_append]; rfl
theorem nxCs_mem (P : List Pv) : ∀ (l I : List Int) (x : Int), x ∈ nxCs P I l ↔ x ∈ I ∨ (x ∈ l ∧ (fP P x).isSome = true)
  | [], I, x => by simp [nxCs]
  | k :: l, I, x => by
    have := nxCs_mem P l (nxC P I k) x
    rw [nxC_mem] at this
    rw [show nxCs P I (k :: l) = nxCs P (nxC P I k) l from rfl, this]
    constructor
    · rintro ((h | ⟨rfl, h⟩) | ⟨h1, h2⟩)
      · exact .inl h
      · exact .inr ⟨List.mem_cons_self, h⟩
      · exact .inr ⟨List.mem_cons_of_mem _ h1, h2⟩
    · rintro (h | ⟨h1, h2⟩)
      · exact .inl (.inl h)
      · rcases List.mem_cons.1 h1 with rfl | h1
        · exact .inl (.inr ⟨rfl, h2⟩)
        · exact .inr ⟨h1, h2⟩
theorem nxCs_nodup {P : List Pv} : ∀ (l I : List Int), I.Nodup → (nxCs P I l).Nodup
  | [], _, h => h
  | k :: l, I, h => nxCs_nodup l _ (nxC_nodup h k)
theorem nxCs_len (P : List Pv) : ∀ (l I : List Int), I.length ≤ (nxCs P I l).length
  | [], _ => Nat.le_refl _
  | k :: l, I => by
    refine Nat.le_trans ?_ (nxCs_len P l (nxC P I k))
    unfold nxC; split <;> simp
theorem nxCs_pre (P : List Pv) : ∀ (l I : List Int), ∃ r, nxCs P I l = I ++ r
  | [], I => ⟨[], by simp [nxCs]⟩
  | k :: l, I => by
    obtain ⟨r, hr⟩ := nxCs_pre P l (nxC P I k)
    refine ⟨(if (fP P k).isSome && !decide (k ∈ I) then [k] else []) ++ r, ?_⟩
    rw [show nxCs P I (k :: l) = nxCs P (nxC P I k) l from rfl, hr]
    unfold nxC
    split <;> simp

/-- All of the first j have had their needs asked for. -/
def Dn (P : List Pv) (O : List Int) (j : Nat) : Prop := ∀ i, i < j → ∀ p, fP P (O.getD i 0) = some p → ∀ x ∈ p.nd, (fP P x).isSome = true → x ∈ O

theorem Fnd.first {P : List Pv} {zs : List Int} : Fnd P zs (nxCs P [] zs) :=
  ⟨nxCs_nodup _ _ List.nodup_nil, fun x hx => by
    rcases (nxCs_mem P zs [] x).1 hx with h | ⟨h1, h2⟩
    · cases h
    · exact .base h1 h2⟩
theorem Fnd.next {P : List Pv} {zs O : List Int} (h : Fnd P zs O) {y : Int} {p : Pv} (hy : y ∈ O) (hp : fP P y = some p) : Fnd P zs (nxCs P O p.nd) :=
  ⟨nxCs_nodup _ _ h.nd, fun x hx => by
    rcases (nxCs_mem P p.nd O x).1 hx with hx | ⟨h1, h2⟩
    · exact h.rch x hx
    · exact .step (h.rch y hy) hp h1 h2⟩
theorem Fnd.all {P : List Pv} {zs O : List Int} (h : Fnd P zs O) (hz : ∀ x ∈ zs, (fP P x).isSome = true → x ∈ O) (hd : Dn P O O.length) : ∀ x, x ∈ O ↔ Rch P zs x := by
  intro x
  refine ⟨h.rch x, fun hr => ?_⟩
  induction hr with
  | base h1 h2 => exact hz _ h1 h2
  | step hy hp hx h2 ih =>
    obtain ⟨i, hi, e⟩ := List.mem_iff_getElem.1 ih
    refine hd i hi _ ?_ _ hx h2
    rw [List.getD_eq_getElem?_getD, List.getElem?_eq_getElem hi, Option.getD_some, e]
    exact hp
theorem Fnd.len {P : List Pv} {zs O : List Int} {last : Nat} (h : Fnd P zs O) (hP : ∀ p ∈ P, 1 ≤ p.id ∧ p.id ≤ last) : O.length ≤ last :=
  nodup_len last O h.nd (fun x hx => by
    obtain ⟨p, hp⟩ := Option.isSome_iff_exists.1 (h.rch x hx).pend
    obtain ⟨h1, h2⟩ := fP_some hp
    have := hP p h1
    omega)
theorem Dn.next {P : List Pv} {O : List Int} {j : Nat} (h : Dn P O j) (hj : j < O.length) {p : Pv} (hp : fP P (O.getD j 0) = some p) : Dn P (nxCs P O p.nd) (j + 1) := by
  obtain ⟨r, hr⟩ := nxCs_pre P p.nd O
  intro i hi q hq x hx h2
  have e : (nxCs P O p.nd).getD i 0 = O.getD i 0 := by
    rw [hr, List.getD_eq_getElem?_getD, List.getD_eq_getElem?_getD, List.getElem?_append_left (by omega)]
  rw [e] at hq
  rw [nxCs_mem]
  by_cases h3 : i < j
  · exact .inl (h i h3 q hq x hx h2)
  · obtain rfl : i = j := by omega
    rw [hp] at hq
    obtain rfl := Option.some.inj hq
    exact .inr ⟨hx, h2⟩
end Go.Proofs.YtinigfidofgaiaaGreat.Pt

/- Closure. -/
namespace Go.Proofs.YtinigfidofgaiaaGreat.Pt
open Go.RowKit Go.Maps
set_option maxRecDepth 100000
set_option linter.unusedVariables false

theorem fld4 (n c : Nat) (q : Option Addr) (v0 v1 v2 v3 : Value) (w : World) : (Instr.field 134 (.agg #[v0, v1, v2, v3, .slice q n c]) 4).run Tryz.prog w = .ok (.slice q n c) w := by
  unfold Instr.field
  simp [asAgg, Go.part, isAgg]

theorem Fnd.part {P : List Pv} {zs O : List Int} (h : Fnd P zs O) {y : Int} {p : Pv} (hy : y ∈ O) (hp : fP P y = some p) (l : List Int) (hl : ∀ x ∈ l, x ∈ p.nd) : Fnd P zs (nxCs P O l) :=
  ⟨nxCs_nodup _ _ h.nd, fun x hx => by
    rcases (nxCs_mem P l O x).1 hx with hx | ⟨h1, h2⟩
    · exact h.rch x hx
    · exact .step (h.rch y hy) hp (hl x h1) h2⟩

set_option maxRecDepth 100000 in
set_option maxHeartbeats 4000000 in
theorem closure_ok {B : Nat} {w : World} {a mp mb last : Nat} {P : List Pv} {K : Int → Option Value} (h : PS B w a mp mb last P K) (p : Option Addr) (n c : Nat) (zs : List Int) (hz : II w p n zs) :
    Calls Tryz.prog 50 #[.pointer (some ⟨a, 0, none⟩), .slice p n c] w fun e w' => ∃ q c' O, e = .returned (.slice q (rs O).length c') ∧ II w' q (rs O).length (rs O) ∧ Plain q ∧ (∀ x, x ∈ O ↔ Rch P zs x) ∧ (∀ g, blkOf q = some g → w.heap.size ≤ g) ∧ Below w.heap.size w w' := by
  obtain ⟨W, hW⟩ : ∃ W, w.alloc (.cells #[.pointer (some ⟨a, 0, none⟩)] 72) = W := ⟨_, rfl⟩
  have hbW : Below w.heap.size w W := by rw [← hW]; exact (Below.refl _ w).alloc (Nat.le_refl _) _
  have hrW : W.heap[w.heap.size]? = some (.cells #[.pointer (some ⟨a, 0, none⟩)] 72 (0, 0)) := by rw [← hW]; exact at_new rfl
  have hWs : W.heap.size = w.heap.size + 1 := by rw [← hW]; simp
  have cs : W.cell? ⟨w.heap.size, 0, none⟩ = some (.pointer (some ⟨a, 0, none⟩)) := by rw [cell_of_row _ _ 0 _ 72 _ hrW]; rfl
  have hm := made_ok (h.kept hbW)
  have hmm := @run_makeMap Tryz.prog
  have hlen := hz.len
  have hbig := hz.big
  go_enter Tryz.func50, Tryz.ntmps50
  go_wp2_with (first | (go_at_call 75; refine same_at hm ?_))
  obtain ⟨W2, hW2⟩ : ∃ W2, ((W.alloc (Obj.map #[] 0)).alloc (Obj.cells #[.map (some (w.heap.size + 1))] 130)).alloc (Obj.cells #[.slice none 0 0] 23) = W2 := ⟨_, rfl⟩
  rw [hW2]
  have hb2 : Below W.heap.size W W2 := by
    rw [← hW2]
    exact (((Below.refl _ W).alloc (Nat.le_refl _) _).alloc (by simp) _).alloc (by simp; omega) _
  have hbT : Below w.heap.size w W2 := hbW.trans (hb2.mono (by omega))
  have hns : Ns W2 (w.heap.size + 1) (upto last) [] := by
    have h0 := ns_made W (upto last)
    rw [hWs] at h0
    refine Mf.kept h0 ?_
    rw [← hW2]
    exact (at_old (at_old (at_new (by rw [hWs])))).trans (at_new (w := W) (by rw [hWs])).symm
  have hCI : CI B w.heap.size w W2 a mp mb last P K w.heap.size (w.heap.size + 1 + 1) (w.heap.size + 1 + 1 + 1) (w.heap.size + 1) (.slice none 0 0) (upto last) [] [] :=
    ⟨h, hbT, rfl, by rw [hb2.block w.heap.size (by omega)]; exact hrW, by rw [← hW2]; exact at_old (at_new (by simp; omega)), by rw [← hW2]; exact at_new (by simp; omega), hns, Nums.nil _ _, ⟨by omega, by omega, by omega, by omega⟩⟩
  have hul : (upto last).length < 100000 := by rw [upto_len]; have := h.sml; omega
  have hpU : ∀ k, (fP P k).isSome = true → k ∈ upto last := fun k hk => by
    obtain ⟨q, hq⟩ := Option.isSome_iff_exists.1 hk
    obtain ⟨h1, h2⟩ := fP_some hq
    have := h.ids q h1
    exact mem_upto ⟨by omega, by omega⟩
  have hPi : ∀ q ∈ P, 1 ≤ q.id ∧ q.id ≤ last := fun q hq => by have := h.ids q hq; omega
  have hsm := h.sml
  clear hns hb2 hbT hm cs hrW hbW hmm
  go_loopw [20] (fun i wr => ∃ (j : Nat) (iv : Value), j ≤ n ∧ i = .int .i64 (j : Int) ∧ CI B w.heap.size w wr a mp mb last P K w.heap.size (w.heap.size + 1 + 1) (w.heap.size + 1 + 1 + 1) (w.heap.size + 1) iv (upto last) (nxCs P [] (zs.take j)) (nxCs P [] (zs.take j))) (fun i _ => n - (intOf i).toNat)
  case atStart => exact ⟨0, _, by omega, rfl, hCI⟩
  case round =>
    clear hCI
    obtain ⟨j, iv, hj, rfl, hI⟩ := hrel
    by_cases hlt : j < n
    · have hjL : j < zs.length := by omega
      obtain ⟨b1, o1, rfl, hc1⟩ := (hz.kept hI.bel).cells (by omega)
      have e1 := hc1 j hlt
      obtain ⟨x, hx⟩ : ∃ x, x = zs.getD j 0 := ⟨_, rfl⟩
      rw [← hx] at e1
      have hxz : x ∈ zs := by rw [hx]; exact getD_mem' hjL
      have hf1 : Fnd P (zs.take j) (nxCs P [] (zs.take j)) := Fnd.first
      have hl1 := hf1.len hPi
      have hcl := clo1_ok hI hul x (hz.fit x hxz) (hpU x) (by omega)
      have HT : Hid (zs.take (j + 1) = zs.take j ++ [x]) := by show _ = _; rw [hx]; exact take_one hjL
      have hjI : (j : Int) < (n : Int) := by omega
      have hj0 : (0 : Int) ≤ (j : Int) := by omega
      clear hc1 hx hI hf1 hxz hpU hPi
      go_wp2_with (first | (go_at_call 88; refine hcl.mono ?_; rintro e w2 ⟨rfl, iv2, hI2⟩))
      go_roundw
      case rel =>
        refine ⟨j + 1, iv2, by omega, by go_num, ?_⟩
        rw [HT.out, nxCs_snoc]
        exact hI2
      case measure => simp [intOf]; omega
    · obtain rfl : j = n := by omega
      rw [List.take_of_length_le (by omega)] at hI
      have hF0 : Fnd P zs (nxCs P [] zs) := Fnd.first
      have hZ0 : ∀ x ∈ zs, (fP P x).isSome = true → x ∈ nxCs P [] zs := fun x h1 h2 => (nxCs_mem P zs [] x).2 (.inr ⟨h1, h2⟩)
      go_wp2_with fail
      obtain ⟨O0, hO0⟩ : ∃ O0, O0 = nxCs P [] zs := ⟨_, rfl⟩
      rw [← hO0] at hI hF0 hZ0
      clear hO0
      go_loopw [10] (fun i wr => ∃ (t : Nat) (O : List Int) (iv : Value), t ≤ O.length ∧ i = .int .i64 (t : Int) ∧ CI B w.heap.size w wr a mp mb last P K w.heap.size (w.heap.size + 1 + 1) (w.heap.size + 1 + 1 + 1) (w.heap.size + 1) iv (upto last) O O ∧ Fnd P zs O ∧ (∀ x ∈ zs, (fP P x).isSome = true → x ∈ O) ∧ Dn P O t) (fun i _ => last - (intOf i).toNat)
      case atStart => exact ⟨0, O0, iv, by omega, rfl, hI, hF0, hZ0, fun i hi => by omega⟩
      case round =>
        clear hI hF0 hZ0 iv O0
        obtain ⟨t, O, iv, ht, rfl, hI, hF, hZ, hD⟩ := hrel
        have hOl := hF.len hPi
        obtain ⟨q0, c0, e0⟩ := hI.ids.slice
        subst e0
        have ci : wr.cell? ⟨w.heap.size + 1 + 1 + 1, 0, none⟩ = some (.slice q0 O.length c0) := by rw [cell_of_row _ _ 0 _ 23 _ hI.ri]; rfl
        by_cases hlt : t < O.length
        · have hID := hI.kept ((Below.refl _ wr).drew)
          have hfO : ∀ x ∈ O, I64 x := fun x hx => by
            obtain ⟨q, hq⟩ := Option.isSome_iff_exists.1 (hF.rch x hx).pend
            obtain ⟨h1, h2⟩ := fP_some hq
            have := hPi q h1
            exact ⟨by omega, by omega⟩
          obtain ⟨q1, c1', e1, hiO, _⟩ := hID.ids.ii (by omega) hfO
          obtain ⟨rfl, rfl⟩ : q1 = q0 ∧ c1' = c0 := by cases e1; exact ⟨rfl, rfl⟩
          obtain ⟨b1, o1, rfl, hc1⟩ := hiO.cells (by omega)
          obtain ⟨y, hy⟩ : ∃ y, y = O.getD t 0 := ⟨_, rfl⟩
          have ey := hc1 t hlt
          rw [← hy] at ey
          have hyO : y ∈ O := by rw [hy]; exact getD_mem' hlt
          obtain ⟨pp, hpp⟩ := Option.isSome_iff_exists.1 (hF.rch y hyO).pend
          have hpP := (fP_some hpp).1
          have hps := hID.psn
          have d1 := hps.c1
          have hg := hps.get y (hfO y hyO)
          rw [hpp] at hg
          have hg' : (Instr.lookup 119 (.map (some mp)) (.int .i64 y) false).run Tryz.prog wr.drew = .ok (.agg #[.int .i64 (pp.id : Int), .int .i64 (pp.blk : Int), .int .i64 (pp.off : Int), .slice pp.bp pp.bs.length pp.bc, .slice pp.np pp.nd.length pp.nc]) wr.drew := hg
          clear hg
          have ds : wr.drew.cell? ⟨w.heap.size, 0, none⟩ = some (.pointer (some ⟨a, 0, none⟩)) := by rw [cell_of_row _ _ 0 _ 72 _ hID.rs]; rfl
          have di : wr.drew.cell? ⟨w.heap.size + 1 + 1 + 1, 0, none⟩ = some (.slice (some ⟨b1, o1, none⟩) O.length c1') := by rw [cell_of_row _ _ 0 _ 23 _ hID.ri]; rfl
          have HY : Hid (y = O.getD t 0) := hy
          clear hy hc1 e1
          have htI : (t : Int) < (O.length : Int) := by omega
          have ht0 : (0 : Int) ≤ (t : Int) := by omega
          have hfld := fun w => fld4 pp.nd.length pp.nc pp.np (.int .i64 (pp.id : Int)) (.int .i64 (pp.blk : Int)) (.int .i64 (pp.off : Int)) (.slice pp.bp pp.bs.length pp.bc) w
          go_wp2_with fail
          go_region_held3 (fun w' => w'.cell? ⟨w.heap.size, 0, none⟩ = some (.pointer (some ⟨a, 0, none⟩)) ∧ w'.cell? ⟨w.heap.size + 1 + 1 + 1, 0, none⟩ = some (.slice (some ⟨b1, o1, none⟩) O.length c1') ∧ w'.cell? ⟨a, 1, none⟩ = some (.map (some mp)) ∧ w'.cell? ⟨b1, o1 + t, none⟩ = some (.int .i64 y) ∧ (Instr.lookup 119 (.map (some mp)) (.int .i64 y) false).run Tryz.prog w' = .ok (.agg #[.int .i64 (pp.id : Int), .int .i64 (pp.blk : Int), .int .i64 (pp.off : Int), .slice pp.bp pp.bs.length pp.bc, .slice pp.np pp.nd.length pp.nc]) w') (first | exact ⟨ds, di, d1, ey, hg'⟩) (fail)
          clear ds di d1 ey hg' hps hiO ci
          have hnl : pp.nd.length ≤ 140737488355328 := ((hID.psn).nee pp hpP).1.big
          clear hfld
          generalize hnp0 : pp.np = np
          have HNP : Hid (pp.np = np) := hnp0
          clear hnp0
          go_wp2_with fail
          go_loopw [45] (fun i wr2 => ∃ (j2 : Nat) (iv : Value), j2 ≤ pp.nd.length ∧ i = .int .i64 (j2 : Int) ∧ CI B w.heap.size w wr2 a mp mb last P K w.heap.size (w.heap.size + 1 + 1) (w.heap.size + 1 + 1 + 1) (w.heap.size + 1) iv (upto last) (nxCs P O (pp.nd.take j2)) (nxCs P O (pp.nd.take j2))) (fun i _ => pp.nd.length - (intOf i).toNat)
          case atStart => exact ⟨0, _, by omega, rfl, hID⟩
          case round =>
            clear hI hID
            obtain ⟨j2, iv2, hj2, rfl, hI⟩ := hrel
            have hnee := (hI.psn.nee pp hpP).1
            by_cases hlt2 : j2 < pp.nd.length
            · rw [HNP.out] at hnee
              obtain ⟨b2, o2, rfl, hc2⟩ := hnee.cells (by omega)
              have e2 := hc2 j2 hlt2
              obtain ⟨x, hx⟩ : ∃ x, x = pp.nd.getD j2 0 := ⟨_, rfl⟩
              rw [← hx] at e2
              have hxz : x ∈ pp.nd := by rw [hx]; exact getD_mem' hlt2
              have hf1 := hF.part hyO hpp (pp.nd.take j2) (fun x hx => List.mem_of_mem_take hx)
              have hl1 := hf1.len hPi
              have hcl := clo1_ok hI hul x (hnee.fit x hxz) (hpU x) (by omega)
              have HT : Hid (pp.nd.take (j2 + 1) = pp.nd.take j2 ++ [x]) := by show _ = _; rw [hx]; exact take_one hlt2
              have hjI : (j2 : Int) < (pp.nd.length : Int) := by omega
              have hj0 : (0 : Int) ≤ (j2 : Int) := by omega
              have hbo : (pp.nd.length : Int) ≤ 140737488355328 := by omega
              clear hc2 hx hI hf1 hxz hpU hPi hnee
              go_wp2_with (first | (go_at_call 88; refine hcl.mono ?_; rintro e w2 ⟨rfl, iv3, hI2⟩))
              go_roundw
              case rel =>
                refine ⟨j2 + 1, iv3, by omega, by go_num, ?_⟩
                rw [HT.out, nxCs_snoc]
                exact hI2
              case measure => simp [intOf]; omega
            · obtain rfl : j2 = pp.nd.length := by omega
              rw [List.take_of_length_le (Nat.le_refl _)] at hI
              have hF2 := hF.next hyO hpp
              have hZ2 : ∀ x ∈ zs, (fP P x).isSome = true → x ∈ nxCs P O pp.nd := fun x h1 h2 => (nxCs_mem P pp.nd O x).2 (.inl (hZ x h1 h2))
              have hpp' : fP P (O.getD t 0) = some pp := by rw [← HY.out]; exact hpp
              have hD2 := hD.next hlt hpp'
              have hgl := nxCs_len P pp.nd O
              clear hpU hPi hnee
              go_wp2_with fail
              go_roundw
              case rel => exact ⟨t + 1, nxCs P O pp.nd, iv2, by omega, by go_num, hI, hF2, hZ2, hD2⟩
              case measure => simp [intOf]; omega
        · have hfO : ∀ x ∈ O, I64 x := fun x hx => by
            obtain ⟨q, hq⟩ := Option.isSome_iff_exists.1 (hF.rch x hx).pend
            obtain ⟨h1, h2⟩ := fP_some hq
            have := hPi q h1
            exact ⟨by omega, by omega⟩
          obtain rfl : t = O.length := by omega
          have hri := rising_ok hI.ids hI.hT (by omega) hfO
          have hbel : Below w.heap.size w wr := hI.bel
          have HN : Hid _ := hI.ids
          have HA : Hid (∀ x, x ∈ O ↔ Rch P zs x) := hF.all hZ hD
          clear hI hF hZ hD hfO hpU hPi
          go_wp2_with fail
          refine hri.mono ?_
          rintro e w4 ⟨q, c2, rfl, hii, hpl, how, hb4⟩
          have HII : Hid _ := hii
          have HQ : Hid (∀ g, blkOf q = some g → w.heap.size ≤ g) := fun g hg => (World.ownsRow.lt HN.out g (how g hg)).1
          have hb5 := hbel.trans hb4
          clear hri hii how hb4
          go_wp2_with fail
          go_ret
          exact ⟨q, c2, O, rfl, HII.out, hpl, HA.out, HQ.out, hb5⟩
end Go.Proofs.YtinigfidofgaiaaGreat.Pt
