/- PatchEnds: the set, what the disk has and what each block was, in memory. -/
import Derived.Test.YteapkfnklbhdfaaOvr
import Derived.Test.YteapkfnklbhdfaaRep
namespace Go.Proofs.Yteapkfnklbhdfaa
open Go.RowKit Go.Maps
set_option linter.unusedVariables false

def bsl (g c : Nat) : Value := .slice (some ⟨g, 0, none⟩) 128 c
theorem bsl_D (g c : Nat) : ∃ d, vR (bsl g c) = some (d, []) := by
  obtain ⟨d, hd⟩ := slice_D (p := some ⟨g, 0, none⟩) (.inr ⟨g, 0, rfl⟩) 128 c
  refine ⟨d, ?_⟩
  show (cellD (.slice (some ⟨g, 0, none⟩) 128 c)).map (fun d => (d, [])) = _
  rw [hd]; rfl
/-- A map of blocks' bytes, as a function. -/
def fB (Bs : List Int) (g c : Int → Nat) (b : Int) : Option Value := if b ∈ Bs then some (bsl (g b) (c b)) else none
def upd {α : Type} (f : Int → α) (b : Int) (x : α) : Int → α := fun y => if y = b then x else f y
theorem upd_same {α : Type} (f : Int → α) (b : Int) (x : α) : upd f b x b = x := by unfold upd; rw [if_pos rfl]
theorem upd_other {α : Type} (f : Int → α) {b y : Int} (h : y ≠ b) (x : α) : upd f b x y = f y := by unfold upd; rw [if_neg h]

structure E0 (w wr : World) (a mp mb lst md wm : Nat) (P : List Pv) (Bd Bw : List Int) (gd cd gw cw : Int → Nat) (X Y : Int → List Int) : Prop where
  ps : ∃ K, PS w.heap.size wr a mp mb lst P K ∧ ∀ k, dm a mp mb P K k → w.heap.size ≤ k ∧ k ≠ md ∧ k ≠ wm ∧ (∀ b ∈ Bd, k ≠ gd b) ∧ ∀ b ∈ Bw, k ≠ gw b
  good : Gd P
  fd : Mf wr md Bd.length (fB Bd gd cd)
  fw : Mf wr wm Bw.length (fB Bw gw cw)
  bd : ∀ b ∈ Bd, BI wr (some ⟨gd b, 0, none⟩) 128 (X b)
  bw : ∀ b ∈ Bw, BI wr (some ⟨gw b, 0, none⟩) 128 (Y b)
  bel : Below w.heap.size w wr
  base : w.heap.size ≤ md ∧ w.heap.size ≤ wm ∧ md ≠ wm

/-- The set's memory is apart from the maps', and from block g. -/
def Apt (w wr : World) (a mp mb lst md wm : Nat) (P : List Pv) (Bd Bw : List Int) (gd gw : Int → Nat) (g : Nat) : Prop :=
  ∃ K, PS w.heap.size wr a mp mb lst P K ∧ ∀ k, dm a mp mb P K k → (w.heap.size ≤ k ∧ k ≠ md ∧ k ≠ wm ∧ (∀ b ∈ Bd, k ≠ gd b) ∧ ∀ b ∈ Bw, k ≠ gw b) ∧ k ≠ g

section
variable {w wr : World} {a mp mb lst md wm : Nat} {P : List Pv} {Bd Bw : List Int} {gd cd gw cw : Int → Nat} {X Y : Int → List Int}

theorem E0.on {w' : World} (h : E0 w wr a mp mb lst md wm P Bd Bw gd cd gw cw X Y) (hb : Below wr.heap.size wr w') : E0 w w' a mp mb lst md wm P Bd Bw gd cd gw cw X Y := by
  obtain ⟨K, h1, h2⟩ := h.ps
  exact ⟨⟨K, h1.kept hb, h2⟩, h.good, h.fd.kept (hb.block _ h.fd.lt), h.fw.kept (hb.block _ h.fw.lt), fun b hB => (h.bd b hB).kept hb, fun b hB => (h.bw b hB).kept hb, h.bel.trans (hb.mono h.bel.size), h.base⟩

theorem bi_lt {w : World} {g : Nat} {xs : List Int} (h : BI w (some ⟨g, 0, none⟩) 128 xs) : g < w.heap.size ∧ ∃ cs t fr, w.heap[g]? = some (.cells cs t fr) := by
  obtain ⟨b', o', e', hc⟩ := h.cells (by omega)
  injection e' with e'
  injection e' with e1 e2
  have h0 := hc 0 (by omega)
  rw [← e1] at h0
  refine ⟨lt_of_cell h0, ?_⟩
  unfold World.cell? at h0
  cases e : w.heap[g]? with
  | none => simp [e] at h0
  | some o =>
    cases o with
    | cells cs t fr => exact ⟨cs, t, fr, rfl⟩
    | _ => simp [e] at h0

theorem ii_grown {w w' : World} {md N : Nat} {f : Int → Option Value} (hm : Mf w md N f) (hg : w.grownBy w' (some md)) {p : Option Addr} {n : Nat} {zs : List Int} (h : II w p n zs) : II w' p n zs := by
  obtain ⟨es, k, he⟩ := hm.isMap
  refine ⟨h.len, h.big, h.fit, fun hn => ?_⟩
  obtain ⟨b, o, rfl, hc⟩ := h.cells hn
  refine ⟨b, o, rfl, fun i hi => hg.cell (hc i hi) (fun e => ?_)⟩
  have e2 : b = md := Option.some.inj e
  have h0 := hc i hi
  unfold World.cell? at h0
  rw [e2, he] at h0
  simp at h0

theorem fB_at {b : Int} (hB : b ∈ Bd) : fB Bd gd cd b = some (bsl (gd b) (cd b)) := by unfold fB; rw [if_pos hB]

theorem zero29v (w : World) : (zeroValue 29).run Try.prog w = .ok (.slice none 0 0) w := by kernel_rfl

theorem E0.dget (h : E0 w wr a mp mb lst md wm P Bd Bw gd cd gw cw X Y) {b : Int} (hB : b ∈ Bd) (hb : I64 b) :
    (Instr.lookup 59 (.map (some md)) (.int .i64 b) false).run Try.prog wr = .ok (.slice (some ⟨gd b, 0, none⟩) 128 (cd b)) wr := by
  obtain ⟨dz, hdz⟩ := zero30_D
  have := h.fd.get Try.underlying59 (zero29v wr) hdz b hb
  rw [fB_at hB] at this
  exact this
theorem E0.wget (h : E0 w wr a mp mb lst md wm P Bd Bw gd cd gw cw X Y) {b : Int} (hB : b ∈ Bw) (hb : I64 b) :
    (Instr.lookup 59 (.map (some wm)) (.int .i64 b) false).run Try.prog wr = .ok (.slice (some ⟨gw b, 0, none⟩) 128 (cw b)) wr := by
  obtain ⟨dz, hdz⟩ := zero30_D
  have := h.fw.get Try.underlying59 (zero29v wr) hdz b hb
  rw [fB_at hB] at this
  exact this

/-- disk[b] = x. -/
theorem E0.dput (h : E0 w wr a mp mb lst md wm P Bd Bw gd cd gw cw X Y) (b : Int) (hb : I64 b) (g c : Nat) (xs : List Int) (hx : BI wr (some ⟨g, 0, none⟩) 128 xs) (hg : Apt w wr a mp mb lst md wm P Bd Bw gd gw g) (hl : Bd.length < 1000) (Bd' : List Int) (hB' : ∀ x, x ∈ Bd' ↔ x = b ∨ x ∈ Bd) (hlen : Bd'.length = if b ∈ Bd then Bd.length else Bd.length + 1) :
    ∃ w', (Instr.mapUpdate 59 (.map (some md)) (.int .i64 b) (.slice (some ⟨g, 0, none⟩) 128 c)).run Try.prog wr = .ok () w' ∧ E0 w w' a mp mb lst md wm P Bd' Bw (upd gd b g) (upd cd b c) gw cw (upd X b xs) Y ∧ wr.grownBy w' (some md) := by
  obtain ⟨d, hd⟩ := bsl_D g c
  obtain ⟨w', hr, hM, hG⟩ := h.fd.put (by omega) Try.underlying59 b hb (bsl g c) hd
  obtain ⟨ed, kd, hmd⟩ := h.fd.isMap
  obtain ⟨K, hPS, hdm⟩ := hg
  have hk : ∀ k, k < wr.heap.size → k ≠ md → w'.heap[k]? = wr.heap[k]? := fun k hk hn => hG.block k hk (fun e => hn (Option.some.inj e))
  have hne : ∀ g' xs', BI wr (some ⟨g', 0, none⟩) 128 xs' → g' ≠ md := fun g' xs' h' e => by
    obtain ⟨_, cs, t, fr, hc⟩ := bi_lt h'
    rw [e, hmd] at hc
    cases hc
  have hBI : ∀ g' xs', BI wr (some ⟨g', 0, none⟩) 128 xs' → BI w' (some ⟨g', 0, none⟩) 128 xs' := fun g' xs' h' => h'.keptIf (fun g2 e hl2 => by
    have e2 : g' = g2 := Option.some.inj e
    exact hk g2 hl2 (by rw [← e2]; exact hne g' xs' h'))
  refine ⟨w', hr, ⟨⟨K, hPS.else hG.size (fun k hk1 hk2 => hk k hk2 (hdm k hk1).1.2.1), fun k hk1 => ?_⟩, h.good, ?_, h.fw.kept (hk _ h.fw.lt (fun e => h.base.2.2 e.symm)), fun b' hb' => ?_, fun b' hb' => hBI _ _ (h.bw b' hb'), ?_, h.base⟩, hG⟩
  · obtain ⟨⟨q1, q2, q3, q4, q5⟩, q6⟩ := hdm k hk1
    refine ⟨q1, q2, q3, fun b' hb' => ?_, q5⟩
    by_cases e : b' = b
    · rw [e, upd_same]; exact q6
    · rw [upd_other _ e]
      exact q4 b' (((hB' b').1 hb').resolve_left e)
  · have e : (if (fB Bd gd cd b).isSome = true then Bd.length else Bd.length + 1) = Bd'.length := by
      rw [hlen]
      unfold fB
      by_cases hB : b ∈ Bd
      · rw [if_pos hB, if_pos hB]; rfl
      · rw [if_neg hB, if_neg hB]; rfl
    rw [e] at hM
    refine hM.congr (fun k _ => ?_)
    unfold fput fB
    by_cases e : k = b
    · rw [if_pos e, if_pos ((hB' k).2 (.inl e)), e, upd_same, upd_same]
    · rw [if_neg e, upd_other _ e, upd_other _ e]
      by_cases hB : k ∈ Bd
      · rw [if_pos hB, if_pos ((hB' k).2 (.inr hB))]
      · rw [if_neg hB, if_neg (fun h' => hB (((hB' k).1 h').resolve_left e))]
  · by_cases e : b' = b
    · rw [e, upd_same, upd_same]; exact hBI _ _ hx
    · rw [upd_other _ e, upd_other _ e]
      exact hBI _ _ (h.bd b' (((hB' b').1 hb').resolve_left e))
  · exact h.bel.grown hG h.bel.size (fun k e => by rw [← Option.some.inj e]; exact h.base.1)

/-- want[b] = x, for a block that is new. -/
theorem E0.wput (h : E0 w wr a mp mb lst md wm P Bd Bw gd cd gw cw X Y) (b : Int) (hb : I64 b) (g c : Nat) (xs : List Int) (hx : BI wr (some ⟨g, 0, none⟩) 128 xs) (hg : Apt w wr a mp mb lst md wm P Bd Bw gd gw g) (hl : Bw.length < 1000) (hn : b ∉ Bw) :
    ∃ w', (Instr.mapUpdate 59 (.map (some wm)) (.int .i64 b) (.slice (some ⟨g, 0, none⟩) 128 c)).run Try.prog wr = .ok () w' ∧ E0 w w' a mp mb lst md wm P Bd (Bw ++ [b]) gd cd (upd gw b g) (upd cw b c) X (upd Y b xs) ∧ wr.grownBy w' (some wm) := by
  obtain ⟨d, hd⟩ := bsl_D g c
  obtain ⟨w', hr, hM, hG⟩ := h.fw.put (by omega) Try.underlying59 b hb (bsl g c) hd
  obtain ⟨ed, kd, hmd⟩ := h.fw.isMap
  obtain ⟨K, hPS, hdm⟩ := hg
  have hk : ∀ k, k < wr.heap.size → k ≠ wm → w'.heap[k]? = wr.heap[k]? := fun k hk hn => hG.block k hk (fun e => hn (Option.some.inj e))
  have hne : ∀ g' xs', BI wr (some ⟨g', 0, none⟩) 128 xs' → g' ≠ wm := fun g' xs' h' e => by
    obtain ⟨_, cs, t, fr, hc⟩ := bi_lt h'
    rw [e, hmd] at hc
    cases hc
  have hBI : ∀ g' xs', BI wr (some ⟨g', 0, none⟩) 128 xs' → BI w' (some ⟨g', 0, none⟩) 128 xs' := fun g' xs' h' => h'.keptIf (fun g2 e hl2 => by
    have e2 : g' = g2 := Option.some.inj e
    exact hk g2 hl2 (by rw [← e2]; exact hne g' xs' h'))
  have hm : ∀ x, x ∈ Bw ++ [b] ↔ x = b ∨ x ∈ Bw := fun x => by rw [List.mem_append, List.mem_singleton]; exact Or.comm
  refine ⟨w', hr, ⟨⟨K, hPS.else hG.size (fun k hk1 hk2 => hk k hk2 (hdm k hk1).1.2.2.1), fun k hk1 => ?_⟩, h.good, h.fd.kept (hk _ h.fd.lt h.base.2.2), ?_, fun b' hb' => hBI _ _ (h.bd b' hb'), fun b' hb' => ?_, ?_, h.base⟩, hG⟩
  · obtain ⟨⟨q1, q2, q3, q4, q5⟩, q6⟩ := hdm k hk1
    refine ⟨q1, q2, q3, q4, fun b' hb' => ?_⟩
    by_cases e : b' = b
    · rw [e, upd_same]; exact q6
    · rw [upd_other _ e]
      exact q5 b' (((hm b').1 hb').resolve_left e)
  · have e : (if (fB Bw gw cw b).isSome = true then Bw.length else Bw.length + 1) = (Bw ++ [b]).length := by
      unfold fB
      rw [if_neg hn]
      simp
    rw [e] at hM
    refine hM.congr (fun k _ => ?_)
    unfold fput fB
    by_cases e : k = b
    · rw [if_pos e, if_pos ((hm k).2 (.inl e)), e, upd_same, upd_same]
    · rw [if_neg e, upd_other _ e, upd_other _ e]
      by_cases hB : k ∈ Bw
      · rw [if_pos hB, if_pos ((hm k).2 (.inr hB))]
      · rw [if_neg hB, if_neg (fun h' => hB (((hm k).1 h').resolve_left e))]
  · by_cases e : b' = b
    · rw [e, upd_same, upd_same]; exact hBI _ _ hx
    · rw [upd_other _ e, upd_other _ e]
      exact hBI _ _ (h.bw b' (((hm b').1 hb').resolve_left e))
  · exact h.bel.grown hG h.bel.size (fun k e => by rw [← Option.some.inj e]; exact h.base.2.1)

theorem E0.apt {w' : World} (h : E0 w wr a mp mb lst md wm P Bd Bw gd cd gw cw X Y) (hb : Below wr.heap.size wr w') (g : Nat) (hg : wr.heap.size ≤ g) : Apt w w' a mp mb lst md wm P Bd Bw gd gw g := by
  obtain ⟨K, h1, h2⟩ := h.ps
  exact ⟨K, h1.kept hb, fun k hk => ⟨h2 k hk, by have := h1.dm_lt hk; omega⟩⟩
theorem Apt.on {w' : World} {g : Nat} (h : Apt w wr a mp mb lst md wm P Bd Bw gd gw g) (hb : Below wr.heap.size wr w') : Apt w w' a mp mb lst md wm P Bd Bw gd gw g := by
  obtain ⟨K, h1, h2⟩ := h
  exact ⟨K, h1.kept hb, h2⟩

/-- A plan that was done. g0: where its bytes lie. -/
theorem E0.done (h : E0 w wr a mp mb lst md wm P Bd Bw gd cd gw cw X Y) (b : Int) (xs : List Int) (p : Option Addr) (n c : Nat) (hz : II wr p n (plnOf P b xs).1) (g0 : Nat) (ys : List Int) (hx : BI wr (some ⟨g0, 0, none⟩) 128 ys) (hg : Apt w wr a mp mb lst md wm P Bd Bw gd gw g0) :
    Calls Try.prog 33 #[.pointer (some ⟨a, 0, none⟩), .slice p n c] wr fun e w' => e = .returned (.int .i64 0) ∧ E0 w w' a mp mb lst md wm (kpP P (plnOf P b xs).1) Bd Bw gd cd gw cw X Y ∧ BI w' (some ⟨g0, 0, none⟩) 128 ys ∧ Apt w w' a mp mb lst md wm (kpP P (plnOf P b xs).1) Bd Bw gd gw g0 := by
  obtain ⟨K, h1, h2⟩ := hg
  have hi := pl_i64 h1 b xs
  have hl := pl_len h1 b xs
  have hbad : (still P (plnOf P b xs).1).any (bad P (plnOf P b xs).1) = false := bad_none h.good (h.good.planned b xs).1
  refine (done_ok h1 p n c _ hz (by have := hz.len; omega) (List.all_eq_true.2 (fun x hx => kn_true.2 (hi x hx)))).mono ?_
  rintro e w' (⟨⟨hb, _⟩, _⟩ | ⟨⟨_, rfl⟩, K', hPS, hSt⟩)
  · rw [hbad] at hb; cases hb
  · have hbel := hSt.fr.size
    have hsz := h.bel.size
    have hmd := h.fd.lt
    have hwm := h.fw.lt
    have hgl := (bi_lt hx).1
    have hdm : ∀ k, dm a mp mb (kpP P (plnOf P b xs).1) K' k → (w.heap.size ≤ k ∧ k ≠ md ∧ k ≠ wm ∧ (∀ b ∈ Bd, k ≠ gd b) ∧ ∀ b ∈ Bw, k ≠ gw b) ∧ k ≠ g0 := fun k hk => by
      rcases hSt.new k hk with h' | h'
      · exact h2 k h'
      · refine ⟨⟨by omega, by omega, by omega, fun b' hb' => ?_, fun b' hb' => ?_⟩, by omega⟩
        · have := (bi_lt (h.bd b' hb')).1; omega
        · have := (bi_lt (h.bw b' hb')).1; omega
    have hk : ∀ k, k < wr.heap.size → (∀ k', dm a mp mb P K k' → k' ≠ k) → w'.heap[k]? = wr.heap[k]? := fun k hk hn => hSt.fr.block k hk (fun hd => hn k hd rfl)
    have hBI : ∀ g' xs', (∀ k, dm a mp mb P K k → k ≠ g') → BI wr (some ⟨g', 0, none⟩) 128 xs' → BI w' (some ⟨g', 0, none⟩) 128 xs' := fun g' xs' hn h' => h'.keptIf (fun g2 e hl2 => by
      have e2 : g' = g2 := Option.some.inj e
      exact hk g2 hl2 (by rw [← e2]; exact hn))
    refine ⟨rfl, ⟨⟨K', hPS, fun k hk => (hdm k hk).1⟩, h.good.kp hbad, h.fd.kept (hk _ hmd (fun k hd => (h2 k hd).1.2.1)), h.fw.kept (hk _ hwm (fun k hd => (h2 k hd).1.2.2.1)), fun b' hb' => hBI _ _ (fun k hd => (h2 k hd).1.2.2.2.1 b' hb') (h.bd b' hb'), fun b' hb' => hBI _ _ (fun k hd => (h2 k hd).1.2.2.2.2 b' hb') (h.bw b' hb'), ?_, h.base⟩, hBI _ _ (fun k hd => (h2 k hd).2) hx, ⟨K', hPS, hdm⟩⟩
    exact h.bel.trans (hSt.below hsz (fun k hd => (h2 k hd).1.1))
end
end Go.Proofs.Yteapkfnklbhdfaa
