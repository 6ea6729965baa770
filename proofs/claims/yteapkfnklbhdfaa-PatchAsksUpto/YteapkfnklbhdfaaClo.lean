/- Closure's closure: one number more is asked for. -/
import Derived.Test.YteapkfnklbhdfaaGet
import Derived.Deep.RegionHeld3
namespace Go.Proofs.Yteapkfnklbhdfaa
open Go.RowKit Go.Maps
set_option linter.unusedVariables false

/-- What Closure's closure stands in. -/
structure CI (B T : Nat) (w0 w : World) (a mp mb last : Nat) (P : List Pv) (K : Int → Option Value) (gs gc gi nb : Nat) (iv : Value) (U C I : List Int) : Prop where
  ps : PS B w0 a mp mb last P K
  bel : Below T w0 w
  sz : w0.heap.size = T
  rs : w.heap[gs]? = some (.cells #[.pointer (some ⟨a, 0, none⟩)] 23 (0, 0))
  rc : w.heap[gc]? = some (.cells #[.map (some nb)] 80 (0, 0))
  ri : w.heap[gi]? = some (.cells #[iv] 30 (0, 0))
  ns : Ns w nb U C
  ids : Nums T w iv I
  lo : T ≤ gs ∧ T ≤ gc ∧ T ≤ gi ∧ T ≤ nb

section
variable {B T : Nat} {w0 w w' : World} {a mp mb last : Nat} {P : List Pv} {K : Int → Option Value} {gs gc gi nb : Nat} {iv : Value} {U C I : List Int}
theorem CI.psn (h : CI B T w0 w a mp mb last P K gs gc gi nb iv U C I) : PS B w a mp mb last P K := h.ps.kept (by rw [h.sz]; exact h.bel)
theorem CI.hT (h : CI B T w0 w a mp mb last P K gs gc gi nb iv U C I) : T ≤ w.heap.size := by have := h.bel.size; rw [h.sz] at this; exact this
theorem CI.kept (h : CI B T w0 w a mp mb last P K gs gc gi nb iv U C I) (hb : Below w.heap.size w w') : CI B T w0 w' a mp mb last P K gs gc gi nb iv U C I := by
  have lt : ∀ {g : Nat} {o : Obj}, w.heap[g]? = some o → g < w.heap.size := fun e => (Array.getElem?_eq_some_iff.1 e).1
  exact ⟨h.ps, h.bel.trans (hb.mono h.hT), h.sz, by rw [hb.block _ (lt h.rs)]; exact h.rs, by rw [hb.block _ (lt h.rc)]; exact h.rc, by rw [hb.block _ (lt h.ri)]; exact h.ri, h.ns.kept hb, h.ids.kept hb, h.lo⟩
theorem CI.add (h : CI B T w0 w a mp mb last P K gs gc gi nb iv U C I) {C' : List Int} (hn : Ns w' nb U C') (F : Frame (fun k => k = nb) w w') : CI B T w0 w' a mp mb last P K gs gc gi nb iv U C' I := by
  have lt : ∀ {g : Nat} {o : Obj}, w.heap[g]? = some o → g < w.heap.size := fun e => (Array.getElem?_eq_some_iff.1 e).1
  obtain ⟨es, c, hm⟩ := Mf.isMap h.ns
  refine ⟨h.ps, frame_below h.bel h.hT F h.lo.2.2.2, h.sz, ?_, ?_, ?_, hn, ?_, h.lo⟩
  · rw [F.block gs (lt h.rs) (map_ne h.rs hm)]; exact h.rs
  · rw [F.block gc (lt h.rc) (map_ne h.rc hm)]; exact h.rc
  · rw [F.block gi (lt h.ri) (map_ne h.ri hm)]; exact h.ri
  · refine h.ids.keptAt (fun g hg => ?_)
    obtain ⟨ds, h3⟩ := nums_row h.ids hg
    exact F.block g (lt h3) (map_ne h3 hm)
theorem CI.store {o : Obj} {w5 : World} {v' : Value} {I' : List Int} (h : CI B T w0 w a mp mb last P K gs gc gi nb iv U C I)
    (hg : (w.alloc o).grownBy w5 iv.ownBlock) (hn : Nums T w5 v' I') : CI B T w0 (w5.setCell ⟨gi, 0, none⟩ v') a mp mb last P K gs gc gi nb v' U C I' := by
  have hT := h.hT
  obtain ⟨es, c, hm⟩ := Mf.isMap h.ns
  have r1 := grown_at h.ids hg h.rs (fun cs e => by simp at e)
  have r2 := grown_at h.ids hg h.rc (fun cs e => by simp at e)
  have r4 := grown_at h.ids hg h.ri (fun cs e => by simp at e)
  have r5 := grown_at h.ids hg hm (fun cs e => by cases e)
  have hb5 : Below T w0 w5 := (h.bel.alloc hT o).grown hg (by simp; omega) (fun k hk => (World.ownsRow.lt h.ids k hk).1)
  have other : ∀ k, k ≠ gi → (w5.setCell ⟨gi, 0, none⟩ v').heap[k]? = w5.heap[k]? := fun k hk => Below.heap_setCell w5 ⟨gi, 0, none⟩ v' k hk
  refine ⟨h.ps, hb5.setCell (p := ⟨gi, 0, none⟩) h.lo.2.2.1 v', h.sz, ?_, ?_, one_setCell r4, ?_, ?_, h.lo⟩
  · rw [other gs (own_ne r1 r4 (by decide))]; exact r1
  · rw [other gc (own_ne r2 r4 (by decide))]; exact r2
  · exact Mf.kept h.ns ((other nb (fun e => map_ne r4 r5 e.symm)).trans (r5.trans hm.symm))
  · refine hn.keptAt (fun g hg => ?_)
    obtain ⟨ds, h3⟩ := nums_row hn hg
    exact other g (own_ne h3 r4 (by decide))
end

/-- One number more, if it is pending and new. -/
def nxC (P : List Pv) (I : List Int) (k : Int) : List Int := if (fP P k).isSome && !decide (k ∈ I) then I ++ [k] else I

set_option maxRecDepth 100000 in
set_option maxHeartbeats 4000000 in
theorem clo1_ok {B T : Nat} {w0 w : World} {a mp mb last : Nat} {P : List Pv} {K : Int → Option Value} {gs gc gi nb : Nat} {iv : Value} {U I : List Int} (h : CI B T w0 w a mp mb last P K gs gc gi nb iv U I I) (hU : U.length < 100000) (k : Int) (hk : I64 k) (hkU : (fP P k).isSome = true → k ∈ U) (hI : I.length ≤ 100000) :
    Calls Try.prog 60 #[.int .i64 k, .pointer (some ⟨gs, 0, none⟩), .pointer (some ⟨gc, 0, none⟩), .pointer (some ⟨gi, 0, none⟩)] w
      fun e w' => e = .returned (.tuple #[]) ∧ ∃ iv', CI B T w0 w' a mp mb last P K gs gc gi nb iv' U (nxC P I k) (nxC P I k) := by
  have cs : w.cell? ⟨gs, 0, none⟩ = some (.pointer (some ⟨a, 0, none⟩)) := by rw [cell_of_row _ _ 0 _ 23 _ h.rs]; rfl
  have hpe := isPending_ok h.psn k hk
  cases hf : (fP P k).isSome with
  | false =>
    rw [hf] at hpe
    have HA : Hid (nxC P I k = I) := by show _ = _; unfold nxC; rw [hf]; rfl
    go_enter Try.func60, Try.ntmps60
    go_wp2_with (first | (go_at_call 47; refine below_at hpe ?_; intro w1 hb1))
    go_end0
    rw [HA.out]
    exact ⟨rfl, iv, h.kept hb1⟩
  | true =>
    rw [hf] at hpe
    have hkU' := hkU hf
    by_cases hin : k ∈ I
    · have HA : Hid (nxC P I k = I) := by show _ = _; unfold nxC; simp [hin]
      have hha := fun w1 (hb1 : Below w.heap.size w w1) => nhas_ok (h.kept hb1).ns k hk
      simp only [hin, decide_true] at hha
      clear hkU
      go_enter Try.func60, Try.ntmps60
      go_wp2_with (first | (go_at_call 47; refine below_at hpe ?_; intro w1 hb1; have h1 := h.kept hb1; have cc : w1.cell? ⟨gc, 0, none⟩ = some (.map (some nb)) := (by rw [cell_of_row _ _ 0 _ 80 _ h1.rc]; rfl); have hh1 := hha w1 hb1) | (go_at_call 61; refine below_at hh1 ?_; intro w2 hb2))
      go_end0
      rw [HA.out]
      exact ⟨rfl, iv, h1.kept hb2⟩
    · have HA : Hid (nxC P I k = I ++ [k]) := by show _ = _; unfold nxC; rw [hf]; simp [hin]
      have hha := fun w1 (hb1 : Below w.heap.size w w1) => nhas_ok (h.kept hb1).ns k hk
      simp only [hin, decide_false] at hha
      clear hkU
      go_enter Try.func60, Try.ntmps60
      go_wp2_with (first | (go_at_call 47; refine below_at hpe ?_; intro w1 hb1; have h1 := h.kept hb1; have cc : w1.cell? ⟨gc, 0, none⟩ = some (.map (some nb)) := (by rw [cell_of_row _ _ 0 _ 80 _ h1.rc]; rfl); have hh1 := hha w1 hb1) | (go_at_call 61; refine below_at hh1 ?_; intro w2 hb2; have h2 := h1.kept hb2; have cc2 : w2.cell? ⟨gc, 0, none⟩ = some (.map (some nb)) := (by rw [cell_of_row _ _ 0 _ 80 _ h2.rc]; rfl)))
      have hbW : Below w2.heap.size w2 (w2.alloc (.cells #[.int .i64 k] 3)) := (Below.refl _ w2).alloc (Nat.le_refl _) _
      have h3 := h2.kept hbW
      have hii : II (w2.alloc (.cells #[.int .i64 k] 3)) (some ⟨w2.heap.size, 0, none⟩) 1 [k] := by
        refine ⟨rfl, by omega, fun x hx => by rw [List.mem_singleton.1 hx]; exact hk, fun _ => ⟨_, 0, rfl, fun i hi => ?_⟩⟩
        obtain rfl : i = 0 := by omega
        rw [cell_of_row _ _ 0 _ 3 _ (at_new rfl)]; rfl
      have hadd := add_ok h3.ns hU (some ⟨w2.heap.size, 0, none⟩) 1 1 [k] hii (fun x hx => by rw [List.mem_singleton.1 hx]; exact hkU') (by
        have : nb < w2.heap.size := Mf.lt h2.ns
        simp only [blkOf, ne_eq, Option.some.injEq]; omega)
      refine hadd.mono ?_
      rintro e w3 ⟨rfl, hns3, hF3⟩
      have h4 := h3.add hns3 hF3
      have cg : w3.cell? ⟨gi, 0, none⟩ = some iv := by rw [cell_of_row _ _ 0 _ 30 _ h4.ri]; rfl
      have hN := h4.ids
      have hT := h4.hT
      obtain ⟨i0, hi, hz0, hz1, hz2⟩ := info_parts info3
      clear hadd h3 hii hbW hns3 hF3 h2 cc2 h1 cc hh1 hha hpe cs
      go_wp2_with (first
        | (at_builtin; refine wpList_append_own _ rfl _ _ 30 rfl T 3 i0 (.int .i64 0) 1 8 Try.underlying30 hi hz0 hz1 hz2 rfl (by decide) _ _ _ rfl (World.ownsRow.alloc hN _) ⟨w3.heap.size, 0, none⟩ 1 1 [.int .i64 k] rfl rfl (cell_one_new _ _ _) (by simp [Value.oneCell']) (by unfold maxLen; omega) (by omega) (by simp; omega) ?_; intro v' w5 hown hgrow _; have hown := Nums.snoc hown; obtain ⟨g', cap', rfl⟩ := Nums.succ hown; have hgrow' : (w3.alloc (.cells #[.int .i64 k] 3)).grownBy w5 iv.ownBlock := hgrow; have r5 := grown_at hN hgrow' h4.ri (fun cs e => by simp at e); have c5 : w5.cell? ⟨gi, 0, none⟩ = some iv := (by rw [cell_of_row _ _ 0 _ 30 _ r5]; rfl); have f5 : w5.frozen? ⟨gi, 0, none⟩ = false := (by simp [World.frozen?, r5])))
      go_end0
      refine ⟨rfl, .slice (some ⟨g', 0, none⟩) (I.length + 1) cap', ?_⟩
      rw [HA.out]
      exact h4.store hgrow' hown
end Go.Proofs.Yteapkfnklbhdfaa
