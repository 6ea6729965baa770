/- dirs, the document's: a block's entries. -/
import Derived.Test.YthfnldclpommlabD9
namespace Go.Proofs.Ythfnldclpommlab
open Go.RowKit
set_option linter.unusedVariables false

theorem info32z : (Try.prog.info? 32).map (fun i => (i.zero, i.size, i.bytes)) = some (some (.agg #[.int .i64 0, .string ⟨#[]⟩]), 2, 24) := by kernel_rfl
/-- A row of entries that the call made. -/
def Er (B : Nat) (w : World) (v : Value) (L : List En) : Prop := w.ownsRow B 32 2 v L.length (flat2 L)
theorem flat2_app : ∀ A C : List En, flat2 (A ++ C) = flat2 A ++ flat2 C
  | [], C => rfl
  | a :: A, C => by simp [flat2, flat2_app A C]
theorem Er.nil (B : Nat) (w : World) : Er B w (.slice none 0 0) [] := ⟨rfl, .inl ⟨rfl, rfl⟩⟩
theorem Er.lt {w : World} {B : Nat} {v : Value} {L : List En} (h : Er B w v L) : ∀ g, v.ownBlock = some g → B ≤ g ∧ g < w.heap.size := fun g hg => World.ownsRow.lt h g hg
theorem Er.kept {w w' : World} {B : Nat} {v : Value} {L : List En} (h : Er B w v L) (hb : Below w.heap.size w w') : Er B w' v L := by
  refine ⟨h.1, ?_⟩
  rcases h.2 with h' | ⟨g, cap, cur, e, hB, hg, rest⟩
  · exact .inl h'
  · exact .inr ⟨g, cap, cur, e, hB, (hb.block _ (Array.getElem?_eq_some_iff.1 hg).1).trans hg, rest⟩
theorem er_cells {w : World} {B : Nat} {v : Value} {L : List En} (h : Er B w v L) {g cap : Nat} (e : v = .slice (some ⟨g, 0, none⟩) L.length cap) : ∀ i x, L[i]? = some x → w.cell? ⟨g, i * 2, none⟩ = some (.int .i64 x.n) ∧ w.cell? ⟨g, i * 2 + 1, none⟩ = some (.string x.s) := fun i x hx => by
  have hi : i < L.length := (List.getElem?_eq_some_iff.1 hx).1
  subst e
  have h1 := World.ownsRow.cellAt h (i * 2) (by omega)
  have h2 := World.ownsRow.cellAt h (i * 2 + 1) (by omega)
  rw [flat2_n L i x hx] at h1
  rw [flat2_s L i x hx] at h2
  exact ⟨h1, h2⟩
theorem Er.ei {w : World} {B : Nat} {v : Value} {L : List En} (h : Er B w v L) (hn : L.length ≤ 140737488355328) : ∃ p c, v = .slice p L.length c ∧ L.length ≤ c ∧ c ≤ 9223372036854775807 ∧ EI w p L.length L := by
  have hh := h
  rcases h.2 with ⟨e, e0⟩ | ⟨g, cap, cur, e, _, _, hc, hm, _⟩
  · rw [e]
    have : L = [] := List.length_eq_zero_iff.1 e0
    subst this
    exact ⟨none, 0, rfl, Nat.le_refl _, by omega, rfl, by simp, fun h => by simp at h⟩
  · refine ⟨_, _, e, hc, by unfold maxLen at hm; omega, rfl, hn, fun _ => ⟨g, 0, rfl, fun i x hx => ?_⟩⟩
    rw [Nat.zero_add]
    exact er_cells hh e i x hx

set_option maxRecDepth 20000 in
theorem er_app {B : Nat} {w : World} {v1 : Value} {A : List En} (h1 : Er B w v1 A) (g : Nat) (x : En) (hg : w.heap[g]? = some (entO x.n x.s)) (hB : B ≤ w.heap.size) (hl : A.length ≤ 1000) (ty : TypeId) :
    ∃ v' w', (Builtin.append_ #[45, 45] ty #[v1, .slice (some ⟨g, 0, none⟩) 1 1]).run Try.prog w = .ok v' w' ∧ Er B w' v' (A ++ [x]) ∧ w.grownBy w' v1.ownBlock := by
  obtain ⟨i0, hi, hz0, hz1, hz2⟩ := info_parts info32z
  obtain ⟨v', w', hr, ho, hgr, _, hb⟩ := run_append_own_at (P := Try.prog) w B 45 ty 32 i0 _ 2 24 Try.underlying45 hi hz0 hz1 hz2 rfl (by decide) v1 A.length (flat2 A) h1 ⟨g, 0, none⟩ 1 1 [.int .i64 x.n, .string x.s] rfl (fun j u hu => by
    rw [Addr.add_mid, Nat.zero_add]
    match j, hu with
    | 0, hu => simp at hu; subst hu; exact cell_row hg 0 _ rfl
    | 1, hu => simp at hu; subst hu; exact cell_row hg 1 _ rfl
    | j + 2, hu => simp at hu) (fun u hu => by
      simp only [List.mem_cons, List.not_mem_nil, or_false] at hu
      rcases hu with rfl | rfl <;> rfl) (by unfold maxLen; omega) (by omega) hB
  refine ⟨v', w', hr, ?_, hgr⟩
  unfold Er
  rw [List.length_append, flat2_app]
  exact ho

theorem rdecode_no (p : Option Addr) (n c : Nat) (w : World) (hn : n ≠ 128) (hn2 : n ≤ 9223372036854775807) :
    Calls Try.prog 31 #[.slice p n c] w fun e w' => e = .returned (.tuple #[.slice none 0 0, .int .i64 6]) ∧ w' = w := by
  have h1 : ¬ (n : Int) = 128 := by omega
  go_enter Try.func31, Try.ntmps31
  go_wp2_with fail
  go_ret2
  exact ⟨rfl, rfl⟩

/-- A block's entries in a row; none and the error. -/
def deX (n : Nat) (xs : List Int) : Int := if mayB n xs then 0 else 6
def PL (w : World) (n : Nat) (xs : List Int) (e : Ending) (w' : World) : Prop := ∃ v, e = .returned (.tuple #[v, .int .i64 (deX n xs)]) ∧ Er w.heap.size w' v (El n xs) ∧ Below w.heap.size w w'
theorem pl_no {w w' : World} {n : Nat} {xs : List Int} (h : ¬ mayB n xs) (hb : Below w.heap.size w w') : PL w n xs (.returned (.tuple #[.slice none 0 0, .int .i64 6])) w' := by
  refine ⟨_, by unfold deX; rw [if_neg h], ?_, hb⟩
  rw [El_no h]
  exact Er.nil _ _
theorem pl_yes {w w' : World} {xs : List Int} {v : Value} (h : mayB 128 xs) (hr : Er w.heap.size w' v (ents xs 8)) (hb : Below w.heap.size w w') : PL w 128 xs (.returned (.tuple #[v, .int .i64 0])) w' := by
  refine ⟨v, by unfold deX; rw [if_pos h], ?_, hb⟩
  unfold El
  rw [if_pos h]
  exact hr

set_option maxRecDepth 20000 in
set_option maxHeartbeats 2000000 in
theorem rdecode_in (p : Option Addr) (c : Nat) (xs : List Int) (w : World) (h : BI w p 128 xs) (hc : 128 ≤ c) (hc2 : c ≤ 9223372036854775807) :
    Calls Try.prog 31 #[.slice p 128 c] w fun e w' => PL w 128 xs e w' := by
  obtain ⟨b, o, rfl, hcells⟩ := h.cells (by omega)
  clear hcells
  go_enter Try.func31, Try.ntmps31
  go_wp2_with fail
  go_loopw [4, 11] (fun v i wr => ∃ j : Nat, j ≤ 8 ∧ i = .int .i64 (j : Int) ∧ (∀ i, i < j → EGood (chk xs i)) ∧ Er w.heap.size wr v (ents xs j) ∧ Below w.heap.size w wr) (fun _ i _ => 8 - (intOf i).toNat)
  case atStart => exact ⟨0, by omega, rfl, (fun i hi => by omega), Er.nil _ _, Below.refl _ _⟩
  case round =>
    obtain ⟨j, hj, rfl, hgood, hR, hb⟩ := hrel
    have HR : Hid _ := And.intro hgood (And.intro hR hb)
    by_cases hlt : j < 8
    · have hjI : (j : Int) < 8 := by omega
      have hj0 : (0 : Int) ≤ (j : Int) := by omega
      have hB := bi_chk (h.kept hb) rfl hlt
      rw [Nat.mul_comm j 16] at hB
      have hde := rdecodeEntry_ok (some ⟨b, o + 16 * j, none⟩) 16 (c - 16 * j) (chk xs j) wr hB (by omega)
      clear hgood hR hb hB
      by_cases hg : EGood (chk xs j)
      · have hde0 : deE 16 (chk xs j) = 0 := by unfold deE; rw [if_neg (by omega), if_pos hg]
        have hdv0 : deV 16 (chk xs j) = entV (entA xs j).n (entA xs j).s := by unfold deV; rw [if_pos hde0]; rfl
        rw [hde0, hdv0] at hde
        clear hde0 hdv0
        have hgood : ∀ i, i < j + 1 → EGood (chk xs i) := fun i hi => by
          by_cases e : i = j
          · rw [e]; exact hg
          · exact HR.out.1 i (by omega)
        have HG : Hid _ := hgood
        clear hgood hg
        go_wp2_with fail
        refine grew_at hde ?_
        intro w1 hb1
        clear hde
        have hbA := grew_alloc w1 (entO (entA xs j).n (entA xs j).s)
        have hbB := grew_alloc (w1.alloc (entO (entA xs j).n (entA xs j).s)) (entO (entA xs j).n (entA xs j).s)
        have hbW := grew_trans hb1 (grew_trans hbA hbB)
        have hgn := heap_new (w1.alloc (entO (entA xs j).n (entA xs j).s)) (entO (entA xs j).n (entA xs j).s)
        obtain ⟨v', w2, hr2, hR2, hg2⟩ := er_app (HR.out.2.1.kept hbW) _ (entA xs j) hgn (Nat.le_trans HR.out.2.2.size hbW.size) (by rw [ents_len]; omega) 45
        rw [← ents_succ] at hR2
        have hb2 : Below w.heap.size w w2 := grown_bel (grew_trans HR.out.2.2 hbW) hg2 (fun g hg => (HR.out.2.1.lt g hg).1)
        have H2 : Hid _ := And.intro hR2 hb2
        rw [show (w1.alloc (entO (entA xs j).n (entA xs j).s)).heap.size = w1.heap.size + 1 by simp] at hr2
        clear hbA hbB hbW hgn hR2 hg2 hb2 hb1
        dsimp only
        go_wp2_with (refine wpList_append_run rfl _ _ 45 45 rfl rfl rfl hr2 ?_)
        clear hr2
        go_roundw
        case rel => exact ⟨j + 1, by omega, by go_num, HG.out, H2.out.1, H2.out.2⟩
        case measure => simp [intOf]; omega
      · have hde0 : deE 16 (chk xs j) = 6 := by unfold deE; rw [if_neg (by omega), if_neg hg]
        have hdv0 : deV 16 (chk xs j) = entV 0 ent0 := by unfold deV; rw [hde0, if_neg (by omega)]
        rw [hde0, hdv0] at hde
        have hmn : ¬ mayB 128 xs := fun hm => hg (hm.2.1 j hlt)
        have HM : Hid _ := hmn
        clear hde0 hdv0 hmn hg
        go_wp2_with fail
        refine grew_at hde ?_
        intro w1 hb1
        clear hde
        have hbf := grew_trans HR.out.2.2 (grew_trans hb1 (grew_alloc w1 (entO 0 ent0)))
        have HF : Hid _ := hbf
        clear hbf hb1
        dsimp only
        go_wp2_with fail
        go_ret2
        exact pl_no HM.out HF.out
    · obtain rfl : j = 8 := by omega
      obtain ⟨q, d, hv, hq1, hq2, hE⟩ := hR.ei (by rw [ents_len]; omega)
      rw [ents_len] at hv hE hq1
      have hcl := clash_ok q 8 d (ents xs 8) wr hE hq1 hq2
      subst hv
      clear hgood hR hb hE
      cases hc8 : clB (ents xs 8) with
      | true =>
        rw [hc8] at hcl
        have HM : Hid (¬ mayB 128 xs) := fun hm => by have := hm.2.2; rw [hc8] at this; cases this
        clear hc8
        go_wp2_with fail
        refine grew_at hcl ?_
        intro w1 hb1
        clear hcl
        dsimp only
        go_wp2_with fail
        go_ret2
        exact pl_no HM.out (grew_trans HR.out.2.2 hb1)
      | false =>
        rw [hc8] at hcl
        have HM : Hid (mayB 128 xs) := ⟨rfl, HR.out.1, hc8⟩
        clear hc8
        go_wp2_with fail
        refine grew_at hcl ?_
        intro w1 hb1
        clear hcl
        dsimp only
        go_wp2_with fail
        go_ret2
        exact pl_yes HM.out (HR.out.2.1.kept hb1) (grew_trans HR.out.2.2 hb1)

theorem rdecode_ok (p : Option Addr) (n c : Nat) (xs : List Int) (w : World) (h : BI w p n xs) (hnc : n ≤ c) (hc2 : c ≤ 9223372036854775807) :
    Calls Try.prog 31 #[.slice p n c] w fun e w' => PL w n xs e w' := by
  by_cases hn : n = 128
  · subst hn
    exact rdecode_in p c xs w h hnc hc2
  · refine (rdecode_no p n c w hn (by have := h.big; omega)).mono ?_
    rintro e w' ⟨rfl, rfl⟩
    exact pl_no (fun hm => hn hm.1) (Below.refl _ _)
end Go.Proofs.Ythfnldclpommlab
