/- Plan and Now. -/
import Derived.Test.YteapkfnklbhdfaaPlan
namespace Go.Proofs.Yteapkfnklbhdfaa
open Go.RowKit Go.Maps
set_option linter.unusedVariables false

set_option maxHeartbeats 400000 in
theorem bclone_ok (p : Option Addr) (n c : Nat) (xs : List Int) (w : World) (h : BI w p n xs) (h1 : 1 ≤ n) :
    Calls Try.prog 50 #[.slice p n c] w fun e w' => ∃ g cap, e = .returned (.slice (some ⟨g, 0, none⟩) n cap) ∧ Own w.heap.size w' g n cap xs ∧ Below w.heap.size w w' := by
  obtain ⟨i0, hi, hz0, hz1, hz2⟩ := info_parts info5
  have hbig := h.big
  have hlen := h.len
  have q22 := eqlNil
  cases p with
  | none =>
    obtain ⟨b, o, e, _⟩ := h.cells (by omega)
    cases e
  | some a =>
    have hb0 := (Below.refl w.heap.size w).alloc (Nat.le_refl _) (Obj.cells #[] 5)
    have hsrc := (h.kept hb0).src'
    have hone := one_cells xs
    have hll : (xs.map (Value.int .u8)).length = n * 1 := by simp [hlen]
    obtain ⟨LL, HLL⟩ : ∃ LL, Hid (xs.map (Value.int .u8) = LL) := ⟨_, rfl⟩
    rw [HLL.out] at hsrc hone hll
    go_enter Try.func50, Try.ntmps50
    go_wp2_with (at_builtin; refine wpList_append_own _ rfl _ _ 29 rfl w.heap.size 5 i0 (.int .u8 0) 1 1 Try.underlying29 hi hz0 hz1 hz2 rfl (by decide) _ _ _ rfl (World.ownsRow_made w #[] 0 (Nat.le_refl _) (Nat.zero_le _) rfl) a n c LL rfl hll hsrc hone (by unfold maxLen; omega) (by omega) (by simp) ?_)
    intro v' w1 hown hgrow _
    have hb1 := hb0.grown hgrow (by simp) (by intro k hk; simp [Value.ownBlock] at hk; omega)
    have hown : w1.ownsRow w.heap.size 5 1 v' n LL := by simpa using hown
    rw [← HLL.out] at hown
    have hv : v' ≠ .slice none 0 0 := by
      intro e
      rcases hown.2 with ⟨_, e0⟩ | ⟨g, cap, cur, e', _⟩
      · omega
      · rw [e] at e'; cases e'
    obtain ⟨g, cap, rfl, ho⟩ := own_shape hown hv
    clear hown hgrow hv
    go_wp2
    go_ret
    exact ⟨g, cap, rfl, ho, hb1⟩

theorem refusal_ok {B : Nat} {w : World} {a mp mb last : Nat} {P : List Pv} {K : Int → Option Value} (h : PS B w a mp mb last P K) (p : Option Addr) (n c : Nat) :
    Calls Try.prog 49 #[.pointer (some ⟨a, 0, none⟩), .slice p n c] w fun e w' => e = .returned (.int .i64 (if n = 128 then 0 else 1)) ∧ w' = w := by
  have hm := made_ok h
  clear h
  by_cases hn : n = 128
  · subst hn
    go_enter Try.func49, Try.ntmps49
    go_wp2_with (first | (go_at_call 45; refine same_at hm ?_))
    go_ret
    exact ⟨rfl, rfl⟩
  · have hnI : ¬ (n : Int) = 128 := by omega
    rw [if_neg hn]
    go_enter Try.func49, Try.ntmps49
    go_wp2_with (first | (go_at_call 45; refine same_at hm ?_))
    go_ret
    exact ⟨rfl, rfl⟩

theorem plan_arg {B : Nat} {w : World} {a mp mb last : Nat} {P : List Pv} {K : Int → Option Value} (h : PS B w a mp mb last P K) (b : Int) (p : Option Addr) (n c : Nat) (hn : n ≠ 128) :
    Calls Try.prog 18 #[.pointer (some ⟨a, 0, none⟩), .int .i64 b, .slice p n c] w fun e w' => e = .returned (.tuple #[.slice none 0 0, .slice none 0 0, .int .i64 1]) ∧ Below w.heap.size w w' := by
  have hb0 := (Below.refl w.heap.size w).alloc (Nat.le_refl _) (Obj.cells #[.pointer (some ⟨a, 0, none⟩)] 23)
  have hr := refusal_ok (h.kept hb0) p n c
  rw [if_neg hn] at hr
  clear h
  go_enter Try.func18, Try.ntmps18
  go_wp2_with (first | (go_at_call 49; refine same_at hr ?_))
  go_ret3
  exact ⟨rfl, hb0⟩

/-- What Plan answers: nothing, or what is laid and which numbers that has. -/
def PRes (T : Nat) (w : World) (s : List Int × List Int) (ov iv : Value) (er : Int) : Prop :=
  (s.1 = [] ∧ ov = .slice none 0 0 ∧ iv = .slice none 0 0 ∧ er = 71) ∨
  (s.1 ≠ [] ∧ er = 0 ∧ (∃ g cap, ov = .slice (some ⟨g, 0, none⟩) 128 cap ∧ Own T w g 128 cap s.2) ∧ Nums T w iv s.1)

set_option maxRecDepth 100000 in
set_option maxHeartbeats 4000000 in
theorem plan_ok {B : Nat} {w : World} {a mp mb last : Nat} {P : List Pv} {K : Int → Option Value} (h : PS B w a mp mb last P K) (b : Int) (hb : I64 b) (p : Option Addr) (c : Nat) (xs : List Int) (hx : BI w p 128 xs) :
    Calls Try.prog 18 #[.pointer (some ⟨a, 0, none⟩), .int .i64 b, .slice p 128 c] w fun e w' => ∃ ov iv er, e = .returned (.tuple #[ov, iv, .int .i64 er]) ∧ Below w.heap.size w w' ∧ Hid (PRes w.heap.size w' (pst P (ofB P b) ([], xs)) ov iv er) := by
  obtain ⟨W, hW⟩ : ∃ W, w.alloc (.cells #[.pointer (some ⟨a, 0, none⟩)] 23) = W := ⟨_, rfl⟩
  have hbW : Below w.heap.size w W := by rw [← hW]; exact (Below.refl _ w).alloc (Nat.le_refl _) _
  have hr := refusal_ok (h.kept hbW) p 128 c
  rw [if_pos rfl] at hr
  have cs : W.cell? ⟨w.heap.size, 0, none⟩ = some (.pointer (some ⟨a, 0, none⟩)) := by rw [← hW, cell_of_row _ _ 0 _ 23 _ (at_new rfl)]; rfl
  have hcl := bclone_ok p 128 c xs W (hx.kept hbW) (by omega)
  have hrW : W.heap[w.heap.size]? = some (.cells #[.pointer (some ⟨a, 0, none⟩)] 23 (0, 0)) := by rw [← hW]; exact at_new rfl
  have hWs : W.heap.size = w.heap.size + 1 := by rw [← hW]; simp
  have hmm := @run_makeMap Try.prog
  go_enter Try.func18, Try.ntmps18
  go_wp2_with (first | (go_at_call 49; refine same_at hr ?_))
  refine hcl.mono ?_
  rintro e w1 ⟨ob, cap, rfl, hown, hb1⟩
  obtain ⟨W2, hW2⟩ : ∃ W2, (((w1.alloc (Obj.map #[] 0)).alloc (Obj.cells #[.slice (some ⟨ob, 0, none⟩) 128 cap] 29)).alloc (Obj.cells #[.map (some w1.heap.size)] 80)).alloc (Obj.cells #[.slice none 0 0] 30) = W2 := ⟨_, rfl⟩
  have hs1 := hb1.size
  have hb2 : Below w1.heap.size w1 W2 := by
    rw [← hW2]
    exact ((((Below.refl _ w1).alloc (Nat.le_refl _) _).alloc (by simp) _).alloc (by simp; omega) _).alloc (by simp; omega) _
  have hbT : Below w.heap.size w W2 := hbW.trans ((hb1.trans (hb2.mono hs1)).mono (by omega))
  have hrs : W2.heap[w.heap.size]? = some (.cells #[.pointer (some ⟨a, 0, none⟩)] 23 (0, 0)) := by
    rw [(hb1.trans (hb2.mono hs1)).block w.heap.size (by omega)]; exact hrW
  have hrc : W2.heap[w1.heap.size + 1 + 1]? = some (.cells #[.map (some w1.heap.size)] 80 (0, 0)) := by rw [← hW2]; exact at_old (at_new (by simp))
  have hro : W2.heap[w1.heap.size + 1]? = some (.cells #[.slice (some ⟨ob, 0, none⟩) 128 cap] 29 (0, 0)) := by rw [← hW2]; exact at_old (at_old (at_new (by simp)))
  have hri : W2.heap[w1.heap.size + 1 + 1 + 1]? = some (.cells #[.slice none 0 0] 30 (0, 0)) := by rw [← hW2]; exact at_new (by simp)
  have hns : Ns W2 w1.heap.size (upto last) [] := by
    have h0 := ns_made w1 (upto last)
    refine Mf.kept h0 ?_
    rw [← hW2]
    exact (at_old (at_old (at_old (at_new rfl)))).trans (at_new (w := w1) rfl).symm
  have hPI : PI B w.heap.size w W2 a mp mb last P K w.heap.size (w1.heap.size + 1 + 1) (w1.heap.size + 1) (w1.heap.size + 1 + 1 + 1) w1.heap.size ob cap (.slice none 0 0) (upto last) [] [] xs :=
    ⟨h, hbT, rfl, hrs, hrc, hro, hri, hns, (hown.kept hb2).base (by omega), hx.byt, Nums.nil _ _, ⟨by omega, by omega, by omega, by omega, by omega⟩⟩
  have hea := each55_ok hPI b hb
  have c3 : W2.cell? ⟨w.heap.size, 0, none⟩ = some (.pointer (some ⟨a, 0, none⟩)) := by rw [cell_of_row _ _ 0 _ 23 _ hrs]; rfl
  clear hPI hns hri hro hrc hrs hb2 hbT hown hb1 hcl hr hrW cs hx
  obtain ⟨s, hsd⟩ : ∃ s, s = pst P (ofB P b) ([], xs) := ⟨_, rfl⟩
  rw [← hsd] at hea
  have HSD : Hid _ := hsd
  clear hsd
  go_wp2_with fail
  refine hea.mono ?_
  rintro e w3 ⟨rfl, iv, hI⟩
  have ci : w3.cell? ⟨w1.heap.size + 1 + 1 + 1, 0, none⟩ = some iv := by rw [cell_of_row _ _ 0 _ 30 _ hI.ri]; rfl
  have co : w3.cell? ⟨w1.heap.size + 1, 0, none⟩ = some (.slice (some ⟨ob, 0, none⟩) 128 cap) := by rw [cell_of_row _ _ 0 _ 29 _ hI.ro]; rfl
  have hbel : Below w.heap.size w w3 := hI.bel
  have hN := hI.ids
  have hO := hI.own
  clear hea c3 hI h
  obtain ⟨q, k, cq, rfl, hk⟩ : ∃ q k cq, iv = .slice q k cq ∧ k = s.1.length := by
    rcases hN.2 with ⟨e, e0⟩ | ⟨g, cp, cur, e, _⟩
    · exact ⟨none, 0, 0, e, e0.symm⟩
    · exact ⟨_, _, _, e, rfl⟩
  by_cases hs : s.1 = []
  · have hk0 : k = 0 := by rw [hk, hs]; rfl
    subst hk0
    have HS : Hid _ := hs
    clear hN hO hk hs
    go_wp2
    go_ret3
    exact ⟨_, _, _, rfl, hbel, (by show PRes _ _ _ _ _ _; rw [← HSD.out]; exact .inl ⟨HS.out, rfl, rfl, rfl⟩)⟩
  · have hk1 : 0 < k := by rw [hk]; exact List.length_pos_iff.2 hs
    have hkI : ¬ (k : Int) = 0 := by omega
    have HS : Hid _ := hs
    have HO : Hid _ := hO
    have HN : Hid _ := hN
    clear hN hO hk hs
    go_wp2_with fail
    go_quiet (fail)
    go_wp2
    go_ret3
    exact ⟨_, _, _, rfl, below_drewN hbel _, (by show PRes _ _ _ _ _ _; rw [← HSD.out]; exact .inr ⟨HS.out, rfl, ⟨ob, cap, rfl, Own.kept HO.out (below_drewN (Below.refl _ _) _)⟩, Nums.kept HN.out (below_drewN (Below.refl _ _) _)⟩)⟩
end Go.Proofs.Yteapkfnklbhdfaa
