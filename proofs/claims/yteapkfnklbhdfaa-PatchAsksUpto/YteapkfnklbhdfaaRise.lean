/- rising: numbers sorted, each once. -/
import Derived.Test.YteapkfnklbhdfaaSet
import Derived.Test.YteapkfnklbhdfaaShelf
namespace Go.Proofs.Yteapkfnklbhdfaa
open Go.RowKit Go.Maps
set_option linter.unusedVariables false

/-- Sorted, each once. -/
def rs (zs : List Int) : List Int := Lib.compact (zs.mergeSort fun x y => decide (x ≤ y))

theorem compactTo (zs : List Int) (hs : zs.Pairwise (fun x y => x ≤ y)) : ∀ m, m ≤ zs.length →
    (Lib.compactUpTo zs.toArray m).Pairwise (fun x y => x < y) ∧ (∀ x, x ∈ Lib.compactUpTo zs.toArray m ↔ x ∈ zs.take m) ∧ (Lib.compactUpTo zs.toArray m).length ≤ m := by
  intro m
  induction m with
  | zero => intro _; exact ⟨List.Pairwise.nil, fun x => by simp [Lib.compactUpTo], Nat.le_refl _⟩
  | succ m ih =>
    intro hm
    obtain ⟨h1, h2, h3⟩ := ih (by omega)
    have hget : zs.toArray[m]! = zs.getD m 0 := by
      rw [getElem!_pos _ m (by simpa using (by omega : m < zs.length)), List.getD_eq_getElem?_getD, List.getElem?_eq_getElem (by omega)]; rfl
    rw [Lib.compactUpTo_succ, hget, take_one (by omega)]
    have hle : ∀ x ∈ zs.take m, x ≤ zs.getD m 0 := by
      intro x hx
      obtain ⟨i, hi, rfl⟩ := List.mem_take_iff_getElem.1 hx
      rw [List.getD_eq_getElem?_getD, List.getElem?_eq_getElem (by omega)]
      exact List.pairwise_iff_getElem.1 hs i m (by omega) (by omega) (by omega)
    cases hk : Lib.keeps zs.toArray m with
    | true =>
      simp only [if_true]
      refine ⟨?_, ?_, ?_⟩
      · rw [List.pairwise_append]
        refine ⟨h1, by simp, ?_⟩
        intro x hx y hy
        simp only [List.mem_singleton] at hy
        subst hy
        have hx' := (h2 x).1 hx
        have hxl := hle x hx'
        rcases Int.lt_or_le x (zs.getD m 0) with h | h
        · exact h
        · exfalso
          have hxe : x = zs.getD m 0 := by omega
          obtain ⟨i, hi, hxi⟩ := List.mem_take_iff_getElem.1 hx'
          have hm0 : 0 < m := by omega
          have hprev : zs.toArray[m - 1]! = zs.getD m 0 := by
            rw [getElem!_pos _ (m - 1) (by simpa using (by omega : m - 1 < zs.length))]
            have a1 : zs[i] ≤ zs[m - 1] := by
              rcases Nat.lt_or_ge i (m - 1) with h4 | h4
              · exact List.pairwise_iff_getElem.1 hs i (m - 1) (by omega) (by omega) h4
              · obtain rfl : i = m - 1 := by omega
                exact Int.le_refl _
            have a2 : zs[m - 1] ≤ zs[m] := List.pairwise_iff_getElem.1 hs (m - 1) m (by omega) (by omega) (by omega)
            have a3 : zs.getD m 0 = zs[m] := by rw [List.getD_eq_getElem?_getD, List.getElem?_eq_getElem (by omega)]; rfl
            show zs[m - 1] = _
            omega
          have := Lib.keeps_neg (d := zs.toArray) hm0 (by rw [hget, hprev])
          rw [this] at hk
          cases hk
      · intro x
        simp only [List.mem_append, List.mem_singleton, h2]
      · simp; omega
    | false =>
      simp only [Bool.false_eq_true, if_false, List.append_nil]
      refine ⟨h1, ?_, by omega⟩
      intro x
      rw [h2, List.mem_append, List.mem_singleton]
      refine ⟨.inl, fun h => ?_⟩
      rcases h with h | h
      · exact h
      · subst h
        have hm0 : 0 < m := by
          rcases Nat.eq_zero_or_pos m with e | e
          · subst e; rw [Lib.keeps_lt_one _ 0 (by omega)] at hk; cases hk
          · exact e
        have heq : zs.toArray[m]! = zs.toArray[m - 1]! := by
          rcases Decidable.em (zs.toArray[m]! = zs.toArray[m - 1]!) with e | e
          · exact e
          · rw [Lib.keeps_pos e] at hk; cases hk
        rw [hget, getElem!_pos _ (m - 1) (by simpa using (by omega : m - 1 < zs.length))] at heq
        rw [heq]
        exact List.mem_take_iff_getElem.2 ⟨m - 1, by omega, rfl⟩

theorem sorted_merge (zs : List Int) : (zs.mergeSort fun x y => decide (x ≤ y)).Pairwise (fun x y => x ≤ y) := by
  have := List.pairwise_mergeSort (le := fun x y : Int => decide (x ≤ y)) (by intro a b c; simp; omega) (by intro a b; simp; omega) zs
  exact this.imp (by intro a b h; simpa using h)

theorem rs_sorted (zs : List Int) : (rs zs).Pairwise (fun x y => x < y) := (compactTo _ (sorted_merge zs) _ (Nat.le_refl _)).1
theorem mem_rs (zs : List Int) (x : Int) : x ∈ rs zs ↔ x ∈ zs := by
  have := (compactTo _ (sorted_merge zs) _ (Nat.le_refl _)).2.1 x
  rw [List.take_length] at this
  exact this.trans (List.mem_mergeSort (le := fun x y : Int => decide (x ≤ y)))
theorem rs_length (zs : List Int) : (rs zs).length ≤ zs.length := by
  have := (compactTo _ (sorted_merge zs) _ (Nat.le_refl _)).2.2
  unfold rs Lib.compact
  rw [List.length_mergeSort] at this ⊢
  exact this
theorem rs_nil : rs [] = [] := by
  have := rs_length []
  exact List.eq_nil_of_length_eq_zero (by simpa using this)

theorem holds_of_row {B : Nat} {w : World} {g cap : Nat} {zs : List Int} (h : Nums B w (.slice (some ⟨g, 0, none⟩) zs.length cap) zs) : Sort.Holds (Value.int .i64) w g 0 zs.toArray := by
  intro j hj
  have hj' : j < zs.length := by simpa using hj
  constructor
  · rw [Nat.zero_add, World.ownsRow.cellAt h j (by omega), List.getElem?_map, List.getElem?_eq_getElem hj', getElem!_pos _ j hj]
    rfl
  · rcases h.2 with ⟨e, _⟩ | ⟨g', cap', cur, e, hbg, hg, rest⟩
    · cases e
    · cases e
      simp [World.frozen?, hg]

theorem below_grow' {B : Nat} {a w : World} (h : Below B a w) (hB : B ≤ w.heap.size) (os : Array Obj) : Below B a (Sort.grow w os) :=
  h.trans ⟨rfl, rfl, rfl, by simp, fun k hk => Sort.heap_grow_old w os (by omega)⟩
theorem below_ahead {B : Nat} {a w : World} (h : Below B a w) (n : Nat) : Below B a (Sort.ahead w n) := below_drewN h n
theorem below_putRow {B : Nat} {a w : World} (h : Below B a w) (g o : Nat) (hg : B ≤ g) (d : Array Int) : Below B a (Sort.putRow (Value.int .i64) w g o d) :=
  h.trans ⟨rfl, rfl, rfl, by simp, fun k hk => by
    unfold Sort.putRow Sort.mapBlock
    simp only
    rw [Array.getElem?_modify, if_neg (by omega)]⟩

set_option maxHeartbeats 1000000 in
theorem rising_ok {B : Nat} {w : World} {v : Value} {zs : List Int} (h : Nums B w v zs) (hB : B ≤ w.heap.size) (hn : zs.length ≤ 140737488355328) (hf : ∀ x ∈ zs, I64 x) :
    Calls Try.prog 62 #[v] w fun e w' => ∃ p c, e = .returned (.slice p (rs zs).length c) ∧ II w' p (rs zs).length (rs zs) ∧ Plain p ∧ (∀ g, blkOf p = some g → v.ownBlock = some g) ∧ Below B w w' := by
  have hfr : ∀ x ∈ rs zs, I64 x := fun x hx => hf x ((mem_rs zs x).1 hx)
  have hrl := rs_length zs
  cases zs with
  | nil =>
    rw [rs_nil]
    obtain ⟨p, c, rfl, hii, hpl⟩ := h.ii hn hf
    have s1 := sh_slices_Sort_int_none p c
    have s2 := sh_slices_Compact_int_empty p c
    have hown : ∀ g, blkOf p = some g → (Value.slice p 0 c).ownBlock = some g := by
      intro g hg
      cases p with
      | none => cases hg
      | some a => simpa [blkOf, Value.ownBlock] using hg
    go_enter Try.func62, Try.ntmps62
    go_wp2_with (first | (go_at_call 79; refine same_at (s1 _) ?_) | (go_at_call 80; refine same_at (s2 _) ?_))
    go_ret
    exact ⟨p, c, rfl, hii, hpl, hown, Below.refl _ _⟩
  | cons y ys =>
    rcases h.2 with ⟨_, e⟩ | ⟨g, cap, cur, rfl, hbg, hgc, hcap, rest⟩
    · simp at e
    · have hH := holds_of_row h
      have hlt : g < w.heap.size := (Array.getElem?_eq_some_iff.1 hgc).1
      have s1 := sh_slices_Sort_int g 0 cap (y :: ys) w hH hlt (by omega)
      obtain ⟨S, hS⟩ : ∃ S : List Int, S = (y :: ys).mergeSort (fun x y => decide (x ≤ y)) := ⟨_, rfl⟩
      have hSl : S.length = (y :: ys).length := by rw [hS, List.length_mergeSort]
      rw [← hS] at s1
      have hrs : rs (y :: ys) = Lib.compact S := by rw [hS]; rfl
      have hsz : S.toArray.size = (y :: ys).toArray.size := by rw [List.size_toArray, List.size_toArray, hSl]
      generalize (y :: ys).length = n at *
      have s2 : ∀ k os, Calls Try.prog 80 #[.slice (some ⟨g, 0, none⟩) n cap] (Sort.grow (Sort.putRow (Value.int .i64) (Sort.ahead w k) g 0 S.toArray) os) fun e w' =>
          e = .returned (.slice (some ⟨g, 0, none⟩) (rs (y :: ys)).length cap) ∧ II w' (some ⟨g, 0, none⟩) (rs (y :: ys)).length (rs (y :: ys)) ∧ Below B w w' := by
        intro k os
        have hH1 : Sort.Holds (Value.int .i64) (Sort.putRow (Value.int .i64) (Sort.ahead w k) g 0 S.toArray) g 0 S.toArray :=
          Sort.holds_putRow _ (Sort.ahead w k) g 0 _ _ (Sort.holds_ahead _ w k g 0 _ hH) hsz
        have hH2 := Sort.holds_grow (Value.int .i64) _ os g 0 _ (by simpa using hlt) hH1
        have hb0 : Below B w (Sort.grow (Sort.putRow (Value.int .i64) (Sort.ahead w k) g 0 S.toArray) os) :=
          below_grow' (below_putRow (below_ahead (Below.refl _ _) k) g 0 hbg _) (by simpa using hB) os
        have c2 := sh_slices_Compact_int g 0 cap S _ hH2 (by omega) (by omega)
        rw [hSl] at c2
        rw [hrs]
        have hcl : (Lib.compact S).length ≤ n := by rw [← hrs]; exact hrl
        refine c2.mono ?_
        rintro e w' ⟨rfl, q, rfl⟩
        refine ⟨rfl, ⟨rfl, by omega, by rw [← hrs]; exact hfr, fun h0 => ⟨g, 0, rfl, fun i hi => ?_⟩⟩, below_putRow (below_ahead hb0 q) g 0 hbg _⟩
        have := Sort.cell?_putRow (Value.int .i64) (Sort.ahead (Sort.grow (Sort.putRow (Value.int .i64) (Sort.ahead w k) g 0 S.toArray) os) q) g 0 S.toArray (Lib.compact S ++ List.replicate (n - (Lib.compact S).length) 0).toArray (Sort.holds_ahead _ _ q g 0 _ hH2) (by simp; omega) i (by simp; omega)
        rw [this, getElem!_pos _ i (by simp; omega)]
        congr 1
        congr 1
        rw [List.getD_eq_getElem?_getD, List.getElem?_eq_getElem hi]
        simp [List.getElem_append_left hi]
      clear h hH hgc rest hS hSl hrs hrl hf hsz
      go_enter Try.func62, Try.ntmps62
      go_wp2_with (first | (go_at_call 79; refine s1.mono ?_; rintro e w1 ⟨rfl, k, os, rfl⟩) | (go_at_call 80; refine (s2 _ _).mono ?_; rintro e w2 ⟨rfl, hii, hb⟩))
      go_ret
      exact ⟨_, _, rfl, hii, .inr ⟨g, 0, rfl⟩, fun g' hg' => by simpa [blkOf, Value.ownBlock] using hg', hb⟩
end Go.Proofs.Yteapkfnklbhdfaa
