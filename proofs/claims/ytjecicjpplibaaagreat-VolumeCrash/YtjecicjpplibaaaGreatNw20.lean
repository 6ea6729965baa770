/- PRise PNumb -/
import Derived.Test.YtjecicjpplibaaaGreatNw18
import Derived.Test.YtjecicjpplibaaaGreatNw19

/- rising: numbers sorted, each once. -/
namespace Go.Proofs.YtjecicjpplibaaaGreat.Pt
open Go.RowKit Go.Maps
set_option maxRecDepth 100000
set_option linter.unusedVariables false

/-- Sorted, each once. -/
def rs (zs : List Int) : List Int := Lib.compact (zs.mergeSort fun x y => decide (x ≤ y))

theorem compactTo (zs : List Int) (hs : zs.Pairwise (fun x y => x ≤ y)) : ∀ m, m ≤ zs.length →
    (Lib.compactUpTo zs.toArray m).Pairwise (fun x y => x < y) ∧ (∀ x, x ∈ Lib.compactUpTo zs.toArray m ↔ x ∈ zs.take m) ∧ (Lib.compactUpTo zs.toArray m).length ≤ m := by
  intro m
  induction m with
  | zero => intro _; exact ⟨List.Pairwise.nil, fun x => by simp [Lib.compactUpTo], Nat.le_refl _⟩
  | succ m ih =>
    intro hm
    obtain ⟨h1, h2, h3⟩ := ih (by omega)
    have hget : zs.toArray[m]! = zs.getD m 0 := by
      rw [getElem!_pos _ m (by simpa using (by omega : m < zs.length)), List.getD_eq_getElem?_getD, List.getElem?_eq_getElem (by omega)]; rfl
    rw [Lib.compactUpTo_succ, hget, take_one (by omega)]
    have hle : ∀ x ∈ zs.take m, x ≤ zs.getD m 0 := by
      intro x hx
      obtain ⟨i, hi, rfl⟩ := List.mem_take_iff_getElem.1 hx
      rw [List.getD_eq_getElem?_getD, List.getElem?_eq_getElem (by omega)]
      exact List.pairwise_iff_getElem.1 hs i m (by omega) (by omega) (by omega)
    cases hk : Lib.keeps zs.toArray m with
    | true =>
      simp only [if_true]
      refine ⟨?_, ?_, ?_⟩
      · rw [List.pairwise_append]
        refine ⟨h1, by simp, ?_⟩
        intro x hx y hy
        simp only [List.mem_singleton] at hy
        subst hy
        have hx' := (h2 x).1 hx
        have hxl := hle x hx'
        rcases Int.lt_or_le x (zs.getD m 0) with h | h
        · exact h
        · exfalso
          have hxe : x = zs.getD m 0 := by omega
          obtain ⟨i, hi, hxi⟩ := List.mem_take_iff_getElem.1 hx'
          have hm0 : 0 < m := by omega
          have hprev : zs.toArray[m - 1]! = zs.getD m 0 := by
            rw [getElem!_pos _ (m - 1) (by simpa using (by omega : m - 1 < zs.length))]
            have a1 : zs[i] ≤ zs[m - 1] := by
              rcases Nat.lt_or_ge i (m - 1) with h4 | h4
              · exact List.pairwise_iff_getElem.1 hs i (m - 1) (by omega) (by omega) h4
              · obtain rfl : i = m - 1 := by omega
                exact Int.le_refl _
            have a2 : zs[m - 1] ≤ zs[m] := List.pairwise_iff_getElem.1 hs (m - 1) m (by omega) (by omega) (by omega)
            have a3 : zs.getD m 0 = zs[m] := by rw [List.getD_eq_getElem?_getD, List.getElem?_eq_getElem (by omega)]; rfl
            show zs[m - 1] = _
            omega
          have := Lib.keeps_neg (d := zs.toArray) hm0 (by rw [hget, hprev])
          rw [this] at hk
          cases hk
      · intro x
        simp only [List.mem_append, List.mem_singleton, h2]
      · simp; omega
    | false =>
      simp only [Bool.false_eq_true, if_false, List.append_nil]
      refine ⟨h1, ?_, by omega⟩
      intro x
      rw [h2, List.mem_append, List.mem_singleton]
      refine ⟨.inl, fun h => ?_⟩
      rcases h with h | h
      · exact h
      · subst h
        have hm0 : 0 < m := by
          rcases Nat.eq_zero_or_pos m with e | e
          · subst e; rw [Lib.keeps_lt_one _ 0 (by omega)] at hk; cases hk
          · exact e
        have heq : zs.toArray[m]! = zs.toArray[m - 1]! := by
          rcases Decidable.em (zs.toArray[m]! = zs.toArray[m - 1]!) with e | e
          · exact e
          · rw [Lib.keeps_pos e] at hk; cases hk
        rw [hget, getElem!_pos _ (m - 1) (by simpa using (by omega : m - 1 < zs.length))] at heq
        rw [heq]
        exact List.mem_take_iff_getElem.2 ⟨m - 1, by omega, rfl⟩

theorem sorted_merge (zs : List Int) : (zs.mergeSort fun x y => decide (x ≤ y)).Pairwise (fun x y => x ≤ y) := by
  have := List.pairwise_mergeSort (le := fun x y : Int => decide (x ≤ y)) (by intro a b c; simp; omega) (by intro a b; simp; omega) zs
  exact this.imp (by intro a b h; simpa using h)

theorem rs_sorted (zs : List Int) : (rs zs).Pairwise (fun x y => x < y) := (compactTo _ (sorted_merge zs) _ (Nat.le_refl _)).1
theorem mem_rs (zs : List Int) (x : Int) : x ∈ rs zs ↔ x ∈ zs := by
  have := (compactTo _ (sorted_merge zs) _ (Nat.le_refl _)).2.1 x
  rw [List.take_length] at this
  exact this.trans (List.mem_mergeSort (le := fun x y : Int => decide (x ≤ y)))
theorem rs_length (zs : List Int) : (rs zs).length ≤ zs.length := by
  have := (compactTo _ (sorted_merge zs) _ (Nat.le_refl _)).2.2
  unfold rs Lib.compact
  rw [List.length_mergeSort] at this ⊢
  exact this
theorem rs_nil : rs [] = [] := by
  have := rs_length []
  exact List.eq_nil_of_length_eq_zero (by simpa using this)

theorem holds_of_row {B : Nat} {w : World} {g cap : Nat} {zs : List Int} (h : Nums B w (.slice (some ⟨g, 0, none⟩) zs.length cap) zs) : Sort.Holds (Value.int .i64) w g 0 zs.toArray := by
  intro j hj
  have hj' : j < zs.length := by simpa using hj
  constructor
  · rw [Nat.zero_add, World.ownsRow.cellAt h j (by omega), List.getElem?_map, List.getElem?_eq_getElem hj', getElem!_pos _ j hj]
    rfl
  · rcases h.2 with ⟨e, _⟩ | ⟨g', cap', cur, e, hbg, hg, rest⟩
    · cases e
    · cases e
      simp [World.frozen?, hg]

theorem below_grow' {B : Nat} {a w : World} (h : Below B a w) (hB : B ≤ w.heap.size) (os : Array Obj) : Below B a (Sort.grow w os) :=
  h.trans ⟨rfl, rfl, rfl, by simp, fun k hk => Sort.heap_grow_old w os (by omega)⟩
theorem below_ahead {B : Nat} {a w : World} (h : Below B a w) (n : Nat) : Below B a (Sort.ahead w n) := below_drewN h n
theorem below_putRow {B : Nat} {a w : World} (h : Below B a w) (g o : Nat) (hg : B ≤ g) (d : Array Int) : Below B a (Sort.putRow (Value.int .i64) w g o d) :=
  h.trans ⟨rfl, rfl, rfl, by simp, fun k hk => by
    unfold Sort.putRow Sort.mapBlock
    simp only
    rw [Array.getElem?_modify, if_neg (by omega)]⟩

set_option maxHeartbeats 1000000 in
theorem rising_ok {B : Nat} {w : World} {v : Value} {zs : List Int} (h : Nums B w v zs) (hB : B ≤ w.heap.size) (hn : zs.length ≤ 140737488355328) (hf : ∀ x ∈ zs, I64 x) :
    Calls Tryz.prog 92 #[v] w fun e w' => ∃ p c, e = .returned (.slice p (rs zs).length c) ∧ II w' p (rs zs).length (rs zs) ∧ Plain p ∧ (∀ g, blkOf p = some g → v.ownBlock = some g) ∧ Below B w w' := by
  have hfr : ∀ x ∈ rs zs, I64 x := fun x hx => hf x ((mem_rs zs x).1 hx)
  have hrl := rs_length zs
  cases zs with
  | nil =>
    rw [rs_nil]
    obtain ⟨p, c, rfl, hii, hpl⟩ := h.ii hn hf
    have s1 := sh_slices_Sort_int_none p c
    have s2 := sh_slices_Compact_int_empty p c
    have hown : ∀ g, blkOf p = some g → (Value.slice p 0 c).ownBlock = some g := by
      intro g hg
      cases p with
      | none => cases hg
      | some a => simpa [blkOf, Value.ownBlock] using hg
    go_enter Tryz.func92, Tryz.ntmps92
    go_wp2_with (first | (go_at_call 117; refine same_at (s1 _) ?_) | (go_at_call 126; refine same_at (s2 _) ?_))
    go_ret
    exact ⟨p, c, rfl, hii, hpl, hown, Below.refl _ _⟩
  | cons y ys =>
    rcases h.2 with ⟨_, e⟩ | ⟨g, cap, cur, rfl, hbg, hgc, hcap, rest⟩
    · simp at e
    · have hH := holds_of_row h
      have hlt : g < w.heap.size := (Array.getElem?_eq_some_iff.1 hgc).1
      have s1 := sh_slices_Sort_int g 0 cap (y :: ys) w hH hlt (by omega)
      obtain ⟨S, hS⟩ : ∃ S : List Int, S = (y :: ys).mergeSort (fun x y => decide (x ≤ y)) := ⟨_, rfl⟩
      have hSl : S.length = (y :: ys).length := by rw [hS, List.length_mergeSort]
      rw [← hS] at s1
      have hrs : rs (y :: ys) = Lib.compact S := by rw [hS]; rfl
      have hsz : S.toArray.size = (y :: ys).toArray.size := by rw [List.size_toArray, List.size_toArray, hSl]
      generalize (y :: ys).length = n at *
      have s2 : ∀ k os, Calls Tryz.prog 126 #[.slice (some ⟨g, 0, none⟩) n cap] (Sort.grow (Sort.putRow (Value.int .i64) (Sort.ahead w k) g 0 S.toArray) os) fun e w' =>
          e = .returned (.slice (some ⟨g, 0, none⟩) (rs (y :: ys)).length cap) ∧ II w' (some ⟨g, 0, none⟩) (rs (y :: ys)).length (rs (y :: ys)) ∧ Below B w w' := by
        intro k os
        have hH1 : Sort.Holds (Value.int .i64) (Sort.putRow (Value.int .i64) (Sort.ahead w k) g 0 S.toArray) g 0 S.toArray :=
          Sort.holds_putRow _ (Sort.ahead w k) g 0 _ _ (Sort.holds_ahead _ w k g 0 _ hH) hsz
        have hH2 := Sort.holds_grow (Value.int .i64) _ os g 0 _ (by simpa using hlt) hH1
        have hb0 : Below B w (Sort.grow (Sort.putRow (Value.int .i64) (Sort.ahead w k) g 0 S.toArray) os) :=
          below_grow' (below_putRow (below_ahead (Below.refl _ _) k) g 0 hbg _) (by simpa using hB) os
        have c2 := sh_slices_Compact_int g 0 cap S _ hH2 (by omega) (by omega)
        rw [hSl] at c2
        rw [hrs]
        have hcl : (Lib.compact S).length ≤ n := by rw [← hrs]; exact hrl
        refine c2.mono ?_
        rintro e w' ⟨rfl, q, rfl⟩
        refine ⟨rfl, ⟨rfl, by omega, by rw [← hrs]; exact hfr, fun h0 => ⟨g, 0, rfl, fun i hi => ?_⟩⟩, below_putRow (below_ahead hb0 q) g 0 hbg _⟩
        have := Sort.cell?_putRow (Value.int .i64) (Sort.ahead (Sort.grow (Sort.putRow (Value.int .i64) (Sort.ahead w k) g 0 S.toArray) os) q) g 0 S.toArray (Lib.compact S ++ List.replicate (n - (Lib.compact S).length) 0).toArray (Sort.holds_ahead _ _ q g 0 _ hH2) (by simp; omega) i (by simp; omega)
        rw [this, getElem!_pos _ i (by simp; omega)]
        congr 1
        congr 1
        rw [List.getD_eq_getElem?_getD, List.getElem?_eq_getElem hi]
        simp [List.getElem_append_left hi]
      clear h hH hgc rest hS hSl hrs hrl hf hsz
      go_enter Tryz.func92, Tryz.ntmps92
      go_wp2_with (first | (go_at_call 117; refine s1.mono ?_; rintro e w1 ⟨rfl, k, os, rfl⟩) | (go_at_call 126; refine (s2 _ _).mono ?_; rintro e w2 ⟨rfl, hii, hb⟩))
      go_ret
      exact ⟨_, _, rfl, hii, .inr ⟨g, 0, rfl⟩, fun g' hg' => by simpa [blkOf, Value.ownBlock] using hg', hb⟩
end Go.Proofs.YtjecicjpplibaaaGreat.Pt

/- A set of numbers: add, has; what a patch lacks. -/
namespace Go.Proofs.YtjecicjpplibaaaGreat.Pt
open Go.RowKit Go.Maps
set_option maxRecDepth 100000
set_option linter.unusedVariables false

def nf (C : List Int) : Int → Option Value := fun k => if k ∈ C then some (.agg #[]) else none
def cnt (U C : List Int) : Nat := (U.filter (fun x => decide (x ∈ C))).length

theorem cnt_le (U C : List Int) : cnt U C ≤ U.length := List.length_filter_le _ _
theorem cnt_mono (U C : List Int) (y : Int) : cnt U C ≤ cnt U (C ++ [y]) := by
  unfold cnt
  induction U with
  | nil => exact Nat.le_refl _
  | cons u U ih =>
    rw [List.filter_cons, List.filter_cons]
    by_cases h : u ∈ C
    · have h2 : u ∈ C ++ [y] := List.mem_append.2 (.inl h)
      simp only [h, h2, decide_true, if_true, List.length_cons]
      omega
    · by_cases h2 : u ∈ C ++ [y]
      · simp only [h, h2, decide_true, decide_false, if_true, Bool.false_eq_true, if_false, List.length_cons]
        omega
      · simp only [h, h2, decide_false, Bool.false_eq_true, if_false]
        exact ih
theorem cnt_new (U C : List Int) (y : Int) (hy : y ∈ U) (hn : y ∉ C) : cnt U C + 1 ≤ cnt U (C ++ [y]) := by
  induction U with
  | nil => cases hy
  | cons u U ih =>
    by_cases e : y = u
    · subst e
      have hm := cnt_mono U C y
      unfold cnt at *
      rw [List.filter_cons, List.filter_cons]
      have h2 : y ∈ C ++ [y] := List.mem_append.2 (.inr (List.mem_singleton.2 rfl))
      simp only [hn, h2, decide_true, decide_false, if_true, Bool.false_eq_true, if_false, List.length_cons]
      omega
    · have ih := ih (by rcases List.mem_cons.1 hy with h | h; exact absurd h e; exact h)
      unfold cnt at *
      rw [List.filter_cons, List.filter_cons]
      by_cases h : u ∈ C
      · have h2 : u ∈ C ++ [y] := List.mem_append.2 (.inl h)
        simp only [h, h2, decide_true, if_true, List.length_cons]
        omega
      · have h2 : u ∉ C ++ [y] := by
          intro h3
          rcases List.mem_append.1 h3 with h4 | h4
          · exact h h4
          · exact e (List.mem_singleton.1 h4).symm
        simp only [h, h2, decide_false, Bool.false_eq_true, if_false]
        exact ih

theorem Mf.mono {w : World} {mb N N' : Nat} {f : Int → Option Value} (h : Mf w mb N f) (hN : N ≤ N') : Mf w mb N' f := by
  obtain ⟨D, ho, hs, hp⟩ := h
  exact ⟨D, ho, by omega, hp⟩

/-- Block nb is a set of just the numbers of C, out of those of U. -/
def Ns (w : World) (nb : Nat) (U C : List Int) : Prop := Mf w nb (cnt U C) (nf C)

theorem ns_made (w : World) (U : List Int) : Ns (w.alloc (.map #[] 0)) w.heap.size U [] := (mf_made w _).congr (fun k _ => by simp [nf])

theorem Ns.put {w : World} {nb : Nat} {U C : List Int} (h : Ns w nb U C) (hU : U.length < 100000) (y : Int) (hy : y ∈ U) (hk : I64 y) :
    ∃ w', (Instr.mapUpdate 130 (.map (some nb)) (.int .i64 y) (.agg #[])).run Tryz.prog w = .ok () w' ∧ Ns w' nb U (C ++ [y]) ∧ w.grownBy w' (some nb) := by
  obtain ⟨d, hd⟩ := zero97_D
  have hc := cnt_le U C
  obtain ⟨w', hr, hm, hg⟩ := Mf.put h (by omega) Tryz.underlying130 y hk (.agg #[]) hd
  refine ⟨w', hr, ?_, hg⟩
  have hm2 : Mf w' nb (cnt U (C ++ [y])) (fput (nf C) y (some (.agg #[]))) := hm.mono (by
    by_cases e : y ∈ C
    · have : (nf C y).isSome = true := by simp [nf, e]
      rw [this]
      exact cnt_mono U C y
    · have : (nf C y).isSome = false := by simp [nf, e]
      rw [this]
      exact cnt_new U C y hy e)
  refine hm2.congr (fun k _ => ?_)
  by_cases e : k = y
  · subst e; rw [fput_same]; simp [nf]
  · rw [fput_other _ e]; simp [nf, e]

set_option maxHeartbeats 1000000 in
theorem add_ok {w : World} {nb : Nat} {U C : List Int} (h : Ns w nb U C) (hU : U.length < 100000) (p : Option Addr) (n c : Nat) (zs : List Int) (hz : II w p n zs) (hzU : ∀ x ∈ zs, x ∈ U) (hne : blkOf p ≠ some nb) :
    Calls Tryz.prog 91 #[.map (some nb), .slice p n c] w fun e w' => e = .returned (.tuple #[]) ∧ Ns w' nb U (C ++ zs) ∧ Frame (fun k => k = nb) w w' := by
  have hl := hz.len
  have hg := hz.big
  go_enter Tryz.func91, Tryz.ntmps91
  go_wp2_with fail
  go_loopw [8] (fun i wr => ∃ j : Nat, j ≤ n ∧ i = .int .i64 (j : Int) ∧ Ns wr nb U (C ++ zs.take j) ∧ Frame (fun k => k = nb) w wr) (fun i _ => n - (intOf i).toNat)
  case atStart => exact ⟨0, by omega, rfl, by simpa using h, Frame.refl _ _⟩
  case round =>
    obtain ⟨j, hj, rfl, hN, hF⟩ := hrel
    by_cases hlt : j < n
    · obtain ⟨b1, o1, rfl, hc1⟩ := hz.cells (by omega)
      have e1 : wr.cell? ⟨b1, o1 + j, none⟩ = some (.int .i64 (zs.getD j 0)) := by
        have hb1 : b1 < w.heap.size := lt_of_cell (hc1 j hlt)
        rw [World.cell?_of_block (w := w) (hF.block b1 hb1 (fun e => hne (by rw [e]; rfl)))]
        exact hc1 j hlt
      have hjI : (j : Int) < (n : Int) := by omega
      have hj0 : (0 : Int) ≤ (j : Int) := by omega
      have HT : Hid _ := take_one (zs := zs) (j := j) (by omega)
      obtain ⟨w2, hr, hN2, hg2⟩ := hN.put hU (zs.getD j 0) (hzU _ (getD_mem' (by omega))) (hz.fitAt j)
      have hF2 : Frame (fun k => k = nb) w w2 := hF.trans (frame_of_grown hg2 (fun k hk => by cases hk; rfl))
      clear hc1 hN hg2
      generalize zs.getD j 0 = y at e1 HT hr hN2
      go_wp2
      go_roundw
      case rel => exact ⟨j + 1, by omega, by go_num, by rw [HT.out, ← List.append_assoc]; exact hN2, hF2⟩
      case measure => simp [intOf]; omega
    · obtain rfl : j = n := by omega
      rw [List.take_of_length_le (by omega)] at hN
      go_wp2
      go_end0
      exact ⟨rfl, hN, hF⟩

theorem nhas_ok {w : World} {nb : Nat} {U C : List Int} (h : Ns w nb U C) (k : Int) (hk : I64 k) :
    Calls Tryz.prog 90 #[.map (some nb), .int .i64 k] w fun e w' => e = .returned (.bool (decide (k ∈ C))) ∧ Below w.heap.size w w' := by
  obtain ⟨d, hd⟩ := zero97_D
  have hl := Mf.look h Tryz.underlying130 (zero97 w) hd k hk
  have e1 : (nf C k).getD (.agg #[]) = .agg #[] := by unfold nf; split <;> rfl
  have e2 : (nf C k).isSome = decide (k ∈ C) := by unfold nf; split <;> simp_all
  rw [e1, e2] at hl
  clear e1 e2 hd
  generalize decide (k ∈ C) = q at *
  have hb := (Below.refl w.heap.size w).alloc (Nat.le_refl _) (Obj.cells #[] 64)
  go_enter Tryz.func90, Tryz.ntmps90
  go_wp2
  go_ret
  exact ⟨rfl, hb⟩

theorem Ns.kept {w w' : World} {nb : Nat} {U C : List Int} (h : Ns w nb U C) (hb : Below w.heap.size w w') : Ns w' nb U C := Mf.kept h (hb.block nb (Mf.lt h))

/-- Whether a need is wanting: it is pending, and none of C. -/
def wq (P : List Pv) (C : List Int) (k : Int) : Bool := (fP P k).isSome && !decide (k ∈ C)

/-- What the closure of lacks stands in. -/
structure LK (B : Nat) (w : World) (a mp mb last : Nat) (P : List Pv) (K : Int → Option Value) (nb : Nat) (U C : List Int) (g1 g2 : Nat) : Prop where
  ps : PS B w a mp mb last P K
  ns : Ns w nb U C
  c1 : w.cell? ⟨g1, 0, none⟩ = some (.pointer (some ⟨a, 0, none⟩))
  c2 : w.cell? ⟨g2, 0, none⟩ = some (.map (some nb))

theorem LK.kept {B : Nat} {w w' : World} {a mp mb last : Nat} {P : List Pv} {K : Int → Option Value} {nb : Nat} {U C : List Int} {g1 g2 : Nat} (h : LK B w a mp mb last P K nb U C g1 g2) (hb : Below w.heap.size w w') : LK B w' a mp mb last P K nb U C g1 g2 := by
  refine ⟨h.ps.kept hb, h.ns.kept hb, ?_, ?_⟩
  · rw [hb.cell (p := ⟨g1, 0, none⟩) (lt_of_cell h.c1)]; exact h.c1
  · rw [hb.cell (p := ⟨g2, 0, none⟩) (lt_of_cell h.c2)]; exact h.c2

theorem c76_ok {B : Nat} {w : World} {a mp mb last : Nat} {P : List Pv} {K : Int → Option Value} {nb : Nat} {U C : List Int} {g1 g2 : Nat} (h : LK B w a mp mb last P K nb U C g1 g2) (k : Int) (hk : I64 k) :
    Calls Tryz.prog 154 #[.int .i64 k, .pointer (some ⟨g1, 0, none⟩), .pointer (some ⟨g2, 0, none⟩)] w fun e w' => e = .returned (.bool (wq P C k)) ∧ Below w.heap.size w w' := by
  have c1 := h.c1
  have c2 := h.c2
  have hp := isPending_ok h.ps k hk
  have hn := fun w' (hb : Below w.heap.size w w') => nhas_ok (h.kept hb).ns k hk
  have hc2 := fun w' (hb : Below w.heap.size w w') => (h.kept hb).c2
  have HW : Hid (wq P C k = ((fP P k).isSome && !decide (k ∈ C))) := rfl
  clear h
  generalize decide (k ∈ C) = d at *
  cases e : (fP P k).isSome with
  | true =>
    rw [e] at hp HW
    clear e
    go_enter Tryz.func154, Tryz.ntmps154
    go_wp2_with (first | (go_at_call 89; refine below_at hp ?_; intro w1 hb1; have c3 := hc2 w1 hb1) | (go_at_call 90; refine below_at (hn _ hb1) ?_; intro w2 hb2))
    go_ret
    exact ⟨by rw [HW.out]; rfl, below_on hb1 hb2⟩
  | false =>
    rw [e] at hp HW
    clear e
    go_enter Tryz.func154, Tryz.ntmps154
    go_wp2_with (first | (go_at_call 89; refine below_at hp ?_; intro w1 hb1; have c3 := hc2 w1 hb1))
    go_ret
    exact ⟨by rw [HW.out]; rfl, hb1⟩

set_option maxHeartbeats 1000000 in
theorem indexFunc_ok {B : Nat} {w : World} {a mp mb last : Nat} {P : List Pv} {K : Int → Option Value} {nb : Nat} {U C : List Int} {g1 g2 : Nat} (h : LK B w a mp mb last P K nb U C g1 g2) (p : Option Addr) (n c : Nat) (zs : List Int) (hz : II w p n zs) :
    Calls Tryz.prog 94 #[.slice p n c, .func (.func 154) #[] #[.pointer (some ⟨g1, 0, none⟩), .pointer (some ⟨g2, 0, none⟩)]] w fun e w' => ∃ r : Int, e = .returned (.int .i64 r) ∧ Hid (decide (0 ≤ r) = zs.any (wq P C)) ∧ Below w.heap.size w w' := by
  have hl := hz.len
  have hg := hz.big
  go_enter Tryz.func94, Tryz.ntmps94
  go_wp2_with fail
  go_loopw [8] (fun i wr => ∃ j : Nat, j ≤ n ∧ i = .int .i64 (j : Int) ∧ Hid ((zs.take j).any (wq P C) = false) ∧ Below w.heap.size w wr) (fun i _ => n - (intOf i).toNat)
  case atStart => exact ⟨0, by omega, rfl, rfl, Below.refl _ _⟩
  case round =>
    obtain ⟨j, hj, rfl, HA, hb⟩ := hrel
    by_cases hlt : j < n
    · obtain ⟨b1, o1, rfl, hc1⟩ := (hz.kept hb).cells (by omega)
      have e1 := hc1 j hlt
      have hh := c76_ok (h.kept hb) (zs.getD j 0) (hz.fitAt j)
      have hjI : (j : Int) < (n : Int) := by omega
      have hj0 : (0 : Int) ≤ (j : Int) := by omega
      have HT : Hid _ := take_one (zs := zs) (j := j) (by omega)
      have HM : Hid _ := getD_mem' (zs := zs) (j := j) (by omega)
      clear hc1
      generalize zs.getD j 0 = y at e1 hh HT HM
      cases hy : wq P C y with
      | true =>
        rw [hy] at hh
        have HR : Hid (zs.any (wq P C) = true) := List.any_eq_true.2 ⟨y, HM.out, hy⟩
        clear hy
        go_wp2_with (first | (go_at_call 154; refine below_at hh ?_; intro w1 hb1))
        go_ret
        exact ⟨_, rfl, by show _ = _; rw [HR.out]; exact decide_eq_true hj0, below_on hb hb1⟩
      | false =>
        rw [hy] at hh
        have HY : Hid _ := hy
        clear hy
        go_wp2_with (first | (go_at_call 154; refine below_at hh ?_; intro w1 hb1))
        go_roundw
        case rel => exact ⟨j + 1, by omega, by go_num, (by show _ = _; rw [HT.out, List.any_append, HA.out]; simp [HY.out]), below_on hb hb1⟩
        case measure => simp [intOf]; omega
    · obtain rfl : j = n := by omega
      have HR : Hid (zs.any (wq P C) = false) := by show _ = _; rw [← HA.out, List.take_of_length_le (by omega)]
      go_wp2
      go_ret
      exact ⟨-1, rfl, by show _ = _; rw [HR.out]; rfl, hb⟩

/-- Whether a patch needs one that is neither done nor of C. -/
def lk (P : List Pv) (C : List Int) (p : Pv) : Bool := p.nd.any (wq P C)

set_option maxHeartbeats 1000000 in
theorem lacks_ok {B : Nat} {w : World} {a mp mb last : Nat} {P : List Pv} {K : Int → Option Value} (h : PS B w a mp mb last P K) {nb : Nat} {U C : List Int} (hn : Ns w nb U C) (p : Pv) (hp : II w p.np p.nd.length p.nd) :
    Calls Tryz.prog 125 #[.pointer (some ⟨a, 0, none⟩), p.v, .map (some nb)] w fun e w' => e = .returned (.bool (lk P C p)) ∧ Below w.heap.size w w' := by
  obtain ⟨W1, hW1⟩ : ∃ W1, ((w.alloc (.cells #[.pointer (some ⟨a, 0, none⟩)] 72)).alloc (.cells p.cells 134)).alloc (.cells #[.map (some nb)] 130) = W1 := ⟨_, rfl⟩
  have hb1 : Below w.heap.size w W1 := by rw [← hW1]; exact (((Below.refl _ w).alloc (Nat.le_refl _) _).alloc (by simp) _).alloc (by simp; omega) _
  have hLK : LK B W1 a mp mb last P K nb U C w.heap.size (w.heap.size + 2) := by
    refine ⟨h.kept hb1, hn.kept hb1, ?_, ?_⟩
    · rw [← hW1]
      rw [cell_of_row _ _ 0 _ 72 _ (at_old (at_old (at_new rfl)))]; rfl
    · rw [← hW1]
      rw [cell_of_row _ _ 0 _ 130 _ (at_new (by simp))]; rfl
  have hi := indexFunc_ok hLK p.np p.nd.length p.nc p.nd (hp.kept hb1)
  have hv : p.v = .agg p.cells := rfl
  have h4 : W1.cell? ⟨w.heap.size + 1, 4, none⟩ = some (.slice p.np p.nd.length p.nc) := by
    rw [← hW1, cell_of_row _ _ 4 _ 134 _ (at_old (at_new (by simp)))]; rfl
  clear hLK h hn hp
  go_enter Tryz.func125, Tryz.ntmps125
  go_wp2_with (first | (go_at_call 94; refine hi.mono ?_; rintro e w' ⟨r, rfl, HR, hb⟩) | go_in)
  go_ret
  exact ⟨by unfold lk; rw [← HR.out]; rfl, below_on hb1 hb⟩
end Go.Proofs.YtjecicjpplibaaaGreat.Pt
