/- A set of numbers: add, has; what a patch lacks. -/
import Derived.Test.YteapkfnklbhdfaaRise
namespace Go.Proofs.Yteapkfnklbhdfaa
open Go.RowKit Go.Maps
set_option linter.unusedVariables false

def nf (C : List Int) : Int → Option Value := fun k => if k ∈ C then some (.agg #[]) else none
def cnt (U C : List Int) : Nat := (U.filter (fun x => decide (x ∈ C))).length

theorem cnt_le (U C : List Int) : cnt U C ≤ U.length := List.length_filter_le _ _
theorem cnt_mono (U C : List Int) (y : Int) : cnt U C ≤ cnt U (C ++ [y]) := by
  unfold cnt
  induction U with
  | nil => exact Nat.le_refl _
  | cons u U ih =>
    rw [List.filter_cons, List.filter_cons]
    by_cases h : u ∈ C
    · have h2 : u ∈ C ++ [y] := List.mem_append.2 (.inl h)
      simp only [h, h2, decide_true, if_true, List.length_cons]
      omega
    · by_cases h2 : u ∈ C ++ [y]
      · simp only [h, h2, decide_true, decide_false, if_true, Bool.false_eq_true, if_false, List.length_cons]
        omega
      · simp only [h, h2, decide_false, Bool.false_eq_true, if_false]
        exact ih
theorem cnt_new (U C : List Int) (y : Int) (hy : y ∈ U) (hn : y ∉ C) : cnt U C + 1 ≤ cnt U (C ++ [y]) := by
  induction U with
  | nil => cases hy
  | cons u U ih =>
    by_cases e : y = u
    · subst e
      have hm := cnt_mono U C y
      unfold cnt at *
      rw [List.filter_cons, List.filter_cons]
      have h2 : y ∈ C ++ [y] := List.mem_append.2 (.inr (List.mem_singleton.2 rfl))
      simp only [hn, h2, decide_true, decide_false, if_true, Bool.false_eq_true, if_false, List.length_cons]
      omega
    · have ih := ih (by rcases List.mem_cons.1 hy with h | h; exact absurd h e; exact h)
      unfold cnt at *
      rw [List.filter_cons, List.filter_cons]
      by_cases h : u ∈ C
      · have h2 : u ∈ C ++ [y] := List.mem_append.2 (.inl h)
        simp only [h, h2, decide_true, if_true, List.length_cons]
        omega
      · have h2 : u ∉ C ++ [y] := by
          intro h3
          rcases List.mem_append.1 h3 with h4 | h4
          · exact h h4
          · exact e (List.mem_singleton.1 h4).symm
        simp only [h, h2, decide_false, Bool.false_eq_true, if_false]
        exact ih

theorem Mf.mono {w : World} {mb N N' : Nat} {f : Int → Option Value} (h : Mf w mb N f) (hN : N ≤ N') : Mf w mb N' f := by
  obtain ⟨D, ho, hs, hp⟩ := h
  exact ⟨D, ho, by omega, hp⟩

/-- Block nb is a set of just the numbers of C, out of those of U. -/
def Ns (w : World) (nb : Nat) (U C : List Int) : Prop := Mf w nb (cnt U C) (nf C)

theorem ns_made (w : World) (U : List Int) : Ns (w.alloc (.map #[] 0)) w.heap.size U [] := (mf_made w _).congr (fun k _ => by simp [nf])

theorem Ns.put {w : World} {nb : Nat} {U C : List Int} (h : Ns w nb U C) (hU : U.length < 100000) (y : Int) (hy : y ∈ U) (hk : I64 y) :
    ∃ w', (Instr.mapUpdate 80 (.map (some nb)) (.int .i64 y) (.agg #[])).run Try.prog w = .ok () w' ∧ Ns w' nb U (C ++ [y]) ∧ w.grownBy w' (some nb) := by
  obtain ⟨d, hd⟩ := zero97_D
  have hc := cnt_le U C
  obtain ⟨w', hr, hm, hg⟩ := Mf.put h (by omega) Try.underlying80 y hk (.agg #[]) hd
  refine ⟨w', hr, ?_, hg⟩
  have hm2 : Mf w' nb (cnt U (C ++ [y])) (fput (nf C) y (some (.agg #[]))) := hm.mono (by
    by_cases e : y ∈ C
    · have : (nf C y).isSome = true := by simp [nf, e]
      rw [this]
      exact cnt_mono U C y
    · have : (nf C y).isSome = false := by simp [nf, e]
      rw [this]
      exact cnt_new U C y hy e)
  refine hm2.congr (fun k _ => ?_)
  by_cases e : k = y
  · subst e; rw [fput_same]; simp [nf]
  · rw [fput_other _ e]; simp [nf, e]

set_option maxHeartbeats 1000000 in
theorem add_ok {w : World} {nb : Nat} {U C : List Int} (h : Ns w nb U C) (hU : U.length < 100000) (p : Option Addr) (n c : Nat) (zs : List Int) (hz : II w p n zs) (hzU : ∀ x ∈ zs, x ∈ U) (hne : blkOf p ≠ some nb) :
    Calls Try.prog 57 #[.map (some nb), .slice p n c] w fun e w' => e = .returned (.tuple #[]) ∧ Ns w' nb U (C ++ zs) ∧ Frame (fun k => k = nb) w w' := by
  have hl := hz.len
  have hg := hz.big
  go_enter Try.func57, Try.ntmps57
  go_wp2_with fail
  go_loopw [8] (fun i wr => ∃ j : Nat, j ≤ n ∧ i = .int .i64 (j : Int) ∧ Ns wr nb U (C ++ zs.take j) ∧ Frame (fun k => k = nb) w wr) (fun i _ => n - (intOf i).toNat)
  case atStart => exact ⟨0, by omega, rfl, by simpa using h, Frame.refl _ _⟩
  case round =>
    obtain ⟨j, hj, rfl, hN, hF⟩ := hrel
    by_cases hlt : j < n
    · obtain ⟨b1, o1, rfl, hc1⟩ := hz.cells (by omega)
      have e1 : wr.cell? ⟨b1, o1 + j, none⟩ = some (.int .i64 (zs.getD j 0)) := by
        have hb1 : b1 < w.heap.size := lt_of_cell (hc1 j hlt)
        rw [World.cell?_of_block (w := w) (hF.block b1 hb1 (fun e => hne (by rw [e]; rfl)))]
        exact hc1 j hlt
      have hjI : (j : Int) < (n : Int) := by omega
      have hj0 : (0 : Int) ≤ (j : Int) := by omega
      have HT : Hid _ := take_one (zs := zs) (j := j) (by omega)
      obtain ⟨w2, hr, hN2, hg2⟩ := hN.put hU (zs.getD j 0) (hzU _ (getD_mem' (by omega))) (hz.fitAt j)
      have hF2 : Frame (fun k => k = nb) w w2 := hF.trans (frame_of_grown hg2 (fun k hk => by cases hk; rfl))
      clear hc1 hN hg2
      generalize zs.getD j 0 = y at e1 HT hr hN2
      go_wp2
      go_roundw
      case rel => exact ⟨j + 1, by omega, by go_num, by rw [HT.out, ← List.append_assoc]; exact hN2, hF2⟩
      case measure => simp [intOf]; omega
    · obtain rfl : j = n := by omega
      rw [List.take_of_length_le (by omega)] at hN
      go_wp2
      go_end0
      exact ⟨rfl, hN, hF⟩

theorem nhas_ok {w : World} {nb : Nat} {U C : List Int} (h : Ns w nb U C) (k : Int) (hk : I64 k) :
    Calls Try.prog 61 #[.map (some nb), .int .i64 k] w fun e w' => e = .returned (.bool (decide (k ∈ C))) ∧ Below w.heap.size w w' := by
  obtain ⟨d, hd⟩ := zero97_D
  have hl := Mf.look h Try.underlying80 (zero97 w) hd k hk
  have e1 : (nf C k).getD (.agg #[]) = .agg #[] := by unfold nf; split <;> rfl
  have e2 : (nf C k).isSome = decide (k ∈ C) := by unfold nf; split <;> simp_all
  rw [e1, e2] at hl
  clear e1 e2 hd
  generalize decide (k ∈ C) = q at *
  have hb := (Below.refl w.heap.size w).alloc (Nat.le_refl _) (Obj.cells #[] 97)
  go_enter Try.func61, Try.ntmps61
  go_wp2
  go_ret
  exact ⟨rfl, hb⟩

theorem Ns.kept {w w' : World} {nb : Nat} {U C : List Int} (h : Ns w nb U C) (hb : Below w.heap.size w w') : Ns w' nb U C := Mf.kept h (hb.block nb (Mf.lt h))

/-- Whether a need is wanting: it is pending, and none of C. -/
def wq (P : List Pv) (C : List Int) (k : Int) : Bool := (fP P k).isSome && !decide (k ∈ C)

/-- What the closure of lacks stands in. -/
structure LK (B : Nat) (w : World) (a mp mb last : Nat) (P : List Pv) (K : Int → Option Value) (nb : Nat) (U C : List Int) (g1 g2 : Nat) : Prop where
  ps : PS B w a mp mb last P K
  ns : Ns w nb U C
  c1 : w.cell? ⟨g1, 0, none⟩ = some (.pointer (some ⟨a, 0, none⟩))
  c2 : w.cell? ⟨g2, 0, none⟩ = some (.map (some nb))

theorem LK.kept {B : Nat} {w w' : World} {a mp mb last : Nat} {P : List Pv} {K : Int → Option Value} {nb : Nat} {U C : List Int} {g1 g2 : Nat} (h : LK B w a mp mb last P K nb U C g1 g2) (hb : Below w.heap.size w w') : LK B w' a mp mb last P K nb U C g1 g2 := by
  refine ⟨h.ps.kept hb, h.ns.kept hb, ?_, ?_⟩
  · rw [hb.cell (p := ⟨g1, 0, none⟩) (lt_of_cell h.c1)]; exact h.c1
  · rw [hb.cell (p := ⟨g2, 0, none⟩) (lt_of_cell h.c2)]; exact h.c2

theorem c76_ok {B : Nat} {w : World} {a mp mb last : Nat} {P : List Pv} {K : Int → Option Value} {nb : Nat} {U C : List Int} {g1 g2 : Nat} (h : LK B w a mp mb last P K nb U C g1 g2) (k : Int) (hk : I64 k) :
    Calls Try.prog 76 #[.int .i64 k, .pointer (some ⟨g1, 0, none⟩), .pointer (some ⟨g2, 0, none⟩)] w fun e w' => e = .returned (.bool (wq P C k)) ∧ Below w.heap.size w w' := by
  have c1 := h.c1
  have c2 := h.c2
  have hp := isPending_ok h.ps k hk
  have hn := fun w' (hb : Below w.heap.size w w') => nhas_ok (h.kept hb).ns k hk
  have hc2 := fun w' (hb : Below w.heap.size w w') => (h.kept hb).c2
  have HW : Hid (wq P C k = ((fP P k).isSome && !decide (k ∈ C))) := rfl
  clear h
  generalize decide (k ∈ C) = d at *
  cases e : (fP P k).isSome with
  | true =>
    rw [e] at hp HW
    clear e
    go_enter Try.func76, Try.ntmps76
    go_wp2_with (first | (go_at_call 47; refine below_at hp ?_; intro w1 hb1; have c3 := hc2 w1 hb1) | (go_at_call 61; refine below_at (hn _ hb1) ?_; intro w2 hb2))
    go_ret
    exact ⟨by rw [HW.out]; rfl, below_on hb1 hb2⟩
  | false =>
    rw [e] at hp HW
    clear e
    go_enter Try.func76, Try.ntmps76
    go_wp2_with (first | (go_at_call 47; refine below_at hp ?_; intro w1 hb1; have c3 := hc2 w1 hb1))
    go_ret
    exact ⟨by rw [HW.out]; rfl, hb1⟩

set_option maxHeartbeats 1000000 in
theorem indexFunc_ok {B : Nat} {w : World} {a mp mb last : Nat} {P : List Pv} {K : Int → Option Value} {nb : Nat} {U C : List Int} {g1 g2 : Nat} (h : LK B w a mp mb last P K nb U C g1 g2) (p : Option Addr) (n c : Nat) (zs : List Int) (hz : II w p n zs) :
    Calls Try.prog 88 #[.slice p n c, .func (.func 76) #[] #[.pointer (some ⟨g1, 0, none⟩), .pointer (some ⟨g2, 0, none⟩)]] w fun e w' => ∃ r : Int, e = .returned (.int .i64 r) ∧ Hid (decide (0 ≤ r) = zs.any (wq P C)) ∧ Below w.heap.size w w' := by
  have hl := hz.len
  have hg := hz.big
  go_enter Try.func88, Try.ntmps88
  go_wp2_with fail
  go_loopw [8] (fun i wr => ∃ j : Nat, j ≤ n ∧ i = .int .i64 (j : Int) ∧ Hid ((zs.take j).any (wq P C) = false) ∧ Below w.heap.size w wr) (fun i _ => n - (intOf i).toNat)
  case atStart => exact ⟨0, by omega, rfl, rfl, Below.refl _ _⟩
  case round =>
    obtain ⟨j, hj, rfl, HA, hb⟩ := hrel
    by_cases hlt : j < n
    · obtain ⟨b1, o1, rfl, hc1⟩ := (hz.kept hb).cells (by omega)
      have e1 := hc1 j hlt
      have hh := c76_ok (h.kept hb) (zs.getD j 0) (hz.fitAt j)
      have hjI : (j : Int) < (n : Int) := by omega
      have hj0 : (0 : Int) ≤ (j : Int) := by omega
      have HT : Hid _ := take_one (zs := zs) (j := j) (by omega)
      have HM : Hid _ := getD_mem' (zs := zs) (j := j) (by omega)
      clear hc1
      generalize zs.getD j 0 = y at e1 hh HT HM
      cases hy : wq P C y with
      | true =>
        rw [hy] at hh
        have HR : Hid (zs.any (wq P C) = true) := List.any_eq_true.2 ⟨y, HM.out, hy⟩
        clear hy
        go_wp2_with (first | (go_at_call 76; refine below_at hh ?_; intro w1 hb1))
        go_ret
        exact ⟨_, rfl, by show _ = _; rw [HR.out]; exact decide_eq_true hj0, below_on hb hb1⟩
      | false =>
        rw [hy] at hh
        have HY : Hid _ := hy
        clear hy
        go_wp2_with (first | (go_at_call 76; refine below_at hh ?_; intro w1 hb1))
        go_roundw
        case rel => exact ⟨j + 1, by omega, by go_num, (by show _ = _; rw [HT.out, List.any_append, HA.out]; simp [HY.out]), below_on hb hb1⟩
        case measure => simp [intOf]; omega
    · obtain rfl : j = n := by omega
      have HR : Hid (zs.any (wq P C) = false) := by show _ = _; rw [← HA.out, List.take_of_length_le (by omega)]
      go_wp2
      go_ret
      exact ⟨-1, rfl, by show _ = _; rw [HR.out]; rfl, hb⟩

/-- Whether a patch needs one that is neither done nor of C. -/
def lk (P : List Pv) (C : List Int) (p : Pv) : Bool := p.nd.any (wq P C)

set_option maxHeartbeats 1000000 in
theorem lacks_ok {B : Nat} {w : World} {a mp mb last : Nat} {P : List Pv} {K : Int → Option Value} (h : PS B w a mp mb last P K) {nb : Nat} {U C : List Int} (hn : Ns w nb U C) (p : Pv) (hp : II w p.np p.nd.length p.nd) :
    Calls Try.prog 56 #[.pointer (some ⟨a, 0, none⟩), p.v, .map (some nb)] w fun e w' => e = .returned (.bool (lk P C p)) ∧ Below w.heap.size w w' := by
  obtain ⟨W1, hW1⟩ : ∃ W1, ((w.alloc (.cells #[.pointer (some ⟨a, 0, none⟩)] 23)).alloc (.cells p.cells 44)).alloc (.cells #[.map (some nb)] 80) = W1 := ⟨_, rfl⟩
  have hb1 : Below w.heap.size w W1 := by rw [← hW1]; exact (((Below.refl _ w).alloc (Nat.le_refl _) _).alloc (by simp) _).alloc (by simp; omega) _
  have hLK : LK B W1 a mp mb last P K nb U C w.heap.size (w.heap.size + 2) := by
    refine ⟨h.kept hb1, hn.kept hb1, ?_, ?_⟩
    · rw [← hW1]
      rw [cell_of_row _ _ 0 _ 23 _ (at_old (at_old (at_new rfl)))]; rfl
    · rw [← hW1]
      rw [cell_of_row _ _ 0 _ 80 _ (at_new (by simp))]; rfl
  have hi := indexFunc_ok hLK p.np p.nd.length p.nc p.nd (hp.kept hb1)
  have hv : p.v = .agg p.cells := rfl
  have h4 : W1.cell? ⟨w.heap.size + 1, 4, none⟩ = some (.slice p.np p.nd.length p.nc) := by
    rw [← hW1, cell_of_row _ _ 4 _ 44 _ (at_old (at_new (by simp)))]; rfl
  clear hLK h hn hp
  go_enter Try.func56, Try.ntmps56
  go_wp2_with (first | (go_at_call 88; refine hi.mono ?_; rintro e w' ⟨r, rfl, HR, hb⟩) | go_in)
  go_ret
  exact ⟨by unfold lk; rw [← HR.out]; rfl, below_on hb1 hb⟩
end Go.Proofs.Yteapkfnklbhdfaa
