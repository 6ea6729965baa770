/- PNumb PLay PPlan1 -/
import Derived.Test.YtinigfidofgaiaaGreatGr11
import Derived.Laws.CopyRow
import Derived.OneCell

/- A set of numbers: add, has; what a patch lacks. -/
namespace Go.Proofs.YtinigfidofgaiaaGreat.Pt
open Go.RowKit Go.Maps
set_option maxRecDepth 100000
set_option linter.unusedVariables false

def nf (C : List Int) : Int → Option Value := fun k => if k ∈ C then some (.agg #[]) else none
def cnt (U C : List Int) : Nat := (U.filter (fun x => decide (x ∈ C))).length

theorem cnt_le (U C : List Int) : cnt U C ≤ U.length := List.length_filter_le _ _
theorem cnt_mono (U C : List Int) (y : Int) : cnt U C ≤ cnt U (C ++ [y]) := by
  unfold cnt
  induction U with
  | nil => exact Nat.le_refl _
  | cons u U ih =>
    rw [List.filter_cons, List.filter_cons]
    by_cases h : u ∈ C
    · have h2 : u ∈ C ++ [y] := List.mem_append.2 (.inl h)
      simp only [h, h2, decide_true, if_true, List.length_cons]
      omega
    · by_cases h2 : u ∈ C ++ [y]
      · simp only [h, h2, decide_true, decide_false, if_true, Bool.false_eq_true, if_false, List.length_cons]
        omega
      · simp only [h, h2, decide_false, Bool.false_eq_true, if_false]
        exact ih
theorem cnt_new (U C : List Int) (y : Int) (hy : y ∈ U) (hn : y ∉ C) : cnt U C + 1 ≤ cnt U (C ++ [y]) := by
  induction U with
  | nil => cases hy
  | cons u U ih =>
    by_cases e : y = u
    · subst e
      have hm := cnt_mono U C y
      unfold cnt at *
      rw [List.filter_cons, List.filter_cons]
      have h2 : y ∈ C ++ [y] := List.mem_append.2 (.inr (List.mem_singleton.2 rfl))
      simp only [hn, h2, decide_true, decide_false, if_true, Bool.false_eq_true, if_false, List.length_cons]
      omega
    · have ih := ih (by rcases List.mem_cons.1 hy with h | h; exact absurd h e; exact h)
      unfold cnt at *
      rw [List.filter_cons, List.filter_cons]
      by_cases h : u ∈ C
      · have h2 : u ∈ C ++ [y] := List.mem_append.2 (.inl h)
        simp only [h, h2, decide_true, if_true, List.length_cons]
        omega
      · have h2 : u ∉ C ++ [y] := by
          intro h3
          rcases List.mem_append.1 h3 with h4 | h4
          · exact h h4
          · exact e (List.mem_singleton.1 h4).symm
        simp only [h, h2, decide_false, Bool.false_eq_true, if_false]
        exact ih

theorem Mf.mono {w : World} {mb N N' : Nat} {f : Int → Option Value} (h : Mf w mb N f) (hN : N ≤ N') : Mf w mb N' f := by
  obtain ⟨D, ho, hs, hp⟩ := h
  exact ⟨D, ho, by omega, hp⟩

/-- Block nb is a set of just the numbers of C, out of those of U. -/
def Ns (w : World) (nb : Nat) (U C : List Int) : Prop := Mf w nb (cnt U C) (nf C)

theorem ns_made (w : World) (U : List Int) : Ns (w.alloc (.map #[] 0)) w.heap.size U [] := (mf_made w _).congr (fun k _ => by simp [nf])

theorem Ns.put {w : World} {nb : Nat} {U C : List Int} (h : Ns w nb U C) (hU : U.length < 100000) (y : Int) (hy : y ∈ U) (hk : I64 y) :
    ∃ w', (Instr.mapUpdate 130 (.map (some nb)) (.int .i64 y) (.agg #[])).run Tryz.prog w = .ok () w' ∧ Ns w' nb U (C ++ [y]) ∧ w.grownBy w' (some nb) := by
  obtain ⟨d, hd⟩ := zero97_D
  have hc := cnt_le U C
  obtain ⟨w', hr, hm, hg⟩ := Mf.put h (by omega) Tryz.underlying130 y hk (.agg #[]) hd
  refine ⟨w', hr, ?_, hg⟩
  have hm2 : Mf w' nb (cnt U (C ++ [y])) (fput (nf C) y (some (.agg #[]))) := hm.mono (by
    by_cases e : y ∈ C
    · have : (nf C y).isSome = true := by simp [nf, e]
      rw [this]
      exact cnt_mono U C y
    · have : (nf C y).isSome = false := by simp [nf, e]
      rw [this]
      exact cnt_new U C y hy e)
  refine hm2.congr (fun k _ => ?_)
  by_cases e : k = y
  · subst e; rw [fput_same]; simp [nf]
  · rw [fput_other _ e]; simp [nf, e]

set_option maxHeartbeats 1000000 in
theorem add_ok {w : World} {nb : Nat} {U C : List Int} (h : Ns w nb U C) (hU : U.length < 100000) (p : Option Addr) (n c : Nat) (zs : List Int) (hz : II w p n zs) (hzU : ∀ x ∈ zs, x ∈ U) (hne : blkOf p ≠ some nb) :
    Calls Tryz.prog 91 #[.map (some nb), .slice p n c] w fun e w' => e = .returned (.tuple #[]) ∧ Ns w' nb U (C ++ zs) ∧ Frame (fun k => k = nb) w w' := by
  have hl := hz.len
  have hg := hz.big
  go_enter Tryz.func91, Tryz.ntmps91
  go_wp2_with fail
  go_loopw [8] (fun i wr => ∃ j : Nat, j ≤ n ∧ i = .int .i64 (j : Int) ∧ Ns wr nb U (C ++ zs.take j) ∧ Frame (fun k => k = nb) w wr) (fun i _ => n - (intOf i).toNat)
  case atStart => exact ⟨0, by omega, rfl, by simpa using h, Frame.refl _ _⟩
  case round =>
    obtain ⟨j, hj, rfl, hN, hF⟩ := hrel
    by_cases hlt : j < n
    · obtain ⟨b1, o1, rfl, hc1⟩ := hz.cells (by omega)
      have e1 : wr.cell? ⟨b1, o1 + j, none⟩ = some (.int .i64 (zs.getD j 0)) := by
        have hb1 : b1 < w.heap.size := lt_of_cell (hc1 j hlt)
        rw [World.cell?_of_block (w := w) (hF.block b1 hb1 (fun e => hne (by rw [e]; rfl)))]
        exact hc1 j hlt
      have hjI : (j : Int) < (n : Int) := by omega
      have hj0 : (0 : Int) ≤ (j : Int) := by omega
      have HT : Hid _ := take_one (zs := zs) (j := j) (by omega)
      obtain ⟨w2, hr, hN2, hg2⟩ := hN.put hU (zs.getD j 0) (hzU _ (getD_mem' (by omega))) (hz.fitAt j)
      have hF2 : Frame (fun k => k = nb) w w2 := hF.trans (frame_of_grown hg2 (fun k hk => by cases hk; rfl))
      clear hc1 hN hg2
      generalize zs.getD j 0 = y at e1 HT hr hN2
      go_wp2
      go_roundw
      case rel => exact ⟨j + 1, by omega, by go_num, by rw [HT.out, ← List.append_assoc]; exact hN2, hF2⟩
      case measure => simp [intOf]; omega
    · obtain rfl : j = n := by omega
      rw [List.take_of_length_le (by omega)] at hN
      go_wp2
      go_end0
      exact ⟨rfl, hN, hF⟩

theorem nhas_ok {w : World} {nb : Nat} {U C : List Int} (h : Ns w nb U C) (k : Int) (hk : I64 k) :
    Calls Tryz.prog 90 #[.map (some nb), .int .i64 k] w fun e w' => e = .returned (.bool (decide (k ∈ C))) ∧ Below w.heap.size w w' := by
  obtain ⟨d, hd⟩ := zero97_D
  have hl := Mf.look h Tryz.underlying130 (zero97 w) hd k hk
  have e1 : (nf C k).getD (.agg #[]) = .agg #[] := by unfold nf; split <;> rfl
  have e2 : (nf C k).isSome = decide (k ∈ C) := by unfold nf; split <;> simp_all
  rw [e1, e2] at hl
  clear e1 e2 hd
  generalize decide (k ∈ C) = q at *
  have hb := (Below.refl w.heap.size w).alloc (Nat.le_refl _) (Obj.cells #[] 64)
  go_enter Tryz.func90, Tryz.ntmps90
  go_wp2
  go_ret
  exact ⟨rfl, hb⟩

theorem Ns.kept {w w' : World} {nb : Nat} {U C : List Int} (h : Ns w nb U C) (hb : Below w.heap.size w w') : Ns w' nb U C := Mf.kept h (hb.block nb (Mf.lt h))

/-- Whether a need is wanting: it is pending, and none of C. -/
def wq (P : List Pv) (C : List Int) (k : Int) : Bool := (fP P k).isSome && !decide (k ∈ C)

/-- What the closure of lacks stands in. -/
structure LK (B : Nat) (w : World) (a mp mb last : Nat) (P : List Pv) (K : Int → Option Value) (nb : Nat) (U C : List Int) (g1 g2 : Nat) : Prop where
  ps : PS B w a mp mb last P K
  ns : Ns w nb U C
  c1 : w.cell? ⟨g1, 0, none⟩ = some (.pointer (some ⟨a, 0, none⟩))
  c2 : w.cell? ⟨g2, 0, none⟩ = some (.map (some nb))

theorem LK.kept {B : Nat} {w w' : World} {a mp mb last : Nat} {P : List Pv} {K : Int → Option Value} {nb : Nat} {U C : List Int} {g1 g2 : Nat} (h : LK B w a mp mb last P K nb U C g1 g2) (hb : Below w.heap.size w w') : LK B w' a mp mb last P K nb U C g1 g2 := by
  refine ⟨h.ps.kept hb, h.ns.kept hb, ?_, ?_⟩
  · rw [hb.cell (p := ⟨g1, 0, none⟩) (lt_of_cell h.c1)]; exact h.c1
  · rw [hb.cell (p := ⟨g2, 0, none⟩) (lt_of_cell h.c2)]; exact h.c2

theorem c76_ok {B : Nat} {w : World} {a mp mb last : Nat} {P : List Pv} {K : Int → Option Value} {nb : Nat} {U C : List Int} {g1 g2 : Nat} (h : LK B w a mp mb last P K nb U C g1 g2) (k : Int) (hk : I64 k) :
    Calls Tryz.prog 154 #[.int .i64 k, .pointer (some ⟨g1, 0, none⟩), .pointer (some ⟨g2, 0, none⟩)] w fun e w' => e = .returned (.bool (wq P C k)) ∧ Below w.heap.size w w' := by
  have c1 := h.c1
  have c2 := h.c2
  have hp := isPending_ok h.ps k hk
  have hn := fun w' (hb : Below w.heap.size w w') => nhas_ok (h.kept hb).ns k hk
  have hc2 := fun w' (hb : Below w.heap.size w w') => (h.kept hb).c2
  have HW : Hid (wq P C k = ((fP P k).isSome && !decide (k ∈ C))) := rfl
  clear h
  generalize decide (k ∈ C) = d at *
  cases e : (fP P k).isSome with
  | true =>
    rw [e] at hp HW
    clear e
    go_enter Tryz.func154, Tryz.ntmps154
    go_wp2_with (first | (go_at_call 89; refine below_at hp ?_; intro w1 hb1; have c3 := hc2 w1 hb1) | (go_at_call 90; refine below_at (hn _ hb1) ?_; intro w2 hb2))
    go_ret
    exact ⟨by rw [HW.out]; rfl, below_on hb1 hb2⟩
  | false =>
    rw [e] at hp HW
    clear e
    go_enter Tryz.func154, Tryz.ntmps154
    go_wp2_with (first | (go_at_call 89; refine below_at hp ?_; intro w1 hb1; have c3 := hc2 w1 hb1))
    go_ret
    exact ⟨by rw [HW.out]; rfl, hb1⟩

set_option maxHeartbeats 1000000 in
theorem indexFunc_ok {B : Nat} {w : World} {a mp mb last : Nat} {P : List Pv} {K : Int → Option Value} {nb : Nat} {U C : List Int} {g1 g2 : Nat} (h : LK B w a mp mb last P K nb U C g1 g2) (p : Option Addr) (n c : Nat) (zs : List Int) (hz : II w p n zs) :
    Calls Tryz.prog 94 #[.slice p n c, .func (.func 154) #[] #[.pointer (some ⟨g1, 0, none⟩), .pointer (some ⟨g2, 0, none⟩)]] w fun e w' => ∃ r : Int, e = .returned (.int .i64 r) ∧ Hid (decide (0 ≤ r) = zs.any (wq P C)) ∧ Below w.heap.size w w' := by
  have hl := hz.len
  have hg := hz.big
  go_enter Tryz.func94, Tryz.ntmps94
  go_wp2_with fail
  go_loopw [8] (fun i wr => ∃ j : Nat, j ≤ n ∧ i = .int .i64 (j : Int) ∧ Hid ((zs.take j).any (wq P C) = false) ∧ Below w.heap.size w wr) (fun i _ => n - (intOf i).toNat)
  case atStart => exact ⟨0, by omega, rfl, rfl, Below.refl _ _⟩
  case round =>
    obtain ⟨j, hj, rfl, HA, hb⟩ := hrel
    by_cases hlt : j < n
    · obtain ⟨b1, o1, rfl, hc1⟩ := (hz.kept hb).cells (by omega)
      have e1 := hc1 j hlt
      have hh := c76_ok (h.kept hb) (zs.getD j 0) (hz.fitAt j)
      have hjI : (j : Int) < (n : Int) := by omega
      have hj0 : (0 : Int) ≤ (j : Int) := by omega
      have HT : Hid _ := take_one (zs := zs) (j := j) (by omega)
      have HM : Hid _ := getD_mem' (zs := zs) (j := j) (by omega)
      clear hc1
      generalize zs.getD j 0 = y at e1 hh HT HM
      cases hy : wq P C y with
      | true =>
        rw [hy] at hh
        have HR : Hid (zs.any (wq P C) = true) := List.any_eq_true.2 ⟨y, HM.out, hy⟩
        clear hy
        go_wp2_with (first | (go_at_call 154; refine below_at hh ?_; intro w1 hb1))
        go_ret
        exact ⟨_, rfl, by show _ = _; rw [HR.out]; exact decide_eq_true hj0, below_on hb hb1⟩
      | false =>
        rw [hy] at hh
        have HY : Hid _ := hy
        clear hy
        go_wp2_with (first | (go_at_call 154; refine below_at hh ?_; intro w1 hb1))
        go_roundw
        case rel => exact ⟨j + 1, by omega, by go_num, (by show _ = _; rw [HT.out, List.any_append, HA.out]; simp [HY.out]), below_on hb hb1⟩
        case measure => simp [intOf]; omega
    · obtain rfl : j = n := by omega
      have HR : Hid (zs.any (wq P C) = false) := by show _ = _; rw [← HA.out, List.take_of_length_le (by omega)]
      go_wp2
      go_ret
      exact ⟨-1, rfl, by show _ = _; rw [HR.out]; rfl, hb⟩

/-- Whether a patch needs one that is neither done nor of C. -/
def lk (P : List Pv) (C : List Int) (p : Pv) : Bool := p.nd.any (wq P C)

set_option maxHeartbeats 1000000 in
theorem lacks_ok {B : Nat} {w : World} {a mp mb last : Nat} {P : List Pv} {K : Int → Option Value} (h : PS B w a mp mb last P K) {nb : Nat} {U C : List Int} (hn : Ns w nb U C) (p : Pv) (hp : II w p.np p.nd.length p.nd) :
    Calls Tryz.prog 125 #[.pointer (some ⟨a, 0, none⟩), p.v, .map (some nb)] w fun e w' => e = .returned (.bool (lk P C p)) ∧ Below w.heap.size w w' := by
  obtain ⟨W1, hW1⟩ : ∃ W1, ((w.alloc (.cells #[.pointer (some ⟨a, 0, none⟩)] 72)).alloc (.cells p.cells 134)).alloc (.cells #[.map (some nb)] 130) = W1 := ⟨_, rfl⟩
  have hb1 : Below w.heap.size w W1 := by rw [← hW1]; exact (((Below.refl _ w).alloc (Nat.le_refl _) _).alloc (by simp) _).alloc (by simp; omega) _
  have hLK : LK B W1 a mp mb last P K nb U C w.heap.size (w.heap.size + 2) := by
    refine ⟨h.kept hb1, hn.kept hb1, ?_, ?_⟩
    · rw [← hW1]
      rw [cell_of_row _ _ 0 _ 72 _ (at_old (at_old (at_new rfl)))]; rfl
    · rw [← hW1]
      rw [cell_of_row _ _ 0 _ 130 _ (at_new (by simp))]; rfl
  have hi := indexFunc_ok hLK p.np p.nd.length p.nc p.nd (hp.kept hb1)
  have hv : p.v = .agg p.cells := rfl
  have h4 : W1.cell? ⟨w.heap.size + 1, 4, none⟩ = some (.slice p.np p.nd.length p.nc) := by
    rw [← hW1, cell_of_row _ _ 4 _ 134 _ (at_old (at_new (by simp)))]; rfl
  clear hLK h hn hp
  go_enter Tryz.func125, Tryz.ntmps125
  go_wp2_with (first | (go_at_call 94; refine hi.mono ?_; rintro e w' ⟨r, rfl, HR, hb⟩) | go_in)
  go_ret
  exact ⟨by unfold lk; rw [← HR.out]; rfl, below_on hb1 hb⟩
end Go.Proofs.YtinigfidofgaiaaGreat.Pt

/- A patch laid over a block's bytes. -/
namespace Go.Proofs.YtinigfidofgaiaaGreat.Pt
open Go.RowKit Go.Maps
set_option maxRecDepth 100000
set_option linter.unusedVariables false

/-- Bytes with a patch over them. -/
def ovr (xs : List Int) (p : Pv) : List Int := xs.take p.off ++ p.bs ++ xs.drop (p.off + p.bs.length)
theorem ovr_len {xs : List Int} {p : Pv} (h : p.off + p.bs.length ≤ xs.length) : (ovr xs p).length = xs.length := by
  unfold ovr; simp; omega

theorem byt_append {xs ys : List Int} (hx : Num.Byt xs) (hy : Num.Byt ys) : Num.Byt (xs ++ ys) := by
  intro i
  rw [List.getD_eq_getElem?_getD]
  rcases Nat.lt_or_ge i xs.length with h | h
  · rw [List.getElem?_append_left h, ← List.getD_eq_getElem?_getD]; exact hx i
  · rw [List.getElem?_append_right h, ← List.getD_eq_getElem?_getD]; exact hy _
theorem ovr_byt {xs : List Int} {p : Pv} (hx : Num.Byt xs) (hp : Num.Byt p.bs) : Num.Byt (ovr xs p) := byt_append (byt_append (byt_take hx _) hp) (byt_drop hx _)

theorem splice_take (cur X bs : List Value) (o : Nat) (h : cur.take 128 = X) (hX : X.length = 128) (hl : o + bs.length ≤ 128) : (cur.take o ++ bs ++ cur.drop (o + bs.length)).take 128 = X.take o ++ bs ++ X.drop (o + bs.length) := by
  have hc : 128 ≤ cur.length := by
    have := congrArg List.length h
    rw [List.length_take, hX] at this
    omega
  have e1 : (cur.take o).length = o := by rw [List.length_take]; omega
  rw [List.append_assoc, List.append_assoc, List.take_append, List.take_append, e1]
  have e2 : (cur.take o).take 128 = X.take o := by rw [← h, List.take_take, List.take_take]; congr 1; omega
  have e3 : bs.take (128 - o) = bs := List.take_of_length_le (by omega)
  have e4 : (cur.drop (o + bs.length)).take (128 - o - bs.length) = X.drop (o + bs.length) := by
    rw [← h, List.drop_take]; congr 1; omega
  rw [e2, e3, e4]

set_option maxRecDepth 100000 in
set_option maxHeartbeats 1000000 in
theorem lay_ok {B : Nat} {w : World} {g cap : Nat} {xs : List Int} (h : Own B w g 128 cap xs) (p : Pv) (hp : BI w p.bp p.bs.length p.bs) (hl : 1 ≤ p.bs.length) (ho : p.off + p.bs.length ≤ 128) :
    Calls Tryz.prog 134 #[.slice (some ⟨g, 0, none⟩) 128 cap, p.v] w fun e w' => e = .returned (.tuple #[]) ∧ Own B w' g 128 cap (ovr xs p) ∧ Frame (fun k => k = g) w w' := by
  obtain ⟨pb, po, hpe, hpc⟩ := hp.cells (by omega)
  have hxl : xs.length = 128 := h.len
  rcases h.2 with ⟨e, _⟩ | ⟨g', cap', cur, e, hbg, hgc, hnc, hcm, hcs, htk⟩
  · cases e
  cases e
  have hglt : g < w.heap.size := (Array.getElem?_eq_some_iff.1 hgc).1
  obtain ⟨W, hW⟩ : ∃ W, w.alloc (.cells p.cells 134) = W := ⟨_, rfl⟩
  have hbW : Below w.heap.size w W := by rw [← hW]; exact (Below.refl _ w).alloc (Nat.le_refl _) _
  have hrow : ∀ k, (W.drewN k).heap[g]? = some (.cells cur 5 (0, 0)) := fun k => by
    show W.heap[g]? = _
    rw [hbW.block g hglt]; exact hgc
  have c2 : W.cell? ⟨w.heap.size, 2, none⟩ = some (.int .i64 (p.off : Int)) := by rw [← hW, cell_of_row _ _ 2 _ 134 _ (at_new rfl)]; rfl
  have c3 : W.cell? ⟨w.heap.size, 3, none⟩ = some (.slice p.bp p.bs.length p.bc) := by rw [← hW, cell_of_row _ _ 3 _ 134 _ (at_new rfl)]; rfl
  obtain ⟨NEW, hNEW⟩ : ∃ NEW, (cur.toList.take p.off ++ p.bs.map (Value.int .u8) ++ cur.toList.drop (p.off + (p.bs.map (Value.int .u8)).length)).toArray = NEW := ⟨_, rfl⟩
  have hmin : Nat.min p.bs.length (128 - p.off) = p.bs.length := Nat.min_eq_left (by omega)
  have hcp : ∀ k ty, (Builtin.copy_ #[42, 42] ty #[.slice (some ⟨g, p.off, none⟩) (128 - p.off) (cap - p.off), .slice p.bp p.bs.length p.bc]).run Tryz.prog (W.drewN k) = .ok (.int .i64 (p.bs.length : Int)) ((W.drewN k).setRow g NEW) := fun k ty => by
    have hsrc : ∀ j v, (p.bs.map (Value.int .u8))[j]? = some v → (W.drewN k).cell? ((⟨pb, po, none⟩ : Addr).add j) = some v := by
      have hk := hp.kept hbW
      rw [hpe] at hk
      exact hk.src'
    rw [hpe]
    have := run_copy_row (P := Tryz.prog) (W.drewN k) 42 42 ty 5 g p.off (128 - p.off) (cap - p.off) ⟨pb, po, none⟩ p.bs.length p.bc cur 5 (p.bs.map (Value.int .u8)) Tryz.underlying42 size5 (hrow k) (by rw [hmin]; simp) hsrc (by simp; omega) (one_cells _)
    rw [this, hNEW]
    simp [goInt]
  have hfin : ∀ k, Own B ((W.drewN k).setRow g NEW) g 128 cap (ovr xs p) ∧ Frame (fun k => k = g) w ((W.drewN k).setRow g NEW) := fun k => by
    refine ⟨⟨by simp [ovr_len (xs := xs) (p := p) (by omega), hxl], .inr ⟨g, cap, NEW, rfl, hbg, setRow_heap _ _ _ _ _ _ (hrow k), hnc, hcm, ?_, ?_⟩⟩, ?_⟩
    · rw [← hNEW]; simp; omega
    · rw [← hNEW]
      have := splice_take cur.toList (xs.map (Value.int .u8)) (p.bs.map (Value.int .u8)) p.off (by simpa using htk) (by simp [hxl]) (by simp; omega)
      simp only [Nat.mul_one]
      show (_ : List Value).take 128 = _
      rw [List.toList_toArray, this]
      simp [ovr, List.map_take, List.map_drop]
    · refine ⟨hbW.os, hbW.tape, hbW.output, by simp; exact hbW.size, fun i hi hne => ?_⟩
      rw [setRow_other _ _ _ _ hne]
      exact hbW.block i hi
  have hcd : ∀ ty, (Builtin.copy_ #[42, 42] ty #[.slice (some ⟨g, p.off, none⟩) (128 - p.off) (cap - p.off), .slice p.bp p.bs.length p.bc]).run Tryz.prog W.drew = .ok (.int .i64 (p.bs.length : Int)) (W.drew.setRow g NEW) := fun ty => hcp 1 ty
  have hfd : Own B (W.drew.setRow g NEW) g 128 cap (ovr xs p) ∧ Frame (fun k => k = g) w (W.drew.setRow g NEW) := hfin 1
  have HF : Hid _ := hfd
  have hv : p.v = .agg p.cells := rfl
  clear hcp hfin hfd
  clear h hp hpc hpe htk hgc hcm hcs hrow hNEW hbW hxl hmin
  have ho1 : (p.off : Int) ≤ 128 := by omega
  have ho2 : p.off ≤ 128 := by omega
  go_enter Tryz.func134, Tryz.ntmps134
  go_wp2_with fail
  clear hW hv
  generalize p.off = off at *
  generalize p.bs.length = n at *
  generalize p.bp = bp at *
  generalize p.v = pv at *
  go_region_with (fail)
  all_goals go_end0
  all_goals exact ⟨rfl, HF.out⟩
end Go.Proofs.YtinigfidofgaiaaGreat.Pt

/- Plan's closure: one patch of a block held against what is chosen. -/
namespace Go.Proofs.YtinigfidofgaiaaGreat.Pt
open Go.RowKit Go.Maps
set_option maxRecDepth 100000
set_option linter.unusedVariables false

/-- What Plan's closure stands in: the set, what is chosen, the bytes so far. -/
structure PI (B T : Nat) (w0 w : World) (a mp mb last : Nat) (P : List Pv) (K : Int → Option Value) (gs gc go gi nb ob cap : Nat) (iv : Value) (U C I : List Int) (out : List Int) : Prop where
  ps : PS B w0 a mp mb last P K
  bel : Below T w0 w
  sz : w0.heap.size = T
  rs : w.heap[gs]? = some (.cells #[.pointer (some ⟨a, 0, none⟩)] 72 (0, 0))
  rc : w.heap[gc]? = some (.cells #[.map (some nb)] 130 (0, 0))
  ro : w.heap[go]? = some (.cells #[.slice (some ⟨ob, 0, none⟩) 128 cap] 42 (0, 0))
  ri : w.heap[gi]? = some (.cells #[iv] 23 (0, 0))
  ns : Ns w nb U C
  own : Own T w ob 128 cap out
  byt : Num.Byt out
  ids : Nums T w iv I
  lo : T ≤ gs ∧ T ≤ gc ∧ T ≤ go ∧ T ≤ gi ∧ T ≤ nb

theorem PI.psn {B T : Nat} {w0 w : World} {a mp mb last : Nat} {P : List Pv} {K : Int → Option Value} {gs gc go gi nb ob cap : Nat} {iv : Value} {U C I : List Int} {out : List Int} (h : PI B T w0 w a mp mb last P K gs gc go gi nb ob cap iv U C I out) : PS B w a mp mb last P K :=
  h.ps.kept (by rw [h.sz]; exact h.bel)

theorem PI.kept {B T : Nat} {w0 w w' : World} {a mp mb last : Nat} {P : List Pv} {K : Int → Option Value} {gs gc go gi nb ob cap : Nat} {iv : Value} {U C I : List Int} {out : List Int} (h : PI B T w0 w a mp mb last P K gs gc go gi nb ob cap iv U C I out) (hb : Below w.heap.size w w') : PI B T w0 w' a mp mb last P K gs gc go gi nb ob cap iv U C I out := by
  have hT : T ≤ w.heap.size := by have := h.bel.size; rw [h.sz] at this; exact this
  have lt : ∀ {g : Nat} {o : Obj}, w.heap[g]? = some o → g < w.heap.size := fun e => (Array.getElem?_eq_some_iff.1 e).1
  exact ⟨h.ps, h.bel.trans (hb.mono hT), h.sz, by rw [hb.block _ (lt h.rs)]; exact h.rs, by rw [hb.block _ (lt h.rc)]; exact h.rc, by rw [hb.block _ (lt h.ro)]; exact h.ro, by rw [hb.block _ (lt h.ri)]; exact h.ri, h.ns.kept hb, h.own.kept hb, h.byt, h.ids.kept hb, h.lo⟩


theorem own_ne {w : World} {g k : Nat} {cs ds : Array Value} {t u : TypeId} {fr fs : Nat × Nat} (h : w.heap[g]? = some (.cells cs t fr)) (h' : w.heap[k]? = some (.cells ds u fs)) (ht : t ≠ u) : g ≠ k := by
  rintro rfl
  rw [h] at h'
  simp only [Option.some.injEq, Obj.cells.injEq] at h'
  exact ht h'.2.1
theorem map_ne {w : World} {g k : Nat} {cs : Array Value} {t : TypeId} {fr : Nat × Nat} {es : Array MapEntry} {c : Nat} (h : w.heap[g]? = some (.cells cs t fr)) (h' : w.heap[k]? = some (.map es c)) : g ≠ k := by
  rintro rfl
  rw [h] at h'
  cases h'
theorem own_row5 {B : Nat} {w : World} {g n cap : Nat} {xs : List Int} (h : Own B w g n cap xs) : ∃ cs, w.heap[g]? = some (.cells cs 5 (0, 0)) := by
  rcases h.2 with ⟨e, _⟩ | ⟨g', cap', cur, e, _, hg, _⟩
  · cases e
  · cases e; exact ⟨_, hg⟩
theorem nums_row {B : Nat} {w : World} {v : Value} {zs : List Int} (h : Nums B w v zs) {g : Nat} (hg : v.ownBlock = some g) : ∃ cs, w.heap[g]? = some (.cells cs 3 (0, 0)) := by
  rcases h.2 with ⟨e, _⟩ | ⟨g', cap', cur, e, _, hgc, _⟩
  · rw [e] at hg; cases hg
  · rw [e] at hg; cases hg; exact ⟨_, hgc⟩
theorem Nums.keptAt {B : Nat} {w w' : World} {v : Value} {zs : List Int} (h : Nums B w v zs) (hb : ∀ g, v.ownBlock = some g → w'.heap[g]? = w.heap[g]?) : Nums B w' v zs := by
  refine ⟨h.1, ?_⟩
  rcases h.2 with h' | ⟨g', cap', cur, h', hbg, hg, rest⟩
  · exact .inl h'
  · exact .inr ⟨g', cap', cur, h', hbg, by rw [hb g' (by rw [h']; rfl)]; exact hg, rest⟩
theorem Own.keptAt {B : Nat} {w w' : World} {g n cap : Nat} {xs : List Int} (h : Own B w g n cap xs) (hb : w'.heap[g]? = w.heap[g]?) : Own B w' g n cap xs := by
  refine ⟨h.1, ?_⟩
  rcases h.2 with h' | ⟨g', cap', cur, h', hbg, hg, rest⟩
  · exact .inl h'
  · cases h'
    exact .inr ⟨g, cap, cur, rfl, hbg, by rw [hb]; exact hg, rest⟩

theorem frame_below {T : Nat} {x : Nat} {w0 w w' : World} (h : Below T w0 w) (hT : T ≤ w.heap.size) (F : Frame (fun k => k = x) w w') (hx : T ≤ x) : Below T w0 w' :=
  h.trans (F.below hT (fun k e => by rw [e]; exact hx))

section
variable {B T : Nat} {w0 w w' : World} {a mp mb last : Nat} {P : List Pv} {K : Int → Option Value} {gs gc go gi nb ob cap : Nat} {iv : Value} {U C I : List Int} {out : List Int}
theorem PI.hT (h : PI B T w0 w a mp mb last P K gs gc go gi nb ob cap iv U C I out) : T ≤ w.heap.size := by have := h.bel.size; rw [h.sz] at this; exact this

/-- The bytes have turned. -/
theorem PI.lay (h : PI B T w0 w a mp mb last P K gs gc go gi nb ob cap iv U C I out) {out' : List Int} (ho : Own T w' ob 128 cap out') (hby : Num.Byt out') (F : Frame (fun k => k = ob) w w') : PI B T w0 w' a mp mb last P K gs gc go gi nb ob cap iv U C I out' := by
  obtain ⟨cs, h5⟩ := own_row5 h.own
  have lt : ∀ {g : Nat} {o : Obj}, w.heap[g]? = some o → g < w.heap.size := fun e => (Array.getElem?_eq_some_iff.1 e).1
  obtain ⟨es, c, hm⟩ := Mf.isMap h.ns
  refine ⟨h.ps, frame_below h.bel h.hT F h.own.spot.1, h.sz, ?_, ?_, ?_, ?_, ?_, ho, hby, ?_, h.lo⟩
  · rw [F.block gs (lt h.rs) (own_ne h.rs h5 (by decide))]; exact h.rs
  · rw [F.block gc (lt h.rc) (own_ne h.rc h5 (by decide))]; exact h.rc
  · rw [F.block go (lt h.ro) (own_ne h.ro h5 (by decide))]; exact h.ro
  · rw [F.block gi (lt h.ri) (own_ne h.ri h5 (by decide))]; exact h.ri
  · exact Mf.kept h.ns (F.block nb (lt hm) (fun e => map_ne h5 hm e.symm))
  · refine h.ids.keptAt (fun g hg => ?_)
    obtain ⟨ds, h3⟩ := nums_row h.ids hg
    exact F.block g (lt h3) (own_ne h3 h5 (by decide))

/-- What is chosen has turned. -/
theorem PI.add (h : PI B T w0 w a mp mb last P K gs gc go gi nb ob cap iv U C I out) {C' : List Int} (hn : Ns w' nb U C') (F : Frame (fun k => k = nb) w w') : PI B T w0 w' a mp mb last P K gs gc go gi nb ob cap iv U C' I out := by
  have lt : ∀ {g : Nat} {o : Obj}, w.heap[g]? = some o → g < w.heap.size := fun e => (Array.getElem?_eq_some_iff.1 e).1
  obtain ⟨es, c, hm⟩ := Mf.isMap h.ns
  obtain ⟨cs, h5⟩ := own_row5 h.own
  refine ⟨h.ps, frame_below h.bel h.hT F h.lo.2.2.2.2, h.sz, ?_, ?_, ?_, ?_, hn, ?_, h.byt, ?_, h.lo⟩
  · rw [F.block gs (lt h.rs) (map_ne h.rs hm)]; exact h.rs
  · rw [F.block gc (lt h.rc) (map_ne h.rc hm)]; exact h.rc
  · rw [F.block go (lt h.ro) (map_ne h.ro hm)]; exact h.ro
  · rw [F.block gi (lt h.ri) (map_ne h.ri hm)]; exact h.ri
  · exact h.own.keptAt (F.block ob (lt h5) (map_ne h5 hm))
  · refine h.ids.keptAt (fun g hg => ?_)
    obtain ⟨ds, h3⟩ := nums_row h.ids hg
    exact F.block g (lt h3) (map_ne h3 hm)
end

theorem grown_at {w w5 : World} {o : Obj} {B : Nat} {iv : Value} {I : List Int} {g : Nat} {u : Obj} (hN : Nums B w iv I) (hg : (w.alloc o).grownBy w5 iv.ownBlock) (hu : w.heap[g]? = some u) (hne : ∀ cs, u ≠ .cells cs 3 (0, 0)) : w5.heap[g]? = some u := by
  have hlt : g < w.heap.size := (Array.getElem?_eq_some_iff.1 hu).1
  rw [hg.block g (by simp; omega) (fun e => by
    obtain ⟨ds, h3⟩ := nums_row hN e.symm
    rw [hu] at h3
    exact hne ds (Option.some.inj h3))]
  exact at_old hu

theorem PI.store {B T : Nat} {w0 w w5 : World} {a mp mb last : Nat} {P : List Pv} {K : Int → Option Value} {gs gc go gi nb ob cap : Nat} {iv v' : Value} {U C I I' : List Int} {out : List Int} {o : Obj} (h : PI B T w0 w a mp mb last P K gs gc go gi nb ob cap iv U C I out)
    (hg : (w.alloc o).grownBy w5 iv.ownBlock) (hn : Nums T w5 v' I') : PI B T w0 (w5.setCell ⟨gi, 0, none⟩ v') a mp mb last P K gs gc go gi nb ob cap v' U C I' out := by
  have hT := h.hT
  obtain ⟨es, c, hm⟩ := Mf.isMap h.ns
  obtain ⟨cs, h5⟩ := own_row5 h.own
  have r1 := grown_at h.ids hg h.rs (fun cs e => by simp at e)
  have r2 := grown_at h.ids hg h.rc (fun cs e => by simp at e)
  have r3 := grown_at h.ids hg h.ro (fun cs e => by simp at e)
  have r4 := grown_at h.ids hg h.ri (fun cs e => by simp at e)
  have r5 := grown_at h.ids hg hm (fun cs e => by cases e)
  have r6 := grown_at h.ids hg h5 (fun cs e => by simp at e)
  have hb5 : Below T w0 w5 := (h.bel.alloc hT o).grown hg (by simp; omega) (fun k hk => (World.ownsRow.lt h.ids k hk).1)
  have other : ∀ k, k ≠ gi → (w5.setCell ⟨gi, 0, none⟩ v').heap[k]? = w5.heap[k]? := fun k hk => Below.heap_setCell w5 ⟨gi, 0, none⟩ v' k hk
  refine ⟨h.ps, hb5.setCell (p := ⟨gi, 0, none⟩) h.lo.2.2.2.1 v', h.sz, ?_, ?_, ?_, ?_, ?_, ?_, h.byt, ?_, h.lo⟩
  · rw [other gs (own_ne r1 r4 (by decide))]; exact r1
  · rw [other gc (own_ne r2 r4 (by decide))]; exact r2
  · rw [other go (own_ne r3 r4 (by decide))]; exact r3
  · exact one_setCell r4
  · exact Mf.kept h.ns ((other nb (fun e => map_ne r4 r5 e.symm)).trans (r5.trans hm.symm))
  · exact h.own.keptAt ((other ob (own_ne r6 r4 (by decide))).trans (r6.trans h5.symm))
  · refine hn.keptAt (fun g hg => ?_)
    obtain ⟨ds, h3⟩ := nums_row hn hg
    exact other g (own_ne h3 r4 (by decide))

/-- Behind a patch that is chosen. -/
def nextC (P : List Pv) (C : List Int) (p : Pv) : List Int := if lk P C p then C else C ++ [(p.id : Int)]
def nextO (P : List Pv) (C out : List Int) (p : Pv) : List Int := if lk P C p then out else ovr out p

set_option maxRecDepth 100000 in
set_option maxHeartbeats 4000000 in
theorem plan1_ok {B T : Nat} {w0 w : World} {a mp mb last : Nat} {P : List Pv} {K : Int → Option Value} {gs gc go gi nb ob cap : Nat} {iv : Value} {U C : List Int} {out : List Int} (h : PI B T w0 w a mp mb last P K gs gc go gi nb ob cap iv U C C out)
    (p : Pv) (hp : p ∈ P) (hU : U.length < 100000) (hpU : (p.id : Int) ∈ U) (hC : C.length ≤ 10000) :
    Calls Tryz.prog 150 #[p.v, .pointer (some ⟨gs, 0, none⟩), .pointer (some ⟨gc, 0, none⟩), .pointer (some ⟨go, 0, none⟩), .pointer (some ⟨gi, 0, none⟩)] w
      fun e w' => e = .returned (.tuple #[]) ∧ ∃ iv', PI B T w0 w' a mp mb last P K gs gc go gi nb ob cap iv' U (nextC P C p) (nextC P C p) (nextO P C out p) := by
  obtain ⟨W, hW⟩ : ∃ W, w.alloc (.cells p.cells 134) = W := ⟨_, rfl⟩
  have hbW : Below w.heap.size w W := by rw [← hW]; exact (Below.refl _ w).alloc (Nat.le_refl _) _
  have hI := h.kept hbW
  have hps := hI.psn
  have hrow : W.heap[w.heap.size]? = some (.cells p.cells 134 (0, 0)) := by rw [← hW]; exact at_new rfl
  have cs : W.cell? ⟨gs, 0, none⟩ = some (.pointer (some ⟨a, 0, none⟩)) := by rw [cell_of_row _ _ 0 _ 72 _ hI.rs]; rfl
  have cc : W.cell? ⟨gc, 0, none⟩ = some (.map (some nb)) := by rw [cell_of_row _ _ 0 _ 130 _ hI.rc]; rfl
  have hlk := lacks_ok hps hI.ns p (hps.nee p hp).1
  have hv : p.v = .agg p.cells := rfl
  cases hl : lk P C p with
  | true =>
    rw [hl] at hlk
    have HN : Hid (nextC P C p = C ∧ nextO P C out p = out) := ⟨by unfold nextC; rw [hl]; rfl, by unfold nextO; rw [hl]; rfl⟩
    clear hl
    go_enter Tryz.func150, Tryz.ntmps150
    go_wp2_with (first
      | (refine wpList_load_row rfl 134 (.tmp 5) rfl w.heap.size rfl 134 p.cells (0, 0) _ hrow Tryz.underlying134 rfl info44 ?_)
      | (go_at_call 125; refine below_at hlk ?_; intro w1 hb1))
    refine bodyPost_ret (results_none rfl _ _ _) rfl ?_
    refine ⟨rfl, iv, ?_⟩
    rw [HN.out.1, HN.out.2]
    exact hI.kept hb1
  | false =>
    rw [hl] at hlk
    have HN : Hid (nextC P C p = C ++ [(p.id : Int)] ∧ nextO P C out p = ovr out p) := ⟨by unfold nextC; rw [hl]; rfl, by unfold nextO; rw [hl]; rfl⟩
    have hid := hps.ids p hp
    have hi64 : I64 (p.id : Int) := ⟨by omega, by have := hps.sml; omega⟩
    clear hl
    have hlay := fun w1 (hb1 : Below W.heap.size W w1) => lay_ok (hI.kept hb1).own p ((hps.kept hb1).byt p hp).1 hid.2.2.2.1 hid.2.2.2.2
    go_enter Tryz.func150, Tryz.ntmps150
    go_wp2_with (first
      | (refine wpList_load_row rfl 134 (.tmp 5) rfl w.heap.size rfl 134 p.cells (0, 0) _ hrow Tryz.underlying134 rfl info44 ?_)
      | (go_at_call 125; refine below_at hlk ?_; intro w1 hb1; have hI1 := hI.kept hb1; have co : w1.cell? ⟨go, 0, none⟩ = some (.slice (some ⟨ob, 0, none⟩) 128 cap) := (by rw [cell_of_row _ _ 0 _ 42 _ hI1.ro]; rfl); have hrow1 : w1.heap[w.heap.size]? = some (.cells p.cells 134 (0, 0)) := (by rw [hb1.block _ ((Array.getElem?_eq_some_iff.1 hrow).1)]; exact hrow))
      | (refine wpList_load_row rfl 134 (.tmp 5) rfl w.heap.size rfl 134 p.cells (0, 0) _ hrow1 Tryz.underlying134 rfl info44 ?_))
    refine (hlay w1 hb1).mono ?_
    rintro e w2 ⟨rfl, hown2, hF2⟩
    have hI2 := hI1.lay hown2 (ovr_byt h.byt (hps.byt p hp).1.byt) hF2
    obtain ⟨cs5, h5⟩ := own_row5 hI1.own
    have hrow2 : w2.heap[w.heap.size]? = some (.cells p.cells 134 (0, 0)) := by
      rw [hF2.block _ ((Array.getElem?_eq_some_iff.1 hrow1).1) (own_ne hrow1 h5 (by decide))]; exact hrow1
    have ci : w2.cell? ⟨w.heap.size, 0, none⟩ = some (.int .i64 (p.id : Int)) := by rw [cell_of_row _ _ 0 _ 134 _ hrow2]; rfl
    have cc2 : w2.cell? ⟨gc, 0, none⟩ = some (.map (some nb)) := by rw [cell_of_row _ _ 0 _ 130 _ hI2.rc]; rfl
    clear hlay hlk hrow hrow1 cs cc co hI hI1 hown2 hF2 h5 hps hb1
    obtain ⟨W2, hW2⟩ : ∃ W2, w2.alloc (.cells #[.int .i64 (p.id : Int)] 3) = W2 := ⟨_, rfl⟩
    have hbW2 : Below w2.heap.size w2 W2 := by rw [← hW2]; exact (Below.refl _ w2).alloc (Nat.le_refl _) _
    have hI3 := hI2.kept hbW2
    have hii : II W2 (some ⟨w2.heap.size, 0, none⟩) 1 [(p.id : Int)] := by
      refine ⟨rfl, by omega, fun x hx => by rw [List.mem_singleton.1 hx]; exact hi64, fun _ => ⟨_, 0, rfl, fun i hi => ?_⟩⟩
      obtain rfl : i = 0 := by omega
      rw [← hW2, cell_of_row _ _ 0 _ 3 _ (at_new rfl)]; rfl
    have hadd := add_ok hI3.ns hU (some ⟨w2.heap.size, 0, none⟩) 1 1 [(p.id : Int)] hii (fun x hx => by rw [List.mem_singleton.1 hx]; exact hpU) (by
      have : nb < w2.heap.size := Mf.lt hI2.ns
      simp only [blkOf, ne_eq, Option.some.injEq]; omega)
    have hrow3 : W2.heap[w.heap.size]? = some (.cells p.cells 134 (0, 0)) := by rw [hbW2.block _ ((Array.getElem?_eq_some_iff.1 hrow2).1)]; exact hrow2
    go_wp2_with fail
    refine hadd.mono ?_
    rintro e w3 ⟨rfl, hns3, hF3⟩
    have hI4 := hI3.add hns3 hF3
    obtain ⟨es, c, hm⟩ := Mf.isMap hI3.ns
    have hrow4 : w3.heap[w.heap.size]? = some (.cells p.cells 134 (0, 0)) := by
      rw [hF3.block _ ((Array.getElem?_eq_some_iff.1 hrow3).1) (map_ne hrow3 hm)]; exact hrow3
    have ci4 : w3.cell? ⟨w.heap.size, 0, none⟩ = some (.int .i64 (p.id : Int)) := by rw [cell_of_row _ _ 0 _ 134 _ hrow4]; rfl
    have cg4 : w3.cell? ⟨gi, 0, none⟩ = some iv := by rw [cell_of_row _ _ 0 _ 23 _ hI4.ri]; rfl
    have hN := hI4.ids
    have hT := hI4.hT
    clear hadd hI3 hii hrow3 hbW2 hns3 hF3 hm hrow2 ci cc2 hI2
    obtain ⟨i0, hi, hz0, hz1, hz2⟩ := info_parts info3
    go_wp2_with (first
      | (at_builtin; refine wpList_append_own _ rfl _ _ 23 rfl T 3 i0 (.int .i64 0) 1 8 Tryz.underlying23 hi hz0 hz1 hz2 rfl (by decide) _ _ _ rfl (World.ownsRow.alloc hN _) ⟨w3.heap.size, 0, none⟩ 1 1 [.int .i64 (p.id : Int)] rfl rfl (cell_one_new _ _ _) (by simp [Value.oneCell']) (by unfold maxLen; omega) (by omega) (by simp; omega) ?_; intro v' w5 hown hgrow _; have hown := Nums.snoc hown; obtain ⟨g', cap', rfl⟩ := Nums.succ hown; have hgrow' : (w3.alloc (.cells #[.int .i64 (p.id : Int)] 3)).grownBy w5 iv.ownBlock := hgrow; have r5 := grown_at hN hgrow' hI4.ri (fun cs e => by simp at e); have c5 : w5.cell? ⟨gi, 0, none⟩ = some iv := (by rw [cell_of_row _ _ 0 _ 23 _ r5]; rfl); have f5 : w5.frozen? ⟨gi, 0, none⟩ = false := (by simp [World.frozen?, r5])))
    go_end0
    refine ⟨rfl, .slice (some ⟨g', 0, none⟩) (C.length + 1) cap', ?_⟩
    rw [HN.out.1, HN.out.2]
    exact hI4.store hgrow' hown
end Go.Proofs.YtinigfidofgaiaaGreat.Pt
