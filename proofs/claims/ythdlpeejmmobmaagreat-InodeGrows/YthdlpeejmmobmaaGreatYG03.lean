/- KRead5 KPage KNums KSuper Nobody -/
import Derived.Test.YthdlpeejmmobmaaGreatYG02
import Derived.Lib.BufferWrite
import Derived.Lib.SlBuf
import Derived.Deep.RegionHeld3
import Derived.Test.YthdlpeejmmobmaaGreatProg
import Derived.WalkKit
import Derived.WalkSpells
import Derived.WalkLawsBesides
import Derived.BigQuiet
import Derived.Deep.QuietTactic

namespace Go.Proofs.YthdlpeejmmobmaaGreat.Mk
open Go.RowKit
set_option maxRecDepth 100000
namespace Num
end Num
theorem cut_bi {w w1 : World} {rb n k : Nat} {xs : List Int} {b o m c : Nat} {E : Int} {md : Bool} (hc : Cutoff w w1 rb n xs k) (hr : RdR w rb (.slice (some ⟨b, o, none⟩) n c) E md) (hb : BI w (some ⟨b, o, none⟩) m (xs.take m)) : BI w1 (some ⟨b, o, none⟩) m (xs.take m) := by
 obtain ⟨b', o', c', rfl, _⟩ := hc
 refine bi_same hb fun b2 o2 e hn => ?_
 cases e
 have n1 := bi_ne hb hn hr (rd_no _ _ _ (by intro x; simp))
 rw [Below.heap_setCell _ _ _ _ (by simpa using n1)]
set_option maxHeartbeats 800000 in
theorem text1_yes (w : World) (rb B0 B1 B2 : Nat) (b o n c : Nat) (E : Int) (m : Bool) (xs : List Int) (k : Nat) (u : Value) (h : RdR w rb (.slice (some ⟨b, o, none⟩) n c) E m) (hb : BI w (some ⟨b, o, none⟩) n xs) (hnc : n ≤ c) (h3 : k ≤ n)
  (c0 : w.cell? ⟨B0, 0, none⟩ = some (.pointer (some ⟨rb, 0, none⟩))) (c1 : w.cell? ⟨B1, 0, none⟩ = some (.int .i64 k)) (c2 : w.cell? ⟨B2, 0, none⟩ = some u) (f2 : w.frozen? ⟨B2, 0, none⟩ = false) (hne : B2 ≠ rb) :
  Calls Tryz.prog 279 #[.pointer (some ⟨B0, 0, none⟩), .pointer (some ⟨B1, 0, none⟩), .pointer (some ⟨B2, 0, none⟩)] w fun e w' => e = .returned (.tuple #[]) ∧ ∃ w1, Cutoff w w1 rb n xs k ∧ w' = w1.setCell ⟨B2, 0, none⟩ (.string (strOfNums (xs.take k))) := by
 have hg := (show Hid _ from next_yes w rb b o n c E m xs k h hb hnc h3)
 have ht := hb.take k h3
 go_enter Tryz.func279, Tryz.ntmps279
 go_wp2_with fail
 refine Calls.mono hg.out ?_
 rintro e w1 ⟨rfl, hcut⟩
 have hcv := (cut_bi hcut h ht).conv c
 have hc2 : w1.cell? ⟨B2, 0, none⟩ = some u := by
  obtain ⟨b', o', c', rfl, _⟩ := hcut
  rw [World.cell?_of_block (Below.heap_setCell _ _ _ _ hne)]; exact c2
 have hf2 : w1.frozen? ⟨B2, 0, none⟩ = false := by
  obtain ⟨b', o', c', rfl, _⟩ := hcut
  rw [World.frozen?_of_block (Below.heap_setCell _ _ _ _ hne)]; exact f2
 clear c0 c1 c2 f2 hg ht hb h
 go_wp2
 go_end0
 exact ⟨rfl, w1, hcut, rfl⟩
set_option maxHeartbeats 800000 in
theorem skip1_yes (w : World) (rb B0 B1 : Nat) (b o n c : Nat) (E : Int) (m : Bool) (xs : List Int) (k : Nat) (h : RdR w rb (.slice (some ⟨b, o, none⟩) n c) E m) (hb : BI w (some ⟨b, o, none⟩) n xs) (hnc : n ≤ c) (h3 : k ≤ n)
  (c0 : w.cell? ⟨B0, 0, none⟩ = some (.pointer (some ⟨rb, 0, none⟩))) (c1 : w.cell? ⟨B1, 0, none⟩ = some (.int .i64 k)) :
  Calls Tryz.prog 275 #[.pointer (some ⟨B0, 0, none⟩), .pointer (some ⟨B1, 0, none⟩)] w fun e w' => e = .returned (.tuple #[]) ∧ Cutoff w w' rb n xs k := by
 have hg := (show Hid _ from next_yes w rb b o n c E m xs k h hb hnc h3)
 go_enter Tryz.func275, Tryz.ntmps275
 go_wp2_with fail
 refine Calls.mono hg.out ?_
 rintro e w1 ⟨rfl, hcut⟩
 clear c0 c1 hg hb h
 go_wp2
 go_end0
 exact ⟨rfl, hcut⟩
set_option maxHeartbeats 800000 in
theorem text_yes (w : World) (rb n k : Nat) (xs : List Int) (h : Rest w rb n xs 0) (h3 : k ≤ n) :
  Calls Tryz.prog 229 #[.pointer (some ⟨rb, 0, none⟩), .int .i64 k] w fun e w' => e = .returned (.string (strOfNums (xs.take k))) ∧ w.grownBy w' (some rb) ∧ Rest w' rb (n - k) (xs.drop k) 0 := by
 obtain ⟨b, o, c, hr, hnc, hbi⟩ := h
 have hmf := makes
 have hlt := hr.lt
 obtain ⟨t0, t1, t2, t3, t4⟩ := three w (.pointer (some ⟨rb, 0, none⟩)) (.int .i64 k) (.string ByteArray.empty) (.pointer (some ⟨rb, 0, none⟩)) 338 3 9 338
 have hcon := attempt37_yes _ rb _ ⟨w.heap.size, 0, none⟩ ⟨w.heap.size + 1, 0, none⟩ ⟨w.heap.size + 1 + 1, 0, none⟩
  (fun w' => w'.cell? ⟨w.heap.size + 1 + 1, 0, none⟩ = some (.string (strOfNums (xs.take k))) ∧ w.grownBy w' (some rb) ∧ Rest w' rb (n - k) (xs.drop k) 0) (rd_kept hr t4)
  ((text1_yes _ rb _ _ _ b o n c 0 true xs k _ (rd_kept hr t3) (hbi.kept t3) hnc h3 (cell_one t0) (cell_one t1) (cell_one t2) (fz_one t2) (by omega)).mono
   (by rintro e w' ⟨he, w1, hc, rfl⟩; exact ⟨he, fin_yes t3 (rd_kept hr t3) (by omega) t2 (by intro x; simp) hlt hc⟩))
 have HC := (show Hid _ from hcon)
 clear hcon t0 t1 t2 t3 t4 hr hbi
 generalize strOfNums (xs.take k) = S at *
 go_enter Tryz.func229, Tryz.ntmps229
 go_wp2_with fail
 refine Calls.mono HC.out ?_
 rintro e w' ⟨rfl, hcell, hgr, hrest⟩
 clear HC
 go_wp2
 go_ret
 exact ⟨rfl, hgr, hrest⟩
theorem fin_skip {w W w1 : World} {rb n k : Nat} {xs : List Int} {p : Option Addr} {m c : Nat} (hb : Below w.heap.size w W) (hr : RdR W rb (.slice p m c) 0 true)
  (hc : Cutoff W w1 rb n xs k) : w.grownBy w1 (some rb) ∧ Rest w1 rb (n - k) (xs.drop k) 0 := by
 obtain ⟨b, o, c', rfl, hnc, hbi⟩ := hc
 refine ⟨⟨hb.os, hb.tape, hb.output, by have := hb.size; simpa using this, fun j hj hn => ?_⟩, ⟨b, o, c', hr.set0 _, hnc, bi_same hbi fun b' o' e hn => ?_⟩⟩
 ·rw [Below.heap_setCell _ _ _ _ (by simp; intro e; exact hn (by rw [e]))]
  exact hb.block j hj
 ·cases e
  have n1 := bi_ne hbi hn hr (rd_no _ _ _ (by intro x; simp))
  rw [Below.heap_setCell _ _ _ _ (by simpa using n1)]
set_option maxHeartbeats 800000 in
theorem skip_yes (w : World) (rb n k : Nat) (xs : List Int) (h : Rest w rb n xs 0) (h3 : k ≤ n) :
  Calls Tryz.prog 227 #[.pointer (some ⟨rb, 0, none⟩), .int .i64 k] w fun e w' => e = .returned (.tuple #[]) ∧ w.grownBy w' (some rb) ∧ Rest w' rb (n - k) (xs.drop k) 0 := by
 obtain ⟨b, o, c, hr, hnc, hbi⟩ := h
 have hmf := makes
 obtain ⟨t0, t1, t3, t4⟩ := two w (.pointer (some ⟨rb, 0, none⟩)) (.int .i64 k) (.pointer (some ⟨rb, 0, none⟩)) 338 3 338
 have hcon := attempt39_yes _ rb _ ⟨w.heap.size, 0, none⟩ ⟨w.heap.size + 1, 0, none⟩
  (fun w' => w.grownBy w' (some rb) ∧ Rest w' rb (n - k) (xs.drop k) 0) (rd_kept hr t4)
  ((skip1_yes _ rb _ _ b o n c 0 true xs k (rd_kept hr t3) (hbi.kept t3) hnc h3 (cell_one t0) (cell_one t1)).mono
   (by rintro e w' ⟨he, hc⟩; exact ⟨he, fin_skip t3 (rd_kept hr t3) hc⟩))
 have HC := (show Hid _ from hcon)
 clear hcon t0 t1 t3 t4 hr hbi
 go_enter Tryz.func227, Tryz.ntmps227
 go_wp2_with fail
 refine Calls.mono HC.out ?_
 rintro e w' ⟨rfl, hgr, hrest⟩
 clear HC
 go_wp2
 go_end0
 exact ⟨rfl, hgr, hrest⟩
end Go.Proofs.YthdlpeejmmobmaaGreat.Mk

namespace Go.Proofs.YthdlpeejmmobmaaGreat.Mk
open Go.RowKit
set_option maxRecDepth 100000
structure Pg (B : Nat) (w : World) (pb g N a : Nat) (xs : List Int) : Prop where
 hp : w.heap[pb]? = some (.cells #[.slice (some ⟨g, 0, none⟩) N N, .int .i64 (a : Int)] 257 (0, 0))
 row : w.heap[g]? = some (.cells (xs.map (Value.int .u8)).toArray 5 (0, 0))
 len : xs.length = N
 byt : Num.Byt xs
 lop : B ≤ pb
 log : B ≤ g
 ne : pb ≠ g
 big : N ≤ 128
theorem cell_row {w : World} {g : Nat} {cs : Array Value} {t : TypeId} (h : w.heap[g]? = some (.cells cs t (0, 0))) (i : Nat) (v : Value) (hv : cs[i]? = some v) : w.cell? ⟨g, i, none⟩ = some v := by
 simp [World.cell?, h, hv]
theorem Pg.c0 {B : Nat} {w : World} {pb g N a : Nat} {xs : List Int} (h : Pg B w pb g N a xs) : w.cell? ⟨pb, 0, none⟩ = some (.slice (some ⟨g, 0, none⟩) N N) := cell_row h.hp 0 _ rfl
theorem Pg.c1 {B : Nat} {w : World} {pb g N a : Nat} {xs : List Int} (h : Pg B w pb g N a xs) : w.cell? ⟨pb, 1, none⟩ = some (.int .i64 (a : Int)) := cell_row h.hp 1 _ rfl
theorem Pg.bi {B : Nat} {w : World} {pb g N a : Nat} {xs : List Int} (h : Pg B w pb g N a xs) : BI w (some ⟨g, 0, none⟩) N xs :=
 ⟨h.len, by have := h.big; omega, h.byt, fun _ => ⟨g, 0, rfl, fun i hi => by
  rw [Nat.zero_add]
  refine cell_row h.row i _ ?_
  have hl := h.len
  simp [List.getD_eq_getElem?_getD, List.getElem?_eq_getElem (show i < xs.length by omega)]⟩⟩
theorem Pg.kept {B : Nat} {w w' : World} {pb g N a : Nat} {xs : List Int} (h : Pg B w pb g N a xs) (hb : Below w.heap.size w w') : Pg B w' pb g N a xs := by
 have h1 : pb < w.heap.size := (Array.getElem?_eq_some_iff.1 h.hp).1
 have h2 : g < w.heap.size := (Array.getElem?_eq_some_iff.1 h.row).1
 exact ⟨by rw [hb.block _ h1]; exact h.hp, by rw [hb.block _ h2]; exact h.row, h.len, h.byt, h.lop, h.log, h.ne, h.big⟩
theorem heap_set {w : World} {b i : Nat} {cs : Array Value} {t : TypeId} (h : w.heap[b]? = some (.cells cs t (0, 0))) (v : Value) : (w.setCell ⟨b, i, none⟩ v).heap[b]? = some (.cells (cs.setIfInBounds i v) t (0, 0)) := by
 simp [World.setCell, Array.getElem?_modify, h]
theorem Pg.moved {B : Nat} {w : World} {pb g N a : Nat} {xs : List Int} (h : Pg B w pb g N a xs) (b : Nat) : Pg B (w.setCell ⟨pb, 1, none⟩ (.int .i64 (b : Int))) pb g N b xs := by
 refine ⟨?_, ?_, h.len, h.byt, h.lop, h.log, h.ne, h.big⟩
 ·rw [heap_set h.hp]; rfl
 ·rw [Below.heap_setCell _ _ _ _ h.ne.symm]; exact h.row
def zers (n : Nat) : List Int := List.replicate n 0
theorem zers_len (n : Nat) : (zers n).length = n := by simp [zers]
theorem zers_byt (n : Nat) : Num.Byt (zers n) := fun i => by
 unfold zers
 rw [List.getD_eq_getElem?_getD, List.getElem?_replicate]
 split <;> simp
theorem made_zers (N : Nat) : (madeCells (Value.int .u8 0).cells (N * 1)).toList = (zers N).map (Value.int .u8) := by
 unfold zers
 apply List.ext_getElem
 ·simp [madeCells, Value.cells]
 ·intro i h1 h2
  simp [madeCells, Value.cells, Nat.mod_one]
theorem newPage_ok (N : Nat) (hN : N ≤ 128) (B : Nat) (w : World) (hB : B ≤ w.heap.size) : Calls Tryz.prog 156 #[.int .i64 (N : Int)] w fun e w' => ∃ pb g, e = .returned (.pointer (some ⟨pb, 0, none⟩)) ∧ Pg B w' pb g N 0 (zers N) ∧ Below B w w' := by
 obtain ⟨i0, hi, hz0, hz1, hz2⟩ := info_parts info5
 go_enter Tryz.func156, Tryz.ntmps156
 go_wp2_with (first
  | (at_make; refine wpList_make_full _ rfl _ _ 42 rfl w.heap.size 5 i0 (.int .u8 0) 1 Tryz.underlying42 hi hz0 hz1 .i64 .i64 _ _ N rfl rfl rfl rfl (by rw [hz2]; omega) (by unfold maxLen; omega) (Nat.le_refl _) ?_; intro w1 hown1 hgrow1; have hb1 := (Below.refl w.heap.size w).grown hgrow1 (Nat.le_refl _) (by intro k hk; cases hk)))
 go_ret
 have hrow := own_row hown1
 rw [made_zers N] at hrow
 have hlt : w.heap.size < w1.heap.size := (Array.getElem?_eq_some_iff.1 hrow).1
 refine ⟨w1.heap.size, w.heap.size, rfl, ⟨at_new rfl, at_old hrow, zers_len N, zers_byt N, by omega, hB, by omega, hN⟩, ?_⟩
 exact (hb1.mono hB).alloc (by omega) _
set_option maxHeartbeats 400000 in
theorem field_ok {B : Nat} {w : World} {pb g N a : Nat} {xs : List Int} (h : Pg B w pb g N a xs) (n : Nat) (h1 : 1 ≤ n) (h2 : a + n ≤ N) :
  Calls Tryz.prog 241 #[.pointer (some ⟨pb, 0, none⟩), .int .i64 (n : Int)] w fun e w' => e = .returned (.slice (some ⟨g, a, none⟩) n n) ∧ Pg B w' pb g N (a + n) xs ∧ Below B w w' := by
 have c0 := h.c0
 have c1 := h.c1
 have hbig := h.big
 have hm := h.moved (a + n)
 have hf := frozen_of_row w pb 1 _ _ h.hp
 have hbw := (Below.refl B w).setCell (p := ⟨pb, 1, none⟩) h.lop (.int .i64 ((a + n : Nat) : Int))
 have d0 := hm.c0
 have d1 := hm.c1
 simp only [Int.natCast_add] at hbw d0 d1 hm
 go_enter Tryz.func241, Tryz.ntmps241
 go_wp2_with fail
 generalize w.setCell ⟨pb, 1, none⟩ (.int .i64 ((a : Int) + (n : Int))) = w1 at *
 have e1 : (a : Int) ≤ (a : Int) + (n : Int) := by omega
 have e2 : (a : Int) + (n : Int) ≤ (N : Int) := by omega
 go_quiet (fail)
 go_wp2
 go_ret
 refine ⟨?_, hm.kept (below_drewN (Below.refl _ _) _), below_drewN hbw _⟩
 show Ending.returned (.slice (some ⟨g, a, none⟩) (a + n - a) (a + n - a)) = _
 rw [show a + n - a = n by omega]
theorem getD_splice (xs ys : List Int) (a : Nat) (h : a + ys.length ≤ xs.length) (i : Nat) : (splice xs a ys).getD i 0 = if i < a then xs.getD i 0 else if i < a + ys.length then ys.getD (i - a) 0 else xs.getD i 0 := by
 have ht : (xs.take a).length = a := by simp; omega
 unfold splice
 simp only [List.getD_eq_getElem?_getD]
 by_cases h1 : i < a
 ·rw [if_pos h1, List.getElem?_append_left (by omega), List.getElem?_take_of_lt h1]
 ·rw [if_neg h1, List.getElem?_append_right (by omega), ht]
  by_cases h2 : i < a + ys.length
  ·rw [if_pos h2, List.getElem?_append_left (by omega)]
  ·rw [if_neg h2, List.getElem?_append_right (by omega), List.getElem?_drop, show a + ys.length + (i - a - ys.length) = i by omega]
theorem splice_put (xs : List Int) (a k : Nat) (v : Int) (h : a + k ≤ xs.length) : splice xs a (Num.putTo ((xs.drop a).take k) 0 v k) = Num.putTo xs a v k := by
 have hl : (Num.putTo ((xs.drop a).take k) 0 v k).length = k := by rw [Num.putTo_length]; simp; omega
 apply ext_getD
 ·rw [length_splice _ _ _ (by omega), Num.putTo_length]
 intro i _
 rw [getD_splice _ _ _ (by omega), hl]
 by_cases h1 : i < a
 ·rw [if_pos h1, Num.putTo_out _ _ _ _ _ (by omega)]
 ·rw [if_neg h1]
  by_cases h2 : i < a + k
  ·obtain ⟨j, rfl⟩ : ∃ j, i = a + j := ⟨i - a, by omega⟩
   have := Num.putTo_in ((xs.drop a).take k) 0 v k (by simp; omega) j (by omega)
   rw [Nat.zero_add] at this
   rw [if_pos h2, Num.putTo_in xs a v k h j (by omega), show a + j - a = j by omega, this]
  ·rw [if_neg h2, Num.putTo_out _ _ _ _ _ (by omega)]
theorem splice_map (xs ys : List Int) (a : Nat) : splice (xs.map (Value.int .u8)) a (ys.map (Value.int .u8)) = (splice xs a ys).map (Value.int .u8) := by
 simp [splice, List.map_take, List.map_drop]
theorem splice_len (xs ys : List Int) (a : Nat) (h : a + ys.length ≤ xs.length) : (splice xs a ys).length = xs.length := length_splice xs a ys h
theorem splice_byt {xs ys : List Int} (hx : Num.Byt xs) (hy : Num.Byt ys) (a : Nat) : Num.Byt (splice xs a ys) := by
 have key : ∀ l : List Int, Num.Byt l ↔ ∀ n ∈ l, 0 ≤ n ∧ n < 256 := by
  intro l
  constructor
  ·intro h n hn
   obtain ⟨i, hi, rfl⟩ := List.getElem_of_mem hn
   have := h i
   simpa [List.getD_eq_getElem?_getD, List.getElem?_eq_getElem hi] using this
  ·intro h i
   rw [List.getD_eq_getElem?_getD]
   by_cases hi : i < l.length
   ·rw [List.getElem?_eq_getElem hi]; exact h _ (List.getElem_mem hi)
   ·rw [List.getElem?_eq_none (by omega)]; simp
 rw [key] at hx hy ⊢
 intro n hn
 unfold splice at hn
 rcases List.mem_append.1 hn with h | h
 ·exact hx n (List.mem_of_mem_take h)
 ·rcases List.mem_append.1 h with h | h
  ·exact hy n h
  ·exact hx n (List.mem_of_mem_drop h)
theorem Pg.turned {B : Nat} {w w' : World} {pb g N a : Nat} {xs ys : List Int} (h : Pg B w pb g N a xs) (hpb : w'.heap[pb]? = w.heap[pb]?) (hr : w'.heap[g]? = some (.cells (ys.map (Value.int .u8)).toArray 5 (0, 0))) (hl : ys.length = N) (hy : Num.Byt ys) : Pg B w' pb g N a ys :=
 ⟨hpb.trans h.hp, hr, hl, hy, h.lop, h.log, h.ne, h.big⟩
theorem Pg.spliced {B : Nat} {w : World} {pb g N a : Nat} {xs : List Int} (h : Pg B w pb g N a xs) (o : Nat) (ys : List Int) (hy : Num.Byt ys) (hf : o + ys.length ≤ N) (L : List Value) (hL : L = (splice xs o ys).map (Value.int .u8)) :
  Pg B (w.setRow g L.toArray) pb g N a (splice xs o ys) ∧ Below B w (w.setRow g L.toArray) := by
 subst hL
 have hl := h.len
 refine ⟨h.turned (setRow_other _ _ _ _ h.ne) (setRow_heap _ _ _ _ _ _ h.row) (by rw [length_splice _ _ _ (by omega)]; exact hl) (splice_byt h.byt hy o), below_setRow (Below.refl _ _) h.log _⟩
theorem wpList_copy_page {w : World} {ops : Array Oper} {rest : List Oper} {o : Oper} {a : Act} {Q : Exit → Act → World → Prop} (hgd : o.guard = none) (d s : Operand)
  (ho : o.op = .call { callee := .builtin .copy, args := #[d, s], argTypes := #[42, 42] }) {B pb g N at_ : Nat} {xs ys : List Int} (hp : Pg B w pb g N at_ xs) (off k c : Nat) (p : Option Addr) (hk : 1 ≤ k) (hf : off + k ≤ N)
  (hb : BI w p k ys) (hd : a.eval d = .slice (some ⟨g, off, none⟩) k k) (hs : a.eval s = .slice p k c)
  (h : ∀ w', Pg B w' pb g N at_ (splice xs off ys) → Below B w w' → wpList Tryz.prog ops Q rest (a.put o.dst (goInt k)) w') : wpList Tryz.prog ops Q (o :: rest) a w := by
 obtain ⟨ad, rfl, hsrc⟩ := hb.src (by omega)
 have hyl := hb.len
 have hl := hp.len
 refine wpList_copy_own hgd d s 42 42 ho 5 Tryz.underlying42 size5 g off k k ad k c hd hs _ 5 hp.row (ys.map (Value.int .u8)) (by simp [hyl]) hsrc (by simp; omega) (one_cells ys) ?_
 have hsp := hp.spliced off ys hb.byt (by omega) (((xs.map (Value.int .u8)).toArray).toList.take off ++ (ys.map (Value.int .u8) ++ ((xs.map (Value.int .u8)).toArray).toList.drop (off + (ys.map (Value.int .u8)).length))) (by rw [← splice_map]; rfl)
 have e : goInt (ys.map (Value.int .u8)).length = goInt k := by simp [hyl]
 rw [e]
 exact h _ hsp.1 hsp.2
set_option maxHeartbeats 400000 in
theorem pnum_ok {B : Nat} {w : World} {pb g N a : Nat} {xs : List Int} (h : Pg B w pb g N a xs) (k : Nat) (v : Int) (h1 : 1 ≤ k) (h4 : k ≤ 4) (h2 : a + k ≤ N) (hv0 : 0 ≤ v) (hv1 : v < 256 ^ k) :
  Calls Tryz.prog 157 #[.pointer (some ⟨pb, 0, none⟩), .int .i64 (k : Int), .int .i64 v] w fun e w' => e = .returned (.tuple #[]) ∧ Pg B w' pb g N (a + k) (Num.putTo xs a v k) ∧ Below B w w' := by
 have hf := field_ok h k h1 h2
 have hlen := h.len
 have hbig := h.big
 have HV : Hid (v < 256 ^ k) := hv1
 have hB : B ≤ w.heap.size := Nat.le_of_lt (Nat.lt_of_le_of_lt h.lop (Array.getElem?_eq_some_iff.1 h.hp).1)
 clear hv1
 go_enter Tryz.func157, Tryz.ntmps157
 go_wp2_with fail
 refine hf.mono ?_
 rintro e w1 ⟨rfl, p1, b1⟩
 have hbi := p1.bi
 have hd : BI w1 (some ⟨g, a, none⟩) k ((xs.drop a).take k) := by
  have := (hbi.drop a (by omega)).take k (by omega)
  rwa [Nat.zero_add] at this
 have hp0 : Num.pE k (0 : Int) (k : Int) v = 0 := by
  unfold Num.pE
  rw [Int.toNat_natCast, if_neg (by have := HV.out; omega), if_neg (by omega)]
 have hput := put_yes (some ⟨g, a, none⟩) k k _ 0 k v w1 hd hp0
 rw [Int.toNat_natCast] at hput
 simp only [Int.toNat_zero] at hput
 clear hf hp0
 go_wp2_with fail
 refine hput.mono ?_
 rintro e w2 ⟨g2, cap, rfl, ho2, hb2⟩
 have p2 := p1.kept hb2
 have hpb : Num.Byt (Num.putTo ((xs.drop a).take k) 0 v k) := Num.putTo_byt hd.byt _ _ _
 have hsrc := (ho2.bi (by omega) hpb)
 go_wp2_with (refine wpList_copy_page rfl _ _ rfl p2 a k cap _ h1 h2 hsrc rfl rfl ?_)
 intro w3 p3 b3
 rw [splice_put _ _ _ _ (by omega)] at p3
 go_wp2
 go_end0
 exact ⟨rfl, p3, b1.trans ((hb2.mono (Nat.le_trans hB b1.size)).trans b3)⟩
set_option maxHeartbeats 400000 in
theorem pskip_ok {B : Nat} {w : World} {pb g N a : Nat} {xs : List Int} (h : Pg B w pb g N a xs) (k : Nat) (h1 : 1 ≤ k) (h2 : a + k ≤ N) :
  Calls Tryz.prog 158 #[.pointer (some ⟨pb, 0, none⟩), .int .i64 (k : Int)] w fun e w' => e = .returned (.tuple #[]) ∧ Pg B w' pb g N (a + k) xs ∧ Below B w w' := by
 have hf := field_ok h k h1 h2
 go_enter Tryz.func158, Tryz.ntmps158
 go_wp2_with fail
 refine hf.mono ?_
 rintro e w1 ⟨rfl, p1, b1⟩
 go_wp2
 go_end0
 exact ⟨rfl, p1, b1⟩
theorem bi_under {B : Nat} {w w' : World} {p : Option Addr} {n : Nat} {xs : List Int} (h : BI w p n xs) (hb : Below B w w') (hq : ∀ b o, p = some ⟨b, o, none⟩ → b < B) : BI w' p n xs := by
 refine ⟨h.len, h.big, h.byt, fun hn => ?_⟩
 obtain ⟨b, o, rfl, hc⟩ := h.cells hn
 refine ⟨b, o, rfl, fun i hi => ?_⟩
 rw [hb.cell (p := ⟨b, o + i, none⟩) (hq b o rfl)]
 exact hc i hi
set_option maxHeartbeats 400000 in
theorem prow_ok {B : Nat} {w : World} {pb g N a : Nat} {xs : List Int} (h : Pg B w pb g N a xs) (k c : Nat) (q : Option Addr) (ys : List Int) (hy : BI w q k ys) (h1 : 1 ≤ k) (h2 : a + k ≤ N) (hq : ∀ b o, q = some ⟨b, o, none⟩ → b < B) :
  Calls Tryz.prog 232 #[.pointer (some ⟨pb, 0, none⟩), .slice q k c] w fun e w' => e = .returned (.tuple #[]) ∧ Pg B w' pb g N (a + k) (splice xs a ys) ∧ Below B w w' := by
 have hf := field_ok h k h1 h2
 go_enter Tryz.func232, Tryz.ntmps232
 go_wp2_with fail
 refine hf.mono ?_
 rintro e w1 ⟨rfl, p1, b1⟩
 go_wp2_with (refine wpList_copy_page rfl _ _ rfl p1 a k c _ h1 h2 (bi_under hy b1 hq) rfl rfl ?_)
 intro w2 p2 b2
 go_wp2
 go_end0
 exact ⟨rfl, p2, b1.trans b2⟩
def numsOf (s : ByteArray) : List Int := s.data.toList.map (fun b => (b.toNat : Int))
theorem numsOf_len (s : ByteArray) : (numsOf s).length = s.size := by
 unfold numsOf
 rw [List.length_map, Array.length_toList]
 rfl
theorem numsOf_byt (s : ByteArray) : Num.Byt (numsOf s) := by
 intro i
 unfold numsOf
 rw [List.getD_eq_getElem?_getD, List.getElem?_map]
 cases s.data.toList[i]? with
 | none => simp
 | some b =>
  simp
  have := b.toNat_lt
  omega
theorem wpList_copy_text {w : World} {ops : Array Oper} {rest : List Oper} {o : Oper} {a : Act} {Q : Exit → Act → World → Prop} (hgd : o.guard = none) (d s : Operand)
  (ho : o.op = .call { callee := .builtin .copy, args := #[d, s], argTypes := #[42, 9] }) {B pb g N at_ : Nat} {xs : List Int} (hp : Pg B w pb g N at_ xs) (off : Nat) (t : ByteArray) (hf : off + t.size ≤ N)
  (hd : a.eval d = .slice (some ⟨g, off, none⟩) t.size t.size) (hs : a.eval s = .string t)
  (h : ∀ w', Pg B w' pb g N at_ (splice xs off (numsOf t)) → Below B w w' → wpList Tryz.prog ops Q rest (a.put o.dst (goInt t.size)) w') : wpList Tryz.prog ops Q (o :: rest) a w := by
 have hl := hp.len
 have hrun := Lib.run_copy_row_string (P := Tryz.prog) w 42 9 o.type 5 g off t.size t.size t _ 5 Tryz.underlying42 size5 hp.row (Nat.le_refl _) (by simp; omega)
 have hsp := hp.spliced off (numsOf t) (numsOf_byt t) (by rw [numsOf_len]; omega) (((xs.map (Value.int .u8)).toArray).toList.take off ++ Lib.byteCells t.data.toList ++ ((xs.map (Value.int .u8)).toArray).toList.drop (off + t.size)) (by
  rw [← splice_map]; unfold splice; rw [List.length_map, numsOf_len, List.append_assoc]
  simp [Lib.byteCells, numsOf])
 exact Lib.wpList_copy_run w hgd d s 42 9 ho _ _ hd hs hrun (h _ hsp.1 hsp.2)
set_option maxHeartbeats 400000 in
theorem ptext_ok {B : Nat} {w : World} {pb g N a : Nat} {xs : List Int} (h : Pg B w pb g N a xs) (t : ByteArray) (h1 : 1 ≤ t.size) (h2 : a + t.size ≤ N) :
  Calls Tryz.prog 231 #[.pointer (some ⟨pb, 0, none⟩), .string t] w fun e w' => e = .returned (.tuple #[]) ∧ Pg B w' pb g N (a + t.size) (splice xs a (numsOf t)) ∧ Below B w w' := by
 have hf := field_ok h t.size h1 h2
 go_enter Tryz.func231, Tryz.ntmps231
 go_wp2_with fail
 refine hf.mono ?_
 rintro e w1 ⟨rfl, p1, b1⟩
 go_wp2_with (refine wpList_copy_text rfl _ _ rfl p1 a t h2 rfl rfl ?_)
 intro w2 p2 b2
 go_wp2
 go_end0
 exact ⟨rfl, p2, b1.trans b2⟩
end Go.Proofs.YthdlpeejmmobmaaGreat.Mk

namespace Go.Proofs.YthdlpeejmmobmaaGreat.Mk
open Go.RowKit
set_option maxRecDepth 100000
structure II (w : World) (p : Option Addr) (n : Nat) (zs : List Int) : Prop where
 len : zs.length = n
 big : n ≤ 140737488355328
 cells : 0 < n → ∃ b o, p = some ⟨b, o, none⟩ ∧ ∀ i, i < n → w.cell? ⟨b, o + i, none⟩ = some (.int .i64 (zs.getD i 0))
theorem II.kept {w w' : World} {p : Option Addr} {n : Nat} {xs : List Int} (h : II w p n xs) (hb : Below w.heap.size w w') : II w' p n xs := by
 refine ⟨h.len, h.big, fun hn => ?_⟩
 obtain ⟨b, o, rfl, hc⟩ := h.cells hn
 refine ⟨b, o, rfl, fun i hi => ?_⟩
 rw [hb.cell (p := ⟨b, o + i, none⟩) (lt_of_cell (hc i hi))]
 exact hc i hi
theorem ii_under {B : Nat} {w w' : World} {p : Option Addr} {n : Nat} {xs : List Int} (h : II w p n xs) (hb : Below B w w') (hq : ∀ b o, p = some ⟨b, o, none⟩ → b < B) : II w' p n xs := by
 refine ⟨h.len, h.big, fun hn => ?_⟩
 obtain ⟨b, o, rfl, hc⟩ := h.cells hn
 refine ⟨b, o, rfl, fun i hi => ?_⟩
 rw [hb.cell (p := ⟨b, o + i, none⟩) (hq b o rfl)]
 exact hc i hi
def putsTo (xs : List Int) (a k : Nat) (zs : List Int) : Nat → List Int
 | 0 => xs
 | j + 1 => Num.putTo (putsTo xs a k zs j) (a + k * j) (zs.getD j 0) k
theorem putsTo_len (xs : List Int) (a k : Nat) (zs : List Int) (j : Nat) : (putsTo xs a k zs j).length = xs.length := by
 induction j with
 | zero => rfl
 | succ j ih => rw [putsTo, Num.putTo_length, ih]
theorem putsTo_byt {xs : List Int} (h : Num.Byt xs) (a k : Nat) (zs : List Int) (j : Nat) : Num.Byt (putsTo xs a k zs j) := by
 induction j with
 | zero => exact h
 | succ j ih => exact Num.putTo_byt ih _ _ _
set_option maxHeartbeats 400000 in
theorem pnums_ok {B : Nat} {w : World} {pb g N a : Nat} {xs : List Int} (h : Pg B w pb g N a xs) (k : Nat) (h1 : 1 ≤ k) (h4 : k ≤ 4) (p : Option Addr) (n c : Nat) (zs : List Int) (hz : II w p n zs) (hq : ∀ b o, p = some ⟨b, o, none⟩ → b < B)
  (h2 : a + k * n ≤ N) (hv : ∀ j, j < n → 0 ≤ zs.getD j 0 ∧ zs.getD j 0 < 256 ^ k) :
  Calls Tryz.prog 159 #[.pointer (some ⟨pb, 0, none⟩), .int .i64 (k : Int), .slice p n c] w fun e w' => e = .returned (.tuple #[]) ∧ Pg B w' pb g N (a + k * n) (putsTo xs a k zs n) ∧ Below B w w' := by
 have hbig := hz.big
 go_enter Tryz.func159, Tryz.ntmps159
 go_wp2_with fail
 go_loopw [10] (fun i wr => ∃ j : Nat, j ≤ n ∧ i = .int .i64 (j : Int) ∧ Pg B wr pb g N (a + k * j) (putsTo xs a k zs j) ∧ Below B w wr) (fun i _ => n - (intOf i).toNat)
 case atStart => exact ⟨0, by omega, rfl, h, Below.refl _ _⟩
 case round =>
  obtain ⟨j, hj, rfl, hp, hb⟩ := hrel
  by_cases hlt : j < n
  ·obtain ⟨b, o, rfl, hc⟩ := hz.cells (by omega)
   have hcell := hc j hlt
   rw [← hb.cell (p := ⟨b, o + j, none⟩) (hq b o rfl)] at hcell
   have hv0 := (hv j hlt).1
   have hv1 := (hv j hlt).2
   have hle : k * (j + 1) ≤ k * n := Nat.mul_le_mul_left k hlt
   have hcon := pnum_ok hp k (zs.getD j 0) h1 h4 (by rw [Nat.mul_succ] at hle; omega) hv0 hv1
   have hjI : (j : Int) < (n : Int) := by omega
   have hst : putsTo xs a k zs (j + 1) = Num.putTo (putsTo xs a k zs j) (a + k * j) (zs.getD j 0) k := rfl
   have HS : Hid (putsTo xs a k zs (j + 1) = Num.putTo (putsTo xs a k zs j) (a + k * j) (zs.getD j 0) k) := hst
   have HC : Hid (Calls Tryz.prog 157 #[.pointer (some ⟨pb, 0, none⟩), .int .i64 (k : Int), .int .i64 (zs.getD j 0)] wr fun e w' => e = .returned (.tuple #[]) ∧ Pg B w' pb g N (a + k * j + k) (Num.putTo (putsTo xs a k zs j) (a + k * j) (zs.getD j 0) k) ∧ Below B wr w') := hcon
   clear hst hcon hv0 hv1 hle
   generalize zs.getD j 0 = z at *
   go_wp2_with fail
   refine Calls.mono HC.out ?_
   rintro e w1 ⟨rfl, p1, b1⟩
   rw [← HS.out, Nat.add_assoc, ← Nat.mul_succ] at p1
   go_wp2
   go_roundw
   case rel => exact ⟨j + 1, by omega, by go_num, p1, hb.trans b1⟩
   case measure => simp [intOf]; omega
  ·obtain rfl : j = n := by omega
   go_wp2
   go_end0
   exact ⟨rfl, hp, hb⟩
end Go.Proofs.YthdlpeejmmobmaaGreat.Mk

namespace Go.Proofs.YthdlpeejmmobmaaGreat.Mk
open Go.RowKit
set_option maxRecDepth 100000
abbrev geomV (G B I : Int) : Value := .agg #[.int .i64 G, .int .i64 B, .int .i64 I]
abbrev geomO (G B I : Int) : Obj := .cells #[.int .i64 G, .int .i64 B, .int .i64 I] 23
abbrev superV (G B I M : Int) : Value := .agg #[.int .i64 G, .int .i64 B, .int .i64 I, .int .i64 M]
abbrev superO (G B I M : Int) : Obj := .cells #[.int .i64 G, .int .i64 B, .int .i64 I, .int .i64 M] 288
theorem size_alloc (w : World) (o : Obj) : (w.alloc o).heap.size = w.heap.size + 1 := by simp
theorem heap_new (w : World) (o : Obj) : (w.alloc o).heap[w.heap.size]? = some o := by
 show (w.heap.push o)[w.heap.size]? = some o
 simp
theorem grew_at {P : Program} {f : FuncId} {args : Array Value} {w : World} {v : Value} {Q : Ending → World → Prop} (h : Calls P f args w fun e w' => e = .returned v ∧ Below w.heap.size w w') (hq : ∀ w1, Below w.heap.size w w1 → Q (.returned v) w1) : Calls P f args w Q :=
 h.mono (by rintro e w' ⟨rfl, hb⟩; exact hq w' hb)
theorem cell_kept {w w1 : World} {b i : Nat} {v : Value} (h : w.cell? ⟨b, i, none⟩ = some v) (hb : Below w.heap.size w w1) : w1.cell? ⟨b, i, none⟩ = some v := by
 rw [hb.cell (p := ⟨b, i, none⟩) (lt_of_cell h)]; exact h
theorem cell_under {B : Nat} {w w1 : World} {b i : Nat} {v : Value} (h : w.cell? ⟨b, i, none⟩ = some v) (hb : Below B w w1) (hB : b < B) : w1.cell? ⟨b, i, none⟩ = some v := by
 rw [hb.cell (p := ⟨b, i, none⟩) hB]; exact h
theorem grew_trans {w0 w w1 : World} (h : Below w0.heap.size w0 w) (hb : Below w.heap.size w w1) : Below w0.heap.size w0 w1 := h.trans (hb.mono h.size)
theorem grew_alloc (w : World) (o : Obj) : Below w.heap.size w (w.alloc o) := (Below.refl _ _).alloc (Nat.le_refl _) _
namespace Gm
def May (G B I : Int) : Prop := 1 ≤ G ∧ G ≤ 8 ∧ 8 ≤ B ∧ B ≤ 256 ∧ 4 ≤ I ∧ I ≤ 64 ∧ I % 4 = 0 ∧ 3 + I / 4 ≤ B
instance (G B I : Int) : Decidable (May G B I) := by unfold May; infer_instance
end Gm
def SMay (G B I M : Int) : Prop := Gm.May G B I ∧ 0 ≤ M ∧ M ≤ 4294967295
instance (G B I M : Int) : Decidable (SMay G B I M) := by unfold SMay; infer_instance
theorem within_ok (n l h : Int) (w : World) : Calls Tryz.prog 230 #[.int .i64 n, .int .i64 l, .int .i64 h] w fun e w' => e = .returned (.bool (decide (l ≤ n ∧ n ≤ h))) ∧ w' = w := by
 go_enter Tryz.func230, Tryz.ntmps230
 go_wp2
 all_goals
  go_ret
  exact ⟨by simp [*]; try omega, rfl⟩
theorem rmay_ok (G B I : Int) (w : World) : Calls Tryz.prog 254 #[geomV G B I] w fun e w' => e = .returned (.bool (decide (Gm.May G B I))) ∧ Below w.heap.size w w' := by
 have HB := grew_alloc w (geomO G B I)
 go_enter Tryz.func254, Tryz.ntmps254
 go_wp2
 all_goals
  go_ret
  refine ⟨?_, HB⟩
  first
   | (rw [show decide (Gm.May G B I) = decide (3 + I / 4 ≤ B) from decide_eq_decide.2 (by unfold Gm.May; omega)]; rfl)
   | (rw [show decide (Gm.May G B I) = false from decide_eq_false (by unfold Gm.May; omega)]; rfl)
theorem super_cells (w : World) (G B I M : Int) : (w.alloc (superO G B I M)).cell? ⟨w.heap.size, 0, none⟩ = some (.int .i64 G) ∧ (w.alloc (superO G B I M)).cell? ⟨w.heap.size, 1, none⟩ = some (.int .i64 B) ∧ (w.alloc (superO G B I M)).cell? ⟨w.heap.size, 2, none⟩ = some (.int .i64 I) ∧ (w.alloc (superO G B I M)).cell? ⟨w.heap.size, 3, none⟩ = some (.int .i64 M) :=
 ⟨cell_row (heap_new w (superO G B I M)) 0 _ rfl, cell_row (heap_new w (superO G B I M)) 1 _ rfl, cell_row (heap_new w (superO G B I M)) 2 _ rfl, cell_row (heap_new w (superO G B I M)) 3 _ rfl⟩
def superL (G B I M : Int) : List Int := Num.putTo (Num.putTo (Num.putTo (Num.putTo (splice (zers 128) 0 [98, 111, 108, 108]) 4 G 1) 5 (B - 1) 1) 6 I 1) 8 M 4
def sealL (xs : List Int) : List Int := Num.putTo xs (xs.length - 4) (Num.sum xs (xs.length - 4)) 4
def superS (G B I M : Int) : List Int := sealL (superL G B I M)
theorem splice_len128 : (splice (zers 128) 0 [98, 111, 108, 108]).length = 128 := by
 rw [splice_len _ _ _ (by rw [zers_len]; decide), zers_len]
theorem rnumber_ok (p : Option Addr) (n c : Nat) (xs : List Int) (a k : Nat) (v : Int) (w : World) (h : BI w p n xs) (h1 : 1 ≤ k) (h4 : k ≤ 4) (h2 : a + k ≤ n) (hv0 : 0 ≤ v) (hv1 : v < 256 ^ k) :
  Calls Tryz.prog 184 #[.slice p n c, .int .i64 (a : Int), .int .i64 (k : Int), .int .i64 v] w fun e w' => ∃ g cap, e = .returned (.slice (some ⟨g, 0, none⟩) n cap) ∧ Own w.heap.size w' g n cap (Num.putTo xs a v k) ∧ Below w.heap.size w w' := by
 have hp0 : Num.pE n (a : Int) (k : Int) v = 0 := by
  unfold Num.pE
  rw [Int.toNat_natCast, if_neg (by omega), if_neg (by omega)]
 have hput := rput_yes p n c xs a k v w h hp0
 rw [Int.toNat_natCast, Int.toNat_natCast] at hput
 clear hp0 hv1
 go_enter Tryz.func184, Tryz.ntmps184
 go_wp2_with fail
 refine hput.mono ?_
 rintro e w2 ⟨g2, cap, rfl, ho2, hb2⟩
 go_wp2
 go_ret
 exact ⟨g2, cap, rfl, ho2, hb2⟩
end Go.Proofs.YthdlpeejmmobmaaGreat.Mk

namespace Go.Proofs.YthdlpeejmmobmaaGreat
open Go.RowKit
theorem same_at {P : Program} {f : FuncId} {args : Array Value} {w : World} {v : Value} {Q : Ending → World → Prop} (h : Calls P f args w fun e w' => e = .returned v ∧ w' = w) (hq : Q (.returned v) w) : Calls P f args w Q :=
 h.mono (by rintro e w' ⟨rfl, rfl⟩; exact hq)
set_option maxHeartbeats 400000 in
theorem blocks_some (w : World) (b : Nat) (k : Int) (h : w.cell? ⟨b, 0, none⟩ = some (.int .i64 k)) : Calls Tryz.prog 47 #[.pointer (some ⟨b, 0, none⟩)] w fun e w' => e = .returned (.int .i64 k) ∧ w' = w := by
 go_enter Tryz.func47, Tryz.ntmps47
 go_wp2
 go_ret
 exact ⟨rfl, rfl⟩
theorem at_old {w : World} {k : Nat} {o u : Obj} (h : w.heap[k]? = some u) : (w.alloc o).heap[k]? = some u := by
 rw [Below.heap_alloc _ _ _ (Array.getElem?_eq_some_iff.1 h).1]; exact h
theorem at_new {w : World} {k : Nat} {o : Obj} (h : k = w.heap.size) : (w.alloc o).heap[k]? = some o := by
 subst h; exact heap_alloc_new w o
theorem info5 : (Tryz.prog.info? 5).map (fun i => (i.zero, i.size, i.bytes)) = some (some (.int .u8 0), 1, 1) := by kernel_rfl
def Pair (w wr : World) : Prop :=
 wr.heap[w.heap.size]? = some (.cells #[.int .i64 0, .map none, .slice none 0 0, .int .i64 0, .map none] 202 (0, 0)) ∧ wr.heap[w.heap.size + 1]? = some (.cells #[.pointer none, .pointer (some ⟨w.heap.size, 0, none⟩)] 25 (0, 0)) ∧ Below w.heap.size w wr
theorem Pair.c1 {w wr : World} (h : Pair w wr) : wr.cell? ⟨w.heap.size + 1, 1, none⟩ = some (.pointer (some ⟨w.heap.size, 0, none⟩)) := by
 rw [cell_of_row wr _ 1 _ _ _ h.2.1]; rfl
end Go.Proofs.YthdlpeejmmobmaaGreat
