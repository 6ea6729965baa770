/- A5 A6 A7 -/
import Derived.Test.YthdlpeejmmobmaaGreatYG29
import Derived.Deep.MidRow
import Derived.Deep.RegionHeld3
import Derived.Deep.DeepCutAuto

namespace Go.Proofs.YthdlpeejmmobmaaGreat.Mk.Al
open Go.RowKit
set_option maxRecDepth 100000
set_option linter.unusedVariables false
def spotL (N : Int) (ys : List Int) (r : Bool) (i : Int) : List Value := .int .i64 N :: (ys.map (Value.int .u8) ++ [.int .i64 (rI r), .int .i64 i])
def spotA (N : Int) (ys : List Int) (r : Bool) (i : Int) : Array Value := (spotL N ys r i).toArray
abbrev spotV (N : Int) (ys : List Int) (r : Bool) (i : Int) : Value := .agg (spotA N ys r i)
abbrev spotO (N : Int) (ys : List Int) (r : Bool) (i : Int) : Obj := .cells (spotA N ys r i) 138
theorem spot_size (N : Int) {ys : List Int} (hl : ys.length = 40) (r : Bool) (i : Int) : (spotA N ys r i).size = 43 := by simp [spotA, spotL, hl]
theorem spot_zero (N : Int) (ys : List Int) (r : Bool) (i : Int) : (spotA N ys r i)[0]? = some (.int .i64 N) := by simp [spotA, spotL]
theorem spot_succ (N : Int) {ys : List Int} (r : Bool) (i : Int) {j : Nat} (hj : j < ys.length) : (spotA N ys r i)[j + 1]? = some (.int .u8 (ys.getD j 0)) := by
 simp [spotA, spotL, List.getElem?_append, hj]
theorem spot_row (N : Int) {ys : List Int} (hl : ys.length = 40) (r : Bool) (i : Int) : (spotA N ys r i)[41]? = some (.int .i64 (rI r)) := by
 simp [spotA, spotL, hl]
theorem spot_bit (N : Int) {ys : List Int} (hl : ys.length = 40) (r : Bool) (i : Int) : (spotA N ys r i)[42]? = some (.int .i64 i) := by
 simp [spotA, spotL, hl]
theorem spot_one (N : Int) (ys : List Int) (r : Bool) (i : Int) : (spotA N ys r i).all (·.oneCell') = true := by
 simp [spotA, spotL, Value.oneCell']
theorem spot_range {w : World} {b : Nat} {N : Int} {ys : List Int} {r : Bool} {i : Int} (h : w.heap[b]? = some (spotO N ys r i)) (hl : ys.length = 40) : w.rangeAt b 0 (groupA N ys).toList := by
 intro j v hj
 have e : (spotA N ys r i)[j]? = some v := by
  have h1 : (groupA N ys).toList = .int .i64 N :: ys.map (Value.int .u8) := by simp [groupA]
  rw [h1] at hj
  have h2 : spotL N ys r i = (.int .i64 N :: ys.map (Value.int .u8)) ++ [.int .i64 (rI r), .int .i64 i] := rfl
  have hlt := (List.getElem?_eq_some_iff.1 hj).1
  simp only [spotA, List.getElem?_toArray, h2]
  rw [List.getElem?_append_left hlt]
  exact hj
 rw [Nat.zero_add]
 simp [World.cell?, h, e]
theorem spot_bi {w : World} {b : Nat} {N : Int} {ys : List Int} {r : Bool} {i : Int} (h : w.heap[b]? = some (spotO N ys r i)) (hy : Num.Byt ys) (hl : ys.length = 40) : BI w (some ⟨b, rAt r + 1, none⟩) (rLen r) (rowOf r ys) := by
 have h2 : rAt r + rLen r ≤ 40 := by unfold rAt rLen; cases r <;> simp
 refine ⟨row_len r hl, by omega, row_byt r hy, fun _ => ⟨b, _, rfl, fun j hj => ?_⟩⟩
 have e := spot_succ N (ys := ys) r i (j := rAt r + j) (by omega)
 rw [row_getD r hl hj, show rAt r + 1 + j = rAt r + j + 1 by omega]
 simp [World.cell?, h, e]
theorem spot_put (N : Int) {ys : List Int} (hl : ys.length = 40) (r : Bool) (i : Int) (k : Nat) (q : Bool) :
  ((spotA N ys r i).toList.take (rAt r + 1) ++ ((Bit.put (rowOf r ys) k q).map (Value.int .u8) ++ (spotA N ys r i).toList.drop (rAt r + 1 + ((Bit.put (rowOf r ys) k q).map (Value.int .u8)).length))).toArray = spotA N (putY r ys k q) r i := by
 have h1 : (Bit.put (rowOf r ys) k q).length = rLen r := by rw [Bit.put_len, row_len r hl]
 have h2 : rAt r + rLen r ≤ 40 := by unfold rAt rLen; cases r <;> simp
 unfold spotA putY
 generalize Bit.put (rowOf r ys) k q = zs at *
 congr 1
 unfold spotL splice
 rw [List.length_map, h1, show rAt r + 1 + rLen r = (rAt r + rLen r) + 1 by omega, List.take_succ_cons, List.drop_succ_cons, List.take_append_of_le_length (by simp; omega), List.drop_append_of_le_length (by simp; omega)]
 simp [List.map_take, List.map_drop]
theorem set_getD (L : List Int) (a : Nat) (x : Int) : L.set a x = L.set a ((L.set a x).getD a 0) := by
 by_cases h : a < L.length
 ·rw [List.getD_eq_getElem?_getD, List.getElem?_set_self h]
  rfl
 ·rw [List.set_eq_of_length_le (by omega), List.set_eq_of_length_le (by omega)]
theorem lay_one (L : List Int) (a : Nat) (x : Int) (h : a < L.length) : L.take a ++ [x] ++ L.drop (a + 1) = L.set a x := by
 rw [List.set_eq_take_append_cons_drop, if_pos h]
 simp
end Go.Proofs.YthdlpeejmmobmaaGreat.Mk.Al
namespace Go.Proofs.YthdlpeejmmobmaaGreat
open Go.RowKit Go.Maps
set_option maxRecDepth 100000
set_option linter.unusedVariables false
open Mk.Al in
def putH (I : Nat → List Int) (B n : Nat) (ys : List Int) : Nat → List Int := fun k => if k = n * B + 1 then Mk.groupL (n : Int) ys else I k
section
variable [Inhabited Past] {w w' : World} {v : Nat} {F : Nat → Prop} {N : Nat} {I : Nat → List Int} {l c G B Q : Nat}
open Mk.Al in
set_option maxHeartbeats 4000000 in
theorem turn_ok (h : Vol w v F N I l c) (hg : Geo G B Q N) {n : Nat} (hn : n < G) {ys : List Int} (hI : I (n * B + 1) = Mk.groupL (n : Int) ys) (hl : ys.length = 40) (hy : Mk.Num.Byt ys) (hl1 : l + 1 ≤ 10000) (r : Bool) (i : Nat) (hi : i / 8 < rLen r)
  (q : Option Addr) (m d : Nat) (zs : List Int) (hz : Pt.II w q m zs) (hqv : ∀ k, Pt.blkOf q = some k → k ≠ v) (hk : zs.all (Pt.kn l) = true) (hm : m ≤ 100000) :
  Calls Tryz.prog 134 #[.pointer (some ⟨v, 0, none⟩), Mk.geomV G B Q, spotV n ys r i, .slice q m d] w fun e w' => e = .returned (.tuple #[.int .i64 ((l + 1 : Nat) : Int), .int .i64 0]) ∧ ∃ F', Vol w' v F' N (putH I B n (putY r ys i (!Mk.Bit.on (rowOf r ys) i))) (l + 1) c ∧ Pt.Stp F F' w w' := by
 have hfit := hg.fit
 have hhd := hg.hd hn (show 1 < B by omega)
 have hgm : Mk.GMay (n : Int) := ⟨by omega, by omega⟩
 have hrl : rLen r ≤ 32 ∧ rAt r + rLen r ≤ 40 := by unfold rAt rLen; cases r <;> simp
 obtain ⟨ys', hys'⟩ : ∃ ys', putY r ys i (!Mk.Bit.on (rowOf r ys) i) = ys' := ⟨_, rfl⟩
 have hl' : ys'.length = 40 := by rw [← hys']; exact putY_len r hl _ _
 have hy' : Mk.Num.Byt ys' := by rw [← hys']; exact putY_byt r hy _ _
 have hput : Mk.groupL (n : Int) ys' = Mk.Bit.put (Mk.groupL (n : Int) ys) (kAt r i) (!Mk.Bit.on (rowOf r ys) i) := by rw [← hys']; exact groupL_put _ r hl hgm hi _
 have hon := on_row (n : Int) r hl hgm hi
 have hKd := kAt_div r i
 have hgl := Mk.groupL_len (n : Int) ys hl
 have hgb := Mk.groupL_byt (n : Int) ys hy
 obtain ⟨W, hW⟩ : ∃ W, (w.alloc (Mk.geomO G B Q)).alloc (spotO n ys r i) = W := ⟨_, rfl⟩
 have hb : Below w.heap.size w W := by rw [← hW]; exact ((Below.refl _ _).alloc (Nat.le_refl _) _).alloc (by simp) _
 have hx : W.heap[w.heap.size]? = some (Mk.geomO G B Q) := by rw [← hW]; exact at_old (at_new rfl)
 have hs : W.heap[w.heap.size + 1]? = some (spotO n ys r i) := by rw [← hW]; exact at_new (by simp)
 have hrg := spot_range hs hl
 have he1 := fun w => Mk.encodeGroup_yes (n : Int) ys hl hy hgm w
 have hof := fun w1 => Mk.Al.of_ok r (w.heap.size + 1) 0 w1
 simp only [Nat.zero_add] at hof
 rw [hys']
 have HP : Hid (putY r ys i (!Mk.Bit.on (rowOf r ys) i) = ys' ∧ Mk.groupL (n : Int) ys' = Mk.Bit.put (Mk.groupL (n : Int) ys) (kAt r i) (!Mk.Bit.on (rowOf r ys) i) ∧ Mk.Bit.on (Mk.groupL (n : Int) ys) (kAt r i) = Mk.Bit.on (rowOf r ys) i ∧ kAt r i / 8 = 4 + rAt r + i / 8 ∧ (Mk.groupL (n : Int) ys).length = 128) := ⟨hys', hput, hon, hKd, hgl⟩
 have HV : Hid (Vol w v F N I l c ∧ Below w.heap.size w W ∧ I (n * B + 1) = Mk.groupL (n : Int) ys ∧ n * B + 1 < N) := ⟨h, hb, hI, hhd⟩
 have q41 : W.cell? ⟨w.heap.size + 1, 41, none⟩ = some (.int .i64 (rI r)) := (cell_of_row _ _ 41 _ _ _ hs).trans (spot_row _ hl _ _)
 have q42 : W.cell? ⟨w.heap.size + 1, 42, none⟩ = some (.int .i64 (i : Int)) := (cell_of_row _ _ 42 _ _ _ hs).trans (spot_bit _ hl _ _)
 have HZ : Hid (Pt.II w q m zs ∧ (∀ k, Pt.blkOf q = some k → k ≠ v) ∧ v < w.heap.size) := ⟨hz, hqv, h.lt _ h.mem⟩
 clear hput hon hKd hgl h hI hhd hys' hz hqv
 go_enter Tryz.func134, Tryz.ntmps134
 go_wp2_with (first
  | (refine wpList_load_mid rfl 64 _ rfl (w.heap.size + 1) 0 rfl (Mk.groupA n ys).toList _ hrg Tryz.underlying64 rfl (Mk.info38 (n : Int) ys hl) ?_))
 refine Calls.mono (he1 _) ?_
 rintro e w1 ⟨g1, rfl, hO1, hb1⟩
 have hs1 : w1.heap[w.heap.size + 1]? = some (spotO n ys r i) := (hb1.block _ (Array.getElem?_eq_some_iff.1 hs).1).trans hs
 have c41 : w1.cell? ⟨w.heap.size + 1, 41, none⟩ = some (.int .i64 (rI r)) := (cell_of_row _ _ 41 _ _ _ hs1).trans (spot_row _ hl _ _)
 have c42 : w1.cell? ⟨w.heap.size + 1, 42, none⟩ = some (.int .i64 (i : Int)) := (cell_of_row _ _ 42 _ _ _ hs1).trans (spot_bit _ hl _ _)
 dsimp only
 go_wp2_with fail
 refine same_at (hof _) ?_
 have hbi1 := spot_bi hs1 hy hl
 have hrow := row_len r hl
 have hrby := row_byt r hy
 obtain ⟨row, hrow'⟩ : ∃ row, rowOf r ys = row := ⟨_, rfl⟩
 rw [hrow'] at hbi1 hrow hrby
 have hha := fun w2 (hb2 : Below w1.heap.size w1 w2) => Mk.has_nat (some ⟨w.heap.size + 1, rAt r + 1, none⟩) (rLen r) (rLen r) row i w2 (hbi1.kept hb2) (by omega)
 have hwi := fun w2 (hb2 : Below w1.heap.size w1 w2) => Mk.with_ok (some ⟨w.heap.size + 1, rAt r + 1, none⟩) (rLen r) (rLen r) row i (!Mk.Bit.on row i) w2 (hbi1.kept hb2) hi (by omega)
 obtain ⟨o, ho⟩ : ∃ o, Mk.Bit.on row i = o := ⟨_, rfl⟩
 rw [ho] at hha hwi
 have HQ : Hid (((spotA n ys r i).toList.take (rAt r + 1) ++ (((Mk.Bit.put row i (!o)).map (Value.int .u8)) ++ (spotA n ys r i).toList.drop (rAt r + 1 + ((Mk.Bit.put row i (!o)).map (Value.int .u8)).length))).toArray = spotA n ys' r i ∧ (Mk.Bit.put row i (!o)).length = rLen r ∧ Mk.Num.Byt (Mk.Bit.put row i (!o)) ∧ Mk.Bit.apart (Mk.groupL (n : Int) ys) (Mk.groupL (n : Int) ys') 1024 = [(kAt r i : Int)] ∧ Mk.groupL (n : Int) ys' = (Mk.groupL (n : Int) ys).set (4 + rAt r + i / 8) ((Mk.groupL (n : Int) ys').getD (4 + rAt r + i / 8) 0)) := by
  obtain ⟨p1, p2, p3, p4, p5⟩ := HP.out
  rw [hrow', ho] at p1 p2 p3
  refine ⟨?_, by rw [Mk.Bit.put_len, hrow], Mk.Bit.put_byt hrby _ _, ?_, ?_⟩
  ·have := spot_put (n : Int) hl r (i : Int) i (!o)
   rw [hrow', p1] at this
   exact this
  ·rw [p2, ← p3]
   exact apart_put hgb (by rw [p4, p5]; omega) (by unfold kAt; omega)
  ·rw [p2]
   unfold Mk.Bit.put
   rw [p4]
   exact set_getD _ _ _
 go_upto_region 3 with fail
 go_cut [13] (fun v wx => ∃ g3 cap3, v = .slice (some ⟨g3, 0, none⟩) (rLen r) cap3 ∧ Mk.Own w1.heap.size wx g3 (rLen r) cap3 (Mk.Bit.put row i (!o)) ∧ Below w1.heap.size w1 wx)
 case first =>
  go_region_with (first
   | (go_at_call 138; refine Calls.mono (hha _ (below_drewN (Below.refl _ _) _)) ?_; rintro e w2 ⟨rfl, k, rfl⟩)
   | (go_at_call 222; refine Calls.mono (hwi _ (below_drewN (Below.refl _ _) _)) ?_; rintro e w3 ⟨g3, cap3, rfl, hO3, hb3⟩))
  all_goals go_wp2_with fail
  all_goals go_meet
  all_goals exact ⟨g3, cap3, rfl, Mk.Own.base hO3 (below_drewN (Below.refl w1.heap.size w1) _).size, Mk.grew_trans (below_drewN (Below.refl _ w1) _) hb3⟩
 case rest =>
  obtain ⟨g3, cap3, rfl, hO3, hb3⟩ := hcut
  rename World => w3
  have hs3 : w3.heap[w.heap.size + 1]? = some (spotO n ys r i) := (hb3.block _ (Array.getElem?_eq_some_iff.1 hs1).1).trans hs1
  obtain ⟨W4, hW4⟩ : ∃ W4, w3.setRow (w.heap.size + 1) (spotA n ys' r i) = W4 := ⟨_, rfl⟩
  have hs4 : W4.heap[w.heap.size + 1]? = some (spotO n ys' r i) := by rw [← hW4]; exact setRow_heap _ _ _ _ _ _ hs3
  have hrg4 := spot_range hs4 hl'
  have hb4 : Below w.heap.size w3 W4 := by rw [← hW4]; exact below_setRow (Below.refl _ _) (Nat.le_succ _) _
  have hbi3 := Mk.Own.bi hO3 (by omega) HQ.out.2.2.1
  have hsrc := Mk.BI.src' hbi3
  have hcl : ((Mk.Bit.put row i (!o)).map (Value.int .u8)).length = Nat.min (rLen r) (rLen r) := by rw [List.length_map, HQ.out.2.1]; simp
  have hcf : rAt r + 1 + ((Mk.Bit.put row i (!o)).map (Value.int .u8)).length ≤ (spotA n ys r i).size := by rw [List.length_map, HQ.out.2.1, spot_size _ hl]; omega
  have hc1 := Mk.one_cells (Mk.Bit.put row i (!o))
  have he2 := fun w => Mk.encodeGroup_yes (n : Int) ys' hl' hy' hgm w
  obtain ⟨zs4, hzs4⟩ : ∃ zs4, (Mk.Bit.put row i (!o)).map (Value.int .u8) = zs4 := ⟨_, rfl⟩
  have HQ1 := HQ.out.1
  rw [hzs4] at hsrc hcl hcf hc1 HQ1
  have HQ2 : Hid (((spotA n ys r i).toList.take (rAt r + 1) ++ (zs4 ++ (spotA n ys r i).toList.drop (rAt r + 1 + zs4.length))).toArray = spotA n ys' r i) := HQ1
  clear HQ1 hbi3 hha hwi hrg he1 hc1
  have hc1 := Mk.one_cells (Mk.Bit.put row i (!o))
  rw [hzs4] at hc1
  clear hzs4
  go_wp2_with (first
   | (refine wpList_copy_own rfl _ _ 42 42 rfl 5 Tryz.underlying42 Mk.size5 (w.heap.size + 1) (rAt r + 1) (rLen r) (rLen r) ⟨g3, 0, none⟩ (rLen r) cap3 rfl rfl _ 138 hs3 zs4 hcl hsrc hcf hc1 ?_; rw [HQ2.out, hW4])
   | (refine wpList_load_mid rfl 64 _ rfl (w.heap.size + 1) 0 rfl (Mk.groupA n ys').toList _ hrg4 Tryz.underlying64 rfl (Mk.info38 (n : Int) ys' hl') ?_))
  refine Calls.mono (he2 _) ?_
  rintro e w5 ⟨g5, rfl, hO5, hb5⟩
  have hg1 := hO1.spot
  have hWs : W.heap.size = w.heap.size + 2 := by rw [← hW]; simp
  have hw1 : w1.heap.size ≤ w3.heap.size := hb3.size
  have hsz4 : W4.heap.size = w3.heap.size := by rw [← hW4]; simp [World.setRow]
  have hk1 : w5.heap[g1]? = w1.heap[g1]? := by
   rw [hb5.block g1 (by omega), ← hW4, setRow_other _ _ _ _ (by omega)]
   exact hb3.block g1 (by omega)
  have hO1' := Mk.ownsRow_kept1 (w' := w5) hO1 (fun k hk => by
   simp only [Value.ownBlock, Option.some.injEq] at hk
   subst hk
   exact hk1)
  have hbA := Mk.Own.bi hO1' (by omega) hgb
  have hbB := Mk.Own.bi hO5 (by omega) (Mk.groupL_byt (n : Int) ys' hy')
  have hap := Mk.apart_ok (some ⟨g1, 0, none⟩) (some ⟨g5, 0, none⟩) 128 128 128 128 _ _ 1024 w5 hbA hbB
  rw [show Mk.Bit.cnt 1024 = 1024 by decide, HQ.out.2.2.2.1] at hap
  have HB5 : Hid (Below w.heap.size w w5 ∧ w5.heap[w.heap.size + 1]? = some (spotO n ys' r i) ∧ w5.heap[w.heap.size]? = some (Mk.geomO G B Q) ∧ Mk.Own W4.heap.size w5 g5 128 128 (Mk.groupL (n : Int) ys') ∧ w.heap.size ≤ W4.heap.size) := by
   have e0 : w.heap.size + 1 < w3.heap.size := by have := (Array.getElem?_eq_some_iff.1 hs1).1; omega
   refine ⟨?_, (hb5.block _ (by omega)).trans hs4, ?_, hO5, by omega⟩
   ·have k1 : Below w.heap.size w w3 := (hb.trans (hb1.mono hb.size)).trans (hb3.mono (by omega))
    have k2 : Below w.heap.size w W4 := by rw [← hW4]; exact below_setRow k1 (Nat.le_succ _) _
    exact k2.trans (hb5.mono k2.size)
   ·rw [hb5.block _ (by omega), ← hW4, setRow_other _ _ _ _ (by omega), hb3.block _ (by omega), hb1.block _ (by omega)]
    exact hx
  clear hbA hbB hO1' hO1 hk1 hg1 hw1 hsz4 hWs hb5 hO5 hO3 hb3 hb4 hs1 hs3 hs4 hb1 hx hs hW hW4 hrg4 hcf hcl hsrc hc1 he2 hof hbi1
  dsimp only
  go_wp2_with fail
  refine Calls.mono hap ?_
  rintro e w6 ⟨v6, rfl, hN6, hb6⟩
  obtain ⟨p6, c6, rfl, hii⟩ := hN6.ii (by simp)
  obtain ⟨b6, o6, rfl, hcell⟩ := hii.cells (by simp)
  have q6 := hcell 0 (by simp)
  simp only [Nat.add_zero, List.getD_cons_zero] at q6
  have hq8 := fun w => Mk.run_quo8 (kAt r i) w (by unfold kAt; omega)
  rw [kAt_div] at hq8
  have hx6 : w6.heap[w.heap.size]? = some (Mk.geomO G B Q) := (hb6.block _ (Array.getElem?_eq_some_iff.1 HB5.out.2.2.1).1).trans HB5.out.2.2.1
  have hs6 : w6.heap[w.heap.size + 1]? = some (spotO n ys' r i) := (hb6.block _ (Array.getElem?_eq_some_iff.1 HB5.out.2.1).1).trans HB5.out.2.1
  have c0 := (g3_of hx6).c0
  have c1 := (g3_of hx6).c1
  have c2 := (g3_of hx6).c2
  have n0 : w6.cell? ⟨w.heap.size + 1, 0, none⟩ = some (.int .i64 (n : Int)) := (cell_of_row _ _ 0 _ _ _ hs6).trans (spot_zero _ _ _ _)
  have hK : kAt r i < 512 := by unfold kAt; omega
  obtain ⟨a, ha⟩ : ∃ a, 4 + rAt r + i / 8 = a := ⟨_, rfl⟩
  have hKa : (kAt r i : Int) / 8 = (a : Int) := by have := kAt_div r i; omega
  have ha40 : a + 1 ≤ 44 := by omega
  rw [ha] at hq8
  have HA : Hid (4 + rAt r + i / 8 = a) := ha
  clear ha
  generalize kAt r i = K at *
  have h7 := fun w => Mk.header_in (hg.inn hn) w
  have e2 : (n : Int) * B + 1 = ((n * B + 1 : Nat) : Int) := by simp
  rw [e2] at h7
  obtain ⟨x, hxe⟩ : ∃ x, n * B + 1 = x := ⟨_, rfl⟩
  rw [hxe] at h7
  clear e2 hx6 hs6 hcell hii hN6 hap
  dsimp only
  go_wp2_with fail
  refine Mk.grew_at (h7 _) ?_
  intro w7 hb7
  have hbw : Below w.heap.size w w7 := (HB5.out.1.trans (hb6.mono HB5.out.1.size)).trans (hb7.mono (Nat.le_trans HB5.out.1.size hb6.size))
  have hO7 := (HB5.out.2.2.2.1.kept hb6).kept hb7
  have hg5 := HB5.out.2.2.2.1.spot
  have hb71 : BI w7 (some ⟨g5, a, none⟩) 1 [(Mk.groupL (n : Int) ys').getD a 0] := by
   refine ⟨rfl, by omega, ?_, fun _ => ⟨g5, a, rfl, fun j hj => ?_⟩⟩
   ·have hby := Mk.groupL_byt (n : Int) ys' hy' a
    intro j
    cases j with
    | zero => exact hby
    | succ j => simp
   ·obtain rfl : j = 0 := by omega
    exact hO7.cell a (by omega)
  have hv7 := HV.out.1.later hbw
  have hwlt : w.heap.size ≤ g5 := Nat.le_trans HB5.out.2.2.2.2 hg5.1
  have hch := vol_change hv7 hl1 x a (by rw [← hxe]; exact HV.out.2.2.2) (some ⟨g5, a, none⟩) 1 (128 - a) [(Mk.groupL (n : Int) ys').getD a 0] hb71 (fun k hk => by simp only [Pt.blkOf, Option.some.injEq] at hk; have := HZ.out.2.2; omega) (by omega) (by omega) q m d zs (HZ.out.1.kept hbw) HZ.out.2.1 hk hm
  have HX : Hid (n * B + 1 = x) := hxe
  have HBW : Hid (Below w.heap.size w w7) := hbw
  clear hbw hO7 hg5 hb71 hv7 hwlt h7 hb7 hb6 hxe
  dsimp only
  go_wp2_with fail
  refine Calls.mono hch ?_
  rintro e w8 ⟨rfl, F', hv8, hst⟩
  dsimp only
  go_wp2_with fail
  go_ret2
  refine ⟨rfl, F', ?_, stp_after HBW.out hst⟩
  have e : updI I x a [(Mk.groupL (n : Int) ys').getD a 0] = putH I B n ys' := by
   funext k
   unfold updI putH
   rw [HX.out]
   by_cases hkx : k = x
   ·subst hkx
    rw [if_pos rfl, if_pos rfl]
    have hIx := HV.out.2.2.1
    rw [HX.out] at hIx
    have h5 := HQ.out.2.2.2.2
    rw [HA.out] at h5
    unfold lay
    rw [hIx]
    refine (lay_one _ _ _ ?_).trans h5.symm
    rw [HP.out.2.2.2.2]; omega
   ·rw [if_neg hkx, if_neg hkx]
  rw [← e]
  exact hv8
end
end Go.Proofs.YthdlpeejmmobmaaGreat

namespace Go.Proofs.YthdlpeejmmobmaaGreat
open Go.RowKit Go.Maps
set_option maxRecDepth 100000
set_option linter.unusedVariables false
theorem info138 (N : Int) {ys : List Int} (hl : ys.length = 40) (r : Bool) (i : Int) : (Tryz.prog.info? 138).map (·.size) = some (Mk.Al.spotA N ys r i).size := by
 rw [Mk.Al.spot_size N hl r i]
 kernel_rfl
section
variable [Inhabited Past] {w w' : World} {v : Nat} {F : Nat → Prop} {N : Nat} {I : Nat → List Int} {l c G B Q : Nat}
open Mk.Al in
set_option maxHeartbeats 4000000 in
theorem give_ok (h : Vol w v F N I l c) (hg : Geo G B Q N) {n : Nat} (hn : n < G) {ys : List Int} (hI : I (n * B + 1) = Mk.groupL (n : Int) ys) (hl : ys.length = 40) (hy : Mk.Num.Byt ys) (hl1 : l + 1 ≤ 10000) (r : Bool) (i : Nat) (hi : i < eN r B Q)
  (q : Option Addr) (m d : Nat) (zs : List Int) (hz : Pt.II w q m zs) (hqv : ∀ k, Pt.blkOf q = some k → k ≠ v) (hk : zs.all (Pt.kn l) = true) (hm : m ≤ 100000) :
  Calls Tryz.prog 68 #[.pointer (some ⟨v, 0, none⟩), Mk.geomV G B Q, spotV n ys r i, .slice q m d] w fun e w' => e = .returned (.tuple #[.int .i64 ((n * eN r B Q + i : Nat) : Int), .int .i64 ((l + 1 : Nat) : Int), .int .i64 0]) ∧ ∃ F', Vol w' v F' N (putH I B n (putY r ys i (!Mk.Bit.on (rowOf r ys) i))) (l + 1) c ∧ Pt.Stp F F' w w' := by
 have hfit := hg.fit
 have hfe := fe_lt hg.may r n
 obtain ⟨W, hW⟩ : ∃ W, (w.alloc (Mk.geomO G B Q)).alloc (spotO n ys r i) = W := ⟨_, rfl⟩
 have hb : Below w.heap.size w W := by rw [← hW]; exact ((Below.refl _ _).alloc (Nat.le_refl _) _).alloc (by simp) _
 have hx : W.heap[w.heap.size]? = some (Mk.geomO G B Q) := by rw [← hW]; exact at_old (at_new rfl)
 have hs : W.heap[w.heap.size + 1]? = some (spotO n ys r i) := by rw [← hW]; exact at_new (by simp)
 have c0 := (g3_of hx).c0
 have c1 := (g3_of hx).c1
 have c2 := (g3_of hx).c2
 have ht := turn_ok (h.later hb) hg hn hI hl hy hl1 r i (by omega) q m d zs (hz.kept hb) hqv hk hm
 obtain ⟨nw, hnw⟩ : ∃ nw, putH I B n (putY r ys i (!Mk.Bit.on (rowOf r ys) i)) = nw := ⟨_, rfl⟩
 rw [hnw] at ht ⊢
 have hmul : n * eN r B Q ≤ 8 * 256 := Nat.mul_le_mul (by omega) (by omega)
 have hnum := fun w => number_ok (G := (G : Int)) (B := (B : Int)) (I := (Q : Int)) r (n : Int) (i : Int) (by rw [eN_eq, ← Int.natCast_mul]; omega) (by omega) w
 have e1 : (n : Int) * spE r B Q + i = ((n * eN r B Q + i : Nat) : Int) := by rw [eN_eq]; simp
 rw [e1] at hnum
 have HV : Hid (Below w.heap.size w W ∧ (∀ k, F k → k < w.heap.size)) := ⟨hb, h.lt⟩
 have hinf := info138 (n : Int) hl r (i : Int)
 obtain ⟨y, hy0⟩ : ∃ y, n * eN r B Q + i = y := ⟨_, rfl⟩
 rw [hy0] at hnum ⊢
 have HS : Hid (W.heap[w.heap.size]? = some (Mk.geomO G B Q) ∧ W.heap[w.heap.size + 1]? = some (spotO n ys r i) ∧ ys.length = 40) := ⟨hx, hs, hl⟩
 clear h hI hz hqv hk hy hl1 hnw e1 hy0 hmul hb hx
 go_enter Tryz.func68, Tryz.ntmps68
 go_wp2_with (first
  | (refine wpList_load_row rfl 138 _ rfl (w.heap.size + 1) rfl 138 _ (0, 0) _ hs Tryz.underlying138 rfl hinf ?_))
 refine Calls.mono ht ?_
 rintro e w1 ⟨rfl, F', hv1, hst⟩
 have hsz : W.heap.size = w.heap.size + 2 := by rw [← hW]; simp
 clear hW
 have hx1 : w1.heap[w.heap.size]? = some (Mk.geomO G B Q) := (hst.fr.block _ (by omega) (fun hf => by have := HV.out.2 _ hf; omega)).trans HS.out.1
 have hs1 : w1.heap[w.heap.size + 1]? = some (spotO n ys r i) := (hst.fr.block _ (by omega) (fun hf => by have := HV.out.2 _ hf; omega)).trans HS.out.2.1
 have c0 := (g3_of hx1).c0
 have c1 := (g3_of hx1).c1
 have c2 := (g3_of hx1).c2
 have n0 : w1.cell? ⟨w.heap.size + 1, 0, none⟩ = some (.int .i64 (n : Int)) := (cell_of_row _ _ 0 _ _ _ hs1).trans (spot_zero _ _ _ _)
 have n41 : w1.cell? ⟨w.heap.size + 1, 41, none⟩ = some (.int .i64 (rI r)) := (cell_of_row _ _ 41 _ _ _ hs1).trans (spot_row _ HS.out.2.2 _ _)
 have n42 : w1.cell? ⟨w.heap.size + 1, 42, none⟩ = some (.int .i64 (i : Int)) := (cell_of_row _ _ 42 _ _ _ hs1).trans (spot_bit _ HS.out.2.2 _ _)
 have HR : Hid (Vol w1 v F' N nw (l + 1) c ∧ Pt.Stp F F' W w1) := ⟨hv1, hst⟩
 clear hv1 hst hs hx1 hs1 ht
 dsimp only
 go_wp2_with fail
 refine Mk.grew_at (hnum _) ?_
 intro w2 hb2
 dsimp only
 go_wp2_with fail
 go_ret3
 exact ⟨rfl, F', HR.out.1.later hb2, stp_grown (stp_after HV.out.1 HR.out.2) hb2⟩
end
end Go.Proofs.YthdlpeejmmobmaaGreat

namespace Go.Proofs.YthdlpeejmmobmaaGreat
open Go.RowKit Go.Maps
set_option maxRecDepth 100000
set_option linter.unusedVariables false
theorem splice_app (A B vs : List Value) (k n : Nat) (h : n = A.length + k) : splice (A ++ B) n vs = A ++ splice B k vs := by
 subst h
 unfold splice
 rw [List.take_length_add_append, Nat.add_assoc, List.drop_length_add_append, List.append_assoc]
theorem zero138 : (Tryz.prog.info? 138).bind (·.zero) = some (.agg (Mk.Al.spotL 0 (Mk.zers 40) false 0).toArray) := by kernel_rfl
theorem built_spot (N : Int) {ys : List Int} (hl : ys.length = 40) (r : Bool) (i : Int) : Tryz.prog.built 138 [(0, Mk.groupV N ys), (1, .int .i64 (Mk.Al.rI r)), (2, .int .i64 i)] = some (Mk.Al.spotA N ys r i) := by
 obtain ⟨it, hit, hz⟩ := Option.bind_eq_some_iff.1 zero138
 have hp : List.mapM (fun f : Field => Option.map (fun i => (f.offset, i.size)) (Tryz.prog.info? f.type))
    [{ name := "header", type := 64, offset := 0, embedded := false, tag := "", pkgPath := "bollard/alloc",
        byteOffset := 0 },
     { name := "row", type := 134, offset := 41, embedded := false, tag := "", pkgPath := "bollard/alloc",
       byteOffset := 48 },
     { name := "bit", type := 3, offset := 42, embedded := false, tag := "", pkgPath := "bollard/alloc",
       byteOffset := 56 }] = some [(0, 41), (41, 1), (42, 1)] := by kernel_rfl
 unfold Program.built
 rw [hit, Tryz.underlying138]
 simp only [hz, hp]
 show Instr.fill _ (Mk.Al.spotL 0 (Mk.zers 40) false 0).toArray _ = _
 have hgl : (.int .i64 N :: ys.map (Value.int .u8)).length = 41 := by simp [hl]
 have hz0 : (Mk.Al.spotL 0 (Mk.zers 40) false 0).length = 43 := by simp [Mk.Al.spotL, Mk.zers_len]
 rw [fill_step _ _ (.int .i64 N :: ys.map (Value.int .u8)) 0 0 41 _ _ rfl rfl hgl (by rw [hz0]; decide)]
 have e1 : splice (Mk.Al.spotL 0 (Mk.zers 40) false 0) 0 (.int .i64 N :: ys.map (Value.int .u8)) = (.int .i64 N :: ys.map (Value.int .u8)) ++ [.int .i64 0, .int .i64 0] := by
  unfold splice
  rw [hgl]
  simp [Mk.Al.spotL, Mk.zers, Mk.Al.rI]
 rw [e1, fill_step _ _ [.int .i64 (Mk.Al.rI r)] 1 41 1 _ _ rfl rfl rfl (by simp [hl])]
 have e2 : splice ((.int .i64 N :: ys.map (Value.int .u8)) ++ [.int .i64 0, .int .i64 0]) 41 [.int .i64 (Mk.Al.rI r)] = (.int .i64 N :: ys.map (Value.int .u8)) ++ [.int .i64 (Mk.Al.rI r), .int .i64 0] := by
  rw [splice_app _ _ _ 0 41 (by rw [hgl])]
  rfl
 rw [e2, fill_step _ _ [.int .i64 i] 2 42 1 _ _ rfl rfl rfl (by simp [hl])]
 have e3 : splice ((.int .i64 N :: ys.map (Value.int .u8)) ++ [.int .i64 (Mk.Al.rI r), .int .i64 0]) 42 [.int .i64 i] = Mk.Al.spotL N ys r i := by
  rw [splice_app _ _ _ 1 42 (by rw [hgl])]
  rfl
 rw [e3]
 rfl
theorem zeroSpot : Mk.Al.spotA 0 (Mk.zers 40) false 0 = #[.int .i64 0, .int .u8 0, .int .u8 0, .int .u8 0, .int .u8 0, .int .u8 0, .int .u8 0, .int .u8 0, .int .u8 0, .int .u8 0, .int .u8 0, .int .u8 0, .int .u8 0, .int .u8 0, .int .u8 0, .int .u8 0, .int .u8 0, .int .u8 0, .int .u8 0, .int .u8 0, .int .u8 0, .int .u8 0, .int .u8 0, .int .u8 0, .int .u8 0, .int .u8 0, .int .u8 0, .int .u8 0, .int .u8 0, .int .u8 0, .int .u8 0, .int .u8 0, .int .u8 0, .int .u8 0, .int .u8 0, .int .u8 0, .int .u8 0, .int .u8 0, .int .u8 0, .int .u8 0, .int .u8 0, .int .i64 0, .int .i64 0] := by kernel_rfl
theorem range_row {w : World} {b : Nat} {cs : Array Value} {t : TypeId} {fr : Nat × Nat} (h : w.heap[b]? = some (.cells cs t fr)) : w.rangeAt b 0 cs.toList := by
 intro j v hj
 rw [Nat.zero_add]
 have hj2 : cs[j]? = some v := by simpa using hj
 simp [World.cell?, h, hj2]
section
variable [Inhabited Past] {w w' : World} {v : Nat} {F : Nat → Prop} {N : Nat} {I : Nat → List Int} {l c G B Q : Nat}
end
end Go.Proofs.YthdlpeejmmobmaaGreat
