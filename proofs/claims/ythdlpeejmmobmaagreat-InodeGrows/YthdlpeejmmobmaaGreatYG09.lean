/- PShelf PRise PNumb PLay PPlan1 -/
import Derived.Shelf.Small.Bits
import Derived.Shelf.Small.Wraps
import Derived.Shelf.Strconv.Itoa0
import Derived.Shelf.Sort.Plain
import Derived.Shelf.Bits.Mul64
import Derived.Shelf.Slices.Turned
import Derived.Shelf.Slices.Equal
import Derived.Ground.Names2Prog
import Derived.Shelf.Slices.Clone
import Derived.Shelf.Slices.CompactI
import Derived.Shelf.Slices.SearchI
import Derived.Shelf.Slices.Cells
import Derived.Shelf.Slices.In.SortNone
import Derived.Shelf.Slices.Empties2
import Derived.Shelf.Bytes.SlSearch0
import Derived.Ground.SlbCloneProg
import Derived.Shelf.Bytes.SlClone
import Derived.Ground.SlgnProg
import Derived.Shelf.SlicesE.Clone
import Derived.Shelf.Bytes.SlEqualAll
import Derived.Shelf.Bytes.Small
import Derived.Test.YthdlpeejmmobmaaGreatProg
import Derived.Test.YthdlpeejmmobmaaGreatYG08
import Derived.Laws.CopyRow
import Derived.OneCell

namespace Go.Proofs.YthdlpeejmmobmaaGreat.Pt
open Go.Shelf
set_option maxRecDepth 100000
set_option linter.unusedVariables false
def sh_lays189_ren : Go.Shelf.Ren := ⟨fun | 189 => 212 | 125 => 271 | 257 => 270 | 128 => 302 | 129 => 303 | 294 => 293 | 295 => 294 | 296 => 295 | 297 => 296 | 298 => 297 | 299 => 298 | 216 => 299 | 300 => 300 | 301 => 301 | 328 => 310 | 329 => 311 | 330 => 312 | 331 => 313 | 332 => 314 | 215 => 315 | 343 => 316 | n => n, fun | 28 => 49 | 3 => 3 | 46 => 27 | 0 => 0 | 51 => 88 | 53 => 410 | 4 => 4 | 183 => 403 | 182 => 402 | 131 => 70 | 5 => 5 | 9 => 9 | 218 => 415 | 222 => 237 | 228 => 420 | 229 => 220 | n => n, fun | n => n⟩
theorem sh_lays189 : Go.Proofs.Lays.n189 Tryz.prog sh_lays189_ren := {
 mixed := by kernel_rfl
 f125 := Tryz.func271.trans (congrArg some (by kernel_rfl))
 f128 := Tryz.func302.trans (congrArg some (by kernel_rfl))
 f129 := Tryz.func303.trans (congrArg some (by kernel_rfl))
 f189 := Tryz.func212.trans (congrArg some (by kernel_rfl))
 f215 := Tryz.func315.trans (congrArg some (by kernel_rfl))
 f216 := Tryz.func299.trans (congrArg some (by kernel_rfl))
 f257 := Tryz.func270.trans (congrArg some (by kernel_rfl))
 f294 := Tryz.func293.trans (congrArg some (by kernel_rfl))
 f295 := Tryz.func294.trans (congrArg some (by kernel_rfl))
 f296 := Tryz.func295.trans (congrArg some (by kernel_rfl))
 f297 := Tryz.func296.trans (congrArg some (by kernel_rfl))
 f298 := Tryz.func297.trans (congrArg some (by kernel_rfl))
 f299 := Tryz.func298.trans (congrArg some (by kernel_rfl))
 f300 := Tryz.func300.trans (congrArg some (by kernel_rfl))
 f301 := Tryz.func301.trans (congrArg some (by kernel_rfl))
 f328 := Tryz.func310.trans (congrArg some (by kernel_rfl))
 f329 := Tryz.func311.trans (congrArg some (by kernel_rfl))
 f330 := Tryz.func312.trans (congrArg some (by kernel_rfl))
 f331 := Tryz.func313.trans (congrArg some (by kernel_rfl))
 f332 := Tryz.func314.trans (congrArg some (by kernel_rfl))
 f343 := Tryz.func316.trans (congrArg some (by kernel_rfl))
 t0 := Tryz.underlying0
 a0 := Tryz.isAgg0
 z0 := Tryz.sizeOf0
 v0 := Tryz.zeroValue0
 t3 := Tryz.underlying3
 a3 := Tryz.isAgg3
 z3 := Tryz.sizeOf3
 v3 := Tryz.zeroValue3
 t4 := Tryz.underlying4
 a4 := Tryz.isAgg4
 z4 := Tryz.sizeOf4
 v4 := Tryz.zeroValue4
 t5 := Tryz.underlying5
 a5 := Tryz.isAgg5
 z5 := Tryz.sizeOf5
 v5 := Tryz.zeroValue5
 t9 := Tryz.underlying9
 a9 := Tryz.isAgg9
 z9 := Tryz.sizeOf9
 v9 := Tryz.zeroValue9
 t28 := Tryz.underlying49
 a28 := Tryz.isAgg49
 z28 := Tryz.sizeOf49
 v28 := Tryz.zeroValue49
 t46 := Tryz.underlying27
 a46 := Tryz.isAgg27
 z46 := Tryz.sizeOf27
 v46 := Tryz.zeroValue27
 t51 := Tryz.underlying88
 a51 := Tryz.isAgg88
 z51 := Tryz.sizeOf88
 v51 := Tryz.zeroValue88
 t53 := Tryz.underlying410
 a53 := Tryz.isAgg410
 z53 := Tryz.sizeOf410
 v53 := Tryz.zeroValue410
 t131 := Tryz.underlying70
 a131 := Tryz.isAgg70
 z131 := Tryz.sizeOf70
 v131 := Tryz.zeroValue70
 t182 := Tryz.underlying402
 a182 := Tryz.isAgg402
 z182 := Tryz.sizeOf402
 v182 := Tryz.zeroValue402
 t183 := Tryz.underlying403
 a183 := Tryz.isAgg403
 z183 := Tryz.sizeOf403
 v183 := Tryz.zeroValue403
 t218 := Tryz.underlying415
 a218 := Tryz.isAgg415
 z218 := Tryz.sizeOf415
 v218 := Tryz.zeroValue415
 t222 := Tryz.underlying237
 a222 := Tryz.isAgg237
 z222 := Tryz.sizeOf237
 v222 := Tryz.zeroValue237
 t228 := Tryz.underlying420
 a228 := Tryz.isAgg420
 z228 := Tryz.sizeOf420
 v228 := Tryz.zeroValue420
 t229 := Tryz.underlying220
 a229 := Tryz.isAgg220
 z229 := Tryz.sizeOf220
 v229 := Tryz.zeroValue220 }
open Go.Sort Go.RowKit in
theorem sh_slices_Sort_int (blk off cap : Nat) (zs : List Int) (w : World) (hH : Holds (Value.int .i64) w blk off zs.toArray) (hblk : blk < w.heap.size) (hsz : zs.length < 4611686018427387904) :
  Calls Tryz.prog 212 #[.slice (some ⟨blk, off, none⟩) zs.length cap] w fun e w' =>
   e = .returned (.tuple #[]) ∧ ∃ n os, w' = grow (putRow (Value.int .i64) (Sort.ahead w n) blk off (zs.mergeSort fun x y => decide (x ≤ y)).toArray) os := Any.slices_Sort_int sh_lays189 blk off cap zs w hH hblk hsz
def sh_lays107_ren : Go.Shelf.Ren := ⟨fun | 107 => 35 | 108 => 90 | n => n, fun | 28 => 49 | 3 => 3 | 4 => 4 | 0 => 0 | n => n, fun | n => n⟩
theorem sh_lays107 : Go.Proofs.Lays.n107 Tryz.prog sh_lays107_ren := {
 mixed := by kernel_rfl
 f107 := Tryz.func35.trans (congrArg some (by kernel_rfl))
 f108 := Tryz.func90.trans (congrArg some (by kernel_rfl))
 t0 := Tryz.underlying0
 a0 := Tryz.isAgg0
 z0 := Tryz.sizeOf0
 v0 := Tryz.zeroValue0
 t3 := Tryz.underlying3
 a3 := Tryz.isAgg3
 z3 := Tryz.sizeOf3
 v3 := Tryz.zeroValue3
 t4 := Tryz.underlying4
 a4 := Tryz.isAgg4
 z4 := Tryz.sizeOf4
 v4 := Tryz.zeroValue4
 t28 := Tryz.underlying49
 a28 := Tryz.isAgg49
 z28 := Tryz.sizeOf49
 v28 := Tryz.zeroValue49 }
open Go.Lib in
theorem sh_slices_Contains_int (b off n c : Nat) (zs : List Int) (x : Int) (w : World) (hz : n ≤ zs.length) (hbig : n ≤ 9223372036854775807) (hc : ∀ j, j < zs.length → w.cell? ⟨b, off + j, none⟩ = some (.int .i64 (zs.getD j 0))) :
  Calls Tryz.prog 35 #[.slice (some ⟨b, off, none⟩) n c, .int .i64 x] w fun e w' => e = .returned (.bool ((zs.take n).contains x)) ∧ w' = w := Any.slices_Contains_int sh_lays107 b off n c zs x w hz hbig hc
open Go.Lib in
theorem sh_slices_Contains_int_empty (a : Option Addr) (c : Nat) (x : Int) (w : World) :
  Calls Tryz.prog 35 #[.slice a 0 c, .int .i64 x] w fun e w' => e = .returned (.bool false) ∧ w' = w := Any.slices_Contains_int_empty sh_lays107 a c x w
def sh_laysNm220_ren : Go.Shelf.Ren := ⟨fun | 20 => 213 | n => n, fun | 22 => 49 | 3 => 3 | 4 => 4 | 0 => 0 | n => n, fun | n => n⟩
theorem sh_laysNm220 : Go.Proofs.Lays2.n20 Tryz.prog sh_laysNm220_ren := {
 mixed := by kernel_rfl
 f20 := Tryz.func213.trans (congrArg some (by kernel_rfl))
 t0 := Tryz.underlying0
 a0 := Tryz.isAgg0
 z0 := Tryz.sizeOf0
 v0 := Tryz.zeroValue0
 t3 := Tryz.underlying3
 a3 := Tryz.isAgg3
 z3 := Tryz.sizeOf3
 v3 := Tryz.zeroValue3
 t4 := Tryz.underlying4
 a4 := Tryz.isAgg4
 z4 := Tryz.sizeOf4
 v4 := Tryz.zeroValue4
 t22 := Tryz.underlying49
 a22 := Tryz.isAgg49
 z22 := Tryz.sizeOf49
 v22 := Tryz.zeroValue49
 i3 := by kernel_rfl }
open Go.RowKit Go.Lib Go.Sort in
theorem sh_slices_Compact_int (blk off cap : Nat) (zs : List Int) (w : World) (hH : Holds (Value.int .i64) w blk off zs.toArray) (hsz : zs.length ≤ 9223372036854775807) (hcap : zs.length ≤ cap) :
  Calls Tryz.prog 213 #[.slice (some ⟨blk, off, none⟩) zs.length cap] w fun e w' => e = .returned (.slice (some ⟨blk, off, none⟩) (Lib.compact zs).length cap) ∧ ∃ q, w' = putRow (Value.int .i64) (Sort.ahead w q) blk off (Lib.compact zs ++ List.replicate (zs.length - (Lib.compact zs).length) 0).toArray := Any.slices_Compact_int sh_laysNm220 blk off cap zs w hH hsz hcap
open Go.RowKit Go.Lib Go.Sort in
theorem sh_slices_Compact_int_empty (a : Option Addr) (cap : Nat) (w : World) :
  Calls Tryz.prog 213 #[.slice a 0 cap] w fun e w' => e = .returned (.slice a 0 cap) ∧ w' = w := Any.slices_Compact_int_empty sh_laysNm220 a cap w
open Go.RowKit Go.Sort in
theorem sh_slices_Sort_int_none (p : Option Addr) (cap : Nat) (w : World) :
  Calls Tryz.prog 212 #[.slice p 0 cap] w fun e w' => e = .returned (.tuple #[]) ∧ w' = w := Any.slices_Sort_int_none sh_lays189 p cap w
end Go.Proofs.YthdlpeejmmobmaaGreat.Pt

namespace Go.Proofs.YthdlpeejmmobmaaGreat.Pt
open Go.RowKit Go.Maps
set_option maxRecDepth 100000
set_option linter.unusedVariables false
def rs (zs : List Int) : List Int := Lib.compact (zs.mergeSort fun x y => decide (x ≤ y))
theorem compactTo (zs : List Int) (hs : zs.Pairwise (fun x y => x ≤ y)) : ∀ m, m ≤ zs.length →
  (Lib.compactUpTo zs.toArray m).Pairwise (fun x y => x < y) ∧ (∀ x, x ∈ Lib.compactUpTo zs.toArray m ↔ x ∈ zs.take m) ∧ (Lib.compactUpTo zs.toArray m).length ≤ m := by
 intro m
 induction m with
 | zero => intro _; exact ⟨List.Pairwise.nil, fun x => by simp [Lib.compactUpTo], Nat.le_refl _⟩
 | succ m ih =>
  intro hm
  obtain ⟨h1, h2, h3⟩ := ih (by omega)
  have hget : zs.toArray[m]! = zs.getD m 0 := by
   rw [getElem!_pos _ m (by simpa using (by omega : m < zs.length)), List.getD_eq_getElem?_getD, List.getElem?_eq_getElem (by omega)]; rfl
  rw [Lib.compactUpTo_succ, hget, take_one (by omega)]
  have hle : ∀ x ∈ zs.take m, x ≤ zs.getD m 0 := by
   intro x hx
   obtain ⟨i, hi, rfl⟩ := List.mem_take_iff_getElem.1 hx
   rw [List.getD_eq_getElem?_getD, List.getElem?_eq_getElem (by omega)]
   exact List.pairwise_iff_getElem.1 hs i m (by omega) (by omega) (by omega)
  cases hk : Lib.keeps zs.toArray m with
  | true =>
   simp only [if_true]
   refine ⟨?_, ?_, ?_⟩
   ·rw [List.pairwise_append]
    refine ⟨h1, by simp, ?_⟩
    intro x hx y hy
    simp only [List.mem_singleton] at hy
    subst hy
    have hx' := (h2 x).1 hx
    have hxl := hle x hx'
    rcases Int.lt_or_le x (zs.getD m 0) with h | h
    ·exact h
    ·exfalso
     have hxe : x = zs.getD m 0 := by omega
     obtain ⟨i, hi, hxi⟩ := List.mem_take_iff_getElem.1 hx'
     have hm0 : 0 < m := by omega
     have hprev : zs.toArray[m - 1]! = zs.getD m 0 := by
      rw [getElem!_pos _ (m - 1) (by simpa using (by omega : m - 1 < zs.length))]
      have a1 : zs[i] ≤ zs[m - 1] := by
       rcases Nat.lt_or_ge i (m - 1) with h4 | h4
       ·exact List.pairwise_iff_getElem.1 hs i (m - 1) (by omega) (by omega) h4
       ·obtain rfl : i = m - 1 := by omega
        exact Int.le_refl _
      have a2 : zs[m - 1] ≤ zs[m] := List.pairwise_iff_getElem.1 hs (m - 1) m (by omega) (by omega) (by omega)
      have a3 : zs.getD m 0 = zs[m] := by rw [List.getD_eq_getElem?_getD, List.getElem?_eq_getElem (by omega)]; rfl
      show zs[m - 1] = _
      omega
     have := Lib.keeps_neg (d := zs.toArray) hm0 (by rw [hget, hprev])
     rw [this] at hk
     cases hk
   ·intro x
    simp only [List.mem_append, List.mem_singleton, h2]
   ·simp; omega
  | false =>
   simp only [Bool.false_eq_true, if_false, List.append_nil]
   refine ⟨h1, ?_, by omega⟩
   intro x
   rw [h2, List.mem_append, List.mem_singleton]
   refine ⟨.inl, fun h => ?_⟩
   rcases h with h | h
   ·exact h
   ·subst h
    have hm0 : 0 < m := by
     rcases Nat.eq_zero_or_pos m with e | e
     ·subst e; rw [Lib.keeps_lt_one _ 0 (by omega)] at hk; cases hk
     ·exact e
    have heq : zs.toArray[m]! = zs.toArray[m - 1]! := by
     rcases Decidable.em (zs.toArray[m]! = zs.toArray[m - 1]!) with e | e
     ·exact e
     ·rw [Lib.keeps_pos e] at hk; cases hk
    rw [hget, getElem!_pos _ (m - 1) (by simpa using (by omega : m - 1 < zs.length))] at heq
    rw [heq]
    exact List.mem_take_iff_getElem.2 ⟨m - 1, by omega, rfl⟩
theorem sorted_merge (zs : List Int) : (zs.mergeSort fun x y => decide (x ≤ y)).Pairwise (fun x y => x ≤ y) := by
 have := List.pairwise_mergeSort (le := fun x y : Int => decide (x ≤ y)) (by intro a b c; simp; omega) (by intro a b; simp; omega) zs
 exact this.imp (by intro a b h; simpa using h)
theorem mem_rs (zs : List Int) (x : Int) : x ∈ rs zs ↔ x ∈ zs := by
 have := (compactTo _ (sorted_merge zs) _ (Nat.le_refl _)).2.1 x
 rw [List.take_length] at this
 exact this.trans (List.mem_mergeSort (le := fun x y : Int => decide (x ≤ y)))
theorem rs_length (zs : List Int) : (rs zs).length ≤ zs.length := by
 have := (compactTo _ (sorted_merge zs) _ (Nat.le_refl _)).2.2
 unfold rs Lib.compact
 rw [List.length_mergeSort] at this ⊢
 exact this
theorem rs_nil : rs [] = [] := by
 have := rs_length []
 exact List.eq_nil_of_length_eq_zero (by simpa using this)
theorem holds_of_row {B : Nat} {w : World} {g cap : Nat} {zs : List Int} (h : Nums B w (.slice (some ⟨g, 0, none⟩) zs.length cap) zs) : Sort.Holds (Value.int .i64) w g 0 zs.toArray := by
 intro j hj
 have hj' : j < zs.length := by simpa using hj
 constructor
 ·rw [Nat.zero_add, World.ownsRow.cellAt h j (by omega), List.getElem?_map, List.getElem?_eq_getElem hj', getElem!_pos _ j hj]
  rfl
 ·rcases h.2 with ⟨e, _⟩ | ⟨g', cap', cur, e, hbg, hg, rest⟩
  ·cases e
  ·cases e
   simp [World.frozen?, hg]
theorem below_grow' {B : Nat} {a w : World} (h : Below B a w) (hB : B ≤ w.heap.size) (os : Array Obj) : Below B a (Sort.grow w os) :=
 h.trans ⟨rfl, rfl, rfl, by simp, fun k hk => Sort.heap_grow_old w os (by omega)⟩
theorem below_ahead {B : Nat} {a w : World} (h : Below B a w) (n : Nat) : Below B a (Sort.ahead w n) := below_drewN h n
theorem below_putRow {B : Nat} {a w : World} (h : Below B a w) (g o : Nat) (hg : B ≤ g) (d : Array Int) : Below B a (Sort.putRow (Value.int .i64) w g o d) :=
 h.trans ⟨rfl, rfl, rfl, by simp, fun k hk => by
  unfold Sort.putRow Sort.mapBlock
  simp only
  rw [Array.getElem?_modify, if_neg (by omega)]⟩
set_option maxHeartbeats 1000000 in
theorem rising_ok {B : Nat} {w : World} {v : Value} {zs : List Int} (h : Nums B w v zs) (hB : B ≤ w.heap.size) (hn : zs.length ≤ 140737488355328) (hf : ∀ x ∈ zs, I64 x) :
  Calls Tryz.prog 125 #[v] w fun e w' => ∃ p c, e = .returned (.slice p (rs zs).length c) ∧ II w' p (rs zs).length (rs zs) ∧ Plain p ∧ (∀ g, blkOf p = some g → v.ownBlock = some g) ∧ Below B w w' := by
 have hfr : ∀ x ∈ rs zs, I64 x := fun x hx => hf x ((mem_rs zs x).1 hx)
 have hrl := rs_length zs
 cases zs with
 | nil =>
  rw [rs_nil]
  obtain ⟨p, c, rfl, hii, hpl⟩ := h.ii hn hf
  have s1 := sh_slices_Sort_int_none p c
  have s2 := sh_slices_Compact_int_empty p c
  have hown : ∀ g, blkOf p = some g → (Value.slice p 0 c).ownBlock = some g := by
   intro g hg
   cases p with
   | none => cases hg
   | some a => simpa [blkOf, Value.ownBlock] using hg
  go_enter Tryz.func125, Tryz.ntmps125
  go_wp2_with (first | (go_at_call 212; refine same_at (s1 _) ?_) | (go_at_call 213; refine same_at (s2 _) ?_))
  go_ret
  exact ⟨p, c, rfl, hii, hpl, hown, Below.refl _ _⟩
 | cons y ys =>
  rcases h.2 with ⟨_, e⟩ | ⟨g, cap, cur, rfl, hbg, hgc, hcap, rest⟩
  ·simp at e
  ·have hH := holds_of_row h
   have hlt : g < w.heap.size := (Array.getElem?_eq_some_iff.1 hgc).1
   have s1 := sh_slices_Sort_int g 0 cap (y :: ys) w hH hlt (by omega)
   obtain ⟨S, hS⟩ : ∃ S : List Int, S = (y :: ys).mergeSort (fun x y => decide (x ≤ y)) := ⟨_, rfl⟩
   have hSl : S.length = (y :: ys).length := by rw [hS, List.length_mergeSort]
   rw [← hS] at s1
   have hrs : rs (y :: ys) = Lib.compact S := by rw [hS]; rfl
   have hsz : S.toArray.size = (y :: ys).toArray.size := by rw [List.size_toArray, List.size_toArray, hSl]
   generalize (y :: ys).length = n at *
   have s2 : ∀ k os, Calls Tryz.prog 213 #[.slice (some ⟨g, 0, none⟩) n cap] (Sort.grow (Sort.putRow (Value.int .i64) (Sort.ahead w k) g 0 S.toArray) os) fun e w' =>
     e = .returned (.slice (some ⟨g, 0, none⟩) (rs (y :: ys)).length cap) ∧ II w' (some ⟨g, 0, none⟩) (rs (y :: ys)).length (rs (y :: ys)) ∧ Below B w w' := by
    intro k os
    have hH1 : Sort.Holds (Value.int .i64) (Sort.putRow (Value.int .i64) (Sort.ahead w k) g 0 S.toArray) g 0 S.toArray :=
     Sort.holds_putRow _ (Sort.ahead w k) g 0 _ _ (Sort.holds_ahead _ w k g 0 _ hH) hsz
    have hH2 := Sort.holds_grow (Value.int .i64) _ os g 0 _ (by simpa using hlt) hH1
    have hb0 : Below B w (Sort.grow (Sort.putRow (Value.int .i64) (Sort.ahead w k) g 0 S.toArray) os) :=
     below_grow' (below_putRow (below_ahead (Below.refl _ _) k) g 0 hbg _) (by simpa using hB) os
    have c2 := sh_slices_Compact_int g 0 cap S _ hH2 (by omega) (by omega)
    rw [hSl] at c2
    rw [hrs]
    have hcl : (Lib.compact S).length ≤ n := by rw [← hrs]; exact hrl
    refine c2.mono ?_
    rintro e w' ⟨rfl, q, rfl⟩
    refine ⟨rfl, ⟨rfl, by omega, by rw [← hrs]; exact hfr, fun h0 => ⟨g, 0, rfl, fun i hi => ?_⟩⟩, below_putRow (below_ahead hb0 q) g 0 hbg _⟩
    have := Sort.cell?_putRow (Value.int .i64) (Sort.ahead (Sort.grow (Sort.putRow (Value.int .i64) (Sort.ahead w k) g 0 S.toArray) os) q) g 0 S.toArray (Lib.compact S ++ List.replicate (n - (Lib.compact S).length) 0).toArray (Sort.holds_ahead _ _ q g 0 _ hH2) (by simp; omega) i (by simp; omega)
    rw [this, getElem!_pos _ i (by simp; omega)]
    congr 1
    congr 1
    rw [List.getD_eq_getElem?_getD, List.getElem?_eq_getElem hi]
    simp [List.getElem_append_left hi]
   clear h hH hgc rest hS hSl hrs hrl hf hsz
   go_enter Tryz.func125, Tryz.ntmps125
   go_wp2_with (first | (go_at_call 212; refine s1.mono ?_; rintro e w1 ⟨rfl, k, os, rfl⟩) | (go_at_call 213; refine (s2 _ _).mono ?_; rintro e w2 ⟨rfl, hii, hb⟩))
   go_ret
   exact ⟨_, _, rfl, hii, .inr ⟨g, 0, rfl⟩, fun g' hg' => by simpa [blkOf, Value.ownBlock] using hg', hb⟩
end Go.Proofs.YthdlpeejmmobmaaGreat.Pt

namespace Go.Proofs.YthdlpeejmmobmaaGreat.Pt
open Go.RowKit Go.Maps
set_option maxRecDepth 100000
set_option linter.unusedVariables false
def nf (C : List Int) : Int → Option Value := fun k => if k ∈ C then some (.agg #[]) else none
def cnt (U C : List Int) : Nat := (U.filter (fun x => decide (x ∈ C))).length
theorem cnt_le (U C : List Int) : cnt U C ≤ U.length := List.length_filter_le _ _
theorem cnt_mono (U C : List Int) (y : Int) : cnt U C ≤ cnt U (C ++ [y]) := by
 unfold cnt
 induction U with
 | nil => exact Nat.le_refl _
 | cons u U ih =>
  rw [List.filter_cons, List.filter_cons]
  by_cases h : u ∈ C
  ·have h2 : u ∈ C ++ [y] := List.mem_append.2 (.inl h)
   simp only [h, h2, decide_true, if_true, List.length_cons]
   omega
  ·by_cases h2 : u ∈ C ++ [y]
   ·simp only [h, h2, decide_true, decide_false, if_true, Bool.false_eq_true, if_false, List.length_cons]
    omega
   ·simp only [h, h2, decide_false, Bool.false_eq_true, if_false]
    exact ih
theorem cnt_new (U C : List Int) (y : Int) (hy : y ∈ U) (hn : y ∉ C) : cnt U C + 1 ≤ cnt U (C ++ [y]) := by
 induction U with
 | nil => cases hy
 | cons u U ih =>
  by_cases e : y = u
  ·subst e
   have hm := cnt_mono U C y
   unfold cnt at *
   rw [List.filter_cons, List.filter_cons]
   have h2 : y ∈ C ++ [y] := List.mem_append.2 (.inr (List.mem_singleton.2 rfl))
   simp only [hn, h2, decide_true, decide_false, if_true, Bool.false_eq_true, if_false, List.length_cons]
   omega
  ·have ih := ih (by rcases List.mem_cons.1 hy with h | h; exact absurd h e; exact h)
   unfold cnt at *
   rw [List.filter_cons, List.filter_cons]
   by_cases h : u ∈ C
   ·have h2 : u ∈ C ++ [y] := List.mem_append.2 (.inl h)
    simp only [h, h2, decide_true, if_true, List.length_cons]
    omega
   ·have h2 : u ∉ C ++ [y] := by
     intro h3
     rcases List.mem_append.1 h3 with h4 | h4
     ·exact h h4
     ·exact e (List.mem_singleton.1 h4).symm
    simp only [h, h2, decide_false, Bool.false_eq_true, if_false]
    exact ih
theorem Mf.mono {w : World} {mb N N' : Nat} {f : Int → Option Value} (h : Mf w mb N f) (hN : N ≤ N') : Mf w mb N' f := by
 obtain ⟨D, ho, hs, hp⟩ := h
 exact ⟨D, ho, by omega, hp⟩
def Ns (w : World) (nb : Nat) (U C : List Int) : Prop := Mf w nb (cnt U C) (nf C)
theorem ns_made (w : World) (U : List Int) : Ns (w.alloc (.map #[] 0)) w.heap.size U [] := (mf_made w _).congr (fun k _ => by simp [nf])
theorem Ns.put {w : World} {nb : Nat} {U C : List Int} (h : Ns w nb U C) (hU : U.length < 100000) (y : Int) (hy : y ∈ U) (hk : I64 y) :
  ∃ w', (Instr.mapUpdate 391 (.map (some nb)) (.int .i64 y) (.agg #[])).run Tryz.prog w = .ok () w' ∧ Ns w' nb U (C ++ [y]) ∧ w.grownBy w' (some nb) := by
 obtain ⟨d, hd⟩ := zero97_D
 have hc := cnt_le U C
 obtain ⟨w', hr, hm, hg⟩ := Mf.put h (by omega) Tryz.underlying391 y hk (.agg #[]) hd
 refine ⟨w', hr, ?_, hg⟩
 have hm2 : Mf w' nb (cnt U (C ++ [y])) (fput (nf C) y (some (.agg #[]))) := hm.mono (by
  by_cases e : y ∈ C
  ·have : (nf C y).isSome = true := by simp [nf, e]
   rw [this]
   exact cnt_mono U C y
  ·have : (nf C y).isSome = false := by simp [nf, e]
   rw [this]
   exact cnt_new U C y hy e)
 refine hm2.congr (fun k _ => ?_)
 by_cases e : k = y
 ·subst e; rw [fput_same]; simp [nf]
 ·rw [fput_other _ e]; simp [nf, e]
set_option maxHeartbeats 1000000 in
theorem add_ok {w : World} {nb : Nat} {U C : List Int} (h : Ns w nb U C) (hU : U.length < 100000) (p : Option Addr) (n c : Nat) (zs : List Int) (hz : II w p n zs) (hzU : ∀ x ∈ zs, x ∈ U) (hne : blkOf p ≠ some nb) :
  Calls Tryz.prog 281 #[.map (some nb), .slice p n c] w fun e w' => e = .returned (.tuple #[]) ∧ Ns w' nb U (C ++ zs) ∧ Frame (fun k => k = nb) w w' := by
 have hl := hz.len
 have hg := hz.big
 go_enter Tryz.func281, Tryz.ntmps281
 go_wp2_with fail
 go_loopw [8] (fun i wr => ∃ j : Nat, j ≤ n ∧ i = .int .i64 (j : Int) ∧ Ns wr nb U (C ++ zs.take j) ∧ Frame (fun k => k = nb) w wr) (fun i _ => n - (intOf i).toNat)
 case atStart => exact ⟨0, by omega, rfl, by simpa using h, Frame.refl _ _⟩
 case round =>
  obtain ⟨j, hj, rfl, hN, hF⟩ := hrel
  by_cases hlt : j < n
  ·obtain ⟨b1, o1, rfl, hc1⟩ := hz.cells (by omega)
   have e1 : wr.cell? ⟨b1, o1 + j, none⟩ = some (.int .i64 (zs.getD j 0)) := by
    have hb1 : b1 < w.heap.size := lt_of_cell (hc1 j hlt)
    rw [World.cell?_of_block (w := w) (hF.block b1 hb1 (fun e => hne (by rw [e]; rfl)))]
    exact hc1 j hlt
   have hjI : (j : Int) < (n : Int) := by omega
   have hj0 : (0 : Int) ≤ (j : Int) := by omega
   have HT : Hid _ := take_one (zs := zs) (j := j) (by omega)
   obtain ⟨w2, hr, hN2, hg2⟩ := hN.put hU (zs.getD j 0) (hzU _ (getD_mem' (by omega))) (hz.fitAt j)
   have hF2 : Frame (fun k => k = nb) w w2 := hF.trans (frame_of_grown hg2 (fun k hk => by cases hk; rfl))
   clear hc1 hN hg2
   generalize zs.getD j 0 = y at e1 HT hr hN2
   go_wp2
   go_roundw
   case rel => exact ⟨j + 1, by omega, by go_num, by rw [HT.out, ← List.append_assoc]; exact hN2, hF2⟩
   case measure => simp [intOf]; omega
  ·obtain rfl : j = n := by omega
   rw [List.take_of_length_le (by omega)] at hN
   go_wp2
   go_end0
   exact ⟨rfl, hN, hF⟩
theorem Ns.kept {w w' : World} {nb : Nat} {U C : List Int} (h : Ns w nb U C) (hb : Below w.heap.size w w') : Ns w' nb U C := Mf.kept h (hb.block nb (Mf.lt h))
end Go.Proofs.YthdlpeejmmobmaaGreat.Pt

namespace Go.Proofs.YthdlpeejmmobmaaGreat.Pt
open Go.RowKit Go.Maps
set_option maxRecDepth 100000
set_option linter.unusedVariables false
def ovr (xs : List Int) (p : Pv) : List Int := xs.take p.off ++ p.bs ++ xs.drop (p.off + p.bs.length)
theorem ovr_len {xs : List Int} {p : Pv} (h : p.off + p.bs.length ≤ xs.length) : (ovr xs p).length = xs.length := by
 unfold ovr; simp; omega
theorem byt_append {xs ys : List Int} (hx : Num.Byt xs) (hy : Num.Byt ys) : Num.Byt (xs ++ ys) := by
 intro i
 rw [List.getD_eq_getElem?_getD]
 rcases Nat.lt_or_ge i xs.length with h | h
 ·rw [List.getElem?_append_left h, ← List.getD_eq_getElem?_getD]; exact hx i
 ·rw [List.getElem?_append_right h, ← List.getD_eq_getElem?_getD]; exact hy _
theorem ovr_byt {xs : List Int} {p : Pv} (hx : Num.Byt xs) (hp : Num.Byt p.bs) : Num.Byt (ovr xs p) := byt_append (byt_append (byt_take hx _) hp) (byt_drop hx _)
theorem splice_take (cur X bs : List Value) (o : Nat) (h : cur.take 128 = X) (hX : X.length = 128) (hl : o + bs.length ≤ 128) : (cur.take o ++ bs ++ cur.drop (o + bs.length)).take 128 = X.take o ++ bs ++ X.drop (o + bs.length) := by
 have hc : 128 ≤ cur.length := by
  have := congrArg List.length h
  rw [List.length_take, hX] at this
  omega
 have e1 : (cur.take o).length = o := by rw [List.length_take]; omega
 rw [List.append_assoc, List.append_assoc, List.take_append, List.take_append, e1]
 have e2 : (cur.take o).take 128 = X.take o := by rw [← h, List.take_take, List.take_take]; congr 1; omega
 have e3 : bs.take (128 - o) = bs := List.take_of_length_le (by omega)
 have e4 : (cur.drop (o + bs.length)).take (128 - o - bs.length) = X.drop (o + bs.length) := by
  rw [← h, List.drop_take]; congr 1; omega
 rw [e2, e3, e4]
set_option maxRecDepth 100000 in
set_option maxHeartbeats 1000000 in
theorem lay_ok {B : Nat} {w : World} {g cap : Nat} {xs : List Int} (h : Own B w g 128 cap xs) (p : Pv) (hp : BI w p.bp p.bs.length p.bs) (hl : 1 ≤ p.bs.length) (ho : p.off + p.bs.length ≤ 128) :
  Calls Tryz.prog 210 #[.slice (some ⟨g, 0, none⟩) 128 cap, p.v] w fun e w' => e = .returned (.tuple #[]) ∧ Own B w' g 128 cap (ovr xs p) ∧ Frame (fun k => k = g) w w' := by
 obtain ⟨pb, po, hpe, hpc⟩ := hp.cells (by omega)
 have hxl : xs.length = 128 := h.len
 rcases h.2 with ⟨e, _⟩ | ⟨g', cap', cur, e, hbg, hgc, hnc, hcm, hcs, htk⟩
 ·cases e
 cases e
 have hglt : g < w.heap.size := (Array.getElem?_eq_some_iff.1 hgc).1
 obtain ⟨W, hW⟩ : ∃ W, w.alloc (.cells p.cells 218) = W := ⟨_, rfl⟩
 have hbW : Below w.heap.size w W := by rw [← hW]; exact (Below.refl _ w).alloc (Nat.le_refl _) _
 have hrow : ∀ k, (W.drewN k).heap[g]? = some (.cells cur 5 (0, 0)) := fun k => by
  show W.heap[g]? = _
  rw [hbW.block g hglt]; exact hgc
 have c2 : W.cell? ⟨w.heap.size, 2, none⟩ = some (.int .i64 (p.off : Int)) := by rw [← hW, cell_of_row _ _ 2 _ 218 _ (at_new rfl)]; rfl
 have c3 : W.cell? ⟨w.heap.size, 3, none⟩ = some (.slice p.bp p.bs.length p.bc) := by rw [← hW, cell_of_row _ _ 3 _ 218 _ (at_new rfl)]; rfl
 obtain ⟨NEW, hNEW⟩ : ∃ NEW, (cur.toList.take p.off ++ p.bs.map (Value.int .u8) ++ cur.toList.drop (p.off + (p.bs.map (Value.int .u8)).length)).toArray = NEW := ⟨_, rfl⟩
 have hmin : Nat.min p.bs.length (128 - p.off) = p.bs.length := Nat.min_eq_left (by omega)
 have hcp : ∀ k ty, (Builtin.copy_ #[42, 42] ty #[.slice (some ⟨g, p.off, none⟩) (128 - p.off) (cap - p.off), .slice p.bp p.bs.length p.bc]).run Tryz.prog (W.drewN k) = .ok (.int .i64 (p.bs.length : Int)) ((W.drewN k).setRow g NEW) := fun k ty => by
  have hsrc : ∀ j v, (p.bs.map (Value.int .u8))[j]? = some v → (W.drewN k).cell? ((⟨pb, po, none⟩ : Addr).add j) = some v := by
   have hk := hp.kept hbW
   rw [hpe] at hk
   exact hk.src'
  rw [hpe]
  have := run_copy_row (P := Tryz.prog) (W.drewN k) 42 42 ty 5 g p.off (128 - p.off) (cap - p.off) ⟨pb, po, none⟩ p.bs.length p.bc cur 5 (p.bs.map (Value.int .u8)) Tryz.underlying42 size5 (hrow k) (by rw [hmin]; simp) hsrc (by simp; omega) (one_cells _)
  rw [this, hNEW]
  simp [goInt]
 have hfin : ∀ k, Own B ((W.drewN k).setRow g NEW) g 128 cap (ovr xs p) ∧ Frame (fun k => k = g) w ((W.drewN k).setRow g NEW) := fun k => by
  refine ⟨⟨by simp [ovr_len (xs := xs) (p := p) (by omega), hxl], .inr ⟨g, cap, NEW, rfl, hbg, setRow_heap _ _ _ _ _ _ (hrow k), hnc, hcm, ?_, ?_⟩⟩, ?_⟩
  ·rw [← hNEW]; simp; omega
  ·rw [← hNEW]
   have := splice_take cur.toList (xs.map (Value.int .u8)) (p.bs.map (Value.int .u8)) p.off (by simpa using htk) (by simp [hxl]) (by simp; omega)
   simp only [Nat.mul_one]
   show (_ : List Value).take 128 = _
   rw [List.toList_toArray, this]
   simp [ovr, List.map_take, List.map_drop]
  ·refine ⟨hbW.os, hbW.tape, hbW.output, by simp; exact hbW.size, fun i hi hne => ?_⟩
   rw [setRow_other _ _ _ _ hne]
   exact hbW.block i hi
 have hcd : ∀ ty, (Builtin.copy_ #[42, 42] ty #[.slice (some ⟨g, p.off, none⟩) (128 - p.off) (cap - p.off), .slice p.bp p.bs.length p.bc]).run Tryz.prog W.drew = .ok (.int .i64 (p.bs.length : Int)) (W.drew.setRow g NEW) := fun ty => hcp 1 ty
 have hfd : Own B (W.drew.setRow g NEW) g 128 cap (ovr xs p) ∧ Frame (fun k => k = g) w (W.drew.setRow g NEW) := hfin 1
 have HF : Hid _ := hfd
 have hv : p.v = .agg p.cells := rfl
 clear hcp hfin hfd
 clear h hp hpc hpe htk hgc hcm hcs hrow hNEW hbW hxl hmin
 have ho1 : (p.off : Int) ≤ 128 := by omega
 have ho2 : p.off ≤ 128 := by omega
 go_enter Tryz.func210, Tryz.ntmps210
 go_wp2_with fail
 clear hW hv
 generalize p.off = off at *
 generalize p.bs.length = n at *
 generalize p.bp = bp at *
 generalize p.v = pv at *
 go_region_with (fail)
 all_goals go_end0
 all_goals exact ⟨rfl, HF.out⟩
end Go.Proofs.YthdlpeejmmobmaaGreat.Pt

namespace Go.Proofs.YthdlpeejmmobmaaGreat.Pt
open Go.RowKit Go.Maps
set_option maxRecDepth 100000
set_option linter.unusedVariables false
structure PI (B T : Nat) (w0 w : World) (a mp mb last : Nat) (P : List Pv) (K : Int → Option Value) (gs gc go gi nb ob cap : Nat) (iv : Value) (U C I : List Int) (out : List Int) : Prop where
 ps : PS B w0 a mp mb last P K
 bel : Below T w0 w
 sz : w0.heap.size = T
 rs : w.heap[gs]? = some (.cells #[.pointer (some ⟨a, 0, none⟩)] 94 (0, 0))
 rc : w.heap[gc]? = some (.cells #[.map (some nb)] 391 (0, 0))
 ro : w.heap[go]? = some (.cells #[.slice (some ⟨ob, 0, none⟩) 128 cap] 42 (0, 0))
 ri : w.heap[gi]? = some (.cells #[iv] 49 (0, 0))
 ns : Ns w nb U C
 own : Own T w ob 128 cap out
 byt : Num.Byt out
 ids : Nums T w iv I
 lo : T ≤ gs ∧ T ≤ gc ∧ T ≤ go ∧ T ≤ gi ∧ T ≤ nb
theorem own_ne {w : World} {g k : Nat} {cs ds : Array Value} {t u : TypeId} {fr fs : Nat × Nat} (h : w.heap[g]? = some (.cells cs t fr)) (h' : w.heap[k]? = some (.cells ds u fs)) (ht : t ≠ u) : g ≠ k := by
 rintro rfl
 rw [h] at h'
 simp only [Option.some.injEq, Obj.cells.injEq] at h'
 exact ht h'.2.1
theorem map_ne {w : World} {g k : Nat} {cs : Array Value} {t : TypeId} {fr : Nat × Nat} {es : Array MapEntry} {c : Nat} (h : w.heap[g]? = some (.cells cs t fr)) (h' : w.heap[k]? = some (.map es c)) : g ≠ k := by
 rintro rfl
 rw [h] at h'
 cases h'
theorem own_row5 {B : Nat} {w : World} {g n cap : Nat} {xs : List Int} (h : Own B w g n cap xs) : ∃ cs, w.heap[g]? = some (.cells cs 5 (0, 0)) := by
 rcases h.2 with ⟨e, _⟩ | ⟨g', cap', cur, e, _, hg, _⟩
 ·cases e
 ·cases e; exact ⟨_, hg⟩
theorem nums_row {B : Nat} {w : World} {v : Value} {zs : List Int} (h : Nums B w v zs) {g : Nat} (hg : v.ownBlock = some g) : ∃ cs, w.heap[g]? = some (.cells cs 3 (0, 0)) := by
 rcases h.2 with ⟨e, _⟩ | ⟨g', cap', cur, e, _, hgc, _⟩
 ·rw [e] at hg; cases hg
 ·rw [e] at hg; cases hg; exact ⟨_, hgc⟩
theorem Nums.keptAt {B : Nat} {w w' : World} {v : Value} {zs : List Int} (h : Nums B w v zs) (hb : ∀ g, v.ownBlock = some g → w'.heap[g]? = w.heap[g]?) : Nums B w' v zs := by
 refine ⟨h.1, ?_⟩
 rcases h.2 with h' | ⟨g', cap', cur, h', hbg, hg, rest⟩
 ·exact .inl h'
 ·exact .inr ⟨g', cap', cur, h', hbg, by rw [hb g' (by rw [h']; rfl)]; exact hg, rest⟩
theorem Own.keptAt {B : Nat} {w w' : World} {g n cap : Nat} {xs : List Int} (h : Own B w g n cap xs) (hb : w'.heap[g]? = w.heap[g]?) : Own B w' g n cap xs := by
 refine ⟨h.1, ?_⟩
 rcases h.2 with h' | ⟨g', cap', cur, h', hbg, hg, rest⟩
 ·exact .inl h'
 ·cases h'
  exact .inr ⟨g, cap, cur, rfl, hbg, by rw [hb]; exact hg, rest⟩
theorem frame_below {T : Nat} {x : Nat} {w0 w w' : World} (h : Below T w0 w) (hT : T ≤ w.heap.size) (F : Frame (fun k => k = x) w w') (hx : T ≤ x) : Below T w0 w' :=
 h.trans (F.below hT (fun k e => by rw [e]; exact hx))
section
variable {B T : Nat} {w0 w w' : World} {a mp mb last : Nat} {P : List Pv} {K : Int → Option Value} {gs gc go gi nb ob cap : Nat} {iv : Value} {U C I : List Int} {out : List Int}
theorem PI.hT (h : PI B T w0 w a mp mb last P K gs gc go gi nb ob cap iv U C I out) : T ≤ w.heap.size := by have := h.bel.size; rw [h.sz] at this; exact this
theorem PI.lay (h : PI B T w0 w a mp mb last P K gs gc go gi nb ob cap iv U C I out) {out' : List Int} (ho : Own T w' ob 128 cap out') (hby : Num.Byt out') (F : Frame (fun k => k = ob) w w') : PI B T w0 w' a mp mb last P K gs gc go gi nb ob cap iv U C I out' := by
 obtain ⟨cs, h5⟩ := own_row5 h.own
 have lt : ∀ {g : Nat} {o : Obj}, w.heap[g]? = some o → g < w.heap.size := fun e => (Array.getElem?_eq_some_iff.1 e).1
 obtain ⟨es, c, hm⟩ := Mf.isMap h.ns
 refine ⟨h.ps, frame_below h.bel h.hT F h.own.spot.1, h.sz, ?_, ?_, ?_, ?_, ?_, ho, hby, ?_, h.lo⟩
 ·rw [F.block gs (lt h.rs) (own_ne h.rs h5 (by decide))]; exact h.rs
 ·rw [F.block gc (lt h.rc) (own_ne h.rc h5 (by decide))]; exact h.rc
 ·rw [F.block go (lt h.ro) (own_ne h.ro h5 (by decide))]; exact h.ro
 ·rw [F.block gi (lt h.ri) (own_ne h.ri h5 (by decide))]; exact h.ri
 ·exact Mf.kept h.ns (F.block nb (lt hm) (fun e => map_ne h5 hm e.symm))
 ·refine h.ids.keptAt (fun g hg => ?_)
  obtain ⟨ds, h3⟩ := nums_row h.ids hg
  exact F.block g (lt h3) (own_ne h3 h5 (by decide))
theorem PI.add (h : PI B T w0 w a mp mb last P K gs gc go gi nb ob cap iv U C I out) {C' : List Int} (hn : Ns w' nb U C') (F : Frame (fun k => k = nb) w w') : PI B T w0 w' a mp mb last P K gs gc go gi nb ob cap iv U C' I out := by
 have lt : ∀ {g : Nat} {o : Obj}, w.heap[g]? = some o → g < w.heap.size := fun e => (Array.getElem?_eq_some_iff.1 e).1
 obtain ⟨es, c, hm⟩ := Mf.isMap h.ns
 obtain ⟨cs, h5⟩ := own_row5 h.own
 refine ⟨h.ps, frame_below h.bel h.hT F h.lo.2.2.2.2, h.sz, ?_, ?_, ?_, ?_, hn, ?_, h.byt, ?_, h.lo⟩
 ·rw [F.block gs (lt h.rs) (map_ne h.rs hm)]; exact h.rs
 ·rw [F.block gc (lt h.rc) (map_ne h.rc hm)]; exact h.rc
 ·rw [F.block go (lt h.ro) (map_ne h.ro hm)]; exact h.ro
 ·rw [F.block gi (lt h.ri) (map_ne h.ri hm)]; exact h.ri
 ·exact h.own.keptAt (F.block ob (lt h5) (map_ne h5 hm))
 ·refine h.ids.keptAt (fun g hg => ?_)
  obtain ⟨ds, h3⟩ := nums_row h.ids hg
  exact F.block g (lt h3) (map_ne h3 hm)
end
theorem grown_at {w w5 : World} {o : Obj} {B : Nat} {iv : Value} {I : List Int} {g : Nat} {u : Obj} (hN : Nums B w iv I) (hg : (w.alloc o).grownBy w5 iv.ownBlock) (hu : w.heap[g]? = some u) (hne : ∀ cs, u ≠ .cells cs 3 (0, 0)) : w5.heap[g]? = some u := by
 have hlt : g < w.heap.size := (Array.getElem?_eq_some_iff.1 hu).1
 rw [hg.block g (by simp; omega) (fun e => by
  obtain ⟨ds, h3⟩ := nums_row hN e.symm
  rw [hu] at h3
  exact hne ds (Option.some.inj h3))]
 exact at_old hu
end Go.Proofs.YthdlpeejmmobmaaGreat.Pt
