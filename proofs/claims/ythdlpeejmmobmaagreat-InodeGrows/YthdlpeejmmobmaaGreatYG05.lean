/- DOf VNew Mu Build Write Fails Bmap Collect Sort Cache Held -/
import Derived.Test.YthdlpeejmmobmaaGreatYG04
import Derived.Deep.RegionHeld3
import Derived.Test.YthdlpeejmmobmaaGreatYG03
import Derived.Conc.MuLone
import Derived.KernelRfl
import Derived.Laws.Tables
import Derived.Deep.RegionLaw
import Derived.Deep.AppendLies
import Derived.Shelf.SlIterI.Stops
import Derived.RangeFuncNested
import Derived.RangeFuncBound
import Derived.RangeFuncCalls
import Derived.RangeFuncLeaves
import Derived.RangeFuncBox
import Derived.Shelf.Abstract
import Derived.Shelf.RegionOpen
import Derived.OwnWalkIn
import Derived.TacticsInMore
import Derived.LoopNIn
import Derived.LoopIn
import Derived.Sort.WalkA
import Derived.Sort.LotA

namespace Go.Proofs.YthdlpeejmmobmaaGreat
open Go.RowKit Go.Maps
set_option linter.unusedVariables false
theorem DI.apartO {B : Nat} {w : World} {a mb fb : Nat} {qv : Value} {S : St} (h : DI B w a mb fb qv S) : a ≠ mb ∧ a ≠ fb ∧ qv.ownBlock ≠ some a ∧ qv.ownBlock ≠ some mb ∧ qv.ownBlock ≠ some fb := by
 have hr := h.row
 obtain ⟨D, ⟨es, ck, hm, _⟩, _⟩ := h.secs.ex
 obtain ⟨D', ⟨es', ck', hf, _⟩, _⟩ := h.fls.ex
 refine ⟨?_, ?_, ?_⟩
 ·rintro rfl; rw [hr] at hm; cases hm
 ·rintro rfl; rw [hr] at hf; cases hf
 rcases h.que.2 with ⟨rfl, _⟩ | ⟨g, cap, cur, rfl, _, hg, _⟩
 ·simp [Value.ownBlock]
 ·simp only [Value.ownBlock, ne_eq, Option.some.injEq]
  refine ⟨?_, ?_, ?_⟩
  ·rintro rfl; rw [hr] at hg; simp at hg
  ·rintro rfl; rw [hm] at hg; cases hg
  ·rintro rfl; rw [hf] at hg; cases hg
theorem DI.turnSecO {B : Nat} {w : World} {a mb fb : Nat} {qv : Value} {S : St} (h : DI B w a mb fb qv S) {w' : World} {f' : Nat → List Int} (hs : Secs w' mb S.N f') (hg : w.grownBy w' (some mb)) : DI B w' a mb fb qv { S with f := f' } := by
 obtain ⟨n1, n2, n3, n4, n5⟩ := h.apartO
 have ho : ∀ k, k < w.heap.size → k ≠ mb → w'.heap[k]? = w.heap[k]? := fun k hk h1 => hg.block k hk (by simpa using h1)
 exact { row := (ho a (Array.getElem?_eq_some_iff.1 h.row).1 n1).trans h.row, secs := hs, que := ownsRow_kept h.que (fun k hk => ho k (h.que.lt k hk).2 (by rintro rfl; exact n4 hk)), fls := h.fls.kept (ho fb h.fls.lt h.ne.symm), lo := h.lo, ne := h.ne, N1 := h.N1, N2 := h.N2, q64 := h.q64, qok := h.qok, lok := h.lok }
def part (L : List (List Int)) (j : Nat) : Nat → List Int := fun i => if i < j then L.getD i zer else zer
theorem part_step (L : List (List Int)) (j : Nat) (xs : List Int) (h : L[j]? = some xs) : upd (part L j) j xs = part L (j + 1) := by
 funext i
 unfold upd part
 by_cases e : i = j
 ·subst e
  rw [if_pos rfl, if_pos (by omega), List.getD_eq_getElem?_getD, h]
  rfl
 ·rw [if_neg e]
  by_cases hi : i < j
  ·rw [if_pos hi, if_pos (by omega)]
  ·rw [if_neg hi, if_neg (by omega)]
theorem part_zero (L : List (List Int)) : part L 0 = fun _ => zer := by
 funext i
 simp [part]
set_option maxRecDepth 10000 in
set_option maxHeartbeats 2000000 in
theorem of_ok (p : Option Addr) (n c : Nat) (L : List (List Int)) (w : World) (h : IB w p n L) (h1 : 1 ≤ n) (h2 : n ≤ 2048) : Calls Tryz.prog 107 #[.slice p n c] w fun e w' => Below w.heap.size w w' ∧ (((∀ xs ∈ L, xs.length = 128) ∧ ∃ a mb fb, e = .returned (.tuple #[.pointer (some ⟨a, 0, none⟩), .int .i64 0]) ∧ DI w.heap.size w' a mb fb (.slice none 0 0) ⟨n, part L n, [], 0, fun _ => 0⟩) ∨ ((∃ xs ∈ L, xs.length ≠ 128) ∧ e = .returned (.tuple #[.pointer none, .int .i64 1]))) := by
 have hlen := h.len
 go_enter Tryz.func107, Tryz.ntmps107
 go_wp2_with fail
 refine (new_ok n h1 h2 w).mono ?_
 rintro e w1 ⟨a, mb, fb, rfl, hd1, hb1⟩
 rw [← part_zero L] at hd1
 go_wp2_with fail
 go_loopw [19] (fun i wr => ∃ j : Nat, j ≤ n ∧ i = .int .i64 (j : Int) ∧ DI w.heap.size wr a mb fb (.slice none 0 0) ⟨n, part L j, [], 0, fun _ => 0⟩ ∧ (∀ xs ∈ L.take j, xs.length = 128) ∧ Below w.heap.size w wr) (fun i _ => n - (intOf i).toNat)
 case atStart => exact ⟨0, by omega, rfl, hd1, by simp, hb1⟩
 case round =>
  clear hd1 hb1
  obtain ⟨j, hj, rfl, hd, hall, hb⟩ := hrel
  by_cases hlt : j < n
  ·obtain ⟨bb, oo, rfl, hic⟩ := h.cells (by omega)
   obtain ⟨xs, hxs⟩ : ∃ xs, L[j]? = some xs := ⟨L[j], List.getElem?_eq_getElem (by omega)⟩
   obtain ⟨q, m, d, hcell, hbi⟩ := hic j xs hxs
   have hcell' := (hb.cell (p := ⟨bb, oo + j, none⟩) (lt_of_cell hcell)).trans hcell
   have hbi' := hbi.kept hb
   have hml := hbi.len
   clear hic hcell
   have hjI : (j : Int) < (n : Int) := by omega
   by_cases hm : m = 128
   ·subst hm
    have hsx : Sect xs := ⟨hml, hbi.byt⟩
    have hdd := hd.later (Below.refl _ _).drew
    have c1 := hdd.c1
    have hbid := hbi'.kept (Below.refl _ _).drew
    go_wp2_with fail
    go_region_held3 (fun w' => w'.cell? ⟨a, 1, none⟩ = some (.map (some mb))) (first | exact c1 | exact c1' | exact c1'')
     ((go_at_call 189; refine Calls.mono (sectorOf_ok _ d xs _ hbid) ?_; rintro e w3 ⟨rfl, hb3⟩; have hd3 := hdd.later hb3; have c1' := hd3.c1; obtain ⟨w4, hrun, hs4, hg4⟩ := hd3.secs.update h2 j hlt xs hsx; have hd4 := hd3.turnSecO hs4 hg4; have c1'' := hd4.c1))
    have hbw := (hb.drew.trans (hb3.mono hb.size)).grown hg4 (Nat.le_trans hb.size hb3.size) (fun k hk => by cases hk; exact hd.lo.2.1)
    rw [part_step L j xs hxs] at hd4
    clear c1 c1' c1'' hrun hs4 hg4 hd3 hdd
    go_wp2
    go_roundw
    case rel =>
     refine ⟨j + 1, by omega, by go_num, hd4, fun ys hy => ?_, hbw⟩
     rw [List.take_add_one, hxs] at hy
     rcases List.mem_append.1 hy with h' | h'
     ·exact hall ys h'
     ·simp at h'
      subst h'
      exact hml
    case measure => simp [intOf]; omega
   ·have hmI : ¬ (m : Int) = 128 := by omega
    go_wp2
    go_ret2
    exact ⟨hb, .inr ⟨⟨xs, List.mem_of_getElem? hxs, by omega⟩, rfl⟩⟩
  ·obtain rfl : n = j := by omega
   rw [List.take_of_length_le (by omega)] at hall
   go_wp2
   go_ret2
   exact ⟨hb, .inl ⟨hall, _, _, _, rfl, hd⟩⟩
end Go.Proofs.YthdlpeejmmobmaaGreat

namespace Go.Proofs.YthdlpeejmmobmaaGreat
open Go.RowKit Go.Maps
set_option linter.unusedVariables false
section
variable {w : World}
set_option maxHeartbeats 400000 in
theorem vmade_ok {v d : Nat} (hv : w.cell? ⟨v, 2, none⟩ = some (.pointer (some ⟨d, 0, none⟩))) : Calls Tryz.prog 46 #[.pointer (some ⟨v, 0, none⟩)] w fun e w' => e = .returned (.bool true) ∧ w' = w := by
 go_enter Tryz.func46, Tryz.ntmps46
 go_wp2
 go_ret
 exact ⟨rfl, rfl⟩
set_option maxHeartbeats 400000 in
theorem vblocks_ok {v d : Nat} {k : Int} (hv : w.cell? ⟨v, 2, none⟩ = some (.pointer (some ⟨d, 0, none⟩))) (hd : w.cell? ⟨d, 0, none⟩ = some (.int .i64 k)) : Calls Tryz.prog 13 #[.pointer (some ⟨v, 0, none⟩)] w fun e w' => e = .returned (.int .i64 k) ∧ w' = w := by
 have hm := vmade_ok hv
 have hb := blocks_some w d k hd
 go_enter Tryz.func13, Tryz.ntmps13
 go_wp2_with (first | (go_at_call 46; refine same_at hm ?_) | (go_at_call 47; refine same_at hb ?_))
 go_ret
 exact ⟨rfl, rfl⟩
end
end Go.Proofs.YthdlpeejmmobmaaGreat

namespace Go.Proofs.YthdlpeejmmobmaaGreat
open Go.RowKit Go.Maps Go.MuLone
set_option linter.unusedVariables false
abbrev muLink : Go.Conc.Locks.MuLink := { lock := 52, unlock := 53, ilock := 115, iunlock := 116, lockSlow := 200, unlockSlow := 203, disable := 196, enable := 198, acquire := 199, relMerge := 201, cas32 := 197, add32 := 202, tMutex := 92, tIMutex := 90, tPMutex := 208, tPIMutex := 313, tPI32 := 315, tUP := 317, tNoCopy := 87, tU32 := 88 }
theorem muLib : Go.Conc.Locks.MuLib Tryz.prog muLink :=
 ⟨Tryz.func52, Tryz.func53, Tryz.func115, Tryz.func116, Tryz.func196, Tryz.func198, Tryz.func199, Tryz.func201, Tryz.func197, Tryz.func202, Tryz.underlying90, Tryz.runUnderlying90, Tryz.sizeOf90, Tryz.isAgg90, Tryz.zeroValue90, Tryz.underlying92, Tryz.runUnderlying92, Tryz.sizeOf92, Tryz.isAgg92, Tryz.zeroValue92, Tryz.underlying208, Tryz.runUnderlying208, Tryz.sizeOf208, Tryz.isAgg208, Tryz.zeroValue208, Tryz.underlying313, Tryz.runUnderlying313, Tryz.sizeOf313, Tryz.isAgg313, Tryz.zeroValue313, Tryz.underlying315, Tryz.runUnderlying315, Tryz.sizeOf315, Tryz.isAgg315, Tryz.zeroValue315, Tryz.underlying317, Tryz.runUnderlying317, Tryz.sizeOf317, Tryz.isAgg317, Tryz.zeroValue317, Tryz.underlying87, Tryz.runUnderlying87, Tryz.sizeOf87, Tryz.isAgg87, Tryz.zeroValue87, Tryz.underlying21, Tryz.runUnderlying21, Tryz.sizeOf21, Tryz.isAgg21, Tryz.zeroValue21, by kernel_rfl⟩
def VRow (w : World) (v d c s m : Nat) (x : Option Addr) : Prop :=
 w.heap[v]? = some (.cells #[.int .i32 0, .int .u32 0, .pointer (some ⟨d, 0, none⟩), .pointer (some ⟨c, 0, none⟩), .pointer (some ⟨s, 0, none⟩), .map (some m), .pointer x] 98 (0, 0))
def VHeld (w : World) (v d c s m : Nat) (x : Option Addr) : Prop :=
 w.heap[v]? = some (.cells #[.int .i32 1, .int .u32 0, .pointer (some ⟨d, 0, none⟩), .pointer (some ⟨c, 0, none⟩), .pointer (some ⟨s, 0, none⟩), .map (some m), .pointer x] 98 (0, 0))
section
variable {w : World} {v d c s m : Nat} {x : Option Addr}
theorem VRow.held (h : VRow w v d c s m x) : VHeld (w.setCell ⟨v, 0, none⟩ (.int .i32 1)) v d c s m x := heap_setCell_same w v 0 _ 98 _ h
theorem VRow.made (h : VRow w v d c s m x) : w.cell? ⟨v, 2, none⟩ = some (.pointer (some ⟨d, 0, none⟩)) := cell_of_row w v 2 _ 98 _ h
theorem VRow.lock (h : VRow w v d c s m x) : Calls Tryz.prog 52 #[.pointer (some ⟨v, 0, none⟩)] w fun e w' => e = .returned (.tuple #[]) ∧ w' = w.setCell ⟨v, 0, none⟩ (.int .i32 1) :=
 lock_free muLib ⟨v, 0, none⟩ w (cell_of_row w v 0 _ 98 _ h) (by have h1 := h; unfold VRow at h1; simp [World.frozen?, h1])
theorem VHeld.unlock (h : VHeld w v d c s m x) (u : FrameMode) : CallsD Tryz.prog 53 #[.pointer (some ⟨v, 0, none⟩)] u w fun e u' w' => u' = u ∧ (e = .returned (.tuple #[]) ∧ w' = w.setCell ⟨v, 0, none⟩ (.int .i32 0)) :=
 unlock_deferred muLib ⟨v, 0, none⟩ u w (cell_of_row w v 0 _ 98 _ h) (by have h1 := h; unfold VHeld at h1; simp [World.frozen?, h1])
theorem VRow.back (h : VRow w v d c s m x) : (w.setCell ⟨v, 0, none⟩ (.int .i32 1)).setCell ⟨v, 0, none⟩ (.int .i32 0) = w := by
 have hv := (Array.getElem?_eq_some_iff.1 h)
 obtain ⟨hlt, hv⟩ := hv
 have e : ((w.setCell ⟨v, 0, none⟩ (.int .i32 1)).setCell ⟨v, 0, none⟩ (.int .i32 0)).heap = w.heap := by
  apply Array.ext
  ·simp [World.setCell]
  ·intro i h1 h2
   simp only [World.setCell, Array.getElem_modify]
   by_cases hi : v = i
   ·subst hi
    rw [hv]
    simp
   ·simp [hi]
 cases w
 simp only [World.setCell] at e ⊢
 rw [e]
set_option maxHeartbeats 1000000 in
theorem vlast_of (h : VRow w v d c s m x)  {R : Value → World → Prop} (hl : Calls Tryz.prog 150 #[.pointer (some ⟨s, 0, none⟩)] (w.setCell ⟨v, 0, none⟩ (.int .i32 1)) fun e w1 => ∃ r y, e = .returned r ∧ VHeld w1 v d c s m y ∧ R r w1) : Calls Tryz.prog 81 #[.pointer (some ⟨v, 0, none⟩)] w fun e w' => ∃ r y w1, e = .returned r ∧ VHeld w1 v d c s m y ∧ R r w1 ∧ w' = w1.setCell ⟨v, 0, none⟩ (.int .i32 0) := by
 have hm := vmade_ok h.made
 have hlk := h.lock
 have c4 := cell_of_row _ v 4 _ 98 _ h.held
 go_enter_defers Tryz.func81, Tryz.ntmps81
 go_wp2_with (first
  | (go_at_call 46; refine same_at hm ?_)
  | (go_at_call 52; refine Calls.mono hlk ?_; rintro e w' ⟨rfl, rfl⟩)
  | (go_at_call 150; refine Calls.mono hl ?_; rintro e w1 ⟨r, y, rfl, h1, hr⟩))
 refine leaves_cons (f := 53) (args := #[.pointer (some ⟨v, 0, none⟩)]) (by simp) (by simp [go_sem]) ?_
 refine (h1.unlock .returning).mono ?_
 rintro e u' w'' ⟨rfl, rfl, rfl⟩
 exact ⟨_, results_tmp rfl _ _ _, r, y, w1, rfl, h1, hr, rfl⟩
set_option maxHeartbeats 1000000 in
theorem vread_of (h : VRow w v d c s m x) (b : Int) {R : Value → Value → World → Prop} (hl : Calls Tryz.prog 58 #[.pointer (some ⟨v, 0, none⟩), .int .i64 b] (w.setCell ⟨v, 0, none⟩ (.int .i32 1)) fun e w1 => ∃ r q y, e = .returned (.tuple #[r, q]) ∧ VHeld w1 v d c s m y ∧ R r q w1) : Calls Tryz.prog 19 #[.pointer (some ⟨v, 0, none⟩), .int .i64 b] w fun e w' => ∃ r q y w1, e = .returned (.tuple #[r, q]) ∧ VHeld w1 v d c s m y ∧ R r q w1 ∧ w' = w1.setCell ⟨v, 0, none⟩ (.int .i32 0) := by
 have hm := vmade_ok h.made
 have hlk := h.lock
 go_enter_defers Tryz.func19, Tryz.ntmps19
 go_wp2_with (first
  | (go_at_call 46; refine same_at hm ?_)
  | (go_at_call 52; refine Calls.mono hlk ?_; rintro e w' ⟨rfl, rfl⟩)
  | (go_at_call 58; refine Calls.mono hl ?_; rintro e w1 ⟨r, q, y, rfl, h1, hr⟩))
 refine leaves_cons (f := 53) (args := #[.pointer (some ⟨v, 0, none⟩)]) (by simp) (by simp [go_sem]) ?_
 refine (h1.unlock .returning).mono ?_
 rintro e u' w'' ⟨rfl, rfl, rfl⟩
 exact ⟨_, results_tmp2 rfl _ _ _, r, q, y, w1, rfl, h1, hr, rfl⟩
end
end Go.Proofs.YthdlpeejmmobmaaGreat

namespace Go.Proofs.YthdlpeejmmobmaaGreat
open Go.RowKit Go.Maps
set_option maxRecDepth 100000
theorem put_list : ∀ (vs : List Value) (k off : Nat) (cs : List Value), off + k + vs.length ≤ cs.length →
  ((vs.zipIdx k).foldl (fun (c : Array Value) (p : Value × Nat) => c.setIfInBounds (off + p.2) p.1) cs.toArray).toList = splice cs (off + k) vs
 | [], k, off, cs, _ => by simp [splice]
 | v :: r, k, off, cs, h => by
  simp only [List.length_cons] at h
  simp only [List.zipIdx_cons, List.foldl_cons]
  have e : (cs.toArray.setIfInBounds (off + k) v) = (cs.set (off + k) v).toArray := by simp
  rw [e, put_list r (k + 1) off _ (by simp; omega)]
  unfold splice
  apply List.ext_getElem?
  intro i
  have hk : off + k < cs.length := by omega
  have e1 : (cs.set (off + k) v).take (off + (k + 1)) = cs.take (off + k) ++ [v] := by
   rw [← Nat.add_assoc, List.take_add_one]
   simp [List.take_set_of_le, hk]
  have e2 : (cs.set (off + k) v).drop (off + (k + 1) + r.length) = cs.drop (off + k + (v :: r).length) := by
   rw [List.drop_set_of_lt (by omega)]
   simp only [List.length_cons]
   congr 1; omega
  rw [e1, e2]
  simp
theorem put_arr (vs cs : List Value) (off : Nat) (h : off + vs.length ≤ cs.length) : vs.toArray.zipIdx.foldl (fun cs (c, j) => cs.setIfInBounds (off + j) c) cs.toArray = (splice cs off vs).toArray := by
 have := put_list vs 0 off cs (by simpa using h)
 apply Array.toList_inj.1
 rw [Nat.add_zero] at this
 rw [← Array.foldl_toList, Array.toList_zipIdx]
 exact this
theorem fill_step (place : Nat → Option (Nat × Nat)) (cs vs : List Value) (i off sz : Nat) (v : Value) (rest : List (Nat × Value)) (hp : place i = some (off, sz)) (hv : v.cells = vs.toArray) (hs : vs.length = sz) (hl : off + sz ≤ cs.length) :
  Instr.fill place cs.toArray ((i, v) :: rest) = Instr.fill place (splice cs off vs).toArray rest := by
 rw [Instr.fill, hp]
 simp only [hv, List.size_toArray]
 rw [if_neg (by simp [hs]; omega), put_arr vs cs off (by omega)]
end Go.Proofs.YthdlpeejmmobmaaGreat

namespace Go.Proofs.YthdlpeejmmobmaaGreat
open Go.RowKit Go.Maps
set_option maxRecDepth 100000
def St.put (S : St) (b : Nat) (xs : List Int) : St := { S with q := S.q ++ [⟨S.last + 1, b, xs⟩], last := S.last + 1 }
section
variable {B : Nat} {w : World} {a mb fb : Nat} {qv : Value} {S : St}
theorem has_true (h : DI B w a mb fb qv S) (b : Nat) (hb : b < S.N) : Calls Tryz.prog 290 #[.pointer (some ⟨a, 0, none⟩), .int .i64 (b : Int)] w fun e w' => e = .returned (.bool true) ∧ w' = w := by
 have := has_ok h (b : Int)
 rwa [show (decide (0 ≤ (b : Int)) && decide ((b : Int) < S.N)) = true by simp; omega] at this
theorem DI.apart (h : DI B w a mb fb qv S) : a ≠ mb ∧ a ≠ fb ∧ qv.ownBlock ≠ some a ∧ qv.ownBlock ≠ some mb ∧ qv.ownBlock ≠ some fb := by
 have hr := h.row
 obtain ⟨D, ⟨es, ck, hm, _⟩, _⟩ := h.secs.ex
 obtain ⟨D', ⟨es', ck', hf, _⟩, _⟩ := h.fls.ex
 refine ⟨?_, ?_, ?_⟩
 ·rintro rfl; rw [hr] at hm; cases hm
 ·rintro rfl; rw [hr] at hf; cases hf
 rcases h.que.2 with ⟨rfl, _⟩ | ⟨g, cap, cur, rfl, _, hg, _⟩
 ·simp [Value.ownBlock]
 ·simp only [Value.ownBlock, ne_eq, Option.some.injEq]
  refine ⟨?_, ?_, ?_⟩
  ·rintro rfl; rw [hr] at hg; simp at hg
  ·rintro rfl; rw [hm] at hg; cases hg
  ·rintro rfl; rw [hf] at hg; cases hg
end
end Go.Proofs.YthdlpeejmmobmaaGreat

namespace Go.Proofs.YthdlpeejmmobmaaGreat
open Go.RowKit Go.Maps
set_option maxRecDepth 100000
theorem zero3 (w : World) : (zeroValue 3).run Tryz.prog w = .ok (.int .i64 0) w := by kernel_rfl
theorem Fls.lookup {w : World} {mb N : Nat} {f : Nat → Int} (h : Fls w mb N f) (hN : N ≤ 2048) (b : Nat) (hb : b < N) :
  (Instr.lookup 72 (.map (some mb)) (.int .i64 (b : Int)) false).run Tryz.prog w = .ok (.int .i64 (f b)) w := by
 obtain ⟨D, ho, _, hat⟩ := h.ex
 obtain ⟨c, hr, hv, _⟩ := ho.lookup_int keyed3 Tryz.underlying72 Tryz.underlying3 (zero3 w) (key_of (b := b) (by omega))
 rw [hat b hb] at hv
 simp only [DataW.lit.injEq, Lit.int.injEq, true_and] at hv
 rw [hr, ← hv]
section
variable {B : Nat} {w : World} {a mb fb : Nat} {qv : Value} {S : St}
set_option maxHeartbeats 400000 in
theorem read_ok (h : DI B w a mb fb qv S) (b : Nat) (hb : b < S.N) (h0 : S.fl b = 0) : Calls Tryz.prog 269 #[.pointer (some ⟨a, 0, none⟩), .int .i64 (b : Int)] w fun e w' => ∃ g, e = .returned (.tuple #[.slice (some ⟨g, 0, none⟩) 128 128, .int .i64 0]) ∧ Own w.heap.size w' g 128 128 (S.f b) ∧ Below w.heap.size w w' := by
 have c := has_true h b hb
 have hc := h.c4
 have hl := h.fls.lookup h.N2 b hb
 rw [h0] at hl
 go_enter Tryz.func269, Tryz.ntmps269
 go_wp2_with fail
 refine same_at (made_ok h) ?_
 go_wp2_with fail
 refine same_at c ?_
 go_wp2_with fail
 refine (bytesOf_ok h b hb).mono ?_
 rintro e w1 ⟨g, rfl, ho, hb1⟩
 go_wp2
 go_ret2
 exact ⟨g, rfl, ho, hb1⟩
end
end Go.Proofs.YthdlpeejmmobmaaGreat

namespace Go.Proofs.YthdlpeejmmobmaaGreat
open Go.RowKit Go.Maps
set_option maxRecDepth 100000
set_option linter.unusedVariables false
def adr (g : Nat) : DataW Unit := .lit (.int .i64 (g : Int))
def nilD : DataW Unit := .lit (.bool false)
def ptrR : Value → Option (DataW Unit × List MemPlace)
 | .pointer none => some (nilD, [])
 | .pointer (some ⟨g, 0, none⟩) => some (adr g, [])
 | _ => none
theorem ptrR_nil : ptrR (.pointer none) = some (nilD, []) := rfl
theorem ptrR_mk (g : Nat) : ptrR (.pointer (some ⟨g, 0, none⟩)) = some (adr g, []) := rfl
theorem ptrR_inv {v : Value} {g : Nat} {ps : List MemPlace} (h : ptrR v = some (adr g, ps)) : v = .pointer (some ⟨g, 0, none⟩) := by
 unfold ptrR at h
 split at h
 ·simp [nilD, adr] at h
 ·rename_i g'
  simp [adr] at h
  obtain rfl : g' = g := by omega
  rfl
 ·cases h
theorem ptrR_inv0 {v : Value} {ps : List MemPlace} (h : ptrR v = some (nilD, ps)) : v = .pointer none := by
 unfold ptrR at h
 split at h
 ·rfl
 ·simp [nilD, adr] at h
 ·cases h
theorem zero86p (w : World) : (zeroValue 320).run Tryz.prog w = .ok (.pointer none) w := by kernel_rfl
structure Bm (w : World) (mb : Nat) (M : List (Nat × Nat)) : Prop where
 ex : ∃ D, w.ownsMap Tryz.prog 3 ptrR mb (size D) D ∧ size D = M.length ∧ (∀ x, has D x = true → ∃ p ∈ M, x = key p.1) ∧ ∀ p ∈ M, has D (key p.1) = true ∧ D.atKey (key p.1) nilD = adr p.2
 nd : (M.map (·.1)).Nodup
 sm : M.length ≤ 2048
theorem bm_made (w : World) : Bm (w.alloc (.map #[] 0)) w.heap.size [] :=
 ⟨⟨.map [], w.ownsMap_made _ _ _, rfl, fun x h => by simp [has] at h, fun p hp => by cases hp⟩, List.nodup_nil, by simp⟩
theorem Bm.lt {w : World} {mb : Nat} {M : List (Nat × Nat)} (h : Bm w mb M) : mb < w.heap.size := by
 obtain ⟨D, ho, _⟩ := h.ex
 exact ho.lt
theorem Bm.kept {w w' : World} {mb : Nat} {M : List (Nat × Nat)} (h : Bm w mb M) (hb : w'.heap[mb]? = w.heap[mb]?) : Bm w' mb M := by
 obtain ⟨D, ⟨es, c, ho, r⟩, k⟩ := h.ex
 exact ⟨⟨D, ⟨es, c, hb.trans ho, r⟩, k⟩, h.nd, h.sm⟩
theorem Bm.hit {w : World} {mb : Nat} {M : List (Nat × Nat)} (h : Bm w mb M) (p : Nat × Nat) (hp : p ∈ M) (hb : p.1 < 9223372036854775808) :
  (Instr.lookup 321 (.map (some mb)) (.int .i64 (p.1 : Int)) false).run Tryz.prog w = .ok (.pointer (some ⟨p.2, 0, none⟩)) w := by
 obtain ⟨D, ho, _, _, hat⟩ := h.ex
 obtain ⟨v, ps, hr, hv⟩ := ho.lookup keyed3 Tryz.underlying321 (zero86p w) ptrR_nil (key_of (b := p.1) hb)
 rw [(hat p hp).2] at hv
 rw [hr, ptrR_inv hv]
theorem Bm.miss {w : World} {mb : Nat} {M : List (Nat × Nat)} (h : Bm w mb M) (b : Nat) (hp : ∀ p ∈ M, ¬ p.1 = b) (hb : b < 9223372036854775808) :
  (Instr.lookup 321 (.map (some mb)) (.int .i64 (b : Int)) false).run Tryz.prog w = .ok (.pointer none) w := by
 obtain ⟨D, ho, _, hk, hat⟩ := h.ex
 obtain ⟨v, ps, hr, hv⟩ := ho.lookup keyed3 Tryz.underlying321 (zero86p w) ptrR_nil (key_of (b := b) hb)
 have hn : has D (key b) = false := by
  cases e : has D (key b) with
  | false => rfl
  | true =>
   obtain ⟨p, hm, e'⟩ := hk _ e
   exact absurd (key_inj e').symm (hp p hm)
 rw [atKey_of_not_has hn] at hv
 rw [hr, ptrR_inv0 hv]
theorem Bm.update {w : World} {mb : Nat} {M : List (Nat × Nat)} (h : Bm w mb M) (b g : Nat) (hp : ∀ p ∈ M, ¬ p.1 = b) (hb : b < 9223372036854775808) (hl : M.length < 2048) :
  ∃ w', (Instr.mapUpdate 321 (.map (some mb)) (.int .i64 (b : Int)) (.pointer (some ⟨g, 0, none⟩))).run Tryz.prog w = .ok () w' ∧ Bm w' mb (M ++ [(b, g)]) ∧ w.grownBy w' (some mb) := by
 obtain ⟨D, ho, hs, hk, hat⟩ := h.ex
 obtain ⟨w', hr, ho', hg⟩ := ho.update keyed3 Tryz.underlying321 (show size D < maxLen by unfold maxLen; omega) (key_of (b := b) hb) (ptrR_mk g)
 have hn : has D (key b) = false := by
  cases e : has D (key b) with
  | false => rfl
  | true =>
   obtain ⟨p, hm, e'⟩ := hk _ e
   exact absurd (key_inj e').symm (hp p hm)
 refine ⟨w', hr, ⟨⟨_, tight ho', ?_, ?_, ?_⟩, ?_, ?_⟩, hg⟩
 ·rw [size_put (ho.tidy keyed3), hn]; simp; omega
 ·intro x hx
  by_cases e : x = key b
  ·exact ⟨(b, g), by simp, e⟩
  ·rw [has_put_other e] at hx
   obtain ⟨p, hm, e'⟩ := hk x hx
   exact ⟨p, by simp [hm], e'⟩
 ·intro p hm
  rcases List.mem_append.1 hm with hm | hm
  ·have e : key p.1 ≠ key b := fun e => hp p hm (key_inj e)
   rw [has_put_other e, atKey_put_other e]
   exact hat p hm
  ·simp at hm
   subst hm
   exact ⟨has_put_same ho.isMap (key_is b) _, atKey_put_same ho.isMap (key_is b) _ _⟩
 ·rw [List.map_append, List.nodup_append]
  refine ⟨h.nd, by simp, ?_⟩
  intro a ha c hc e
  simp at hc
  obtain ⟨p, hm, rfl⟩ := List.mem_map.1 ha
  exact hp p hm (by omega)
 ·simp; omega
theorem filter_miss {M : List (Nat × Nat)} {b : Nat} (h : ∀ p ∈ M, ¬ p.1 = b) : M.filter (fun p => !(p.1 == b)) = M := by
 rw [List.filter_eq_self]
 intro p hp
 simpa using h p hp
theorem filter_hit {M : List (Nat × Nat)} (hd : (M.map (·.1)).Nodup) {p : Nat × Nat} (hp : p ∈ M) : (M.filter (fun q => !(q.1 == p.1))).length + 1 = M.length := by
 induction M with
 | nil => cases hp
 | cons q M ih =>
  rw [List.map_cons, List.nodup_cons] at hd
  by_cases e : q.1 = p.1
  ·have hno : ∀ r ∈ M, ¬ r.1 = p.1 := fun r hm e2 => hd.1 (List.mem_map.2 ⟨r, hm, by rw [e2, e]⟩)
   rw [List.filter_cons, filter_miss hno]
   simp [e]
  ·have hp' : p ∈ M := by
    rcases List.mem_cons.1 hp with h | h
    ·subst h; exact absurd rfl e
    ·exact h
   have ih := ih hd.2 hp'
   rw [List.filter_cons]
   have hb : (!(q.1 == p.1)) = true := by simpa using e
   rw [if_pos hb, List.length_cons, List.length_cons]
   omega
open Classical in
theorem Bm.delete {w : World} {mb : Nat} {M : List (Nat × Nat)} (h : Bm w mb M) (b : Nat) (hb : b < 9223372036854775808) (ty : TypeId) :
  ∃ w', (Builtin.delete_ #[321, 3] ty #[.map (some mb), .int .i64 (b : Int)]).run Tryz.prog w = .ok (.tuple #[]) w' ∧ Bm w' mb (M.filter (fun p => !(p.1 == b))) ∧ w.grownBy w' (some mb) := by
 obtain ⟨D, ho, hs, hk, hat⟩ := h.ex
 obtain ⟨w', hr, ho', hg⟩ := ho.drop keyed3 Tryz.underlying321 (key_of (b := b) hb) ty
 refine ⟨w', hr, ⟨⟨_, tight ho', ?_, ?_, ?_⟩, ?_, ?_⟩, hg.grown⟩
 ·have hsz := size_del (k := key b) (ho.tidy keyed3)
  by_cases e : ∃ p ∈ M, p.1 = b
  ·obtain ⟨p, hm, rfl⟩ := e
   rw [if_pos (hat p hm).1] at hsz
   have hfl := filter_hit h.nd hm
   omega
  ·have hn : ¬ has D (key b) = true := fun hh => by
    obtain ⟨p, hm, e'⟩ := hk _ hh
    exact e ⟨p, hm, (key_inj e').symm⟩
   rw [if_neg hn] at hsz
   rw [filter_miss (fun p hm e2 => e ⟨p, hm, e2⟩)]
   omega
 ·intro x hx
  by_cases e : x = key b
  ·subst e
   rw [has_del_same] at hx
   cases hx
  ·rw [has_del_other e] at hx
   obtain ⟨p, hm, e'⟩ := hk x hx
   refine ⟨p, List.mem_filter.2 ⟨hm, ?_⟩, e'⟩
   have : ¬ p.1 = b := fun e2 => e (by rw [e', e2])
   simpa using this
 ·intro p hm
  obtain ⟨hm, hne⟩ := List.mem_filter.1 hm
  have e : key p.1 ≠ key b := fun e => by
   have := key_inj e
   simp [this] at hne
  rw [has_del_other e, atKey_del_other e]
  exact hat p hm
 ·exact List.Nodup.sublist ((List.filter_sublist).map _) h.nd
 ·have := List.length_filter_le (fun p : Nat × Nat => !(p.1 == b)) M
  have := h.sm
  omega
end Go.Proofs.YthdlpeejmmobmaaGreat

namespace Go.Proofs.YthdlpeejmmobmaaGreat
open Go.RowKit Go.Shelf Go.Maps Go.Sort
set_option maxRecDepth 100000
set_option linter.unusedVariables false
attribute [local go_sem] Oper.semAt_some
def Nums (B : Nat) (w : World) (v : Value) (zs : List Int) : Prop := w.ownsRow B 3 1 v zs.length (zs.map (Value.int .i64))
end Go.Proofs.YthdlpeejmmobmaaGreat

namespace Go.Proofs.YthdlpeejmmobmaaGreat
open Go.RowKit Go.Maps
set_option maxRecDepth 100000
set_option linter.unusedVariables false
def Ar (w : World) (g n cap : Nat) (d : Array Int) : Prop := w.ownsRow g 3 1 (.slice (some ⟨g, 0, none⟩) n cap) n (d.toList.map (Value.int .i64))
theorem Ar.len {w : World} {g n cap : Nat} {d : Array Int} (h : Ar w g n cap d) : d.size = n := by
 have := h.1
 simpa using this
theorem Ar.cell {w : World} {g n cap : Nat} {d : Array Int} (h : Ar w g n cap d) (j : Nat) (hj : j < n) : w.cell? ⟨g, j, none⟩ = some (.int .i64 d[j]!) := by
 have h1 := World.ownsRow.cellAt h j (by omega)
 have hl := h.len
 rw [h1, List.getElem?_map, Array.getElem?_toList, Array.getElem?_eq_getElem (by omega)]
 simp [getElem!_pos, show j < d.size by omega]
theorem frame_drewN {X : Nat → Prop} {w w' : World} (h : Frame X w w') (k : Nat) : Frame X w (w'.drewN k) := h.trans (frame_of_below (below_drewN (Below.refl _ _) k))
end Go.Proofs.YthdlpeejmmobmaaGreat

namespace Go.Proofs.YthdlpeejmmobmaaGreat
open Go.RowKit Go.Maps
set_option maxRecDepth 100000
set_option linter.unusedVariables false
structure Bf where
 b : Nat
 u : Nat
 p : Nat
 g : Nat
 xs : List Int
structure Ch where
 bd : Nat
 hi : Nat
 mi : Nat
 L : List Bf
def bufL (f : Bf) : List Value := f.xs.map (Value.int .u8) ++ [.int .i64 (f.u : Int), .int .i64 (f.p : Int)]
def bufA (f : Bf) : Array Value := (bufL f).toArray
def bg (f : Bf) : Nat × Nat := (f.b, f.g)
structure CW (B : Nat) (w : World) (c mb d N : Nat) (C : Ch) : Prop where
 row : w.heap[c]? = some (.cells #[.pointer (some ⟨d, 0, none⟩), .int .i64 (C.bd : Int), .map (some mb), .int .i64 (C.hi : Int), .int .i64 (C.mi : Int)] 323 (0, 0))
 map : Bm w mb (C.L.map bg)
 buf : ∀ f ∈ C.L, w.heap[f.g]? = some (.cells (bufA f) 379 (0, 0))
 sec : ∀ f ∈ C.L, Sect f.xs
 gs : (C.L.map (·.g)).Nodup
 ps : ∀ f ∈ C.L, f.p ≤ 100
 bs : ∀ f ∈ C.L, f.b < N
 N12 : N ≤ 2048
 bd : 1 ≤ C.bd ∧ C.bd ≤ 64
 len : C.L.length ≤ C.bd
 lo : B ≤ c ∧ B ≤ mb ∧ ∀ f ∈ C.L, B ≤ f.g
 cnt : C.hi + C.mi ≤ 4611686018427387904
structure CI (B : Nat) (w : World) (c mb d N : Nat) (C : Ch) : Prop extends CW B w c mb d N C where
 ord : C.L.Pairwise (fun f h => f.u < h.u)
 us : ∀ f ∈ C.L, f.u ≤ C.hi + C.mi
def cfoot (c mb : Nat) (C : Ch) (k : Nat) : Prop := k = c ∨ k = mb ∨ ∃ f ∈ C.L, k = f.g
section
variable {B : Nat} {w w' : World} {c mb d N : Nat} {C : Ch}
theorem CW.in (h : CW B w c mb d N C) : ∀ k, cfoot c mb C k → B ≤ k ∧ k < w.heap.size := by
 rintro k (rfl | rfl | ⟨f, hf, rfl⟩)
 ·exact ⟨h.lo.1, (Array.getElem?_eq_some_iff.1 h.row).1⟩
 ·exact ⟨h.lo.2.1, h.map.lt⟩
 ·exact ⟨h.lo.2.2 f hf, (Array.getElem?_eq_some_iff.1 (h.buf f hf)).1⟩
theorem CW.kept (h : CW B w c mb d N C) (hb : ∀ k, cfoot c mb C k → w'.heap[k]? = w.heap[k]?) : CW B w' c mb d N C :=
 { h with row := (hb c (.inl rfl)).trans h.row, map := h.map.kept (hb mb (.inr (.inl rfl))), buf := fun f hf => (hb f.g (.inr (.inr ⟨f, hf, rfl⟩))).trans (h.buf f hf) }
theorem CW.later (h : CW B w c mb d N C) (hb : Below w.heap.size w w') : CW B w' c mb d N C :=
 h.kept fun k hk => hb.block k (h.in k hk).2
theorem CI.later (h : CI B w c mb d N C) (hb : Below w.heap.size w w') : CI B w' c mb d N C := { CW.later h.toCW hb with ord := h.ord, us := h.us }
theorem CW.c0 (h : CW B w c mb d N C) : w.cell? ⟨c, 0, none⟩ = some (.pointer (some ⟨d, 0, none⟩)) := cell_of_row _ _ 0 _ 323 _ h.row
theorem CW.c1 (h : CW B w c mb d N C) : w.cell? ⟨c, 1, none⟩ = some (.int .i64 (C.bd : Int)) := cell_of_row _ _ 1 _ 323 _ h.row
theorem CW.c2 (h : CW B w c mb d N C) : w.cell? ⟨c, 2, none⟩ = some (.map (some mb)) := cell_of_row _ _ 2 _ 323 _ h.row
theorem CW.c3 (h : CW B w c mb d N C) : w.cell? ⟨c, 3, none⟩ = some (.int .i64 (C.hi : Int)) := cell_of_row _ _ 3 _ 323 _ h.row
theorem CW.c4 (h : CW B w c mb d N C) : w.cell? ⟨c, 4, none⟩ = some (.int .i64 (C.mi : Int)) := cell_of_row _ _ 4 _ 323 _ h.row
theorem CW.used (h : CW B w c mb d N C) {f : Bf} (hf : f ∈ C.L) : w.cell? ⟨f.g, 128, none⟩ = some (.int .i64 (f.u : Int)) := by
 have hl := (h.sec f hf).1
 have e : (bufA f)[128]? = some (.int .i64 (f.u : Int)) := by
  unfold bufA bufL
  simp [hl]
 simp [World.cell?, h.buf f hf, e]
theorem CW.pins (h : CW B w c mb d N C) {f : Bf} (hf : f ∈ C.L) : w.cell? ⟨f.g, 129, none⟩ = some (.int .i64 (f.p : Int)) := by
 have hl := (h.sec f hf).1
 have e : (bufA f)[129]? = some (.int .i64 (f.p : Int)) := by
  unfold bufA bufL
  simp [hl]
 simp [World.cell?, h.buf f hf, e]
theorem CW.hit (h : CW B w c mb d N C) {f : Bf} (hf : f ∈ C.L) : (Instr.lookup 321 (.map (some mb)) (.int .i64 (f.b : Int)) false).run Tryz.prog w = .ok (.pointer (some ⟨f.g, 0, none⟩)) w :=
 h.map.hit (bg f) (List.mem_map.2 ⟨f, hf, rfl⟩) (by have := h.bs f hf; have := h.N12; show f.b < _; omega)
theorem CW.miss (h : CW B w c mb d N C) {b : Nat} (hb : b < N) (hn : ∀ f ∈ C.L, ¬ f.b = b) : (Instr.lookup 321 (.map (some mb)) (.int .i64 (b : Int)) false).run Tryz.prog w = .ok (.pointer none) w :=
 h.map.miss b (by
  intro p hp
  obtain ⟨f, hf, rfl⟩ := List.mem_map.1 hp
  exact hn f hf) (by have := h.N12; omega)
set_option maxHeartbeats 400000 in
theorem cmade_ok (h : CW B w c mb d N C) : Calls Tryz.prog 267 #[.pointer (some ⟨c, 0, none⟩)] w fun e w' => e = .returned (.bool true) ∧ w' = w := by
 have hc := h.c0
 go_enter Tryz.func267, Tryz.ntmps267
 go_wp2
 go_ret
 exact ⟨rfl, rfl⟩
set_option maxHeartbeats 400000 in
theorem refusal_ok (h : CW B w c mb d N C) (hd : Calls Tryz.prog 47 #[.pointer (some ⟨d, 0, none⟩)] w fun e w' => e = .returned (.int .i64 (N : Int)) ∧ w' = w) (b : Nat) (hb : b < N) : Calls Tryz.prog 204 #[.pointer (some ⟨c, 0, none⟩), .int .i64 (b : Int)] w fun e w' => e = .returned (.int .i64 0) ∧ w' = w := by
 have hc := h.c0
 have hm := cmade_ok h
 have h0 : (0 : Int) ≤ (b : Int) := by omega
 have h1 : (b : Int) < (N : Int) := by omega
 go_enter Tryz.func204, Tryz.ntmps204
 go_wp2_with (first | (go_at_call 267; refine same_at hm ?_) | (go_at_call 47; refine same_at hd ?_))
 go_ret
 exact ⟨rfl, rfl⟩
end
end Go.Proofs.YthdlpeejmmobmaaGreat

namespace Go.Proofs.YthdlpeejmmobmaaGreat
open Go.RowKit Go.Maps
set_option maxRecDepth 100000
set_option linter.unusedVariables false
section
variable {B : Nat} {w w' : World} {c mb d N : Nat} {C : Ch}
theorem CW.bnd (h : CW B w c mb d N C) : (C.L.map (·.b)).Nodup := by
 have := h.map.nd
 rw [List.map_map] at this
 exact this
end
end Go.Proofs.YthdlpeejmmobmaaGreat
