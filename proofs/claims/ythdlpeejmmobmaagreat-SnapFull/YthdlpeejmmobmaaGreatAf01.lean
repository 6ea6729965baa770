/- V4 WA WB WC Vo SB SC SD SE -/
import Derived.Test.YthdlpeejmmobmaaGreatAo01
import Derived.Test.YthdlpeejmmobmaaGreatAo02
import Derived.Test.YthdlpeejmmobmaaGreatAo03
import Derived.Test.YthdlpeejmmobmaaGreatAo04
import Derived.Test.YthdlpeejmmobmaaGreatAo05
import Derived.Test.YthdlpeejmmobmaaGreatAo06
import Derived.Test.YthdlpeejmmobmaaGreatAo07
import Derived.Test.YthdlpeejmmobmaaGreatAo08
import Derived.Test.YthdlpeejmmobmaaGreatAo09
import Derived.Test.YthdlpeejmmobmaaGreatAo10
import Derived.Test.YthdlpeejmmobmaaGreatAo11
import Derived.Test.YthdlpeejmmobmaaGreatAo12
import Derived.Test.YthdlpeejmmobmaaGreatAo13
import Derived.Test.YthdlpeejmmobmaaGreatAo14
import Derived.Test.YthdlpeejmmobmaaGreatAo15
import Derived.Test.YthdlpeejmmobmaaGreatAo16
import Derived.Test.YthdlpeejmmobmaaGreatAo17
import Derived.Test.YthdlpeejmmobmaaGreatAo18
import Derived.Test.YthdlpeejmmobmaaGreatAo19
import Derived.Test.YthdlpeejmmobmaaGreatAo20
import Derived.Test.YthdlpeejmmobmaaGreatAo21
import Derived.Test.YthdlpeejmmobmaaGreatAo22
import Derived.Test.YthdlpeejmmobmaaGreatAo23
import Derived.Test.YthdlpeejmmobmaaGreatAo24
import Derived.Test.YthdlpeejmmobmaaGreatAo25
import Derived.Test.YthdlpeejmmobmaaGreatAo26
import Derived.Test.YthdlpeejmmobmaaGreatAo27
import Derived.Test.YthdlpeejmmobmaaGreatAo28
import Derived.Test.YthdlpeejmmobmaaGreatAo29
import Derived.Test.YthdlpeejmmobmaaGreatAo30
import Derived.Test.YthdlpeejmmobmaaGreatAo31
import Derived.Test.YthdlpeejmmobmaaGreatAo32
import Derived.Test.YthdlpeejmmobmaaGreatAo33
import Derived.Test.YthdlpeejmmobmaaGreatAo34
import Derived.Test.YthdlpeejmmobmaaGreatAo35
import Derived.WalkKit
import Derived.WalkSpells
import Derived.WalkLawsBesides
import Derived.BigQuiet
import Derived.Deep.QuietTactic
import Derived.Laws.CopyOwn
import Derived.Lib.Bytes
import Derived.Defers
import Derived.Recover
import Derived.Lib.BufferWrite
import Derived.Lib.SlBuf
import Derived.Deep.RegionHeld3
import Derived.Deep.MidRow
import Derived.Deep.WholeRow
import Derived.Maps.OwnSet
import Derived.Maps.Views
import Derived.Maps.OwnOps
import Derived.Conc.MuLone
import Derived.KernelRfl
import Derived.Laws.Tables
import Derived.Deep.RegionLaw
import Derived.Deep.AppendLies
import Derived.Shelf.SlIterI.Stops
import Derived.RangeFuncNested
import Derived.RangeFuncBound
import Derived.RangeFuncCalls
import Derived.RangeFuncLeaves
import Derived.RangeFuncBox
import Derived.Shelf.Abstract
import Derived.Shelf.RegionOpen
import Derived.OwnWalkIn
import Derived.TacticsInMore
import Derived.LoopNIn
import Derived.LoopIn
import Derived.Sort.WalkA
import Derived.Sort.LotA
import Derived.Deep.DeepCutAuto
import Derived.Laws.EntriesVeiled
import Derived.Maps.AppendAt
import Derived.RangeFuncRecord
import Derived.Shelf.Small.Bits
import Derived.Shelf.Small.Wraps
import Derived.Shelf.Strconv.Itoa0
import Derived.Shelf.Sort.Plain
import Derived.Shelf.Bits.Mul64
import Derived.Shelf.Slices.Turned
import Derived.Shelf.Slices.Equal
import Derived.Ground.Names2Prog
import Derived.Shelf.Slices.Clone
import Derived.Shelf.Slices.CompactI
import Derived.Shelf.Slices.SearchI
import Derived.Shelf.Slices.Cells
import Derived.Shelf.Slices.In.SortNone
import Derived.Shelf.Slices.Empties2
import Derived.Shelf.Bytes.SlSearch0
import Derived.Ground.SlbCloneProg
import Derived.Shelf.Bytes.SlClone
import Derived.Ground.SlgnProg
import Derived.Shelf.SlicesE.Clone
import Derived.Shelf.Bytes.SlEqualAll
import Derived.Shelf.Bytes.Small
import Derived.Laws.CopyRow
import Derived.OneCell
import Derived.Maps.RangeWalk
import Derived.Deep.AppendSrc
import Derived.Laws.IdiomRangeMap
import Derived.Lib.AppendZerosOnto
import Derived.Laws.ResultCell
import Derived.DeepKeys2
import Derived.Deep.CutBlock
import Derived.WalkMore
import Derived.Deep.LoopGhost
import Derived.Deep.Slices
import Derived.Deep.Grids
import Derived.ProofKit
import Derived.OpenShut
import Derived.ShutString
import Derived.ChangeOld
import Derived.SizedLaws
import Derived.Lib.SmallJoins

namespace Go.Proofs.YthdlpeejmmobmaaGreat
open Go.RowKit Go.Maps
set_option linter.unusedVariables false
set_option maxRecDepth 100000

section
variable {g : Int} {B : Nat} {w w' : World} {A : At} {T : Vs}
theorem vBlocks_ok (h : VI 0 B w A T) : Calls Tryz.prog 13 #[.pointer (some ⟨A.v, 0, none⟩)] w fun e w' => e = .returned (.int .i64 (T.S.N : Int)) ∧ w' = w := vblocks_ok h.c2 h.cd.di.c0

end
end Go.Proofs.YthdlpeejmmobmaaGreat

namespace Go.Proofs.YthdlpeejmmobmaaGreat
open Go.RowKit Go.Maps
set_option linter.unusedVariables false
set_option maxRecDepth 100000

section
variable {g : Int} {B : Nat} {w w' : World} {A : At} {T T' : Vs} {V : Vw}
/-- How many keys a map has. -/
theorem mf_len {mb N : Nat} {f : Int → Option Value} (h : Pt.Mf w mb N f) : ∃ es c, w.heap[mb]? = some (.map es c) ∧ es.size ≤ N := by
  obtain ⟨D, ⟨es, clock, hb, F, hs, rfl⟩, hN, _⟩ := h
  refine ⟨es, clock, hb, ?_⟩
  rw [size_eq, length_sorted] at hN
  simpa using hN

theorem zero42 (w : World) : (zeroValue 42).run Tryz.prog w = .ok (.slice none 0 0) w := by kernel_rfl

set_option maxHeartbeats 400000 in
theorem whole_some (h : VW w A T V) : Calls Tryz.prog 119 #[.pointer (some ⟨V.x, 0, none⟩)] w fun e w' => e = .returned (.bool true) ∧ w' = w := by
  have c2 := h.c2
  clear h
  go_enter Tryz.func119, Tryz.ntmps119
  go_wp2
  go_ret
  exact ⟨rfl, rfl⟩

set_option maxHeartbeats 400000 in
theorem lacks_some (h : VW w A T V) (b : Nat) (hb : b ≤ 100000) : Calls Tryz.prog 57 #[.pointer (some ⟨V.x, 0, none⟩), .int .i64 (b : Int)] w fun e w' => e = .returned (.bool (V.K (b : Int)).isNone) ∧ w' = w := by
  have hw := whole_some h
  have c1 := h.c1
  have hl := h.mf.get (t := 205) (e := 42) Tryz.underlying205 (zero42 w) (zd := .agg [.lit (.int .i64 0), .lit (.int .i64 0)]) rfl (b : Int) ⟨by omega, by omega⟩
  have q42 := eqlNil w
  clear h
  cases hk : V.K (b : Int) with
  | none =>
    rw [hk] at hl
    have hl2 : (Instr.lookup 205 (.map (some V.m)) (.int .i64 (b : Int)) false).run Tryz.prog w = .ok (.slice none 0 0) w := hl
    clear hl hk
    go_enter Tryz.func57, Tryz.ntmps57
    go_wp2_with (first | (go_at_call 119; refine same_at hw ?_))
    go_ret
    exact ⟨rfl, rfl⟩
  | some s =>
    rw [hk] at hl
    have hl2 : (Instr.lookup 205 (.map (some V.m)) (.int .i64 (b : Int)) false).run Tryz.prog w = .ok (.slice (some ⟨s.g, 0, none⟩) 128 s.c) w := hl
    clear hl hk
    go_enter Tryz.func57, Tryz.ntmps57
    go_wp2_with (first | (go_at_call 119; refine same_at hw ?_))
    go_ret
    exact ⟨rfl, rfl⟩

end
end Go.Proofs.YthdlpeejmmobmaaGreat

namespace Go.Proofs.YthdlpeejmmobmaaGreat
open Go.RowKit Go.Maps
set_option linter.unusedVariables false
set_option maxRecDepth 100000

section
variable {g : Int} {B : Nat} {w w' : World} {A : At} {T T' : Vs} {V : Vw}
/-- Another view. -/
theorem VI.setx (h : VI g B w A T) (x' : Option Addr) : VI g B (w.setCell ⟨A.v, 6, none⟩ (.pointer x')) A { T with x := x' } := by
  have ho : ∀ k, (wfoot A T k ∨ dfoot A T k ∨ pfoot A T k) → (w.setCell ⟨A.v, 6, none⟩ (.pointer x')).heap[k]? = w.heap[k]? := fun k hk => (Frame.setCell (X := fun i => i = A.v) w (p := ⟨A.v, 6, none⟩) (.pointer x') rfl).block k (h.lt k (.inr hk)) (h.nv k hk)
  have hs : (w.setCell ⟨A.v, 6, none⟩ (.pointer x')).heap.size = w.heap.size := by simp
  exact {
    row := heap_setCell_same w A.v 6 _ 98 _ h.row
    cd := ⟨⟨h.cd.ci.toCW.kept (fun k hk => ho k (.inr (.inl (.inr hk)))), h.cd.ci.ord, h.cd.ci.us⟩, h.cd.di.kept (fun k hk => ho k (.inr (.inl (.inl hk)))), h.cd.ne⟩
    sy := h.sy
    ps := h.ps.else (by omega) (fun k hk _ => ho k (.inr (.inr hk)))
    wy := h.wy.kept (ho _ (.inl (.inl rfl)))
    wr := fun b s hs' => ⟨(h.wr b s hs').1.keptIf (fun k hk _ => ho k (.inl (.inr ⟨b, s, hs', hk⟩))), (h.wr b s hs').2⟩
    wl := fun k hk => by rw [hs]; exact h.wl k hk
    nm := h.nm
    nv := h.nv
    nw := h.nw
    nd := h.nd
    lo := ⟨h.lo.1, by rw [hs]; exact h.lo.2⟩ }

set_option maxHeartbeats 2000000 in
theorem vFreeze_ok (h : VI 0 B w A T) (hx : T.x = none) (room : Nat) (hr : room ≤ 65536) :
    Calls Tryz.prog 50 #[.pointer (some ⟨A.v, 0, none⟩), .int .i64 (room : Int)] w fun e w' => e = .returned (.int .i64 0) ∧ ∃ V, VI 0 B w' A { T with x := some ⟨V.x, 0, none⟩ } ∧ VW w' A { T with x := some ⟨V.x, 0, none⟩ } V ∧ V.K = (fun _ => none) ∧ V.room = room ∧ w.heap.size ≤ V.x ∧ w.heap.size ≤ V.m ∧ Pt.Stp (fp A T) (fp A T) w w' := by
  have hg := h.guard 1
  have hm := vmade_ok h.vrow.made
  have hlk := h.vrow.lock
  have c6 := hg.c6
  rw [hx] at c6
  obtain ⟨WL, hWL⟩ : ∃ WL, w.setCell ⟨A.v, 0, none⟩ (.int .i32 1) = WL := ⟨_, rfl⟩
  rw [hWL] at hg hlk c6
  have hsz : WL.heap.size = w.heap.size := by rw [← hWL]; simp
  have d1 : ¬ ((room : Int) < 0) := by omega
  have d2 : ¬ ((65536 : Int) < (room : Int)) := by omega
  have d3 : decide (65536 < room) = false := decide_eq_false (by omega)
  have hfz : WL.frozen? ⟨A.v, 6, none⟩ = false := by simp [World.frozen?, hg.row]
  have hmm := @run_makeMap Tryz.prog
  obtain ⟨W2, hW2⟩ : ∃ W2, (WL.alloc (.map #[] 0)).alloc (.cells #[.int .i64 (room : Int), .map (some WL.heap.size), .bool false] 207) = W2 := ⟨_, rfl⟩
  have hb1 : Below WL.heap.size WL (WL.alloc (.map #[] 0)) := (Below.refl _ _).alloc (Nat.le_refl _) _
  have hb2 : Below WL.heap.size WL W2 := by rw [← hW2]; exact hb1.alloc hb1.size _
  have hs2 : W2.heap.size = WL.heap.size + 2 := by rw [← hW2]; simp
  have h2 := hg.later hb2
  have c62 : W2.cell? ⟨A.v, 6, none⟩ = some (.pointer none) := by have := h2.c6; rw [hx] at this; exact this
  have fz2 : W2.frozen? ⟨A.v, 6, none⟩ = false := by simp [World.frozen?, h2.row]
  have hrx : W2.heap[WL.heap.size + 1]? = some (.cells #[.int .i64 (room : Int), .map (some WL.heap.size), .bool false] 207 (0, 0)) := by rw [← hW2]; exact at_new (by simp)
  have hmx : Pt.Mf W2 WL.heap.size room (fun _ => none) := by
    refine (Pt.mf_made WL room).kept ?_
    rw [← hW2]
    exact heap_alloc_old _ _ (by simp)
  have hAv := hg.lt A.v (.inl rfl)
  have h3 := h2.setx (some ⟨WL.heap.size + 1, 0, none⟩)
  have HS : Hid (WL.heap.size = w.heap.size ∧ W2.heap.size = WL.heap.size + 2 ∧ A.v < WL.heap.size) := ⟨hsz, hs2, hAv⟩
  have HV : Hid (VW (W2.setCell ⟨A.v, 6, none⟩ (.pointer (some ⟨WL.heap.size + 1, 0, none⟩))) A { T with x := some ⟨WL.heap.size + 1, 0, none⟩ } ⟨WL.heap.size + 1, WL.heap.size, room, fun _ => none⟩) := by
    have ho : ∀ k, k ≠ A.v → (W2.setCell ⟨A.v, 6, none⟩ (.pointer (some ⟨WL.heap.size + 1, 0, none⟩))).heap[k]? = W2.heap[k]? := fun k hk => Below.heap_setCell _ _ _ _ hk
    refine ⟨rfl, (ho (WL.heap.size + 1) (by omega)).trans hrx, hmx.kept (ho WL.heap.size (by omega)), (fun b s hs => by cases hs), ?_, ?_, ⟨by show WL.heap.size ≠ WL.heap.size + 1; omega, fun b s hs => by cases hs⟩, hr⟩
    · rintro k (hk | hk | ⟨b, s, hs, _⟩)
      · have hk' : k = WL.heap.size + 1 := hk
        rw [World.size_setCell]; omega
      · have hk' : k = WL.heap.size := hk
        rw [World.size_setCell]; omega
      · cases hs
    · rintro k (hk | hk | ⟨b, s, hs, _⟩) hf
      · have hk' : k = WL.heap.size + 1 := hk
        have := hg.lt k hf; omega
      · have hk' : k = WL.heap.size := hk
        have := hg.lt k hf; omega
      · cases hs
  have HB : Hid (Below WL.heap.size WL W2) := hb2
  clear hsz hs2 hrx hmx hAv hb1 hb2 h2
  go_enter_defers Tryz.func50, Tryz.ntmps50
  go_wp2_with (first
    | (go_at_call 46; refine same_at hm ?_)
    | (go_at_call 52; refine Calls.mono hlk ?_; rintro e w' ⟨rfl, hw'⟩; subst w'))
  refine leaves_cons (f := 53) (args := #[.pointer (some ⟨A.v, 0, none⟩)]) (by simp) (by simp [go_sem]) ?_
  refine (h3.vheld.unlock .returning).mono ?_
  rintro e u' w'' ⟨rfl, rfl, rfl⟩
  refine ⟨_, results_tmp rfl _ _ _, rfl, ⟨WL.heap.size + 1, WL.heap.size, room, fun _ => none⟩, h3.guard 0, HV.out.guard 0, rfl, rfl, ?_, ?_, ?_⟩
  · show w.heap.size ≤ WL.heap.size + 1
    have := HS.out.1; omega
  · show w.heap.size ≤ WL.heap.size
    have := HS.out.1; omega
  · have f1 : Pt.Frame (fp A T) WL W2 := (frame_of_below HB.out (X := fp A T)).pt fun _ h => h
    have f2 : Pt.Frame (fp A T) W2 (W2.setCell ⟨A.v, 6, none⟩ (.pointer (some ⟨WL.heap.size + 1, 0, none⟩))) := (Frame.setCell (X := fp A T) W2 (p := ⟨A.v, 6, none⟩) _ (.inl rfl)).pt fun _ h => h
    have hst : Pt.Stp (fp A T) (fp A T) WL (W2.setCell ⟨A.v, 6, none⟩ (.pointer (some ⟨WL.heap.size + 1, 0, none⟩))) := stp_trans ⟨f1, fun k hk => .inl hk⟩ ⟨f2, fun k hk => .inl hk⟩
    exact (unguard (w := w) (T := T) (T' := { T with x := some ⟨WL.heap.size + 1, 0, none⟩ }) (B := B) (by rw [hWL]; exact hst) h3).2

set_option maxHeartbeats 2000000 in
theorem vBroken_ok (h : VI 0 B w A T) (hV : VW w A T V) :
    Calls Tryz.prog 117 #[.pointer (some ⟨A.v, 0, none⟩)] w fun e w' => e = .returned (.bool false) ∧ w' = w := by
  have hg := h.guard 1
  have hV1 := hV.guard 1
  have hm := vmade_ok h.vrow.made
  have hlk := h.vrow.lock
  have c6 := hg.c6
  rw [hV.tx] at c6
  have x2 := hV1.c2
  have hvr := h.vrow
  have hvh := hg.vheld
  go_enter_defers Tryz.func117, Tryz.ntmps117
  go_wp2_with (first
    | (go_at_call 46; refine same_at hm ?_)
    | (go_at_call 52; refine Calls.mono hlk ?_; rintro e w' ⟨rfl, rfl⟩))
  refine leaves_cons (f := 53) (args := #[.pointer (some ⟨A.v, 0, none⟩)]) (by simp) (by simp [go_sem]) ?_
  refine (hvh.unlock .returning).mono ?_
  rintro e u' w'' ⟨rfl, rfl, rfl⟩
  exact ⟨_, results_tmp rfl _ _ _, rfl, hvr.back⟩

set_option maxHeartbeats 2000000 in
theorem vKept_ok (h : VI 0 B w A T) (hV : VW w A T V) :
    Calls Tryz.prog 118 #[.pointer (some ⟨A.v, 0, none⟩)] w fun e w' => ∃ n : Nat, e = .returned (.int .i64 (n : Int)) ∧ n ≤ V.room ∧ w' = w := by
  have hg := h.guard 1
  have hV1 := hV.guard 1
  have hm := vmade_ok h.vrow.made
  have hlk := h.vrow.lock
  have c6 := hg.c6
  rw [hV.tx] at c6
  have x1 := hV1.c1
  have hvr := h.vrow
  have hvh := hg.vheld
  obtain ⟨es, cl, hmb, hes⟩ := mf_len hV1.mf
  have hlen : ∀ ty, (Builtin.len_ #[205] ty #[.map (some V.m)]).run Tryz.prog (w.setCell ⟨A.v, 0, none⟩ (.int .i32 1)) = .ok (.int .i64 (es.size : Int)) (w.setCell ⟨A.v, 0, none⟩ (.int .i32 1)) := fun ty => run_len_map (P := Tryz.prog) _ 205 ty V.m es cl (by kernel_rfl) hmb
  go_enter_defers Tryz.func118, Tryz.ntmps118
  go_wp2_with (first
    | (go_at_call 46; refine same_at hm ?_)
    | (go_at_call 52; refine Calls.mono hlk ?_; rintro e w' ⟨rfl, rfl⟩))
  refine leaves_cons (f := 53) (args := #[.pointer (some ⟨A.v, 0, none⟩)]) (by simp) (by simp [go_sem]) ?_
  refine (hvh.unlock .returning).mono ?_
  rintro e u' w'' ⟨rfl, rfl, rfl⟩
  exact ⟨_, results_tmp rfl _ _ _, es.size, rfl, hes, hvr.back⟩

end
end Go.Proofs.YthdlpeejmmobmaaGreat

namespace Go.Proofs.YthdlpeejmmobmaaGreat
open Go.RowKit Go.Maps
set_option linter.unusedVariables false
set_option maxRecDepth 100000

/-- T' is T with a patch more; a block may have been read. -/
structure ChangedV (T T' : Vs) (b o : Nat) (xs zs : List Int) : Prop where
  ex : ∃ pn : Pt.Pv, pn.id = T.last + 1 ∧ pn.blk = b ∧ pn.off = o ∧ pn.bs = xs ∧ pn.nd = Pt.rs (Pt.still T.P zs ++ Pt.uppL T.P pn) ∧ T'.P = T.P ++ [pn]
  last : T'.last = T.last + 1
  S : T'.S = T.S
  C : T'.C.hi + T'.C.mi ≤ T.C.hi + T.C.mi + 1
  Y : T'.Y = T.Y
  x : T'.x = T.x
  N : T'.NW = T.NW
section
variable {g : Int} {B : Nat} {w w' : World} {A : At} {T T' : Vs} {V : Vw}
end
end Go.Proofs.YthdlpeejmmobmaaGreat

namespace Go.Proofs.YthdlpeejmmobmaaGreat
open Go.RowKit Go.Maps
set_option linter.unusedVariables false
set_option maxRecDepth 100000

section
variable {w w' : World} {v : Nat} {F : Nat → Prop} {N : Nat} {I : Nat → List Int} {l c : Nat}
theorem vol_blocks (h : Vol w v F N I l c) : Calls Tryz.prog 13 #[.pointer (some ⟨v, 0, none⟩)] w fun e w' => e = .returned (.int .i64 (N : Int)) ∧ w' = w := by
  obtain ⟨B, A, T, hv, rfl, _, rfl, _⟩ := h.ex
  exact vBlocks_ok hv

end
end Go.Proofs.YthdlpeejmmobmaaGreat

namespace Go.Proofs.YthdlpeejmmobmaaGreat
open Go.RowKit Go.Maps
set_option linter.unusedVariables false
set_option maxRecDepth 100000

/-- A view that is broken, beside the volume. -/
structure VB (w : World) (A : At) (T : Vs) (x : Nat) : Prop where
  tx : T.x = some ⟨x, 0, none⟩
  row : ∃ a m, w.heap[x]? = some (.cells #[.int .i64 a, .map (some m), .bool true] 207 (0, 0))
  lt : x < w.heap.size
  out : ¬ fp A T x

section
variable {g : Int} {B : Nat} {w w' : World} {A : At} {T T' : Vs} {V : Vw} {x : Nat}
theorem VB.stay (h : VB w A T x) (hs : w.heap.size ≤ w'.heap.size) (hb : w'.heap[x]? = w.heap[x]?) (hx : T'.x = T.x) (ho : ¬ fp A T' x) : VB w' A T' x where
  tx := hx.trans h.tx
  row := by obtain ⟨a, m, hr⟩ := h.row; exact ⟨a, m, hb.trans hr⟩
  lt := Nat.lt_of_lt_of_le h.lt hs
  out := ho
theorem VB.stp (h : VB w A T x) (hs : Pt.Stp (fp A T) (fp A T') w w') (hx : T'.x = T.x) : VB w' A T' x :=
  h.stay hs.fr.size (hs.fr.block _ h.lt h.out) hx (fun hf => by
    rcases hs.new _ hf with h1 | h1
    · exact h.out h1
    · have := h.lt; omega)
theorem VB.guard (h : VB w A T x) (g : Int) : VB (w.setCell ⟨A.v, 0, none⟩ (.int .i32 g)) A T x :=
  h.stay (by simp) (Below.heap_setCell _ _ _ _ (fun e => h.out (.inl e))) rfl h.out
theorem VB.c2 (h : VB w A T x) : w.cell? ⟨x, 2, none⟩ = some (.bool true) := by
  obtain ⟨a, m, hr⟩ := h.row
  exact cell_of_row w x 2 _ 207 _ hr

/-- No room: the view is broken. -/
theorem keepB_ok (h : VW w A T V) (b : Nat) (hr : V.room = 0) (q c : Nat) :
    Calls Tryz.prog 60 #[.pointer (some ⟨V.x, 0, none⟩), .int .i64 (b : Int), .slice (some ⟨q, 0, none⟩) 128 c] w fun e w' => e = .returned (.tuple #[]) ∧
      VB w' A T V.x ∧ Pt.Frame (fun k => k = V.x) w w' := by
  have c0 := h.c0
  have c1 := h.c1
  have c2 := h.c2
  rw [hr] at c0
  obtain ⟨es, cl, hm, hes⟩ := mf_len h.mf
  have hge : decide ((0 : Nat) ≤ es.size) = true := decide_eq_true (by omega)
  have hge2 : decide (((0 : Nat) : Int) ≤ (es.size : Int)) = true := decide_eq_true (by omega)
  have hfz : w.drew.frozen? ⟨V.x, 2, none⟩ = false := by
    show w.frozen? ⟨V.x, 2, none⟩ = false
    simp [World.frozen?, h.row]
  have HV : Hid (VW w A T V) := h
  clear h
  go_enter Tryz.func60, Tryz.ntmps60
  have hlen : ∀ ty, (Builtin.len_ #[205] ty #[.map (some V.m)]).run Tryz.prog w.drew = .ok (.int .i64 (es.size : Int)) w.drew := fun ty => run_len_map (P := Tryz.prog) w.drew 205 ty V.m es cl (by kernel_rfl) hm
  have c0d : w.drew.cell? ⟨V.x, 0, none⟩ = some (.int .i64 ((0 : Nat) : Int)) := c0
  have c1d : w.drew.cell? ⟨V.x, 1, none⟩ = some (.map (some V.m)) := c1
  have c2d : w.drew.cell? ⟨V.x, 2, none⟩ = some (.bool false) := c2
  go_wp2_with fail
  go_region_held3 (fun w' => w'.cell? ⟨V.x, 0, none⟩ = some (.int .i64 ((0 : Nat) : Int)) ∧ w'.cell? ⟨V.x, 1, none⟩ = some (.map (some V.m)) ∧ ∀ ty, (Builtin.len_ #[205] ty #[.map (some V.m)]).run Tryz.prog w' = .ok (.int .i64 (es.size : Int)) w') (exact ⟨c0d, c1d, hlen⟩) (fail)
  go_wp2_with fail
  refine bodyPost_ret (results_none rfl _ _ _) rfl ?_
  have h := HV.out
  have hf : Pt.Frame (fun k => k = V.x) w (w.setCell ⟨V.x, 2, none⟩ (.bool true)) := (Frame.setCell (X := fun k => k = V.x) w (p := ⟨V.x, 2, none⟩) _ rfl).pt fun _ h => h
  refine ⟨rfl, ⟨h.tx, ⟨((0 : Nat) : Int), V.m, ?_⟩, ?_, h.out _ (.inl rfl)⟩, ⟨hf.os, hf.tape, hf.output, hf.size, hf.block⟩⟩
  · have hrow := h.row
    rw [hr] at hrow
    exact heap_setCell_same w V.x 2 _ 207 _ hrow
  · show V.x < (w.setCell ⟨V.x, 2, none⟩ (.bool true)).heap.size
    rw [World.size_setCell]; exact h.lt _ (.inl rfl)

/-- A broken view is not whole. -/
theorem whole_broken (h : VB w A T x) : Calls Tryz.prog 119 #[.pointer (some ⟨x, 0, none⟩)] w fun e w' => e = .returned (.bool false) ∧ w' = w := by
  have c2 := h.c2
  clear h
  go_enter Tryz.func119, Tryz.ntmps119
  go_wp2
  go_ret
  exact ⟨rfl, rfl⟩

set_option maxHeartbeats 2000000 in
theorem vBrokenB_ok (h : VI 0 B w A T) (hV : VB w A T x) :
    Calls Tryz.prog 117 #[.pointer (some ⟨A.v, 0, none⟩)] w fun e w' => e = .returned (.bool true) ∧ w' = w := by
  have hg := h.guard 1
  have hV1 := hV.guard 1
  have hm := vmade_ok h.vrow.made
  have hlk := h.vrow.lock
  have c6 := hg.c6
  rw [hV.tx] at c6
  have x2 := hV1.c2
  have hvr := h.vrow
  have hvh := hg.vheld
  go_enter_defers Tryz.func117, Tryz.ntmps117
  go_wp2_with (first
    | (go_at_call 46; refine same_at hm ?_)
    | (go_at_call 52; refine Calls.mono hlk ?_; rintro e w' ⟨rfl, rfl⟩))
  refine leaves_cons (f := 53) (args := #[.pointer (some ⟨A.v, 0, none⟩)]) (by simp) (by simp [go_sem]) ?_
  refine (hvh.unlock .returning).mono ?_
  rintro e u' w'' ⟨rfl, rfl, rfl⟩
  exact ⟨_, results_tmp rfl _ _ _, rfl, hvr.back⟩

set_option maxHeartbeats 2000000 in
theorem vOldB_ok (h : VI 0 B w A T) (hV : VB w A T x) (b : Int) :
    Calls Tryz.prog 128 #[.pointer (some ⟨A.v, 0, none⟩), .int .i64 b] w fun e w' => e = .returned (.tuple #[.slice none 0 0, .int .i64 3]) ∧ w' = w := by
  have hg := h.guard 1
  have hV1 := hV.guard 1
  have hm := vmade_ok h.vrow.made
  have hlk := h.vrow.lock
  have c6 := hg.c6
  rw [hV.tx] at c6
  have hwh := whole_broken hV1
  have hvr := h.vrow
  have hvh := hg.vheld
  go_enter_defers Tryz.func128, Tryz.ntmps128
  go_wp2_with (first
    | (go_at_call 46; refine same_at hm ?_)
    | (go_at_call 52; refine Calls.mono hlk ?_; rintro e w' ⟨rfl, rfl⟩)
    | (go_at_call 119; refine same_at hwh ?_))
  refine leaves_cons (f := 53) (args := #[.pointer (some ⟨A.v, 0, none⟩)]) (by simp) (by simp [go_sem]) ?_
  refine (hvh.unlock .returning).mono ?_
  rintro e u' w'' ⟨rfl, rfl, rfl⟩
  exact ⟨_, results_tmp2 rfl _ _ _, rfl, hvr.back⟩
end
end Go.Proofs.YthdlpeejmmobmaaGreat

namespace Go.Proofs.YthdlpeejmmobmaaGreat
open Go.RowKit Go.Maps
set_option linter.unusedVariables false
set_option maxRecDepth 100000

section
variable {g : Int} {B : Nat} {w w' : World} {A : At} {T T' : Vs} {V : Vw} {x : Nat}

set_option maxHeartbeats 4000000 in
theorem vChangeB_ok (h : VI 0 B w A T) (hV : VW w A T V) (hK : V.K = fun _ => none) (hr0 : V.room = 0) (hc : T.C.hi + T.C.mi < 4611686018427387904) (hsm : T.last + 1 ≤ 1000) (b o : Nat) (hb : b < T.S.N) (p : Option Addr) (n c : Nat) (xs : List Int) (hbi : BI w p n xs) (hp : ∀ k, Pt.blkOf p = some k → ¬ fp A T k) (hmay : Pt.mayAt (b : Int) (o : Int) n) (q : Option Addr) (m d : Nat) (zs : List Int) (hz : Pt.II w q m zs) (hqv : ∀ k, Pt.blkOf q = some k → ¬ fp A T k) (hk : zs.all (Pt.kn T.last) = true) (hm8 : (m + T.P.length) * 8 ≤ 140737488355328) :
    Calls Tryz.prog 17 #[.pointer (some ⟨A.v, 0, none⟩), .int .i64 (b : Int), .int .i64 (o : Int), .slice p n c, .slice q m d] w fun e w' => e = .returned (.tuple #[.int .i64 ((T.last + 1 : Nat) : Int), .int .i64 0]) ∧ ∃ T', VI 0 B w' A T' ∧ VB w' A T' V.x ∧ ChangedV T T' b o xs zs ∧ (∀ k, fp A T' k → fp A T k ∨ w.heap.size ≤ k) ∧ Pt.Frame (fun k => fp A T k ∨ k = V.x) w w' := by
  have hg := h.guard 1
  have hVg := hV.guard 1
  have hN12 := h.cd.ci.N12
  have hm := vmade_ok h.vrow.made
  have hlk := h.vrow.lock
  have hh := vhas_ok hg b hb
  have c6 := hg.c6
  rw [hV.tx] at c6
  have hla := lacks_some hVg b (by omega)
  obtain ⟨WL, hWL⟩ : ∃ WL, w.setCell ⟨A.v, 0, none⟩ (.int .i32 1) = WL := ⟨_, rfl⟩
  have hszL : WL.heap.size = w.heap.size := by rw [← hWL]; simp
  have hoth : ∀ k, k < w.heap.size → k ≠ A.v → WL.heap[k]? = w.heap[k]? := fun k hk hn => by rw [← hWL]; exact (Frame.setCell (X := fun i => i = A.v) w (p := ⟨A.v, 0, none⟩) (.int .i32 1) rfl).block k hk hn
  have hbiL : Pt.BI WL p n xs := hbi.pt.keptIf (fun k hk hl => hoth k hl (fun e => hp k hk (.inl e)))
  have hzL : Pt.II WL q m zs := hz.keptIf (fun k hk hl => hoth k hl (fun e => hqv k hk (.inl e)))
  rw [hWL] at hg hVg hlk hh c6 hla
  have hla2 : Calls Tryz.prog 57 #[.pointer (some ⟨V.x, 0, none⟩), .int .i64 (b : Int)] WL fun e w' => e = .returned (.bool true) ∧ w' = WL := by rw [hK] at hla; exact hla
  clear hla
  have hrd := vrd_ok hg b hb hc
  have HL : Hid (V.room = 0 ∧ WL.heap.size = w.heap.size ∧ VW WL A T V) := ⟨hr0, hszL, hVg⟩
  have HW : Hid (w.setCell ⟨A.v, 0, none⟩ (.int .i32 1) = WL) := hWL
  clear hK hszL hWL hoth
  go_enter_defers Tryz.func17, Tryz.ntmps17
  go_wp2_with (first
    | (go_at_call 46; refine same_at hm ?_)
    | (go_at_call 52; refine Calls.mono hlk ?_; rintro e w' ⟨rfl, hw'⟩; subst w')
    | (go_at_call 56; refine same_at hh ?_)
    | (go_at_call 57; refine same_at hla2 ?_))
  refine Calls.mono hrd ?_
  rintro e w1 ⟨q2, cap, C', rfl, hO, hnf, hv1, hst1, hcn⟩
  have hV1 := hVg.stp hst1 rfl
  have c4 := hv1.c4
  have hbi1 : Pt.BI w1 p n xs := hbiL.keptIf (fun k hk hl => hst1.fr.block k hl (hp k hk))
  have hz1 : Pt.II w1 q m zs := hzL.keptIf (fun k hk hl => hst1.fr.block k hl (hqv k hk))
  have hadd := Pt.sadd_ok hv1.ps hsm b o (by omega) p n c xs hbi1 hmay q m d zs hz1 hk hm8
  clear hrd hla2 hh hlk hm c6
  dsimp only
  go_wp2_with fail
  refine Calls.mono hadd ?_
  rintro e w2 ⟨rfl, pn, K', e1, e2, e3, e4, e5, hps, hst⟩
  obtain ⟨h2, hs2⟩ := hv1.pats hps hst
  have hV2 := hV1.stp hs2 rfl
  have c6 := h2.c6
  have e6 : T.x = some ⟨V.x, 0, none⟩ := hV.tx
  have hc6 : w2.cell? ⟨A.v, 6, none⟩ = some (.pointer (some ⟨V.x, 0, none⟩)) := by rw [← e6]; exact c6
  have hspq := hO.spot
  have hkp := keepB_ok hV2 b HL.out.1 q2 cap
  clear hadd c6
  dsimp only
  go_wp2_with fail
  refine Calls.mono hkp ?_
  rintro e w3 ⟨rfl, hV3, hg3⟩
  have ho3 : ∀ k, k < w2.heap.size → k ≠ V.x → w3.heap[k]? = w2.heap[k]? := fun k hk hn => hg3.block k hk hn
  have h3 := h2.else hg3.size (fun k hk => ho3 k (h2.lt k hk) (fun e => by subst e; exact hV2.out _ (.inl rfl) hk))
  dsimp only
  go_wp2_with fail
  refine leaves_cons (f := 53) (args := #[.pointer (some ⟨A.v, 0, none⟩)]) (by simp) (by simp [go_sem]) ?_
  refine (h3.vheld.unlock .returning).mono ?_
  rintro e u' w'' ⟨rfl, rfl, rfl⟩
  have hs12 := stp_trans hst1 hs2
  refine ⟨_, results_tmp2 rfl _ _ _, by simp, _, h3.guard 0, hV3.guard 0, ⟨⟨pn, e1, e2, e3, e4, e5, rfl⟩, rfl, rfl, by show C'.hi + C'.mi ≤ _; omega, rfl, rfl, rfl⟩, (fun k hk => (hs12.new k hk).imp id (fun h9 => by have := HL.out.2.1; omega)), ?_⟩
  have f1 : Pt.Frame (fp A T) w WL := by rw [← HW.out]; exact (Frame.setCell (X := fp A T) w (p := ⟨A.v, 0, none⟩) _ (.inl rfl)).pt fun _ h => h
  have f4 : Pt.Frame (fp A T) w3 (w3.setCell ⟨A.v, 0, none⟩ (.int .i32 0)) := (Frame.setCell (X := fp A T) w3 (p := ⟨A.v, 0, none⟩) _ (.inl rfl)).pt fun _ h => h
  refine ⟨f4.os.trans (hg3.os.trans (hs12.fr.os.trans f1.os)), f4.tape.trans (hg3.tape.trans (hs12.fr.tape.trans f1.tape)), f4.output.trans (hg3.output.trans (hs12.fr.output.trans f1.output)), Nat.le_trans f1.size (Nat.le_trans hs12.fr.size (Nat.le_trans hg3.size f4.size)), fun k hk hn => ?_⟩
  have hnf : ¬ fp A T k := fun h => hn (.inl h)
  have h1 : k < WL.heap.size := Nat.lt_of_lt_of_le hk f1.size
  have h2 : k < w2.heap.size := Nat.lt_of_lt_of_le h1 hs12.fr.size
  have h3 : k < w3.heap.size := Nat.lt_of_lt_of_le h2 hg3.size
  exact (f4.block k h3 hnf).trans ((hg3.block k h2 (fun e => hn (.inr e))).trans ((hs12.fr.block k h1 hnf).trans (f1.block k hk hnf)))

set_option maxHeartbeats 2000000 in
theorem vThaw_ok (h : VI 0 B w A T) (hV : VB w A T x) :
    Calls Tryz.prog 129 #[.pointer (some ⟨A.v, 0, none⟩)] w fun e w' => e = .returned (.int .i64 0) ∧ VI 0 B w' A { T with x := none } ∧ Pt.Frame (fun k => k = A.v) w w' := by
  have hg := h.guard 1
  have hm := vmade_ok h.vrow.made
  have hlk := h.vrow.lock
  have c6 := hg.c6
  rw [hV.tx] at c6
  obtain ⟨WL, hWL⟩ : ∃ WL, w.setCell ⟨A.v, 0, none⟩ (.int .i32 1) = WL := ⟨_, rfl⟩
  rw [hWL] at hg hlk c6
  have hfz : WL.frozen? ⟨A.v, 6, none⟩ = false := by simp [World.frozen?, hg.row]
  have h3 := hg.setx none
  go_enter_defers Tryz.func129, Tryz.ntmps129
  go_wp2_with (first
    | (go_at_call 46; refine same_at hm ?_)
    | (go_at_call 52; refine Calls.mono hlk ?_; rintro e w' ⟨rfl, hw'⟩; subst w'))
  refine leaves_cons (f := 53) (args := #[.pointer (some ⟨A.v, 0, none⟩)]) (by simp) (by simp [go_sem]) ?_
  refine (h3.vheld.unlock .returning).mono ?_
  rintro e u' w'' ⟨rfl, rfl, rfl⟩
  refine ⟨_, results_tmp rfl _ _ _, rfl, h3.guard 0, ?_⟩
  rw [← hWL]
  have f1 : Frame (fun k => k = A.v) w (w.setCell ⟨A.v, 0, none⟩ (.int .i32 1)) := Frame.setCell (X := fun k => k = A.v) w (p := ⟨A.v, 0, none⟩) _ rfl
  have f2 := Frame.setCell (X := fun k => k = A.v) (w.setCell ⟨A.v, 0, none⟩ (.int .i32 1)) (p := ⟨A.v, 6, none⟩) (.pointer none) rfl
  have f3 := Frame.setCell (X := fun k => k = A.v) ((w.setCell ⟨A.v, 0, none⟩ (.int .i32 1)).setCell ⟨A.v, 6, none⟩ (.pointer none)) (p := ⟨A.v, 0, none⟩) (.int .i32 0) rfl
  exact ((f1.trans f2).trans f3).pt fun _ h => h
end
end Go.Proofs.YthdlpeejmmobmaaGreat

namespace Go.Proofs.YthdlpeejmmobmaaGreat
open Go.RowKit Go.Maps
set_option linter.unusedVariables false
set_option maxRecDepth 100000
section
variable {B : Nat} {w w' : World} {A : At} {T T' : Vs} {V : Vw} {x : Nat} {G Bk Q N : Nat}
/-- A snapshot in memory. -/
def SRow (w : World) (s v : Nat) (G Bk Q : Nat) : Prop := w.heap[s]? = some (.cells #[.int .i32 0, .int .u32 0, .pointer (some ⟨v, 0, none⟩), .int .i64 (G : Int), .int .i64 (Bk : Int), .int .i64 (Q : Int), .int .i64 1] 127 (0, 0))
set_option maxHeartbeats 4000000 in
theorem take_ok (h : VI 0 B w A T) (hx : T.x = none) (hh : VHas w A.v (N : Int)) (hg : Geo G Bk Q N) : Calls Tryz.prog 14 #[.pointer (some ⟨A.v, 0, none⟩), Mk.geomV G Bk Q, .int .i64 1, .int .i64 0] w fun e w' => ∃ s, e = .returned (.tuple #[.pointer (some ⟨s, 0, none⟩), .int .i64 0]) ∧ SRow w' s A.v G Bk Q ∧ ∃ V, VI 0 B w' A { T with x := some ⟨V.x, 0, none⟩ } ∧ VW w' A { T with x := some ⟨V.x, 0, none⟩ } V ∧ V.K = (fun _ => none) ∧ V.room = 0 ∧ w.heap.size ≤ V.x ∧ w.heap.size ≤ V.m ∧ w.heap.size ≤ s ∧ s ≠ V.x ∧ s ≠ V.m ∧ Pt.Stp (fp A T) (fp A T) w w' := by
  have hfit := hg.fit
  obtain ⟨W, hW⟩ : ∃ W, w.alloc (Mk.geomO G Bk Q) = W := ⟨_, rfl⟩
  have hb : Below w.heap.size w W := by rw [← hW]; exact Mk.grew_alloc _ _
  have hxx : W.heap[w.heap.size]? = some (Mk.geomO G Bk Q) := by rw [← hW]; exact at_new rfl
  have hbl := (hh.kept hb).blocks
  have hN0 : 0 < N := by have := hg.hd (n := 0) (k := 0) (by omega) (by omega); omega
  have hk : ¬ ((N : Int) = 0) := by omega
  have hkb : ((N : Int) == 0) = false := by rw [beq_eq_false_iff_ne]; exact hk
  have hlt : ¬ ((N : Int) < (N : Int)) := by omega
  have hm := hg.may
  have hN : ((G : Int) * (Bk : Int)) = (N : Int) := by have := hg.2; exact_mod_cast this
  have hbd : Below w.heap.size w W.drew := hb.drew
  have hv2 : VHas W.drew A.v (N : Int) := hh.kept hbd
  have g2 : G3 W.drew w.heap.size G Bk Q := (g3_of hxx).kept (Below.refl _ _).drew
  have hx2 : W.drew.heap[w.heap.size]? = some (Mk.geomO G Bk Q) := hxx
  have q0 := g2.c0
  have q1 := g2.c1
  have q2 := g2.c2
  have hca := Mk.can_ok G Bk Q W.drew
  rw [Mk.Gm.can, if_pos hm] at hca
  have HB : Hid (Below w.heap.size w W.drew) := hbd
  have HN : Hid ((G : Int) * (Bk : Int) = (N : Int)) := hN
  have HM : Hid (Mk.Gm.May (G : Int) Bk Q) := hm
  have HV : Hid (VI 0 B w A T) := h
  clear hm hN hb hbd h hh hfit
  go_enter Tryz.func14, Tryz.ntmps14
  go_wp2_with (first | (go_at_call 13; refine same_at hbl ?_))
  go_region_with (first
    | (go_at_call 48; refine Mk.grew_at hca ?_; intro w2 hb2; have hv3 := hv2.kept hb2; have g3 := g2.kept hb2; have q0' := g3.c0; have q1' := g3.c1; have q2' := g3.c2; have hb3 := Mk.blocks_ok G Bk Q w2; rw [Mk.Gm.num, if_pos HM.out, HN.out] at hb3; have cb := hv3.blocks)
    | (go_at_call 13; first | refine same_at cb ?_ | refine same_at cb' ?_)
    | (go_at_call 49; refine Mk.grew_at hb3 ?_; intro w4 hb4; have cb' := (hv3.kept hb4).blocks))
  all_goals go_wp2_with fail
  all_goals have hbw : Below w.heap.size w w4 := Mk.grew_trans (Mk.grew_trans HB.out hb2) hb4
  all_goals have hx5 := (hb4.block _ (Array.getElem?_eq_some_iff.1 ((hb2.block _ (Array.getElem?_eq_some_iff.1 hx2).1).trans hx2)).1).trans ((hb2.block _ (Array.getElem?_eq_some_iff.1 hx2).1).trans hx2)
  all_goals have hfz := vFreeze_ok (HV.out.later hbw) hx 0 (by omega)
  all_goals clear hca hv2 g2 hb3 cb cb' hv3 g3 hbl
  all_goals refine Calls.mono hfz ?_
  all_goals rintro e w5 ⟨rfl, V, hvi, hV, hK, hr, hxl, hml, hst⟩
  all_goals dsimp only
  all_goals have hx6 : w5.heap[w.heap.size]? = some (Mk.geomO G Bk Q) := (hst.fr.block _ (Array.getElem?_eq_some_iff.1 hx5).1 (fun hf => by have := HV.out.lt _ hf; omega)).trans hx5
  all_goals have s0 := (g3_of hx6).c0
  all_goals have s1 := (g3_of hx6).c1
  all_goals have s2 := (g3_of hx6).c2
  all_goals go_wp2_with fail
  all_goals have hb6 := Mk.grew_alloc w5 (.cells #[.int .i32 0, .int .u32 0, .pointer (some ⟨A.v, 0, none⟩), .int .i64 (G : Int), .int .i64 (Bk : Int), .int .i64 (Q : Int), .int .i64 1] 127)
  all_goals have hVx := hV.lt _ (.inl rfl)
  all_goals have hVm := hV.lt _ (.inr (.inl rfl))
  all_goals have hws := hbw.size
  all_goals have hs5 := hst.fr.size
  all_goals go_ret2
  all_goals exact ⟨_, rfl, at_new rfl, V, hvi.later hb6, hV.later hb6, hK, hr, by omega, by omega, by omega, by omega, by omega, stp_grown (stp_after hbw hst) hb6⟩
end
end Go.Proofs.YthdlpeejmmobmaaGreat

namespace Go.Proofs.YthdlpeejmmobmaaGreat
open Go.RowKit Go.Maps Go.MuLone
set_option linter.unusedVariables false
set_option maxRecDepth 100000

/-- A snapshot while its guard is held. -/
def SHeld (w : World) (s v : Nat) (G Bk Q : Nat) : Prop := w.heap[s]? = some (.cells #[.int .i32 1, .int .u32 0, .pointer (some ⟨v, 0, none⟩), .int .i64 (G : Int), .int .i64 (Bk : Int), .int .i64 (Q : Int), .int .i64 1] 127 (0, 0))
section
variable {w : World} {s v G Bk Q : Nat}
theorem SRow.held (h : SRow w s v G Bk Q) : SHeld (w.setCell ⟨s, 0, none⟩ (.int .i32 1)) s v G Bk Q := heap_setCell_same w s 0 _ 127 _ h
theorem SRow.kept {w' : World} (h : SRow w s v G Bk Q) (hb : w'.heap[s]? = w.heap[s]?) : SRow w' s v G Bk Q := hb.trans h
theorem SHeld.kept {w' : World} (h : SHeld w s v G Bk Q) (hb : w'.heap[s]? = w.heap[s]?) : SHeld w' s v G Bk Q := hb.trans h
theorem SRow.lt (h : SRow w s v G Bk Q) : s < w.heap.size := (Array.getElem?_eq_some_iff.1 h).1
theorem SRow.lock (h : SRow w s v G Bk Q) : Calls Tryz.prog 52 #[.pointer (some ⟨s, 0, none⟩)] w fun e w' => e = .returned (.tuple #[]) ∧ w' = w.setCell ⟨s, 0, none⟩ (.int .i32 1) :=
  lock_free muLib ⟨s, 0, none⟩ w (cell_of_row w s 0 _ 127 _ h) (by have h1 := h; unfold SRow at h1; simp [World.frozen?, h1])
theorem SHeld.unlock (h : SHeld w s v G Bk Q) (u : FrameMode) : CallsD Tryz.prog 53 #[.pointer (some ⟨s, 0, none⟩)] u w fun e u' w' => u' = u ∧ (e = .returned (.tuple #[]) ∧ w' = w.setCell ⟨s, 0, none⟩ (.int .i32 0)) :=
  unlock_deferred muLib ⟨s, 0, none⟩ u w (cell_of_row w s 0 _ 127 _ h) (by have h1 := h; unfold SHeld at h1; simp [World.frozen?, h1])
theorem SRow.back (h : SRow w s v G Bk Q) : (w.setCell ⟨s, 0, none⟩ (.int .i32 1)).setCell ⟨s, 0, none⟩ (.int .i32 0) = w := by
  have hv := (Array.getElem?_eq_some_iff.1 h)
  obtain ⟨hlt, hv⟩ := hv
  have e : ((w.setCell ⟨s, 0, none⟩ (.int .i32 1)).setCell ⟨s, 0, none⟩ (.int .i32 0)).heap = w.heap := by
    apply Array.ext
    · simp [World.setCell]
    · intro i h1 h2
      simp only [World.setCell, Array.getElem_modify]
      by_cases hi : s = i
      · subst hi
        rw [hv]
        simp
      · simp [hi]
  cases w
  simp only [World.setCell] at e ⊢
  rw [e]
theorem smade_ok (h : SRow w s v G Bk Q) : Calls Tryz.prog 51 #[.pointer (some ⟨s, 0, none⟩)] w fun e w' => e = .returned (.bool true) ∧ w' = w := by
  have c6 := cell_of_row w s 6 _ 127 _ h
  go_enter Tryz.func51, Tryz.ntmps51
  go_wp2
  go_ret
  exact ⟨rfl, rfl⟩
set_option maxHeartbeats 2000000 in
theorem snapBroken_ok (h : SRow w s v G Bk Q) (r : Bool) (hbr : Calls Tryz.prog 117 #[.pointer (some ⟨v, 0, none⟩)] (w.setCell ⟨s, 0, none⟩ (.int .i32 1)) fun e w' => e = .returned (.bool r) ∧ w' = w.setCell ⟨s, 0, none⟩ (.int .i32 1)) :
    Calls Tryz.prog 15 #[.pointer (some ⟨s, 0, none⟩)] w fun e w' => e = .returned (.bool r) ∧ w' = w := by
  have hm := smade_ok h
  have hlk := h.lock
  have hh := h.held
  have hbk := h.back
  have h2 : Calls Tryz.prog 54 #[.pointer (some ⟨s, 2, none⟩)] (w.setCell ⟨s, 0, none⟩ (.int .i32 1)) fun e w' => e = .returned (.bool r) ∧ w' = w.setCell ⟨s, 0, none⟩ (.int .i32 1) := by
    have c2 := cell_of_row _ s 2 _ 127 _ hh
    clear hm hlk hbk
    go_enter Tryz.func54, Tryz.ntmps54
    go_wp2_with fail
    refine same_at hbr ?_
    dsimp only
    go_wp2_with fail
    go_ret
    exact ⟨rfl, rfl⟩
  clear hbr
  go_enter_defers Tryz.func15, Tryz.ntmps15
  go_wp2_with (first
    | (go_at_call 51; refine same_at hm ?_)
    | (go_at_call 52; refine Calls.mono hlk ?_; rintro e w' ⟨rfl, rfl⟩)
    | (go_at_call 54; refine same_at h2 ?_))
  refine leaves_cons (f := 53) (args := #[.pointer (some ⟨s, 0, none⟩)]) (by simp) (by simp [go_sem]) ?_
  refine (hh.unlock .returning).mono ?_
  rintro e u' w'' ⟨rfl, rfl, rfl⟩
  exact ⟨_, results_tmp rfl _ _ _, rfl, hbk⟩
set_option maxHeartbeats 2000000 in
theorem snapKept_ok (h : SRow w s v G Bk Q) (hbr : Calls Tryz.prog 118 #[.pointer (some ⟨v, 0, none⟩)] (w.setCell ⟨s, 0, none⟩ (.int .i32 1)) fun e w' => e = .returned (.int .i64 0) ∧ w' = w.setCell ⟨s, 0, none⟩ (.int .i32 1)) :
    Calls Tryz.prog 16 #[.pointer (some ⟨s, 0, none⟩)] w fun e w' => e = .returned (.int .i64 0) ∧ w' = w := by
  have hm := smade_ok h
  have hlk := h.lock
  have hh := h.held
  have hbk := h.back
  have h2 : Calls Tryz.prog 55 #[.pointer (some ⟨s, 2, none⟩)] (w.setCell ⟨s, 0, none⟩ (.int .i32 1)) fun e w' => e = .returned (.int .i64 0) ∧ w' = w.setCell ⟨s, 0, none⟩ (.int .i32 1) := by
    have c2 := cell_of_row _ s 2 _ 127 _ hh
    clear hm hlk hbk
    go_enter Tryz.func55, Tryz.ntmps55
    go_wp2_with fail
    refine same_at hbr ?_
    dsimp only
    go_wp2_with fail
    go_ret
    exact ⟨rfl, rfl⟩
  clear hbr
  go_enter_defers Tryz.func16, Tryz.ntmps16
  go_wp2_with (first
    | (go_at_call 51; refine same_at hm ?_)
    | (go_at_call 52; refine Calls.mono hlk ?_; rintro e w' ⟨rfl, rfl⟩)
    | (go_at_call 55; refine same_at h2 ?_))
  refine leaves_cons (f := 53) (args := #[.pointer (some ⟨s, 0, none⟩)]) (by simp) (by simp [go_sem]) ?_
  refine (hh.unlock .returning).mono ?_
  rintro e u' w'' ⟨rfl, rfl, rfl⟩
  exact ⟨_, results_tmp rfl _ _ _, rfl, hbk⟩
set_option maxHeartbeats 2000000 in
theorem snapRead_ok (h : SRow w s v G Bk Q) (b : Int) (hbr : Calls Tryz.prog 128 #[.pointer (some ⟨v, 0, none⟩), .int .i64 b] (w.setCell ⟨s, 0, none⟩ (.int .i32 1)) fun e w' => e = .returned (.tuple #[.slice none 0 0, .int .i64 3]) ∧ w' = w.setCell ⟨s, 0, none⟩ (.int .i32 1)) :
    Calls Tryz.prog 18 #[.pointer (some ⟨s, 0, none⟩), .int .i64 b] w fun e w' => e = .returned (.tuple #[.slice none 0 0, .int .i64 3]) ∧ w' = w := by
  have hm := smade_ok h
  have hlk := h.lock
  have hh := h.held
  have hbk := h.back
  have h2 : Calls Tryz.prog 61 #[.pointer (some ⟨s, 2, none⟩), .int .i64 b] (w.setCell ⟨s, 0, none⟩ (.int .i32 1)) fun e w' => e = .returned (.tuple #[.slice none 0 0, .int .i64 3]) ∧ w' = w.setCell ⟨s, 0, none⟩ (.int .i32 1) := by
    have c2 := cell_of_row _ s 2 _ 127 _ hh
    clear hm hlk hbk
    go_enter Tryz.func61, Tryz.ntmps61
    go_wp2_with fail
    refine same_at hbr ?_
    dsimp only
    go_wp2_with fail
    go_ret2
    exact ⟨rfl, rfl⟩
  clear hbr
  go_enter_defers Tryz.func18, Tryz.ntmps18
  go_wp2_with (first
    | (go_at_call 51; refine same_at hm ?_)
    | (go_at_call 52; refine Calls.mono hlk ?_; rintro e w' ⟨rfl, rfl⟩)
    | (go_at_call 61; refine same_at h2 ?_))
  refine leaves_cons (f := 53) (args := #[.pointer (some ⟨s, 0, none⟩)]) (by simp) (by simp [go_sem]) ?_
  refine (hh.unlock .returning).mono ?_
  rintro e u' w'' ⟨rfl, rfl, rfl⟩
  exact ⟨_, results_tmp2 rfl _ _ _, rfl, hbk⟩
set_option maxHeartbeats 2000000 in
theorem snapDrop_ok (h : SRow w s v G Bk Q) (hsv : s ≠ v) (hbr : Calls Tryz.prog 129 #[.pointer (some ⟨v, 0, none⟩)] (w.setCell ⟨s, 0, none⟩ (.int .i32 1)) fun e w' => e = .returned (.int .i64 0) ∧ Pt.Frame (fun k => k = v) (w.setCell ⟨s, 0, none⟩ (.int .i32 1)) w') :
    Calls Tryz.prog 20 #[.pointer (some ⟨s, 0, none⟩)] w fun e w' => e = .returned (.int .i64 0) ∧ Pt.Frame (fun k => k = v ∨ k = s) w w' := by
  have hm := smade_ok h
  have hlk := h.lock
  have hh := h.held
  have hf1 := (Frame.setCell (X := fun k => k = v ∨ k = s) w (p := ⟨s, 0, none⟩) (.int .i32 1) (.inr rfl)).pt (Y := fun k => k = v ∨ k = s) fun _ h => h
  have hsz : s < (w.setCell ⟨s, 0, none⟩ (.int .i32 1)).heap.size := by rw [World.size_setCell]; exact h.lt
  have h2 : Calls Tryz.prog 62 #[.pointer (some ⟨s, 2, none⟩)] (w.setCell ⟨s, 0, none⟩ (.int .i32 1)) fun e w' => e = .returned (.int .i64 0) ∧ (∃ z, w'.heap[s]? = some (.cells #[.int .i32 1, .int .u32 0, z, .int .i64 (G : Int), .int .i64 (Bk : Int), .int .i64 (Q : Int), .int .i64 1] 127 (0, 0))) ∧ Pt.Frame (fun k => k = v ∨ k = s) (w.setCell ⟨s, 0, none⟩ (.int .i32 1)) w' := by
    have c2 := cell_of_row _ s 2 _ 127 _ hh
    clear hm hlk
    go_enter Tryz.func62, Tryz.ntmps62
    go_wp2_with fail
    refine Calls.mono hbr ?_
    rintro e w3 ⟨rfl, hf⟩
    have hr3 : w3.heap[s]? = _ := (hf.block s hsz hsv).trans hh
    have hz3 : w3.frozen? ⟨s, 2, none⟩ = false := by simp [World.frozen?, hr3]
    have c3 := cell_of_row _ s 2 _ 127 _ hr3
    dsimp only
    go_wp2_with fail
    go_ret
    refine ⟨rfl, ⟨_, heap_setCell_same w3 s 2 _ 127 _ hr3⟩, ?_⟩
    have hf2 := (Frame.setCell (X := fun k => k = v ∨ k = s) w3 (p := ⟨s, 2, none⟩) (.pointer none) (.inr rfl)).pt (Y := fun k => k = v ∨ k = s) fun _ h => h
    exact ⟨hf2.os.trans hf.os, hf2.tape.trans hf.tape, hf2.output.trans hf.output, Nat.le_trans hf.size hf2.size, fun k hk hn => (hf2.block k (Nat.lt_of_lt_of_le hk hf.size) hn).trans (hf.block k hk (fun e => hn (.inl e)))⟩
  clear hbr
  go_enter_defers Tryz.func20, Tryz.ntmps20
  go_wp2_with (first
    | (go_at_call 51; refine same_at hm ?_)
    | (go_at_call 52; refine Calls.mono hlk ?_; rintro e w' ⟨rfl, rfl⟩))
  refine Calls.mono h2 ?_
  rintro e w4 ⟨rfl, ⟨z, hz4⟩, hf4⟩
  dsimp only
  go_wp2_with fail
  refine leaves_cons (f := 53) (args := #[.pointer (some ⟨s, 0, none⟩)]) (by simp) (by simp [go_sem]) ?_
  refine (unlock_deferred muLib ⟨s, 0, none⟩ .returning w4 (cell_of_row w4 s 0 _ 127 _ hz4) (by simp [World.frozen?, hz4])).mono ?_
  rintro e u' w'' ⟨rfl, rfl, rfl⟩
  have hf5 := (Frame.setCell (X := fun k => k = v ∨ k = s) w4 (p := ⟨s, 0, none⟩) (.int .i32 0) (.inr rfl)).pt (Y := fun k => k = v ∨ k = s) fun _ h => h
  exact ⟨_, results_tmp rfl _ _ _, rfl, hf5.os.trans (hf4.os.trans hf1.os), hf5.tape.trans (hf4.tape.trans hf1.tape), hf5.output.trans (hf4.output.trans hf1.output), Nat.le_trans hf1.size (Nat.le_trans hf4.size hf5.size), fun k hk hn => (hf5.block k (Nat.lt_of_lt_of_le hk (Nat.le_trans hf1.size hf4.size)) hn).trans ((hf4.block k (Nat.lt_of_lt_of_le hk hf1.size) hn).trans (hf1.block k hk hn))⟩
end
end Go.Proofs.YthdlpeejmmobmaaGreat
