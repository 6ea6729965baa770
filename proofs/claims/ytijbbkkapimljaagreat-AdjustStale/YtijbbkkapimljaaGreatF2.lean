/- A new volume of the program's: its guard, its parts; the document's volume; bollardplain.Of. -/
import Derived.Test.YtijbbkkapimljaaGreatF1
import Derived.Conc.MuLone
import Derived.KernelRfl
namespace Go.Proofs.YtijbbkkapimljaaGreat
open Go.RowKit Go.Maps Go.MuLone
set_option linter.unusedVariables false

abbrev muLink : Go.Conc.Locks.MuLink := { lock := 28, unlock := 29, ilock := 67, iunlock := 68, lockSlow := 116, unlockSlow := 119, disable := 112, enable := 114, acquire := 115, relMerge := 117, cas32 := 113, add32 := 118, tMutex := 33, tIMutex := 31, tPMutex := 141, tPIMutex := 195, tPI32 := 197, tUP := 199, tNoCopy := 28, tU32 := 29 }
theorem muLib : Go.Conc.Locks.MuLib Tryz.prog muLink :=
  ⟨Tryz.func28, Tryz.func29, Tryz.func67, Tryz.func68, Tryz.func112, Tryz.func114, Tryz.func115, Tryz.func117, Tryz.func113, Tryz.func118, Tryz.underlying31, Tryz.runUnderlying31, Tryz.sizeOf31, Tryz.isAgg31, Tryz.zeroValue31, Tryz.underlying33, Tryz.runUnderlying33, Tryz.sizeOf33, Tryz.isAgg33, Tryz.zeroValue33, Tryz.underlying141, Tryz.runUnderlying141, Tryz.sizeOf141, Tryz.isAgg141, Tryz.zeroValue141, Tryz.underlying195, Tryz.runUnderlying195, Tryz.sizeOf195, Tryz.isAgg195, Tryz.zeroValue195, Tryz.underlying197, Tryz.runUnderlying197, Tryz.sizeOf197, Tryz.isAgg197, Tryz.zeroValue197, Tryz.underlying199, Tryz.runUnderlying199, Tryz.sizeOf199, Tryz.isAgg199, Tryz.zeroValue199, Tryz.underlying28, Tryz.runUnderlying28, Tryz.sizeOf28, Tryz.isAgg28, Tryz.zeroValue28, Tryz.underlying21, Tryz.runUnderlying21, Tryz.sizeOf21, Tryz.isAgg21, Tryz.zeroValue21, by kernel_rfl⟩

/-- Block v is a volume: its guard free; its disk d, cache c, patches s, way map m and view x. -/
def VRow (w : World) (v d c s m : Nat) (x : Option Addr) : Prop :=
  w.heap[v]? = some (.cells #[.int .i32 0, .int .u32 0, .pointer (some ⟨d, 0, none⟩), .pointer (some ⟨c, 0, none⟩), .pointer (some ⟨s, 0, none⟩), .map (some m), .pointer x] 40 (0, 0))
/-- The same while the guard is held. -/
def VHeld (w : World) (v d c s m : Nat) (x : Option Addr) : Prop :=
  w.heap[v]? = some (.cells #[.int .i32 1, .int .u32 0, .pointer (some ⟨d, 0, none⟩), .pointer (some ⟨c, 0, none⟩), .pointer (some ⟨s, 0, none⟩), .map (some m), .pointer x] 40 (0, 0))

section
variable {w : World} {v d c s m : Nat} {x : Option Addr}
theorem VRow.held (h : VRow w v d c s m x) : VHeld (w.setCell ⟨v, 0, none⟩ (.int .i32 1)) v d c s m x := heap_setCell_same w v 0 _ 40 _ h
theorem VHeld.free (h : VHeld w v d c s m x) : VRow (w.setCell ⟨v, 0, none⟩ (.int .i32 0)) v d c s m x := heap_setCell_same w v 0 _ 40 _ h
theorem VRow.made (h : VRow w v d c s m x) : w.cell? ⟨v, 2, none⟩ = some (.pointer (some ⟨d, 0, none⟩)) := cell_of_row w v 2 _ 40 _ h
theorem VRow.lock (h : VRow w v d c s m x) : Calls Tryz.prog 28 #[.pointer (some ⟨v, 0, none⟩)] w fun e w' => e = .returned (.tuple #[]) ∧ w' = w.setCell ⟨v, 0, none⟩ (.int .i32 1) :=
  lock_free muLib ⟨v, 0, none⟩ w (cell_of_row w v 0 _ 40 _ h) (by have h1 := h; unfold VRow at h1; simp [World.frozen?, h1])
theorem VHeld.unlock (h : VHeld w v d c s m x) (u : FrameMode) : CallsD Tryz.prog 29 #[.pointer (some ⟨v, 0, none⟩)] u w fun e u' w' => u' = u ∧ (e = .returned (.tuple #[]) ∧ w' = w.setCell ⟨v, 0, none⟩ (.int .i32 0)) :=
  unlock_deferred muLib ⟨v, 0, none⟩ u w (cell_of_row w v 0 _ 40 _ h) (by have h1 := h; unfold VHeld at h1; simp [World.frozen?, h1])
end

/-- A new volume: nothing is held, nothing patched, nothing on the way; x its view. -/
structure FV (w : World) (v d c s m mc p1 p2 : Nat) (x : Option Addr) : Prop where
  row : VRow w v d c s m x
  cac : w.heap[c]? = some (.cells #[.pointer (some ⟨d, 0, none⟩), .int .i64 64, .map (some mc), .int .i64 0, .int .i64 0] 191 (0, 0))
  cm : w.heap[mc]? = some (.map #[] 0)
  set : w.heap[s]? = some (.cells #[.int .i64 0, .map (some p1), .map (some p2)] 149 (0, 0))
  pm1 : w.heap[p1]? = some (.map #[] 0)
  pm2 : w.heap[p2]? = some (.map #[] 0)

/-- All its blocks but the disk's are at B or beyond; two of its maps are two. -/
def FLo (B v c s m mc p1 p2 : Nat) : Prop := B ≤ v ∧ B ≤ c ∧ B ≤ s ∧ B ≤ m ∧ B ≤ mc ∧ B ≤ p1 ∧ B ≤ p2 ∧ p2 ≠ mc

theorem FV.kept {w w' : World} {v d c s m mc p1 p2 : Nat} {x : Option Addr} (h : FV w v d c s m mc p1 p2 x) (hb : Below w.heap.size w w') : FV w' v d c s m mc p1 p2 x := by
  have k : ∀ {b : Nat} {o : Obj}, w.heap[b]? = some o → w'.heap[b]? = some o := fun {b o} hh => (hb.block b (Array.getElem?_eq_some_iff.1 hh).1).trans hh
  exact ⟨k h.row, k h.cac, k h.cm, k h.set, k h.pm1, k h.pm2⟩

section
variable {w : World}
set_option maxHeartbeats 400000 in
theorem cnewF_ok {B d dm df : Nat} {dq : Value} {S : St} (h : DI B w d dm df dq S) : Calls Tryz.prog 64 #[.pointer (some ⟨d, 0, none⟩), .int .i64 64] w fun e w' => ∃ c mc, e = .returned (.tuple #[.pointer (some ⟨c, 0, none⟩), .int .i64 0]) ∧ w'.heap[c]? = some (.cells #[.pointer (some ⟨d, 0, none⟩), .int .i64 64, .map (some mc), .int .i64 0, .int .i64 0] 191 (0, 0)) ∧ w'.heap[mc]? = some (.map #[] 0) ∧ w.heap.size ≤ c ∧ w.heap.size ≤ mc ∧ Below w.heap.size w w' := by
  have hd := blocks_ok h
  have hN := h.N1
  have hN2 : ((S.N : Int) == 0) = false := by rw [beq_eq_false_iff_ne]; omega
  have hN3 : ¬ (S.N : Int) = 0 := by omega
  have hmm := @run_makeMap Tryz.prog
  go_enter Tryz.func64, Tryz.ntmps64
  go_wp2_with (first | (go_at_call 50; refine same_at hd ?_))
  go_ret2
  have hb0 : Below w.heap.size w (w.alloc (.map #[] 0)) := (Below.refl _ w).alloc (Nat.le_refl _) _
  have hb1 := hb0.alloc (show w.heap.size ≤ (w.alloc (.map #[] 0)).heap.size by simp) (.cells #[.pointer (some ⟨d, 0, none⟩), .int .i64 64, .map (some w.heap.size), .int .i64 0, .int .i64 0] 191)
  exact ⟨_, w.heap.size, rfl, at_new (by simp), at_old (at_new rfl), Nat.le_succ _, Nat.le_refl _, hb1⟩
set_option maxHeartbeats 400000 in
theorem pnewF_ok (w : World) : Calls Tryz.prog 65 #[] w fun e w' => ∃ s p1 p2, e = .returned (.pointer (some ⟨s, 0, none⟩)) ∧ w'.heap[s]? = some (.cells #[.int .i64 0, .map (some p1), .map (some p2)] 149 (0, 0)) ∧ w'.heap[p1]? = some (.map #[] 0) ∧ w'.heap[p2]? = some (.map #[] 0) ∧ w.heap.size ≤ s ∧ w.heap.size ≤ p1 ∧ w.heap.size ≤ p2 ∧ Below w.heap.size w w' := by
  have hmm := @run_makeMap Tryz.prog
  go_enter Tryz.func65, Tryz.ntmps65
  go_wp2
  go_ret
  refine ⟨_, w.heap.size, w.heap.size + 1, rfl, at_new (by simp), at_old (at_old (at_new rfl)), at_old (at_new (by simp)), by omega, Nat.le_refl _, Nat.le_succ _, ?_⟩
  exact (((Below.refl _ w).alloc (Nat.le_refl _) _).alloc (by simp) _).alloc (by simp; omega) _
set_option maxHeartbeats 400000 in
theorem vopenF_ok {B d dm df : Nat} {dq : Value} {S : St} (h : DI B w d dm df dq S) : Calls Tryz.prog 25 #[.pointer (some ⟨d, 0, none⟩), .int .i64 64] w fun e w' => ∃ v c s m mc p1 p2, e = .returned (.tuple #[.pointer (some ⟨v, 0, none⟩), .int .i64 0]) ∧ FV w' v d c s m mc p1 p2 none ∧ FLo w.heap.size v c s m mc p1 p2 ∧ Below w.heap.size w w' := by
  have hc := cnewF_ok h
  have hmm := @run_makeMap Tryz.prog
  go_enter Tryz.func25, Tryz.ntmps25
  go_wp2_with (first | (go_at_call 64; refine Calls.mono hc ?_; rintro e w1 ⟨c, mc, rfl, hcr, hcm, lc, lmc, hb1⟩) | (go_at_call 65; refine Calls.mono (pnewF_ok _) ?_; rintro e w2 ⟨s, p1, p2, rfl, hs, h1, h2, ls, l1, l2, hb2⟩))
  go_ret2
  have hb := hb1.trans (hb2.mono hb1.size)
  have hs' := hb.size
  have k : ∀ {b : Nat} {o : Obj}, w1.heap[b]? = some o → w2.heap[b]? = some o := fun {b o} hh => (hb2.block b (Array.getElem?_eq_some_iff.1 hh).1).trans hh
  refine ⟨w2.heap.size + 1, c, s, w2.heap.size, mc, p1, p2, rfl, ⟨at_new (by simp), at_old (at_old (k hcr)), at_old (at_old (k hcm)), at_old (at_old hs), at_old (at_old h1), at_old (at_old h2)⟩, ⟨by omega, lc, Nat.le_trans hb1.size ls, hs', lmc, Nat.le_trans hb1.size l1, Nat.le_trans hb1.size l2, by have := (Array.getElem?_eq_some_iff.1 hcm).1; omega⟩, ?_⟩
  exact (hb.alloc hs' _).alloc (by simp; omega) _

set_option maxHeartbeats 400000 in
theorem rcnew_ok (d : Nat) (w : World) : Calls Tryz.prog 66 #[.pointer (some ⟨d, 0, none⟩), .int .i64 64] w fun e w' => ∃ c, e = .returned (.tuple #[.pointer (some ⟨c, 0, none⟩), .int .i64 0]) ∧ Below w.heap.size w w' := by
  go_enter Tryz.func66, Tryz.ntmps66
  go_wp2
  go_ret2
  exact ⟨_, rfl, (Below.refl _ w).alloc (Nat.le_refl _) _⟩
set_option maxHeartbeats 400000 in
theorem rvopen_ok (d : Nat) (w : World) : Calls Tryz.prog 26 #[.pointer (some ⟨d, 0, none⟩), .int .i64 64] w fun e w' => ∃ y, e = .returned (.tuple #[.pointer (some ⟨y, 0, none⟩), .int .i64 0]) ∧ Below w.heap.size w w' := by
  go_enter Tryz.func26, Tryz.ntmps26
  go_wp2_with (first | (go_at_call 66; refine Calls.mono (rcnew_ok d _) ?_; rintro e w1 ⟨c, rfl, hb1⟩))
  go_ret2
  exact ⟨_, rfl, (hb1.alloc hb1.size _).alloc (by simp; have := hb1.size; omega) _⟩
end

/-- What bollardplain.Of leaves of an image of blocks: a pair, with a new volume of the program's over a disk that has the image. -/
def OfP (w : World) (n : Nat) (L : List (List Int)) (e : Ending) (w' : World) : Prop :=
  ∃ p d v xd y c s m mc p1 p2 dm df B, e = .returned (.tuple #[.pointer (some ⟨p, 0, none⟩), .bool true]) ∧ w'.heap[p]? = some (.cells #[.pointer (some ⟨d, 0, none⟩), .pointer (some ⟨v, 0, none⟩), .pointer (some ⟨xd, 0, none⟩), .pointer (some ⟨y, 0, none⟩)] 56 (0, 0)) ∧ FV w' v d c s m mc p1 p2 none ∧ FLo w.heap.size v c s m mc p1 p2 ∧ w.heap.size ≤ B ∧ DI B w' d dm df (.slice none 0 0) ⟨n, part L n, [], 0, fun _ => 0⟩ ∧ Below w.heap.size w w'
end Go.Proofs.YtijbbkkapimljaaGreat
