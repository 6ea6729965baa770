/- DiskNobody: a disk that no call made answers nothing, and changes nothing, whatever it is asked. -/
import Derived.Test.YtemhhgpgpjiijaaChecked
import Derived.WalkKit
import Derived.WalkSpells
import Derived.WalkLawsBesides
import Derived.BigQuiet
import Derived.Deep.QuietTactic
namespace Go.Proofs.Ytemhhgpgpjiijaa
open Go.RowKit

theorem same_at {P : Program} {f : FuncId} {args : Array Value} {w : World} {v : Value} {Q : Ending → World → Prop} (h : Calls P f args w fun e w' => e = .returned v ∧ w' = w) (hq : Q (.returned v) w) : Calls P f args w Q :=
  h.mono (by rintro e w' ⟨rfl, rfl⟩; exact hq)

/-- d is nil, or leads to a disk that no call made. -/
def Void (w : World) (d : Option Addr) : Prop := d = none ∨ ∃ b, d = some ⟨b, 0, none⟩ ∧ w.cell? ⟨b, 0, none⟩ = some (.int .i64 0)

set_option maxHeartbeats 400000 in
theorem blocks_nil (w : World) : Calls Try.prog 47 #[.pointer none] w fun e w' => e = .returned (.int .i64 0) ∧ w' = w := by
  go_enter Try.func47, Try.ntmps47
  go_wp2
  go_ret
  exact ⟨rfl, rfl⟩

set_option maxHeartbeats 400000 in
theorem blocks_some (w : World) (b : Nat) (k : Int) (h : w.cell? ⟨b, 0, none⟩ = some (.int .i64 k)) : Calls Try.prog 47 #[.pointer (some ⟨b, 0, none⟩)] w fun e w' => e = .returned (.int .i64 k) ∧ w' = w := by
  go_enter Try.func47, Try.ntmps47
  go_wp2
  go_ret
  exact ⟨rfl, rfl⟩

theorem blocks_void (w : World) (d : Option Addr) (h : Void w d) : Calls Try.prog 47 #[.pointer d] w fun e w' => e = .returned (.int .i64 0) ∧ w' = w := by
  rcases h with rfl | ⟨b, rfl, hb⟩
  · exact blocks_nil w
  · exact blocks_some w b 0 hb

set_option maxHeartbeats 400000 in
theorem made_void (w : World) (d : Option Addr) (h : Void w d) : Calls Try.prog 24 #[.pointer d] w fun e w' => e = .returned (.bool false) ∧ w' = w := by
  go_enter Try.func24, Try.ntmps24
  go_wp2_with fail
  refine same_at (blocks_void w d h) ?_
  go_wp2
  go_ret
  exact ⟨rfl, rfl⟩

set_option maxHeartbeats 400000 in
theorem write_void (w : World) (d : Option Addr) (b : Int) (v : Value) (h : Void w d) : Calls Try.prog 22 #[.pointer d, .int .i64 b, v] w fun e w' => e = .returned (.tuple #[.int .i64 0, .int .i64 2]) ∧ w' = w := by
  go_enter Try.func22, Try.ntmps22
  go_wp2_with fail
  refine same_at (made_void w d h) ?_
  go_wp2
  go_ret2
  exact ⟨rfl, rfl⟩

set_option maxHeartbeats 400000 in
theorem complete_void (w : World) (d : Option Addr) (n : Int) (k : Bool) (h : Void w d) : Calls Try.prog 15 #[.pointer d, .int .i64 n, .bool k] w fun e w' => e = .returned (.int .i64 2) ∧ w' = w := by
  go_enter Try.func15, Try.ntmps15
  go_wp2_with fail
  refine same_at (made_void w d h) ?_
  go_wp2
  go_ret
  exact ⟨rfl, rfl⟩

set_option maxHeartbeats 400000 in
theorem crash_void (w : World) (d : Option Addr) (v : Value) (h : Void w d) : Calls Try.prog 10 #[.pointer d, v] w fun e w' => e = .returned (.int .i64 2) ∧ w' = w := by
  go_enter Try.func10, Try.ntmps10
  go_wp2_with fail
  refine same_at (made_void w d h) ?_
  go_wp2
  go_ret
  exact ⟨rfl, rfl⟩

set_option maxHeartbeats 400000 in
theorem image_void (w : World) (d : Option Addr) (h : Void w d) : Calls Try.prog 14 #[.pointer d] w fun e w' => e = .returned (.slice none 0 0) ∧ w' = w := by
  go_enter Try.func14, Try.ntmps14
  go_wp2_with fail
  refine same_at (made_void w d h) ?_
  go_wp2
  go_ret
  exact ⟨rfl, rfl⟩

set_option maxHeartbeats 400000 in
theorem queue_void (w : World) (d : Option Addr) (h : Void w d) : Calls Try.prog 6 #[.pointer d] w fun e w' => e = .returned (.slice none 0 0) ∧ w' = w := by
  go_enter Try.func6, Try.ntmps6
  go_wp2_with fail
  refine same_at (made_void w d h) ?_
  go_wp2
  go_ret
  exact ⟨rfl, rfl⟩

set_option maxHeartbeats 400000 in
theorem copy_void (w : World) (d : Option Addr) (h : Void w d) : Calls Try.prog 9 #[.pointer d] w fun e w' => e = .returned (.pointer none) ∧ w' = w := by
  go_enter Try.func9, Try.ntmps9
  go_wp2_with fail
  refine same_at (made_void w d h) ?_
  go_wp2
  go_ret
  exact ⟨rfl, rfl⟩

theorem at_old {w : World} {k : Nat} {o u : Obj} (h : w.heap[k]? = some u) : (w.alloc o).heap[k]? = some u := by
  rw [Below.heap_alloc _ _ _ (Array.getElem?_eq_some_iff.1 h).1]; exact h

theorem at_new {w : World} {k : Nat} {o : Obj} (h : k = w.heap.size) : (w.alloc o).heap[k]? = some o := by
  subst h; exact heap_alloc_new w o

set_option maxHeartbeats 400000 in
theorem new_three (w : World) : Calls Try.prog 40 #[.int .i64 3] w fun e w' => ∃ b, e = .returned (.tuple #[.pointer (some ⟨b, 0, none⟩), .int .i64 0]) ∧ w'.cell? ⟨b, 0, none⟩ = some (.int .i64 3) ∧ Below w.heap.size w w' := by
  have hmm := @run_makeMap Try.prog
  go_enter Try.func40, Try.ntmps40
  go_wp2
  go_ret2
  refine ⟨w.heap.size + 1 + 1, rfl, ?_, ?_⟩
  · rw [cell_of_row _ _ 0 _ 67 _ (at_new (by simp))]; rfl
  · exact (((Below.refl _ _).alloc (Nat.le_refl _) _).alloc (by simp) _).alloc (by simp; omega) _

theorem info5 : (Try.prog.info? 5).map (fun i => (i.zero, i.size, i.bytes)) = some (some (.int .u8 0), 1, 1) := by kernel_rfl

/-- The two disks that no call made. -/
def Pair (w wr : World) : Prop :=
  wr.heap[w.heap.size]? = some (.cells #[.int .i64 0, .map none, .slice none 0 0, .int .i64 0, .map none] 67 (0, 0)) ∧ wr.heap[w.heap.size + 1]? = some (.cells #[.pointer none, .pointer (some ⟨w.heap.size, 0, none⟩)] 25 (0, 0)) ∧ Below w.heap.size w wr

theorem Pair.later {w wr w' : World} (h : Pair w wr) (hb : Below wr.heap.size wr w') : Pair w w' := by
  refine ⟨?_, ?_, h.2.2.trans (hb.mono h.2.2.size)⟩
  · rw [hb.block _ (Array.getElem?_eq_some_iff.1 h.1).1]; exact h.1
  · rw [hb.block _ (Array.getElem?_eq_some_iff.1 h.2.1).1]; exact h.2.1

theorem pair_mk (w : World) : Pair w ((w.alloc (.cells #[.int .i64 0, .map none, .slice none 0 0, .int .i64 0, .map none] 67)).alloc (.cells #[.pointer none, .pointer (some ⟨w.heap.size, 0, none⟩)] 25)) :=
  ⟨at_old (at_new rfl), at_new (by simp), ((Below.refl _ _).alloc (Nat.le_refl _) _).alloc (by simp) _⟩

theorem Pair.c0 {w wr : World} (h : Pair w wr) : wr.cell? ⟨w.heap.size + 1, 0, none⟩ = some (.pointer none) := by
  rw [cell_of_row wr _ 0 _ _ _ h.2.1]; rfl
theorem Pair.c1 {w wr : World} (h : Pair w wr) : wr.cell? ⟨w.heap.size + 1, 1, none⟩ = some (.pointer (some ⟨w.heap.size, 0, none⟩)) := by
  rw [cell_of_row wr _ 1 _ _ _ h.2.1]; rfl
theorem Pair.void {w wr : World} (h : Pair w wr) : Void wr (some ⟨w.heap.size, 0, none⟩) :=
  .inr ⟨_, rfl, by rw [cell_of_row wr _ 0 _ _ _ h.1]; rfl⟩

end Go.Proofs.Ytemhhgpgpjiijaa
