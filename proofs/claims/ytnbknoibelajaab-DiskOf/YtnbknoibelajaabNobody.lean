/- DiskNobody: a disk that no call made answers nothing, and changes nothing, whatever it is asked. -/
import Derived.Test.YtnbknoibelajaabChecked
import Derived.WalkKit
import Derived.WalkSpells
import Derived.WalkLawsBesides
import Derived.BigQuiet
import Derived.Deep.QuietTactic
namespace Go.Proofs.Ytnbknoibelajaab
open Go.RowKit

theorem same_at {P : Program} {f : FuncId} {args : Array Value} {w : World} {v : Value} {Q : Ending → World → Prop} (h : Calls P f args w fun e w' => e = .returned v ∧ w' = w) (hq : Q (.returned v) w) : Calls P f args w Q :=
  h.mono (by rintro e w' ⟨rfl, rfl⟩; exact hq)

/-- d is nil, or leads to a disk that no call made. -/
def Void (w : World) (d : Option Addr) : Prop := d = none ∨ ∃ b, d = some ⟨b, 0, none⟩ ∧ w.cell? ⟨b, 0, none⟩ = some (.int .i64 0)

set_option maxHeartbeats 400000 in
theorem blocks_nil (w : World) : Calls Try.prog 25 #[.pointer none] w fun e w' => e = .returned (.int .i64 0) ∧ w' = w := by
  go_enter Try.func25, Try.ntmps25
  go_wp2
  go_ret
  exact ⟨rfl, rfl⟩

set_option maxHeartbeats 400000 in
theorem blocks_some (w : World) (b : Nat) (k : Int) (h : w.cell? ⟨b, 0, none⟩ = some (.int .i64 k)) : Calls Try.prog 25 #[.pointer (some ⟨b, 0, none⟩)] w fun e w' => e = .returned (.int .i64 k) ∧ w' = w := by
  go_enter Try.func25, Try.ntmps25
  go_wp2
  go_ret
  exact ⟨rfl, rfl⟩

theorem blocks_void (w : World) (d : Option Addr) (h : Void w d) : Calls Try.prog 25 #[.pointer d] w fun e w' => e = .returned (.int .i64 0) ∧ w' = w := by
  rcases h with rfl | ⟨b, rfl, hb⟩
  · exact blocks_nil w
  · exact blocks_some w b 0 hb

set_option maxHeartbeats 400000 in
theorem made_void (w : World) (d : Option Addr) (h : Void w d) : Calls Try.prog 43 #[.pointer d] w fun e w' => e = .returned (.bool false) ∧ w' = w := by
  go_enter Try.func43, Try.ntmps43
  go_wp2_with fail
  refine same_at (blocks_void w d h) ?_
  go_wp2
  go_ret
  exact ⟨rfl, rfl⟩

set_option maxHeartbeats 400000 in
theorem read_void (w : World) (d : Option Addr) (b : Int) (h : Void w d) : Calls Try.prog 26 #[.pointer d, .int .i64 b] w fun e w' => e = .returned (.tuple #[.slice none 0 0, .int .i64 2]) ∧ w' = w := by
  go_enter Try.func26, Try.ntmps26
  go_wp2_with fail
  refine same_at (made_void w d h) ?_
  go_wp2
  go_ret2
  exact ⟨rfl, rfl⟩

set_option maxHeartbeats 400000 in
theorem write_void (w : World) (d : Option Addr) (b : Int) (v : Value) (h : Void w d) : Calls Try.prog 27 #[.pointer d, .int .i64 b, v] w fun e w' => e = .returned (.tuple #[.int .i64 0, .int .i64 2]) ∧ w' = w := by
  go_enter Try.func27, Try.ntmps27
  go_wp2_with fail
  refine same_at (made_void w d h) ?_
  go_wp2
  go_ret2
  exact ⟨rfl, rfl⟩

set_option maxHeartbeats 400000 in
theorem complete_void (w : World) (d : Option Addr) (n : Int) (k : Bool) (h : Void w d) : Calls Try.prog 23 #[.pointer d, .int .i64 n, .bool k] w fun e w' => e = .returned (.int .i64 2) ∧ w' = w := by
  go_enter Try.func23, Try.ntmps23
  go_wp2_with fail
  refine same_at (made_void w d h) ?_
  go_wp2
  go_ret
  exact ⟨rfl, rfl⟩

set_option maxHeartbeats 400000 in
theorem fail_void (w : World) (d : Option Addr) (b n : Int) (h : Void w d) : Calls Try.prog 28 #[.pointer d, .int .i64 b, .int .i64 n] w fun e w' => e = .returned (.int .i64 2) ∧ w' = w := by
  go_enter Try.func28, Try.ntmps28
  go_wp2_with fail
  refine same_at (made_void w d h) ?_
  go_wp2
  go_ret
  exact ⟨rfl, rfl⟩

set_option maxHeartbeats 400000 in
theorem crash_void (w : World) (d : Option Addr) (v : Value) (h : Void w d) : Calls Try.prog 24 #[.pointer d, v] w fun e w' => e = .returned (.int .i64 2) ∧ w' = w := by
  go_enter Try.func24, Try.ntmps24
  go_wp2_with fail
  refine same_at (made_void w d h) ?_
  go_wp2
  go_ret
  exact ⟨rfl, rfl⟩

set_option maxHeartbeats 400000 in
theorem image_void (w : World) (d : Option Addr) (h : Void w d) : Calls Try.prog 21 #[.pointer d] w fun e w' => e = .returned (.slice none 0 0) ∧ w' = w := by
  go_enter Try.func21, Try.ntmps21
  go_wp2_with fail
  refine same_at (made_void w d h) ?_
  go_wp2
  go_ret
  exact ⟨rfl, rfl⟩

set_option maxHeartbeats 400000 in
theorem queue_void (w : World) (d : Option Addr) (h : Void w d) : Calls Try.prog 20 #[.pointer d] w fun e w' => e = .returned (.slice none 0 0) ∧ w' = w := by
  go_enter Try.func20, Try.ntmps20
  go_wp2_with fail
  refine same_at (made_void w d h) ?_
  go_wp2
  go_ret
  exact ⟨rfl, rfl⟩

set_option maxHeartbeats 400000 in
theorem copy_void (w : World) (d : Option Addr) (h : Void w d) : Calls Try.prog 17 #[.pointer d] w fun e w' => e = .returned (.pointer none) ∧ w' = w := by
  go_enter Try.func17, Try.ntmps17
  go_wp2_with fail
  refine same_at (made_void w d h) ?_
  go_wp2
  go_ret
  exact ⟨rfl, rfl⟩

theorem at_old {w : World} {k : Nat} {o u : Obj} (h : w.heap[k]? = some u) : (w.alloc o).heap[k]? = some u := by
  rw [Below.heap_alloc _ _ _ (Array.getElem?_eq_some_iff.1 h).1]; exact h

theorem at_new {w : World} {k : Nat} {o : Obj} (h : k = w.heap.size) : (w.alloc o).heap[k]? = some o := by
  subst h; exact heap_alloc_new w o

set_option maxHeartbeats 400000 in
theorem new_three (w : World) : Calls Try.prog 8 #[.int .i64 3] w fun e w' => ∃ b, e = .returned (.tuple #[.pointer (some ⟨b, 0, none⟩), .int .i64 0]) ∧ w'.cell? ⟨b, 0, none⟩ = some (.int .i64 3) ∧ Below w.heap.size w w' := by
  have hmm := @run_makeMap Try.prog
  go_enter Try.func8, Try.ntmps8
  go_wp2
  go_ret2
  refine ⟨w.heap.size + 1 + 1, rfl, ?_, ?_⟩
  · rw [cell_of_row _ _ 0 _ 62 _ (at_new (by simp))]; rfl
  · exact (((Below.refl _ _).alloc (Nat.le_refl _) _).alloc (by simp) _).alloc (by simp; omega) _

theorem info5 : (Try.prog.info? 5).map (fun i => (i.zero, i.size, i.bytes)) = some (some (.int .u8 0), 1, 1) := by kernel_rfl

/-- The two disks that no call made. -/
def Pair (w wr : World) : Prop :=
  wr.heap[w.heap.size]? = some (.cells #[.int .i64 0, .map none, .slice none 0 0, .int .i64 0, .map none] 62 (0, 0)) ∧ wr.heap[w.heap.size + 1]? = some (.cells #[.pointer none, .pointer (some ⟨w.heap.size, 0, none⟩)] 23 (0, 0)) ∧ Below w.heap.size w wr

theorem Pair.later {w wr w' : World} (h : Pair w wr) (hb : Below wr.heap.size wr w') : Pair w w' := by
  refine ⟨?_, ?_, h.2.2.trans (hb.mono h.2.2.size)⟩
  · rw [hb.block _ (Array.getElem?_eq_some_iff.1 h.1).1]; exact h.1
  · rw [hb.block _ (Array.getElem?_eq_some_iff.1 h.2.1).1]; exact h.2.1

theorem pair_mk (w : World) : Pair w ((w.alloc (.cells #[.int .i64 0, .map none, .slice none 0 0, .int .i64 0, .map none] 62)).alloc (.cells #[.pointer none, .pointer (some ⟨w.heap.size, 0, none⟩)] 23)) :=
  ⟨at_old (at_new rfl), at_new (by simp), ((Below.refl _ _).alloc (Nat.le_refl _) _).alloc (by simp) _⟩

theorem Pair.c0 {w wr : World} (h : Pair w wr) : wr.cell? ⟨w.heap.size + 1, 0, none⟩ = some (.pointer none) := by
  rw [cell_of_row wr _ 0 _ _ _ h.2.1]; rfl
theorem Pair.c1 {w wr : World} (h : Pair w wr) : wr.cell? ⟨w.heap.size + 1, 1, none⟩ = some (.pointer (some ⟨w.heap.size, 0, none⟩)) := by
  rw [cell_of_row wr _ 1 _ _ _ h.2.1]; rfl
theorem Pair.void {w wr : World} (h : Pair w wr) : Void wr (some ⟨w.heap.size, 0, none⟩) :=
  .inr ⟨_, rfl, by rw [cell_of_row wr _ 0 _ _ _ h.1]; rfl⟩

set_option maxRecDepth 100000 in
set_option maxHeartbeats 1600000 in
theorem nobody_walk (b n : Int) (w : World) :
    Calls Try.prog 7 #[.int .i64 b, .int .i64 n] w fun e w' => e = .returned (.bool true) ∧ Below w.heap.size w w' := by
  have hmk := pair_mk w
  obtain ⟨i0, hi, hz0, hz1, hz2⟩ := info_parts info5
  go_enter Try.func7, Try.ntmps7
  go_wp2_with fail
  go_loopw [17] (fun i wr => ∃ j : Nat, j ≤ 2 ∧ i = .int .i64 j ∧ Pair w wr) (fun i _ => 2 - (intOf i).toNat)
  case atStart => exact ⟨0, by omega, rfl, hmk⟩
  case round =>
    obtain ⟨j, hj, rfl, hp⟩ := hrel
    clear hmk
    by_cases hlt : j < 2
    · obtain ⟨d, hd, hcell⟩ : ∃ d, (∀ w', Pair w w' → Void w' d) ∧ wr.cell? ⟨w.heap.size + 1, j, none⟩ = some (.pointer d) := by
        rcases (by omega : j = 0 ∨ j = 1) with rfl | rfl
        · exact ⟨none, fun _ _ => .inl rfl, hp.c0⟩
        · exact ⟨_, fun w' h => h.void, hp.c1⟩
      have HD := (show Hid _ from hd)
      clear hd
      go_wp2_with fail
      refine same_at (read_void wr d b (HD.out wr hp)) ?_
      go_wp2_with (at_make; refine wpList_make_full _ rfl _ _ 30 rfl 0 5 i0 (.int .u8 0) 1 Try.underlying30 hi hz0 hz1 .i64 .i64 _ _ 128 rfl rfl (by omega) (by omega) (by rw [hz2]; omega) (by unfold maxLen; omega) (Nat.zero_le _) ?_; intro w1 hown1 hgrow1; have hp1 := hp.later ((Below.refl wr.heap.size wr).grown hgrow1 (Nat.le_refl _) (by intro k hk; cases hk)); clear hown1 hgrow1)
      clear hcell hp
      refine same_at (write_void w1 d b _ (HD.out w1 hp1)) ?_
      go_wp2_with fail
      refine same_at (complete_void w1 d n true (HD.out w1 hp1)) ?_
      go_wp2_with fail
      refine same_at (fail_void w1 d b n (HD.out w1 hp1)) ?_
      go_wp2_with fail
      refine same_at (crash_void w1 d _ (HD.out w1 hp1)) ?_
      go_wp2_with fail
      refine same_at (blocks_void w1 d (HD.out w1 hp1)) ?_
      go_wp2_with fail
      refine same_at (image_void w1 d (HD.out w1 hp1)) ?_
      go_wp2_with fail
      refine same_at (queue_void w1 d (HD.out w1 hp1)) ?_
      go_wp2_with fail
      refine same_at (copy_void w1 d (HD.out w1 hp1)) ?_
      go_wp2
      go_roundw
      case rel => exact ⟨j + 1, by omega, by go_num, hp1⟩
      case measure => simp [intOf]; omega
    · obtain rfl : j = 2 := by omega
      go_wp2_with fail
      refine (new_three wr).mono ?_
      rintro e w1 ⟨b1, rfl, hc1, hb1⟩
      go_wp2_with fail
      refine same_at (blocks_some w1 b1 3 hc1) ?_
      go_wp2
      go_ret
      exact ⟨rfl, hp.2.2.trans (hb1.mono hp.2.2.size)⟩
end Go.Proofs.Ytnbknoibelajaab
