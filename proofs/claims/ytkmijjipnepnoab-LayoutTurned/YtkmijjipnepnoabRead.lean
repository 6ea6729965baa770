/- What a reader of word is in memory, and what its calls do. -/
import Derived.Test.YtkmijjipnepnoabSums
import Derived.Defers
import Derived.Recover
namespace Go.Proofs.Ytkmijjipnepnoab
open Go.RowKit

/-- Block rb is a reader: what is left, its error, whether a call made it. -/
def Rd (w : World) (rb : Nat) (v : Value) (E : Int) (made : Bool) : Prop := w.heap[rb]? = some (.cells #[v, .int .i64 E, .bool made] 90 (0, 0))

theorem Rd.c0 {w : World} {rb : Nat} {v : Value} {E : Int} {made : Bool} (h : Rd w rb v E made) : w.cell? ⟨rb, 0, none⟩ = some v := by
  simp [World.cell?, show w.heap[rb]? = _ from h]
theorem Rd.c1 {w : World} {rb : Nat} {v : Value} {E : Int} {made : Bool} (h : Rd w rb v E made) : w.cell? ⟨rb, 1, none⟩ = some (.int .i64 E) := by
  simp [World.cell?, show w.heap[rb]? = _ from h]
theorem Rd.c2 {w : World} {rb : Nat} {v : Value} {E : Int} {made : Bool} (h : Rd w rb v E made) : w.cell? ⟨rb, 2, none⟩ = some (.bool made) := by
  simp [World.cell?, show w.heap[rb]? = _ from h]
theorem Rd.fz {w : World} {rb : Nat} {v : Value} {E : Int} {made : Bool} (h : Rd w rb v E made) (j : Nat) : w.frozen? ⟨rb, j, none⟩ = false := by
  simp [World.frozen?, show w.heap[rb]? = _ from h]
theorem Rd.lt {w : World} {rb : Nat} {v : Value} {E : Int} {made : Bool} (h : Rd w rb v E made) : rb < w.heap.size := (Array.getElem?_eq_some_iff.1 h).1
theorem Rd.set0 {w : World} {rb : Nat} {v : Value} {E : Int} {made : Bool} (h : Rd w rb v E made) (u : Value) : Rd (w.setCell ⟨rb, 0, none⟩ u) rb u E made := by
  have := heap_setCell_same w rb 0 _ 90 u h
  simpa [Rd] using this
theorem Rd.set1 {w : World} {rb : Nat} {v : Value} {E : Int} {made : Bool} (h : Rd w rb v E made) (F : Int) : Rd (w.setCell ⟨rb, 1, none⟩ (.int .i64 F)) rb v F made := by
  have := heap_setCell_same w rb 1 _ 90 (.int .i64 F) h
  simpa [Rd] using this

set_option maxHeartbeats 400000 in
theorem err_nil (w : World) : Calls Try.prog 85 #[.pointer none] w fun e w' => e = .returned (.int .i64 2) ∧ w' = w := by
  go_enter Try.func85, Try.ntmps85
  go_wp2
  go_ret
  exact ⟨rfl, rfl⟩

set_option maxHeartbeats 400000 in
theorem err_plain (w : World) (rb : Nat) (v : Value) (E : Int) (h : Rd w rb v E false) : Calls Try.prog 85 #[.pointer (some ⟨rb, 0, none⟩)] w fun e w' => e = .returned (.int .i64 2) ∧ w' = w := by
  have h2 := h.c2
  go_enter Try.func85, Try.ntmps85
  go_wp2
  go_ret
  exact ⟨rfl, rfl⟩

set_option maxHeartbeats 400000 in
theorem err_made (w : World) (rb : Nat) (v : Value) (E : Int) (h : Rd w rb v E true) : Calls Try.prog 85 #[.pointer (some ⟨rb, 0, none⟩)] w fun e w' => e = .returned (.int .i64 E) ∧ w' = w := by
  have h2 := h.c2
  have h1 := h.c1
  go_enter Try.func85, Try.ntmps85
  go_wp2
  go_ret
  exact ⟨rfl, rfl⟩

theorem makes (fn : Fn) (first cap : Array Value) (w : World) : (Instr.makeFunc fn first cap).run Try.prog w = .ok (.func fn first cap) w := rfl

/-- A reader that has an error, or that no call made, does not begin. -/
theorem attempt_no (w : World) (r : Option Addr) (F : Int) (step : Value) (hF : (F != 0) = true) (h : ∀ w', Below w.heap.size w w' → Calls Try.prog 85 #[.pointer r] w' fun e w'' => e = .returned (.int .i64 F) ∧ w'' = w') :
    Calls Try.prog 79 #[.pointer r, step] w fun e w' => e = .returned (.tuple #[]) ∧ Below w.heap.size w w' := by
  have hb := (Below.refl w.heap.size w).alloc (Nat.le_refl _) (.cells #[.pointer r] 81)
  go_enter_defers Try.func79, Try.ntmps79
  go_wp2_with fail
  refine same_at (h _ hb) ?_
  clear h
  go_wp2
  simp [bodyPostD, Leaves, results, Try.results79, go_sem]
  exact hb

theorem assert_nil (w : World) : (Instr.typeAssert .nilIface 20 30 true).run Try.prog w = .ok (.tuple #[.int .i64 0, .bool false]) w := by kernel_rfl
theorem assert_errno (E : Int) (w : World) : (Instr.typeAssert (.iface 30 (.int .i64 E)) 20 30 true).run Try.prog w = .ok (.tuple #[.int .i64 E, .bool true]) w := by kernel_rfl

theorem catch_idle (q : Addr) (w : World) :
    CallsD Try.prog 86 #[.pointer (some q)] .returning w fun e u' w' => e = .returned (.tuple #[]) ∧ u' = .returning ∧ w' = w := by
  refine callsD_of_wpS Try.func86 rfl fun c₀ cs hu => ?_
  apply wpS_seq
  apply wpS_region
  simp [wpOpsS, go_sem, recoverD, hu, Try.ntmps86, Exit.thenS, assert_nil]
  apply wpS_seq
  apply wpS_region
  simp [wpOpsS, go_sem, Exit.thenS]
  refine wpS_cond (t := false) (by simp [Act.eval, Array.replicate]) ?_
  simp only [Bool.false_eq_true, if_false]
  refine wpS_of_wp (wp_skip ?_)
  cases c₀
  simp_all [bodyPostS, results, Try.results86]

theorem catch_pan (q : Addr) (rb : Nat) (v : Value) (E F : Int) (made : Bool) (older : List PanicEntry) (w : World) (hq : w.cell? q = some (.pointer (some ⟨rb, 0, none⟩))) (h : Rd w rb v F made) :
    CallsD Try.prog 86 #[.pointer (some q)] (.panicking ({ v := .iface 30 (.int .i64 E), recovered := false } :: older)) w fun e u' w' =>
      e = .returned (.tuple #[]) ∧ u' = .panicking ({ v := .iface 30 (.int .i64 E), recovered := true } :: older) ∧ w' = w.setCell ⟨rb, 1, none⟩ (.int .i64 E) := by
  have h1 := h.c1
  have hf := h.fz 1
  refine callsD_of_wpS Try.func86 rfl fun c₀ cs hu => ?_
  apply wpS_seq
  apply wpS_region
  simp [wpOpsS, go_sem, recoverD, hu, Try.ntmps86, Exit.thenS, assert_errno]
  apply wpS_seq
  apply wpS_region
  simp [wpOpsS, go_sem, Exit.thenS]
  refine wpS_cond (t := true) (by simp [Act.eval, Array.replicate]) ?_
  simp only [if_true]
  apply wpS_region
  simp [wpOpsS, go_sem, hq, h1, hf, bodyPostS, results, Try.results86]
end Go.Proofs.Ytkmijjipnepnoab
