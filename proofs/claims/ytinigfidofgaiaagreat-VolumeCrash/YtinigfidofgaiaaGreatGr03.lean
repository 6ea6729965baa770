/- Mu Find Place Build -/
import Derived.Test.YtinigfidofgaiaaGreatGr02
import Derived.Conc.MuLone
import Derived.KernelRfl
import Derived.Laws.Tables

/- The numbers under which this program holds sync.Mutex, and the volume's methods that take its guard. -/
namespace Go.Proofs.YtinigfidofgaiaaGreat
open Go.RowKit Go.Maps Go.MuLone
set_option linter.unusedVariables false

abbrev muLink : Go.Conc.Locks.MuLink := { lock := 39, unlock := 40, ilock := 73, iunlock := 74, lockSlow := 112, unlockSlow := 115, disable := 108, enable := 110, acquire := 111, relMerge := 113, cas32 := 109, add32 := 114, tMutex := 70, tIMutex := 68, tPMutex := 113, tPIMutex := 146, tPI32 := 148, tUP := 150, tNoCopy := 65, tU32 := 66 }
theorem muLib : Go.Conc.Locks.MuLib Tryz.prog muLink :=
  ⟨Tryz.func39, Tryz.func40, Tryz.func73, Tryz.func74, Tryz.func108, Tryz.func110, Tryz.func111, Tryz.func113, Tryz.func109, Tryz.func114, Tryz.underlying68, Tryz.runUnderlying68, Tryz.sizeOf68, Tryz.isAgg68, Tryz.zeroValue68, Tryz.underlying70, Tryz.runUnderlying70, Tryz.sizeOf70, Tryz.isAgg70, Tryz.zeroValue70, Tryz.underlying113, Tryz.runUnderlying113, Tryz.sizeOf113, Tryz.isAgg113, Tryz.zeroValue113, Tryz.underlying146, Tryz.runUnderlying146, Tryz.sizeOf146, Tryz.isAgg146, Tryz.zeroValue146, Tryz.underlying148, Tryz.runUnderlying148, Tryz.sizeOf148, Tryz.isAgg148, Tryz.zeroValue148, Tryz.underlying150, Tryz.runUnderlying150, Tryz.sizeOf150, Tryz.isAgg150, Tryz.zeroValue150, Tryz.underlying65, Tryz.runUnderlying65, Tryz.sizeOf65, Tryz.isAgg65, Tryz.zeroValue65, Tryz.underlying21, Tryz.runUnderlying21, Tryz.sizeOf21, Tryz.isAgg21, Tryz.zeroValue21, by kernel_rfl⟩

/-- Block v is a volume: its guard free; its disk d, cache c, patches s, way map m and view x. -/
def VRow (w : World) (v d c s m : Nat) (x : Option Addr) : Prop :=
  w.heap[v]? = some (.cells #[.int .i32 0, .int .u32 0, .pointer (some ⟨d, 0, none⟩), .pointer (some ⟨c, 0, none⟩), .pointer (some ⟨s, 0, none⟩), .map (some m), .pointer x] 76 (0, 0))
/-- The same while the guard is held. -/
def VHeld (w : World) (v d c s m : Nat) (x : Option Addr) : Prop :=
  w.heap[v]? = some (.cells #[.int .i32 1, .int .u32 0, .pointer (some ⟨d, 0, none⟩), .pointer (some ⟨c, 0, none⟩), .pointer (some ⟨s, 0, none⟩), .map (some m), .pointer x] 76 (0, 0))

section
variable {w : World} {v d c s m : Nat} {x : Option Addr}
theorem VRow.held (h : VRow w v d c s m x) : VHeld (w.setCell ⟨v, 0, none⟩ (.int .i32 1)) v d c s m x := heap_setCell_same w v 0 _ 76 _ h
theorem VHeld.free (h : VHeld w v d c s m x) : VRow (w.setCell ⟨v, 0, none⟩ (.int .i32 0)) v d c s m x := heap_setCell_same w v 0 _ 76 _ h
theorem VRow.made (h : VRow w v d c s m x) : w.cell? ⟨v, 2, none⟩ = some (.pointer (some ⟨d, 0, none⟩)) := cell_of_row w v 2 _ 76 _ h
theorem VRow.lock (h : VRow w v d c s m x) : Calls Tryz.prog 39 #[.pointer (some ⟨v, 0, none⟩)] w fun e w' => e = .returned (.tuple #[]) ∧ w' = w.setCell ⟨v, 0, none⟩ (.int .i32 1) :=
  lock_free muLib ⟨v, 0, none⟩ w (cell_of_row w v 0 _ 76 _ h) (by have h1 := h; unfold VRow at h1; simp [World.frozen?, h1])
theorem VHeld.unlock (h : VHeld w v d c s m x) (u : FrameMode) : CallsD Tryz.prog 40 #[.pointer (some ⟨v, 0, none⟩)] u w fun e u' w' => u' = u ∧ (e = .returned (.tuple #[]) ∧ w' = w.setCell ⟨v, 0, none⟩ (.int .i32 0)) :=
  unlock_deferred muLib ⟨v, 0, none⟩ u w (cell_of_row w v 0 _ 76 _ h) (by have h1 := h; unfold VHeld at h1; simp [World.frozen?, h1])

/-- Taken and let go, the guard is as it was. -/
theorem VRow.back (h : VRow w v d c s m x) : (w.setCell ⟨v, 0, none⟩ (.int .i32 1)).setCell ⟨v, 0, none⟩ (.int .i32 0) = w := by
  have hv := (Array.getElem?_eq_some_iff.1 h)
  obtain ⟨hlt, hv⟩ := hv
  have e : ((w.setCell ⟨v, 0, none⟩ (.int .i32 1)).setCell ⟨v, 0, none⟩ (.int .i32 0)).heap = w.heap := by
    apply Array.ext
    · simp [World.setCell]
    · intro i h1 h2
      simp only [World.setCell, Array.getElem_modify]
      by_cases hi : v = i
      · subst hi
        rw [hv]
        simp
      · simp [hi]
  cases w
  simp only [World.setCell] at e ⊢
  rw [e]

set_option maxHeartbeats 1000000 in
theorem vlast_of (h : VRow w v d c s m x)  {R : Value → World → Prop} (hl : Calls Tryz.prog 47 #[.pointer (some ⟨s, 0, none⟩)] (w.setCell ⟨v, 0, none⟩ (.int .i32 1)) fun e w1 => ∃ r y, e = .returned r ∧ VHeld w1 v d c s m y ∧ R r w1) : Calls Tryz.prog 16 #[.pointer (some ⟨v, 0, none⟩)] w fun e w' => ∃ r y w1, e = .returned r ∧ VHeld w1 v d c s m y ∧ R r w1 ∧ w' = w1.setCell ⟨v, 0, none⟩ (.int .i32 0) := by
  have hm := vmade_ok h.made
  have hlk := h.lock
  have c4 := cell_of_row _ v 4 _ 76 _ h.held
  go_enter_defers Tryz.func16, Tryz.ntmps16
  go_wp2_with (first
    | (go_at_call 38; refine same_at hm ?_)
    | (go_at_call 39; refine Calls.mono hlk ?_; rintro e w' ⟨rfl, rfl⟩)
    | (go_at_call 47; refine Calls.mono hl ?_; rintro e w1 ⟨r, y, rfl, h1, hr⟩))
  refine leaves_cons (f := 40) (args := #[.pointer (some ⟨v, 0, none⟩)]) (by simp) (by simp [go_sem]) ?_
  refine (h1.unlock .returning).mono ?_
  rintro e u' w'' ⟨rfl, rfl, rfl⟩
  exact ⟨_, results_tmp rfl _ _ _, r, y, w1, rfl, h1, hr, rfl⟩
set_option maxHeartbeats 1000000 in
theorem vdirty_of (h : VRow w v d c s m x)  {R : Value → World → Prop} (hl : Calls Tryz.prog 41 #[.pointer (some ⟨s, 0, none⟩)] (w.setCell ⟨v, 0, none⟩ (.int .i32 1)) fun e w1 => ∃ r y, e = .returned r ∧ VHeld w1 v d c s m y ∧ R r w1) : Calls Tryz.prog 10 #[.pointer (some ⟨v, 0, none⟩)] w fun e w' => ∃ r y w1, e = .returned r ∧ VHeld w1 v d c s m y ∧ R r w1 ∧ w' = w1.setCell ⟨v, 0, none⟩ (.int .i32 0) := by
  have hm := vmade_ok h.made
  have hlk := h.lock
  have c4 := cell_of_row _ v 4 _ 76 _ h.held
  go_enter_defers Tryz.func10, Tryz.ntmps10
  go_wp2_with (first
    | (go_at_call 38; refine same_at hm ?_)
    | (go_at_call 39; refine Calls.mono hlk ?_; rintro e w' ⟨rfl, rfl⟩)
    | (go_at_call 41; refine Calls.mono hl ?_; rintro e w1 ⟨r, y, rfl, h1, hr⟩))
  refine leaves_cons (f := 40) (args := #[.pointer (some ⟨v, 0, none⟩)]) (by simp) (by simp [go_sem]) ?_
  refine (h1.unlock .returning).mono ?_
  rintro e u' w'' ⟨rfl, rfl, rfl⟩
  exact ⟨_, results_tmp rfl _ _ _, r, y, w1, rfl, h1, hr, rfl⟩
set_option maxHeartbeats 1000000 in
theorem vpending_of (h : VRow w v d c s m x) (b : Int) {R : Value → World → Prop} (hl : Calls Tryz.prog 70 #[.pointer (some ⟨s, 0, none⟩), .int .i64 b] (w.setCell ⟨v, 0, none⟩ (.int .i32 1)) fun e w1 => ∃ r y, e = .returned r ∧ VHeld w1 v d c s m y ∧ R r w1) : Calls Tryz.prog 35 #[.pointer (some ⟨v, 0, none⟩), .int .i64 b] w fun e w' => ∃ r y w1, e = .returned r ∧ VHeld w1 v d c s m y ∧ R r w1 ∧ w' = w1.setCell ⟨v, 0, none⟩ (.int .i32 0) := by
  have hm := vmade_ok h.made
  have hlk := h.lock
  have c4 := cell_of_row _ v 4 _ 76 _ h.held
  go_enter_defers Tryz.func35, Tryz.ntmps35
  go_wp2_with (first
    | (go_at_call 38; refine same_at hm ?_)
    | (go_at_call 39; refine Calls.mono hlk ?_; rintro e w' ⟨rfl, rfl⟩)
    | (go_at_call 70; refine Calls.mono hl ?_; rintro e w1 ⟨r, y, rfl, h1, hr⟩))
  refine leaves_cons (f := 40) (args := #[.pointer (some ⟨v, 0, none⟩)]) (by simp) (by simp [go_sem]) ?_
  refine (h1.unlock .returning).mono ?_
  rintro e u' w'' ⟨rfl, rfl, rfl⟩
  exact ⟨_, results_tmp rfl _ _ _, r, y, w1, rfl, h1, hr, rfl⟩
set_option maxHeartbeats 1000000 in
theorem visDone_of (h : VRow w v d c s m x) (b : Int) {R : Value → World → Prop} (hl : Calls Tryz.prog 53 #[.pointer (some ⟨s, 0, none⟩), .int .i64 b] (w.setCell ⟨v, 0, none⟩ (.int .i32 1)) fun e w1 => ∃ r y, e = .returned r ∧ VHeld w1 v d c s m y ∧ R r w1) : Calls Tryz.prog 18 #[.pointer (some ⟨v, 0, none⟩), .int .i64 b] w fun e w' => ∃ r y w1, e = .returned r ∧ VHeld w1 v d c s m y ∧ R r w1 ∧ w' = w1.setCell ⟨v, 0, none⟩ (.int .i32 0) := by
  have hm := vmade_ok h.made
  have hlk := h.lock
  have c4 := cell_of_row _ v 4 _ 76 _ h.held
  go_enter_defers Tryz.func18, Tryz.ntmps18
  go_wp2_with (first
    | (go_at_call 38; refine same_at hm ?_)
    | (go_at_call 39; refine Calls.mono hlk ?_; rintro e w' ⟨rfl, rfl⟩)
    | (go_at_call 53; refine Calls.mono hl ?_; rintro e w1 ⟨r, y, rfl, h1, hr⟩))
  refine leaves_cons (f := 40) (args := #[.pointer (some ⟨v, 0, none⟩)]) (by simp) (by simp [go_sem]) ?_
  refine (h1.unlock .returning).mono ?_
  rintro e u' w'' ⟨rfl, rfl, rfl⟩
  exact ⟨_, results_tmp rfl _ _ _, r, y, w1, rfl, h1, hr, rfl⟩
set_option maxHeartbeats 1000000 in
theorem vready_of (h : VRow w v d c s m x)  {R : Value → World → Prop} (hl : Calls Tryz.prog 42 #[.pointer (some ⟨v, 0, none⟩)] (w.setCell ⟨v, 0, none⟩ (.int .i32 1)) fun e w1 => ∃ r y, e = .returned r ∧ VHeld w1 v d c s m y ∧ R r w1) : Calls Tryz.prog 11 #[.pointer (some ⟨v, 0, none⟩)] w fun e w' => ∃ r y w1, e = .returned r ∧ VHeld w1 v d c s m y ∧ R r w1 ∧ w' = w1.setCell ⟨v, 0, none⟩ (.int .i32 0) := by
  have hm := vmade_ok h.made
  have hlk := h.lock
  have c4 := cell_of_row _ v 4 _ 76 _ h.held
  go_enter_defers Tryz.func11, Tryz.ntmps11
  go_wp2_with (first
    | (go_at_call 38; refine same_at hm ?_)
    | (go_at_call 39; refine Calls.mono hlk ?_; rintro e w' ⟨rfl, rfl⟩)
    | (go_at_call 42; refine Calls.mono hl ?_; rintro e w1 ⟨r, y, rfl, h1, hr⟩))
  refine leaves_cons (f := 40) (args := #[.pointer (some ⟨v, 0, none⟩)]) (by simp) (by simp [go_sem]) ?_
  refine (h1.unlock .returning).mono ?_
  rintro e u' w'' ⟨rfl, rfl, rfl⟩
  exact ⟨_, results_tmp rfl _ _ _, r, y, w1, rfl, h1, hr, rfl⟩
set_option maxHeartbeats 1000000 in
theorem vway_of (h : VRow w v d c s m x)  {R : Value → World → Prop} (hl : Calls Tryz.prog 45 #[.pointer (some ⟨v, 0, none⟩)] (w.setCell ⟨v, 0, none⟩ (.int .i32 1)) fun e w1 => ∃ r y, e = .returned r ∧ VHeld w1 v d c s m y ∧ R r w1) : Calls Tryz.prog 14 #[.pointer (some ⟨v, 0, none⟩)] w fun e w' => ∃ r y w1, e = .returned r ∧ VHeld w1 v d c s m y ∧ R r w1 ∧ w' = w1.setCell ⟨v, 0, none⟩ (.int .i32 0) := by
  have hm := vmade_ok h.made
  have hlk := h.lock
  have c4 := cell_of_row _ v 4 _ 76 _ h.held
  go_enter_defers Tryz.func14, Tryz.ntmps14
  go_wp2_with (first
    | (go_at_call 38; refine same_at hm ?_)
    | (go_at_call 39; refine Calls.mono hlk ?_; rintro e w' ⟨rfl, rfl⟩)
    | (go_at_call 45; refine Calls.mono hl ?_; rintro e w1 ⟨r, y, rfl, h1, hr⟩))
  refine leaves_cons (f := 40) (args := #[.pointer (some ⟨v, 0, none⟩)]) (by simp) (by simp [go_sem]) ?_
  refine (h1.unlock .returning).mono ?_
  rintro e u' w'' ⟨rfl, rfl, rfl⟩
  exact ⟨_, results_tmp rfl _ _ _, r, y, w1, rfl, h1, hr, rfl⟩
set_option maxHeartbeats 1000000 in
theorem vwrite_of (h : VRow w v d c s m x) (b : Int) {R : Value → World → Prop} (hl : Calls Tryz.prog 43 #[.pointer (some ⟨v, 0, none⟩), .int .i64 b] (w.setCell ⟨v, 0, none⟩ (.int .i32 1)) fun e w1 => ∃ r y, e = .returned r ∧ VHeld w1 v d c s m y ∧ R r w1) : Calls Tryz.prog 12 #[.pointer (some ⟨v, 0, none⟩), .int .i64 b] w fun e w' => ∃ r y w1, e = .returned r ∧ VHeld w1 v d c s m y ∧ R r w1 ∧ w' = w1.setCell ⟨v, 0, none⟩ (.int .i32 0) := by
  have hm := vmade_ok h.made
  have hlk := h.lock
  have c4 := cell_of_row _ v 4 _ 76 _ h.held
  go_enter_defers Tryz.func12, Tryz.ntmps12
  go_wp2_with (first
    | (go_at_call 38; refine same_at hm ?_)
    | (go_at_call 39; refine Calls.mono hlk ?_; rintro e w' ⟨rfl, rfl⟩)
    | (go_at_call 43; refine Calls.mono hl ?_; rintro e w1 ⟨r, y, rfl, h1, hr⟩))
  refine leaves_cons (f := 40) (args := #[.pointer (some ⟨v, 0, none⟩)]) (by simp) (by simp [go_sem]) ?_
  refine (h1.unlock .returning).mono ?_
  rintro e u' w'' ⟨rfl, rfl, rfl⟩
  exact ⟨_, results_tmp rfl _ _ _, r, y, w1, rfl, h1, hr, rfl⟩
set_option maxHeartbeats 1000000 in
theorem vcomplete_of (h : VRow w v d c s m x) (b : Int) (k : Bool) {R : Value → World → Prop} (hl : Calls Tryz.prog 46 #[.pointer (some ⟨v, 0, none⟩), .int .i64 b, .bool k] (w.setCell ⟨v, 0, none⟩ (.int .i32 1)) fun e w1 => ∃ r y, e = .returned r ∧ VHeld w1 v d c s m y ∧ R r w1) : Calls Tryz.prog 15 #[.pointer (some ⟨v, 0, none⟩), .int .i64 b, .bool k] w fun e w' => ∃ r y w1, e = .returned r ∧ VHeld w1 v d c s m y ∧ R r w1 ∧ w' = w1.setCell ⟨v, 0, none⟩ (.int .i32 0) := by
  have hm := vmade_ok h.made
  have hlk := h.lock
  have c4 := cell_of_row _ v 4 _ 76 _ h.held
  go_enter_defers Tryz.func15, Tryz.ntmps15
  go_wp2_with (first
    | (go_at_call 38; refine same_at hm ?_)
    | (go_at_call 39; refine Calls.mono hlk ?_; rintro e w' ⟨rfl, rfl⟩)
    | (go_at_call 46; refine Calls.mono hl ?_; rintro e w1 ⟨r, y, rfl, h1, hr⟩))
  refine leaves_cons (f := 40) (args := #[.pointer (some ⟨v, 0, none⟩)]) (by simp) (by simp [go_sem]) ?_
  refine (h1.unlock .returning).mono ?_
  rintro e u' w'' ⟨rfl, rfl, rfl⟩
  exact ⟨_, results_tmp rfl _ _ _, r, y, w1, rfl, h1, hr, rfl⟩
set_option maxHeartbeats 1000000 in
theorem vread_of (h : VRow w v d c s m x) (b : Int) {R : Value → Value → World → Prop} (hl : Calls Tryz.prog 60 #[.pointer (some ⟨v, 0, none⟩), .int .i64 b] (w.setCell ⟨v, 0, none⟩ (.int .i32 1)) fun e w1 => ∃ r q y, e = .returned (.tuple #[r, q]) ∧ VHeld w1 v d c s m y ∧ R r q w1) : Calls Tryz.prog 33 #[.pointer (some ⟨v, 0, none⟩), .int .i64 b] w fun e w' => ∃ r q y w1, e = .returned (.tuple #[r, q]) ∧ VHeld w1 v d c s m y ∧ R r q w1 ∧ w' = w1.setCell ⟨v, 0, none⟩ (.int .i32 0) := by
  have hm := vmade_ok h.made
  have hlk := h.lock
  go_enter_defers Tryz.func33, Tryz.ntmps33
  go_wp2_with (first
    | (go_at_call 38; refine same_at hm ?_)
    | (go_at_call 39; refine Calls.mono hlk ?_; rintro e w' ⟨rfl, rfl⟩)
    | (go_at_call 60; refine Calls.mono hl ?_; rintro e w1 ⟨r, q, y, rfl, h1, hr⟩))
  refine leaves_cons (f := 40) (args := #[.pointer (some ⟨v, 0, none⟩)]) (by simp) (by simp [go_sem]) ?_
  refine (h1.unlock .returning).mono ?_
  rintro e u' w'' ⟨rfl, rfl, rfl⟩
  exact ⟨_, results_tmp2 rfl _ _ _, r, q, y, w1, rfl, h1, hr, rfl⟩
end
end Go.Proofs.YtinigfidofgaiaaGreat

/- Where a write stands in the queue: place, busy. -/
namespace Go.Proofs.YtinigfidofgaiaaGreat
open Go.RowKit Go.Maps
set_option maxRecDepth 100000

def wrA (x : Wr) : Array Value := x.cells.toArray
theorem cells_len (x : Wr) (h : Sect x.bytes) : x.cells.length = 130 := by simp [Wr.cells, h.1]

theorem flat_at : ∀ (q : List Wr), (∀ x ∈ q, Sect x.bytes) → ∀ (j i : Nat) (x : Wr), q[j]? = some x → i < 130 → (flat q)[j * 130 + i]? = x.cells[i]?
  | [], _, j, i, x, h, _ => by simp at h
  | y :: r, ha, 0, i, x, h, hi => by
    simp only [List.getElem?_cons_zero, Option.some.injEq] at h
    subst h
    simp only [flat, List.flatMap_cons]
    rw [Nat.zero_mul, Nat.zero_add, List.getElem?_append_left (by rw [cells_len y (ha y (by simp))]; exact hi)]
  | y :: r, ha, j + 1, i, x, h, hi => by
    simp only [List.getElem?_cons_succ] at h
    have ih := flat_at r (fun z hz => ha z (by simp [hz])) j i x h hi
    have hl := cells_len y (ha y (by simp))
    simp only [flat, List.flatMap_cons]
    rw [List.getElem?_append_right (by rw [hl]; omega), hl]
    have e : (j + 1) * 130 + i - 130 = j * 130 + i := by omega
    rw [e]
    exact ih

/-- A write of the queue lies in its row. -/
theorem range_at {w : World} {B g n c : Nat} {q : List Wr} (h : w.ownsRow B 108 130 (.slice (some ⟨g, 0, none⟩) n c) n (flat q)) (hn : q.length = n) (ha : ∀ x ∈ q, Sect x.bytes) {j : Nat} {x : Wr} (hj : q[j]? = some x) : w.rangeAt g (j * 130) x.cells := by
  intro i v hv
  have hi := (List.getElem?_eq_some_iff.1 hv).1
  have hx := List.mem_of_getElem? hj
  rw [cells_len x (ha x hx)] at hi
  have hjl := (List.getElem?_eq_some_iff.1 hj).1
  rw [h.cellAt _ (by rw [← hn]; omega), flat_at q ha j i x hj hi, hv]

/-- The first place in the queue of which t holds, or -1. -/
def idx (t : Wr → Bool) (q : List Wr) : Int := match q.findIdx? t with | some i => (i : Int) | none => -1
theorem idx_some {t : Wr → Bool} {q : List Wr} {i : Nat} (h : q.findIdx? t = some i) : idx t q = i := by simp [idx, h]
theorem idx_none {t : Wr → Bool} {q : List Wr} (h : q.findIdx? t = none) : idx t q = -1 := by simp [idx, h]

theorem info86 : (Tryz.prog.info? 108).map (·.size) = some 130 := by kernel_rfl

set_option maxRecDepth 10000 in
set_option maxHeartbeats 1000000 in
theorem index_any (fid : Nat) (hcf : ∀ (args : Array Value) (w : World), (callFunc fid args).run Tryz.prog w = .ok (.enter fid args) w) (t : Wr → Bool) (c : Nat) (q : List Wr) (g n cap : Nat) (B : Nat) (w : World) (hown : w.ownsRow B 108 130 (.slice (some ⟨g, 0, none⟩) n cap) n (flat q)) (hn : q.length = n) (hn64 : n ≤ 64) (ha : ∀ x ∈ q, Sect x.bytes)
    (H : ∀ x ∈ q, ∀ w', Below w.heap.size w w' → Calls Tryz.prog fid #[.agg (wrA x), .pointer (some ⟨c, 0, none⟩)] w' fun e w'' => e = .returned (.bool (t x)) ∧ Below w'.heap.size w' w'') :
    Calls Tryz.prog 104 #[.slice (some ⟨g, 0, none⟩) n cap, .func (.func fid) #[] #[.pointer (some ⟨c, 0, none⟩)]] w fun e w' => e = .returned (.int .i64 (idx t q)) ∧ Below w.heap.size w w' := by
  have HH := (show Hid _ from H)
  clear H
  go_enter Tryz.func104, Tryz.ntmps104
  go_wp2_with fail
  go_loopw [8] (fun i wr => ∃ j : Nat, j ≤ n ∧ i = .int .i64 (j : Int) ∧ (∀ k y, k < j → q[k]? = some y → t y = false) ∧ Below w.heap.size w wr) (fun i _ => n - (intOf i).toNat)
  case atStart => exact ⟨0, by omega, rfl, by intro k y hk; omega, Below.refl _ _⟩
  case round =>
    obtain ⟨j, hj, rfl, hno, hb⟩ := hrel
    by_cases hlt : j < n
    · obtain ⟨x, hx⟩ : ∃ x, q[j]? = some x := ⟨q[j], List.getElem?_eq_getElem (by omega)⟩
      have hrow := ownsRow_kept hown (fun k hk => hb.block k (hown.lt k hk).2)
      have hr := range_at hrow hn ha hx
      have hsz : (Tryz.prog.info? 108).map (·.size) = some x.cells.length := by rw [cells_len x (ha x (List.mem_of_getElem? hx))]; exact info86
      go_wp2_with (refine wpList_load_mid rfl 108 _ rfl g (j * 130) rfl x.cells _ hr Tryz.underlying108 rfl hsz ?_)
      refine (HH.out x (List.mem_of_getElem? hx) wr hb).mono ?_
      rintro e w1 ⟨rfl, hb1⟩
      have hb1' := hb.trans (hb1.mono hb.size)
      cases ht : t x with
      | true =>
        go_wp2
        go_ret
        have e : q.findIdx? t = some j := by
          rw [List.findIdx?_eq_some_iff_getElem]
          obtain ⟨h1, h2⟩ := List.getElem?_eq_some_iff.1 hx
          refine ⟨h1, by rw [h2]; exact ht, fun k hk => ?_⟩
          have := hno k q[k] hk (List.getElem?_eq_getElem (by omega))
          simp [this]
        rw [idx_some e]
        exact ⟨rfl, hb1'⟩
      | false =>
        go_wp2
        go_roundw
        case rel =>
          refine ⟨j + 1, by omega, by go_num, ?_, hb1'⟩
          intro k y hk hy
          by_cases e : k = j
          · subst e; rw [hx] at hy; cases hy; exact ht
          · exact hno k y (by omega) hy
        case measure => simp [intOf]; omega
    · obtain rfl : j = n := by omega
      go_wp2
      go_ret
      have e : q.findIdx? t = none := by
        rw [List.findIdx?_eq_none_iff]
        intro y hy
        obtain ⟨k, hk, rfl⟩ := List.getElem_of_mem hy
        exact hno k _ (by omega) (List.getElem?_eq_getElem hk)
      rw [idx_none e]
      exact ⟨rfl, hb⟩

set_option maxHeartbeats 400000 in
theorem index_nil (n c : Nat) (hn : n = 0) (f : Value) (w : World) : Calls Tryz.prog 104 #[.slice none n c, f] w fun e w' => e = .returned (.int .i64 (-1)) ∧ w' = w := by
  subst hn
  go_enter Tryz.func104, Tryz.ntmps104
  go_wp2_with fail
  refine wp_loop_rounds 1 ?_
  rw [rounds_succ]
  go_wp2
  go_ret
  exact ⟨rfl, rfl⟩

theorem call60 (args : Array Value) (w : World) : (callFunc 105 args).run Tryz.prog w = .ok (.enter 105 args) w := by kernel_rfl
theorem call62 (args : Array Value) (w : World) : (callFunc 152 args).run Tryz.prog w = .ok (.enter 152 args) w := by kernel_rfl

theorem wrA_size (x : Wr) (h : Sect x.bytes) : (wrA x).size = 130 := by simp [wrA, cells_len x h]
theorem wrA_0 (x : Wr) : (wrA x)[0]? = some (.int .i64 x.id) := by simp [wrA, Wr.cells]
theorem wrA_1 (x : Wr) : (wrA x)[1]? = some (.int .i64 (x.block : Int)) := by simp [wrA, Wr.cells]

set_option maxRecDepth 10000 in
set_option maxHeartbeats 400000 in
theorem place1_ok (x : Wr) (c : Nat) (id : Int) (w : World) (hc : w.cell? ⟨c, 0, none⟩ = some (.int .i64 id)) : Calls Tryz.prog 105 #[.agg (wrA x), .pointer (some ⟨c, 0, none⟩)] w fun e w' => e = .returned (.bool (x.id == id)) ∧ Below w.heap.size w w' := by
  have hb := (Below.refl w.heap.size w).alloc (Nat.le_refl _) (.cells (wrA x) 108)
  have h0 : (w.alloc (.cells (wrA x) 108)).cell? ⟨w.heap.size, 0, none⟩ = some (.int .i64 x.id) := by
    rw [cell_of_row _ _ 0 _ _ _ (at_new rfl), wrA_0]
  have hc1 := (hb.cell (p := ⟨c, 0, none⟩) (lt_of_cell hc)).trans hc
  generalize wrA x = A at *
  go_enter Tryz.func105, Tryz.ntmps105
  go_wp2
  go_ret
  exact ⟨ret_bool (by first | rfl | simp), hb⟩

set_option maxRecDepth 10000 in
set_option maxHeartbeats 400000 in
theorem busy1_ok (x : Wr) (c : Nat) (id : Int) (w : World) (hc : w.cell? ⟨c, 0, none⟩ = some (.int .i64 id)) : Calls Tryz.prog 152 #[.agg (wrA x), .pointer (some ⟨c, 0, none⟩)] w fun e w' => e = .returned (.bool ((x.block : Int) == id)) ∧ Below w.heap.size w w' := by
  have hb := (Below.refl w.heap.size w).alloc (Nat.le_refl _) (.cells (wrA x) 108)
  have h0 : (w.alloc (.cells (wrA x) 108)).cell? ⟨w.heap.size, 1, none⟩ = some (.int .i64 (x.block : Int)) := by
    rw [cell_of_row _ _ 1 _ _ _ (at_new rfl), wrA_1]
  have hc1 := (hb.cell (p := ⟨c, 0, none⟩) (lt_of_cell hc)).trans hc
  generalize wrA x = A at *
  go_enter Tryz.func152, Tryz.ntmps152
  go_wp2
  go_ret
  exact ⟨ret_bool (by first | rfl | simp), hb⟩
end Go.Proofs.YtinigfidofgaiaaGreat

/- place and busy. -/
namespace Go.Proofs.YtinigfidofgaiaaGreat
open Go.RowKit Go.Maps
set_option maxRecDepth 100000

theorem DI.qcase {B : Nat} {w : World} {a mb fb : Nat} {qv : Value} {S : St} (h : DI B w a mb fb qv S) : (qv = .slice none 0 0 ∧ S.q = []) ∨ ∃ g cap, qv = .slice (some ⟨g, 0, none⟩) S.q.length cap := by
  rcases h.que.2 with ⟨h1, h2⟩ | ⟨g, cap, cur, h1, _⟩
  · exact .inl ⟨h1, List.eq_nil_of_length_eq_zero h2⟩
  · exact .inr ⟨g, cap, h1⟩

theorem DI.sects {B : Nat} {w : World} {a mb fb : Nat} {qv : Value} {S : St} (h : DI B w a mb fb qv S) : ∀ x ∈ S.q, Sect x.bytes := fun x hx => (h.qok x hx).2.1

theorem idx_nil (t : Wr → Bool) : idx t [] = -1 := rfl

/-- IndexFunc over a disk's queue. -/
theorem index_disk {B : Nat} {w : World} {a mb fb : Nat} {qv : Value} {S : St} (h : DI B w a mb fb qv S) (fid : Nat) (hcf : ∀ (args : Array Value) (w : World), (callFunc fid args).run Tryz.prog w = .ok (.enter fid args) w) (t : Wr → Bool) (c : Nat)
    (H : ∀ x ∈ S.q, ∀ w', Below w.heap.size w w' → Calls Tryz.prog fid #[.agg (wrA x), .pointer (some ⟨c, 0, none⟩)] w' fun e w'' => e = .returned (.bool (t x)) ∧ Below w'.heap.size w' w'') :
    Calls Tryz.prog 104 #[qv, .func (.func fid) #[] #[.pointer (some ⟨c, 0, none⟩)]] w fun e w' => e = .returned (.int .i64 (idx t S.q)) ∧ Below w.heap.size w w' := by
  rcases h.qcase with ⟨rfl, hq⟩ | ⟨g, cap, rfl⟩
  · rw [hq, idx_nil]
    exact (index_nil 0 0 rfl _ w).mono (by rintro e w' ⟨rfl, rfl⟩; exact ⟨rfl, Below.refl _ _⟩)
  · exact index_any fid hcf t c S.q g _ cap B w h.que rfl h.q64 h.sects H

section
variable {B : Nat} {w : World} {a mb fb : Nat} {qv : Value} {S : St}

set_option maxHeartbeats 400000 in
theorem place_ok (h : DI B w a mb fb qv S) (id : Int) : Calls Tryz.prog 69 #[.pointer (some ⟨a, 0, none⟩), .int .i64 id] w fun e w' => e = .returned (.int .i64 (idx (fun x => x.id == id) S.q)) ∧ Below w.heap.size w w' := by
  have hmf : ∀ (fn : Fn) (first cap : Array Value) (w : World), (Instr.makeFunc fn first cap).run Tryz.prog w = .ok (.func fn first cap) w := fun _ _ _ _ => rfl
  have hb := (Below.refl w.heap.size w).alloc (Nat.le_refl _) (.cells #[.int .i64 id] 3)
  have h1 := h.later hb
  have hc2 := h1.c2
  have hcc : (w.alloc (.cells #[.int .i64 id] 3)).cell? ⟨w.heap.size, 0, none⟩ = some (.int .i64 id) := by
    rw [cell_of_row _ _ 0 _ _ _ (at_new rfl)]; rfl
  have c := index_disk h1 105 call60 (fun x => x.id == id) w.heap.size (fun x _ w' hb' => place1_ok x _ id w' ((hb'.cell (p := ⟨w.heap.size, 0, none⟩) (by simp)).trans hcc))
  have HC := (show Hid _ from c)
  clear c h h1
  go_enter Tryz.func69, Tryz.ntmps69
  go_wp2_with fail
  refine Calls.mono HC.out ?_
  rintro e w1 ⟨rfl, hb1⟩
  go_wp2
  go_ret
  exact ⟨rfl, hb.trans (hb1.mono (by simp))⟩

set_option maxHeartbeats 400000 in
theorem contains_ok (h : DI B w a mb fb qv S) (fid : Nat) (hcf : ∀ (args : Array Value) (w : World), (callFunc fid args).run Tryz.prog w = .ok (.enter fid args) w) (t : Wr → Bool) (c : Nat)
    (H : ∀ x ∈ S.q, ∀ w', Below w.heap.size w w' → Calls Tryz.prog fid #[.agg (wrA x), .pointer (some ⟨c, 0, none⟩)] w' fun e w'' => e = .returned (.bool (t x)) ∧ Below w'.heap.size w' w'') :
    Calls Tryz.prog 151 #[qv, .func (.func fid) #[] #[.pointer (some ⟨c, 0, none⟩)]] w fun e w' => e = .returned (.bool (S.q.any t)) ∧ Below w.heap.size w w' := by
  have c := index_disk h fid hcf t c H
  have HC := (show Hid _ from c)
  clear c H h
  have hi : decide (0 ≤ idx t S.q) = S.q.any t := by
    cases hf : S.q.findIdx? t with
    | some i =>
      rw [idx_some hf]
      have := List.findIdx?_eq_some_iff_getElem.1 hf
      obtain ⟨h1, h2, _⟩ := this
      have : S.q.any t = true := List.any_eq_true.2 ⟨_, List.getElem_mem h1, h2⟩
      rw [this]; simp
    | none =>
      rw [idx_none hf]
      have := List.findIdx?_eq_none_iff.1 hf
      have : S.q.any t = false := by
        rw [List.any_eq_false]; intro x hx; simp [this x hx]
      rw [this]; simp
  go_enter Tryz.func151, Tryz.ntmps151
  go_wp2_with fail
  refine Calls.mono HC.out ?_
  rintro e w1 ⟨rfl, hb1⟩
  go_wp2
  go_ret
  exact ⟨ret_bool (by rw [← hi]), hb1⟩

set_option maxHeartbeats 400000 in
theorem busy_ok (h : DI B w a mb fb qv S) (id : Int) : Calls Tryz.prog 122 #[.pointer (some ⟨a, 0, none⟩), .int .i64 id] w fun e w' => e = .returned (.bool (S.q.any fun x => (x.block : Int) == id)) ∧ Below w.heap.size w w' := by
  have hmf : ∀ (fn : Fn) (first cap : Array Value) (w : World), (Instr.makeFunc fn first cap).run Tryz.prog w = .ok (.func fn first cap) w := fun _ _ _ _ => rfl
  have hb := (Below.refl w.heap.size w).alloc (Nat.le_refl _) (.cells #[.int .i64 id] 3)
  have h1 := h.later hb
  have hc2 := h1.c2
  have hcc : (w.alloc (.cells #[.int .i64 id] 3)).cell? ⟨w.heap.size, 0, none⟩ = some (.int .i64 id) := by
    rw [cell_of_row _ _ 0 _ _ _ (at_new rfl)]; rfl
  have c := contains_ok h1 152 call62 (fun x => (x.block : Int) == id) w.heap.size (fun x _ w' hb' => busy1_ok x _ id w' ((hb'.cell (p := ⟨w.heap.size, 0, none⟩) (by simp)).trans hcc))
  have HC := (show Hid _ from c)
  clear c h h1
  go_enter Tryz.func122, Tryz.ntmps122
  go_wp2_with fail
  refine Calls.mono HC.out ?_
  rintro e w1 ⟨rfl, hb1⟩
  go_wp2
  go_ret
  exact ⟨rfl, hb.trans (hb1.mono (by simp))⟩
end
end Go.Proofs.YtinigfidofgaiaaGreat

/- How a write is built of its parts, and a list of one write. -/
namespace Go.Proofs.YtinigfidofgaiaaGreat
open Go.RowKit Go.Maps
set_option maxRecDepth 100000

theorem put_list : ∀ (vs : List Value) (k off : Nat) (cs : List Value), off + k + vs.length ≤ cs.length →
    ((vs.zipIdx k).foldl (fun (c : Array Value) (p : Value × Nat) => c.setIfInBounds (off + p.2) p.1) cs.toArray).toList = splice cs (off + k) vs
  | [], k, off, cs, _ => by simp [splice]
  | v :: r, k, off, cs, h => by
    simp only [List.length_cons] at h
    simp only [List.zipIdx_cons, List.foldl_cons]
    have e : (cs.toArray.setIfInBounds (off + k) v) = (cs.set (off + k) v).toArray := by simp
    rw [e, put_list r (k + 1) off _ (by simp; omega)]
    unfold splice
    apply List.ext_getElem?
    intro i
    have hk : off + k < cs.length := by omega
    have e1 : (cs.set (off + k) v).take (off + (k + 1)) = cs.take (off + k) ++ [v] := by
      rw [← Nat.add_assoc, List.take_add_one]
      simp [List.take_set_of_le, hk]
    have e2 : (cs.set (off + k) v).drop (off + (k + 1) + r.length) = cs.drop (off + k + (v :: r).length) := by
      rw [List.drop_set_of_lt (by omega)]
      simp only [List.length_cons]
      congr 1; omega
    rw [e1, e2]
    simp

theorem put_arr (vs cs : List Value) (off : Nat) (h : off + vs.length ≤ cs.length) : vs.toArray.zipIdx.foldl (fun cs (c, j) => cs.setIfInBounds (off + j) c) cs.toArray = (splice cs off vs).toArray := by
  have := put_list vs 0 off cs (by simpa using h)
  apply Array.toList_inj.1
  rw [Nat.add_zero] at this
  rw [← Array.foldl_toList, Array.toList_zipIdx]
  exact this

/-- The cells of a write of noughts. -/
def zwr : List Value := .int .i64 0 :: .int .i64 0 :: zer.map (Value.int .u8)
theorem zero86 : (Tryz.prog.info? 108).bind (·.zero) = some (.agg zwr.toArray) := by kernel_rfl
theorem fill_step (place : Nat → Option (Nat × Nat)) (cs vs : List Value) (i off sz : Nat) (v : Value) (rest : List (Nat × Value)) (hp : place i = some (off, sz)) (hv : v.cells = vs.toArray) (hs : vs.length = sz) (hl : off + sz ≤ cs.length) :
    Instr.fill place cs.toArray ((i, v) :: rest) = Instr.fill place (splice cs off vs).toArray rest := by
  rw [Instr.fill, hp]
  simp only [hv, List.size_toArray]
  rw [if_neg (by simp [hs]; omega), put_arr vs cs off (by omega)]

theorem zwr_len : zwr.length = 130 := by simp [zwr, zer]

theorem built86 (x : Wr) (h : Sect x.bytes) : Tryz.prog.built 108 [(0, .int .i64 x.id), (1, .int .i64 (x.block : Int)), (2, .agg (secA x.bytes))] = some (wrA x) := by
  obtain ⟨it, hit, hz⟩ := Option.bind_eq_some_iff.1 zero86
  have hp : List.mapM (fun f : Field => Option.map (fun i => (f.offset, i.size)) (Tryz.prog.info? f.type))
        [{ name := "id", type := 3, offset := 0, embedded := false, tag := "", pkgPath := "bollard/disk",
            byteOffset := 0 },
          { name := "block", type := 3, offset := 1, embedded := false, tag := "", pkgPath := "bollard/disk",
            byteOffset := 8 },
          { name := "bytes", type := 106, offset := 2, embedded := false, tag := "", pkgPath := "bollard/disk",
            byteOffset := 16 }] = some [(0, 1), (1, 1), (2, 128)] := by kernel_rfl
  have hx := h.1
  unfold Program.built
  rw [hit, Tryz.underlying108]
  simp only [hz, hp]
  show Instr.fill _ zwr.toArray _ = _
  rw [fill_step _ zwr [.int .i64 x.id] 0 0 1 _ _ rfl rfl rfl (by rw [zwr_len]; omega)]
  have e1 : splice zwr 0 [.int .i64 x.id] = .int .i64 x.id :: .int .i64 0 :: zer.map (Value.int .u8) := by simp [splice, zwr]
  rw [e1, fill_step _ _ [.int .i64 (x.block : Int)] 1 1 1 _ _ rfl rfl rfl (by simp [zer])]
  have e2 : splice (Value.int .i64 x.id :: .int .i64 0 :: zer.map (Value.int .u8)) 1 [.int .i64 (x.block : Int)] = .int .i64 x.id :: .int .i64 (x.block : Int) :: zer.map (Value.int .u8) := by simp [splice]
  rw [e2, fill_step _ _ (x.bytes.map (Value.int .u8)) 2 2 128 _ _ rfl rfl (by simpa using hx) (by simp [zer])]
  have e3 : splice (Value.int .i64 x.id :: .int .i64 (x.block : Int) :: zer.map (Value.int .u8)) 2 (x.bytes.map (Value.int .u8)) = x.cells := by
    simp [splice, Wr.cells, hx, zer]
  rw [e3]
  rfl

theorem build_wr (x : Wr) (h : Sect x.bytes) (w : World) : (Instr.build 108 #[(0, .int .i64 x.id), (1, .int .i64 (x.block : Int)), (2, .agg (secA x.bytes))]).run Tryz.prog w = .ok (.agg (wrA x)) w :=
  run_build w 108 _ _ (built86 x h)

theorem splice_whole (cs vs : List Value) (h : vs.length = cs.length) : splice cs 0 vs = vs := by simp [splice, h]

theorem buildSlice_wr (x : Wr) (h : Sect x.bytes) (w : World) : (Instr.buildSlice 81 1 #[(0, .agg (wrA x))]).run Tryz.prog w = .ok (.slice (some ⟨w.heap.size, 0, none⟩) 1 1) (w.alloc (.cells (wrA x) 108)) := by
  obtain ⟨it, hit, hz⟩ := Option.bind_eq_some_iff.1 zero86
  have hs : it.size = 130 := by have := info86; rw [hit] at this; simpa using this
  have hl := cells_len x h
  have hsz : (sizeOf 108).run Tryz.prog w = .ok 130 w := by simp [sizeOf, typeInfo, hit, hs]
  have hzr : (zeroValue 108).run Tryz.prog w = .ok (.agg zwr.toArray) w := by simp [zeroValue, typeInfo, hit, hz]
  have hf : ∀ cs : Array Value, cs.size = 130 → Instr.fill (fun i => some (i * 130, 130)) cs [(0, .agg (wrA x))] = some (wrA x) := by
    intro cs hcl
    have e : cs = cs.toList.toArray := by simp
    rw [e, fill_step _ cs.toList x.cells 0 0 130 _ _ (by simp) rfl hl (by simp [hcl]), splice_whole _ _ (by rw [hl]; simp [hcl])]
    rfl
  simp [Instr.buildSlice, run_underlying Tryz.underlying81, hsz, newRow]
  rw [hf _ (by simp)]
  simp
end Go.Proofs.YtinigfidofgaiaaGreat
