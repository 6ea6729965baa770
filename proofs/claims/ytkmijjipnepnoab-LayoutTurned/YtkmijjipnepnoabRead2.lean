/- What goes on inside a reader's calls: the next number, the next bytes, and giving up. -/
import Derived.Test.YtkmijjipnepnoabRead
namespace Go.Proofs.Ytkmijjipnepnoab
open Go.RowKit

set_option maxHeartbeats 400000 in
theorem number_ok (w : World) (rb : Nat) (b o n c : Nat) (E : Int) (m : Bool) (xs : List Int) (k : Nat) (h : Rd w rb (.slice (some ⟨b, o, none⟩) n c) E m) (hb : BI w (some ⟨b, o, none⟩) n xs) (h1 : 1 ≤ k) (h2 : k ≤ 4) (h3 : k ≤ n) :
    Calls Try.prog 83 #[.pointer (some ⟨rb, 0, none⟩), .int .i64 k] w fun e w' => e = .returned (.int .i64 (Num.numD xs 0 k)) ∧ w' = w.setCell ⟨rb, 0, none⟩ (.slice (if c = k then some ⟨b, o, none⟩ else some ⟨b, o + k, none⟩) (n - k) (c - k)) := by
  have c0 := h.c0
  have f0 := h.fz 0
  obtain ⟨b', o', e, hc⟩ := hb.cells (by omega)
  cases e
  have hg := (show Hid _ from get_ok b o n c xs 0 k w h1 h2 hb.big (by omega) hb.byt hc)
  clear hc
  generalize Num.numD xs 0 k = N at *
  go_enter Try.func83, Try.ntmps83
  go_wp2_with fail
  refine same_at hg.out ?_
  go_wp2
  all_goals
    go_ret
    exact ⟨rfl, rfl⟩

set_option maxHeartbeats 400000 in
theorem number_bad (w : World) (rb : Nat) (p : Option Addr) (n c : Nat) (E : Int) (m : Bool) (xs : List Int) (wd : Int) (h : Rd w rb (.slice p n c) E m) (hb : BI w p n xs) (h1 : Num.gE n 0 wd ≠ 0) :
    Calls Try.prog 83 #[.pointer (some ⟨rb, 0, none⟩), .int .i64 wd] w fun e w' => e = .panicked [{ v := .iface 30 (.int .i64 (Num.gE n 0 wd)), recovered := false }] ∧ w' = w := by
  have c0 := h.c0
  have hg := (show Hid _ from get_any p n c xs 0 wd w hb)
  have hne : (Num.gE n 0 wd != 0) = true := by rw [bne_iff_ne]; exact h1
  clear h1
  generalize Num.gN n xs 0 wd = N at *
  generalize Num.gE n 0 wd = F at *
  go_enter Try.func83, Try.ntmps83
  go_wp2_with fail
  refine same_at hg.out ?_
  go_wp2
  exact ⟨rfl, rfl, rfl⟩

/-- Something is taken off: what is left is told by an address and a capacity. -/
def Cutoff (w w' : World) (rb n : Nat) (xs : List Int) (k : Nat) : Prop :=
  ∃ b o c, w' = w.setCell ⟨rb, 0, none⟩ (.slice (some ⟨b, o, none⟩) (n - k) c) ∧ n - k ≤ c ∧ BI w (some ⟨b, o, none⟩) (n - k) (xs.drop k)

theorem cutoff_mk {w : World} {rb b o n c k : Nat} {xs : List Int} (hb : BI w (some ⟨b, o, none⟩) n xs) (hnc : n ≤ c) (hk : k ≤ n) :
    Cutoff w (w.setCell ⟨rb, 0, none⟩ (.slice (if c = k then some ⟨b, o, none⟩ else some ⟨b, o + k, none⟩) (n - k) (c - k))) rb n xs k := by
  have hc := hb.cut k c hk hnc
  by_cases e : c = k
  · rw [if_pos e] at hc ⊢
    exact ⟨b, o, _, rfl, by omega, hc⟩
  · rw [if_neg e] at hc ⊢
    exact ⟨b, o + k, _, rfl, by omega, hc⟩

theorem number_yes (w : World) (rb : Nat) (b o n c : Nat) (E : Int) (m : Bool) (xs : List Int) (k : Nat) (h : Rd w rb (.slice (some ⟨b, o, none⟩) n c) E m) (hb : BI w (some ⟨b, o, none⟩) n xs) (hnc : n ≤ c) (h1 : 1 ≤ k) (h2 : k ≤ 4) (h3 : k ≤ n) :
    Calls Try.prog 83 #[.pointer (some ⟨rb, 0, none⟩), .int .i64 k] w fun e w' => e = .returned (.int .i64 (Num.numD xs 0 k)) ∧ Cutoff w w' rb n xs k :=
  (number_ok w rb b o n c E m xs k h hb h1 h2 h3).mono fun e w' ⟨he, hw⟩ => ⟨he, by rw [hw]; exact cutoff_mk hb hnc h3⟩

set_option maxHeartbeats 400000 in
theorem next_neg (w : World) (r : Option Addr) (k : Int) (hk : k < 0) :
    Calls Try.prog 81 #[.pointer r, .int .i64 k] w fun e w' => e = .panicked [{ v := .iface 30 (.int .i64 1), recovered := false }] ∧ w' = w := by
  go_enter Try.func81, Try.ntmps81
  go_wp2
  exact ⟨rfl, rfl, rfl⟩

set_option maxHeartbeats 400000 in
theorem next_past (w : World) (rb : Nat) (p : Option Addr) (n c : Nat) (E : Int) (m : Bool) (k : Int) (h : Rd w rb (.slice p n c) E m) (hk : (n : Int) < k) :
    Calls Try.prog 81 #[.pointer (some ⟨rb, 0, none⟩), .int .i64 k] w fun e w' => e = .panicked [{ v := .iface 30 (.int .i64 10), recovered := false }] ∧ w' = w := by
  have c0 := h.c0
  have hk0 : 0 ≤ k := by omega
  go_enter Try.func81, Try.ntmps81
  go_wp2
  exact ⟨rfl, rfl, rfl⟩

set_option maxHeartbeats 400000 in
theorem next_ok (w : World) (rb : Nat) (b o n c : Nat) (E : Int) (m : Bool) (k : Nat) (h : Rd w rb (.slice (some ⟨b, o, none⟩) n c) E m) (hnc : n ≤ c) (hk : k ≤ n) :
    Calls Try.prog 81 #[.pointer (some ⟨rb, 0, none⟩), .int .i64 k] w fun e w' => e = .returned (.slice (some ⟨b, o, none⟩) k c) ∧ w' = w.setCell ⟨rb, 0, none⟩ (.slice (if c = k then some ⟨b, o, none⟩ else some ⟨b, o + k, none⟩) (n - k) (c - k)) := by
  have c0 := h.c0
  have f0 := h.fz 0
  go_enter Try.func81, Try.ntmps81
  go_wp2
  all_goals
    go_ret
    exact ⟨rfl, rfl⟩

theorem next_yes (w : World) (rb : Nat) (b o n c : Nat) (E : Int) (m : Bool) (xs : List Int) (k : Nat) (h : Rd w rb (.slice (some ⟨b, o, none⟩) n c) E m) (hb : BI w (some ⟨b, o, none⟩) n xs) (hnc : n ≤ c) (hk : k ≤ n) :
    Calls Try.prog 81 #[.pointer (some ⟨rb, 0, none⟩), .int .i64 k] w fun e w' => e = .returned (.slice (some ⟨b, o, none⟩) k c) ∧ Cutoff w w' rb n xs k :=
  (next_ok w rb b o n c E m k h hnc hk).mono fun e w' ⟨he, hw⟩ => ⟨he, by rw [hw]; exact cutoff_mk hb hnc hk⟩

set_option maxHeartbeats 400000 in
theorem take1_yes (w : World) (rb B0 B1 B2 : Nat) (b o n c : Nat) (E : Int) (m : Bool) (xs : List Int) (k : Nat) (u : Value) (h : Rd w rb (.slice (some ⟨b, o, none⟩) n c) E m) (hb : BI w (some ⟨b, o, none⟩) n xs) (hnc : n ≤ c) (h1 : 1 ≤ k) (h2 : k ≤ 4) (h3 : k ≤ n)
    (c0 : w.cell? ⟨B0, 0, none⟩ = some (.pointer (some ⟨rb, 0, none⟩))) (c1 : w.cell? ⟨B1, 0, none⟩ = some (.int .i64 k)) (c2 : w.cell? ⟨B2, 0, none⟩ = some u) (f2 : w.frozen? ⟨B2, 0, none⟩ = false) (hne : B2 ≠ rb) :
    Calls Try.prog 82 #[.pointer (some ⟨B0, 0, none⟩), .pointer (some ⟨B1, 0, none⟩), .pointer (some ⟨B2, 0, none⟩)] w fun e w' => e = .returned (.tuple #[]) ∧ ∃ w1, Cutoff w w1 rb n xs k ∧ w' = w1.setCell ⟨B2, 0, none⟩ (.int .i64 (Num.numD xs 0 k)) := by
  have hg := (show Hid _ from number_yes w rb b o n c E m xs k h hb hnc h1 h2 h3)
  clear hb h
  generalize Num.numD xs 0 k = N at *
  go_enter Try.func82, Try.ntmps82
  go_wp2_with fail
  refine Calls.mono hg.out ?_
  rintro e w1 ⟨rfl, hcut⟩
  have hc2 : w1.cell? ⟨B2, 0, none⟩ = some u := by
    obtain ⟨b', o', c', rfl, _⟩ := hcut
    rw [World.cell?_of_block (Below.heap_setCell _ _ _ _ hne)]; exact c2
  have hf2 : w1.frozen? ⟨B2, 0, none⟩ = false := by
    obtain ⟨b', o', c', rfl, _⟩ := hcut
    rw [World.frozen?_of_block (Below.heap_setCell _ _ _ _ hne)]; exact f2
  clear c0 c1 c2 f2 hg
  go_wp2
  go_end0
  exact ⟨rfl, w1, hcut, rfl⟩

set_option maxHeartbeats 400000 in
theorem take1_bad (w : World) (rb B0 B1 B2 : Nat) (p : Option Addr) (n c : Nat) (E : Int) (m : Bool) (xs : List Int) (wd : Int) (h : Rd w rb (.slice p n c) E m) (hb : BI w p n xs) (h1 : Num.gE n 0 wd ≠ 0)
    (c0 : w.cell? ⟨B0, 0, none⟩ = some (.pointer (some ⟨rb, 0, none⟩))) (c1 : w.cell? ⟨B1, 0, none⟩ = some (.int .i64 wd)) :
    Calls Try.prog 82 #[.pointer (some ⟨B0, 0, none⟩), .pointer (some ⟨B1, 0, none⟩), .pointer (some ⟨B2, 0, none⟩)] w fun e w' => e = .panicked [{ v := .iface 30 (.int .i64 (Num.gE n 0 wd)), recovered := false }] ∧ w' = w := by
  have hg := (show Hid _ from number_bad w rb p n c E m xs wd h hb h1)
  clear hb h h1
  generalize Num.gE n 0 wd = F at *
  go_enter Try.func82, Try.ntmps82
  go_wp2_with fail
  refine Calls.mono hg.out ?_
  rintro e w1 ⟨rfl, rfl⟩
  go_wp2
  exact ⟨rfl, rfl, rfl⟩

set_option maxHeartbeats 800000 in
theorem attempt34_yes (w : World) (rb : Nat) (v : Value) (q0 q1 q2 : Addr) (R : World → Prop) (h : Rd w rb v 0 true)
    (hs : Calls Try.prog 82 #[.pointer (some q0), .pointer (some q1), .pointer (some q2)] (w.alloc (.cells #[.pointer (some ⟨rb, 0, none⟩)] 81)) fun e w' => e = .returned (.tuple #[]) ∧ R w') :
    Calls Try.prog 79 #[.pointer (some ⟨rb, 0, none⟩), .func (Fn.func 82) #[] #[.pointer (some q0), .pointer (some q1), .pointer (some q2)]] w fun e w' => e = .returned (.tuple #[]) ∧ R w' := by
  have hmf := makes
  have h1 : Rd (w.alloc (.cells #[.pointer (some ⟨rb, 0, none⟩)] 81)) rb v 0 true := by unfold Rd; rw [Below.heap_alloc _ _ _ h.lt]; exact h
  have HS := (show Hid _ from hs)
  clear hs
  go_enter_defers Try.func79, Try.ntmps79
  go_wp2_with fail
  refine same_at (err_made _ rb v 0 h1) ?_
  go_wp2_with fail
  refine Calls.mono HS.out ?_
  rintro e w1 ⟨rfl, hR⟩
  go_wp2
  refine leaves_cons (f := 86) (args := #[.pointer (some ⟨w.heap.size, 0, none⟩)]) (by simp) (by simp [go_sem]) ?_
  refine (catch_idle ⟨w.heap.size, 0, none⟩ _).mono ?_
  rintro e u' w'' ⟨rfl, rfl, rfl⟩
  simp [Leaves, settle, results, Try.results79, go_sem]
  exact hR

set_option maxHeartbeats 800000 in
theorem attempt34_pan (w : World) (rb : Nat) (v : Value) (q0 q1 q2 : Addr) (E : Int) (h : Rd w rb v 0 true)
    (hs : Calls Try.prog 82 #[.pointer (some q0), .pointer (some q1), .pointer (some q2)] (w.alloc (.cells #[.pointer (some ⟨rb, 0, none⟩)] 81)) fun e w' => e = .panicked [{ v := .iface 30 (.int .i64 E), recovered := false }] ∧ w' = w.alloc (.cells #[.pointer (some ⟨rb, 0, none⟩)] 81)) :
    Calls Try.prog 79 #[.pointer (some ⟨rb, 0, none⟩), .func (Fn.func 82) #[] #[.pointer (some q0), .pointer (some q1), .pointer (some q2)]] w fun e w' => e = .returned (.tuple #[]) ∧ w' = (w.alloc (.cells #[.pointer (some ⟨rb, 0, none⟩)] 81)).setCell ⟨rb, 1, none⟩ (.int .i64 E) := by
  have hmf := makes
  have h1 : Rd (w.alloc (.cells #[.pointer (some ⟨rb, 0, none⟩)] 81)) rb v 0 true := by unfold Rd; rw [Below.heap_alloc _ _ _ h.lt]; exact h
  have HS := (show Hid _ from hs)
  clear hs
  go_enter_defers Try.func79, Try.ntmps79
  go_wp2_with fail
  refine same_at (err_made _ rb v 0 h1) ?_
  go_wp2_with fail
  refine Calls.mono HS.out ?_
  rintro e w1 ⟨rfl, rfl⟩
  go_wp2
  refine leaves_cons (f := 86) (args := #[.pointer (some ⟨w.heap.size, 0, none⟩)]) (by simp) (by simp [go_sem]) ?_
  refine (catch_pan ⟨w.heap.size, 0, none⟩ rb v E 0 true [] _ (by simp) h1).mono ?_
  rintro e u' w'' ⟨rfl, rfl, rfl⟩
  simp [Leaves, settle, results, Try.results79, go_sem]

set_option maxHeartbeats 800000 in
theorem attempt39_yes (w : World) (rb : Nat) (v : Value) (q0 q1 : Addr) (R : World → Prop) (h : Rd w rb v 0 true)
    (hs : Calls Try.prog 80 #[.pointer (some q0), .pointer (some q1)] (w.alloc (.cells #[.pointer (some ⟨rb, 0, none⟩)] 81)) fun e w' => e = .returned (.tuple #[]) ∧ R w') :
    Calls Try.prog 79 #[.pointer (some ⟨rb, 0, none⟩), .func (Fn.func 80) #[] #[.pointer (some q0), .pointer (some q1)]] w fun e w' => e = .returned (.tuple #[]) ∧ R w' := by
  have hmf := makes
  have h1 : Rd (w.alloc (.cells #[.pointer (some ⟨rb, 0, none⟩)] 81)) rb v 0 true := by unfold Rd; rw [Below.heap_alloc _ _ _ h.lt]; exact h
  have HS := (show Hid _ from hs)
  clear hs
  go_enter_defers Try.func79, Try.ntmps79
  go_wp2_with fail
  refine same_at (err_made _ rb v 0 h1) ?_
  go_wp2_with fail
  refine Calls.mono HS.out ?_
  rintro e w1 ⟨rfl, hR⟩
  go_wp2
  refine leaves_cons (f := 86) (args := #[.pointer (some ⟨w.heap.size, 0, none⟩)]) (by simp) (by simp [go_sem]) ?_
  refine (catch_idle ⟨w.heap.size, 0, none⟩ _).mono ?_
  rintro e u' w'' ⟨rfl, rfl, rfl⟩
  simp [Leaves, settle, results, Try.results79, go_sem]
  exact hR

set_option maxHeartbeats 800000 in
theorem attempt39_pan (w : World) (rb : Nat) (v : Value) (q0 q1 : Addr) (E : Int) (h : Rd w rb v 0 true)
    (hs : Calls Try.prog 80 #[.pointer (some q0), .pointer (some q1)] (w.alloc (.cells #[.pointer (some ⟨rb, 0, none⟩)] 81)) fun e w' => e = .panicked [{ v := .iface 30 (.int .i64 E), recovered := false }] ∧ w' = w.alloc (.cells #[.pointer (some ⟨rb, 0, none⟩)] 81)) :
    Calls Try.prog 79 #[.pointer (some ⟨rb, 0, none⟩), .func (Fn.func 80) #[] #[.pointer (some q0), .pointer (some q1)]] w fun e w' => e = .returned (.tuple #[]) ∧ w' = (w.alloc (.cells #[.pointer (some ⟨rb, 0, none⟩)] 81)).setCell ⟨rb, 1, none⟩ (.int .i64 E) := by
  have hmf := makes
  have h1 : Rd (w.alloc (.cells #[.pointer (some ⟨rb, 0, none⟩)] 81)) rb v 0 true := by unfold Rd; rw [Below.heap_alloc _ _ _ h.lt]; exact h
  have HS := (show Hid _ from hs)
  clear hs
  go_enter_defers Try.func79, Try.ntmps79
  go_wp2_with fail
  refine same_at (err_made _ rb v 0 h1) ?_
  go_wp2_with fail
  refine Calls.mono HS.out ?_
  rintro e w1 ⟨rfl, rfl⟩
  go_wp2
  refine leaves_cons (f := 86) (args := #[.pointer (some ⟨w.heap.size, 0, none⟩)]) (by simp) (by simp [go_sem]) ?_
  refine (catch_pan ⟨w.heap.size, 0, none⟩ rb v E 0 true [] _ (by simp) h1).mono ?_
  rintro e u' w'' ⟨rfl, rfl, rfl⟩
  simp [Leaves, settle, results, Try.results79, go_sem]

end Go.Proofs.Ytkmijjipnepnoab
