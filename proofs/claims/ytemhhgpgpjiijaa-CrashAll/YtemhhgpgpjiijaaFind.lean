/- Where a write stands in the queue: place, busy. -/
import Derived.Test.YtemhhgpgpjiijaaImage
namespace Go.Proofs.Ytemhhgpgpjiijaa
open Go.RowKit Go.Maps

def wrA (x : Wr) : Array Value := x.cells.toArray
theorem cells_len (x : Wr) (h : Sect x.bytes) : x.cells.length = 130 := by simp [Wr.cells, h.1]

theorem flat_at : ∀ (q : List Wr), (∀ x ∈ q, Sect x.bytes) → ∀ (j i : Nat) (x : Wr), q[j]? = some x → i < 130 → (flat q)[j * 130 + i]? = x.cells[i]?
  | [], _, j, i, x, h, _ => by simp at h
  | y :: r, ha, 0, i, x, h, hi => by
    simp only [List.getElem?_cons_zero, Option.some.injEq] at h
    subst h
    simp only [flat, List.flatMap_cons]
    rw [Nat.zero_mul, Nat.zero_add, List.getElem?_append_left (by rw [cells_len y (ha y (by simp))]; exact hi)]
  | y :: r, ha, j + 1, i, x, h, hi => by
    simp only [List.getElem?_cons_succ] at h
    have ih := flat_at r (fun z hz => ha z (by simp [hz])) j i x h hi
    have hl := cells_len y (ha y (by simp))
    simp only [flat, List.flatMap_cons]
    rw [List.getElem?_append_right (by rw [hl]; omega), hl]
    have e : (j + 1) * 130 + i - 130 = j * 130 + i := by omega
    rw [e]
    exact ih

/-- A write of the queue lies in its row. -/
theorem range_at {w : World} {B g n c : Nat} {q : List Wr} (h : w.ownsRow B 71 130 (.slice (some ⟨g, 0, none⟩) n c) n (flat q)) (hn : q.length = n) (ha : ∀ x ∈ q, Sect x.bytes) {j : Nat} {x : Wr} (hj : q[j]? = some x) : w.rangeAt g (j * 130) x.cells := by
  intro i v hv
  have hi := (List.getElem?_eq_some_iff.1 hv).1
  have hx := List.mem_of_getElem? hj
  rw [cells_len x (ha x hx)] at hi
  have hjl := (List.getElem?_eq_some_iff.1 hj).1
  rw [h.cellAt _ (by rw [← hn]; omega), flat_at q ha j i x hj hi, hv]

/-- The first place in the queue of which t holds, or -1. -/
def idx (t : Wr → Bool) (q : List Wr) : Int := match q.findIdx? t with | some i => (i : Int) | none => -1
theorem idx_some {t : Wr → Bool} {q : List Wr} {i : Nat} (h : q.findIdx? t = some i) : idx t q = i := by simp [idx, h]
theorem idx_none {t : Wr → Bool} {q : List Wr} (h : q.findIdx? t = none) : idx t q = -1 := by simp [idx, h]

theorem info86 : (Try.prog.info? 71).map (·.size) = some 130 := by kernel_rfl

set_option maxRecDepth 10000 in
set_option maxHeartbeats 1000000 in
theorem index_any (fid : Nat) (hcf : ∀ (args : Array Value) (w : World), (callFunc fid args).run Try.prog w = .ok (.enter fid args) w) (t : Wr → Bool) (c : Nat) (q : List Wr) (g n cap : Nat) (B : Nat) (w : World) (hown : w.ownsRow B 71 130 (.slice (some ⟨g, 0, none⟩) n cap) n (flat q)) (hn : q.length = n) (hn64 : n ≤ 64) (ha : ∀ x ∈ q, Sect x.bytes)
    (H : ∀ x ∈ q, ∀ w', Below w.heap.size w w' → Calls Try.prog fid #[.agg (wrA x), .pointer (some ⟨c, 0, none⟩)] w' fun e w'' => e = .returned (.bool (t x)) ∧ Below w'.heap.size w' w'') :
    Calls Try.prog 52 #[.slice (some ⟨g, 0, none⟩) n cap, .func (.func fid) #[] #[.pointer (some ⟨c, 0, none⟩)]] w fun e w' => e = .returned (.int .i64 (idx t q)) ∧ Below w.heap.size w w' := by
  have HH := (show Hid _ from H)
  clear H
  go_enter Try.func52, Try.ntmps52
  go_wp2_with fail
  go_loopw [8] (fun i wr => ∃ j : Nat, j ≤ n ∧ i = .int .i64 (j : Int) ∧ (∀ k y, k < j → q[k]? = some y → t y = false) ∧ Below w.heap.size w wr) (fun i _ => n - (intOf i).toNat)
  case atStart => exact ⟨0, by omega, rfl, by intro k y hk; omega, Below.refl _ _⟩
  case round =>
    obtain ⟨j, hj, rfl, hno, hb⟩ := hrel
    by_cases hlt : j < n
    · obtain ⟨x, hx⟩ : ∃ x, q[j]? = some x := ⟨q[j], List.getElem?_eq_getElem (by omega)⟩
      have hrow := ownsRow_kept hown (fun k hk => hb.block k (hown.lt k hk).2)
      have hr := range_at hrow hn ha hx
      have hsz : (Try.prog.info? 71).map (·.size) = some x.cells.length := by rw [cells_len x (ha x (List.mem_of_getElem? hx))]; exact info86
      go_wp2_with (refine wpList_load_mid rfl 71 _ rfl g (j * 130) rfl x.cells _ hr Try.underlying71 rfl hsz ?_)
      refine (HH.out x (List.mem_of_getElem? hx) wr hb).mono ?_
      rintro e w1 ⟨rfl, hb1⟩
      have hb1' := hb.trans (hb1.mono hb.size)
      cases ht : t x with
      | true =>
        go_wp2
        go_ret
        have e : q.findIdx? t = some j := by
          rw [List.findIdx?_eq_some_iff_getElem]
          obtain ⟨h1, h2⟩ := List.getElem?_eq_some_iff.1 hx
          refine ⟨h1, by rw [h2]; exact ht, fun k hk => ?_⟩
          have := hno k q[k] hk (List.getElem?_eq_getElem (by omega))
          simp [this]
        rw [idx_some e]
        exact ⟨rfl, hb1'⟩
      | false =>
        go_wp2
        go_roundw
        case rel =>
          refine ⟨j + 1, by omega, by go_num, ?_, hb1'⟩
          intro k y hk hy
          by_cases e : k = j
          · subst e; rw [hx] at hy; cases hy; exact ht
          · exact hno k y (by omega) hy
        case measure => simp [intOf]; omega
    · obtain rfl : j = n := by omega
      go_wp2
      go_ret
      have e : q.findIdx? t = none := by
        rw [List.findIdx?_eq_none_iff]
        intro y hy
        obtain ⟨k, hk, rfl⟩ := List.getElem_of_mem hy
        exact hno k _ (by omega) (List.getElem?_eq_getElem hk)
      rw [idx_none e]
      exact ⟨rfl, hb⟩

set_option maxHeartbeats 400000 in
theorem index_nil (n c : Nat) (hn : n = 0) (f : Value) (w : World) : Calls Try.prog 52 #[.slice none n c, f] w fun e w' => e = .returned (.int .i64 (-1)) ∧ w' = w := by
  subst hn
  go_enter Try.func52, Try.ntmps52
  go_wp2_with fail
  refine wp_loop_rounds 1 ?_
  rw [rounds_succ]
  go_wp2
  go_ret
  exact ⟨rfl, rfl⟩

theorem call60 (args : Array Value) (w : World) : (callFunc 53 args).run Try.prog w = .ok (.enter 53 args) w := by kernel_rfl
theorem call62 (args : Array Value) (w : World) : (callFunc 56 args).run Try.prog w = .ok (.enter 56 args) w := by kernel_rfl

theorem wrA_size (x : Wr) (h : Sect x.bytes) : (wrA x).size = 130 := by simp [wrA, cells_len x h]
theorem wrA_0 (x : Wr) : (wrA x)[0]? = some (.int .i64 x.id) := by simp [wrA, Wr.cells]
theorem wrA_1 (x : Wr) : (wrA x)[1]? = some (.int .i64 (x.block : Int)) := by simp [wrA, Wr.cells]

set_option maxRecDepth 10000 in
set_option maxHeartbeats 400000 in
theorem place1_ok (x : Wr) (c : Nat) (id : Int) (w : World) (hc : w.cell? ⟨c, 0, none⟩ = some (.int .i64 id)) : Calls Try.prog 53 #[.agg (wrA x), .pointer (some ⟨c, 0, none⟩)] w fun e w' => e = .returned (.bool (x.id == id)) ∧ Below w.heap.size w w' := by
  have hb := (Below.refl w.heap.size w).alloc (Nat.le_refl _) (.cells (wrA x) 71)
  have h0 : (w.alloc (.cells (wrA x) 71)).cell? ⟨w.heap.size, 0, none⟩ = some (.int .i64 x.id) := by
    rw [cell_of_row _ _ 0 _ _ _ (at_new rfl), wrA_0]
  have hc1 := (hb.cell (p := ⟨c, 0, none⟩) (lt_of_cell hc)).trans hc
  generalize wrA x = A at *
  go_enter Try.func53, Try.ntmps53
  go_wp2
  go_ret
  exact ⟨ret_bool (by first | rfl | simp), hb⟩

set_option maxRecDepth 10000 in
set_option maxHeartbeats 400000 in
theorem busy1_ok (x : Wr) (c : Nat) (id : Int) (w : World) (hc : w.cell? ⟨c, 0, none⟩ = some (.int .i64 id)) : Calls Try.prog 56 #[.agg (wrA x), .pointer (some ⟨c, 0, none⟩)] w fun e w' => e = .returned (.bool ((x.block : Int) == id)) ∧ Below w.heap.size w w' := by
  have hb := (Below.refl w.heap.size w).alloc (Nat.le_refl _) (.cells (wrA x) 71)
  have h0 : (w.alloc (.cells (wrA x) 71)).cell? ⟨w.heap.size, 1, none⟩ = some (.int .i64 (x.block : Int)) := by
    rw [cell_of_row _ _ 1 _ _ _ (at_new rfl), wrA_1]
  have hc1 := (hb.cell (p := ⟨c, 0, none⟩) (lt_of_cell hc)).trans hc
  generalize wrA x = A at *
  go_enter Try.func56, Try.ntmps56
  go_wp2
  go_ret
  exact ⟨ret_bool (by first | rfl | simp), hb⟩
end Go.Proofs.Ytemhhgpgpjiijaa
