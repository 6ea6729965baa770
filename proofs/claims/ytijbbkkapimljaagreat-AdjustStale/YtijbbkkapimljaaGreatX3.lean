/- Dirty of a volume without patches. -/
import Derived.Test.YtijbbkkapimljaaGreatX2
import Derived.Test.YtijbbkkapimljaaGreatY2
namespace Go.Proofs.YtijbbkkapimljaaGreat
open Go.RowKit Go.Maps Go.MuLone
set_option linter.unusedVariables false
set_option maxRecDepth 100000

set_option maxHeartbeats 1000000 in
theorem len64_0 (w : World) : Calls Tryz.prog 230 #[.int .u64 0] w fun e w' => (∃ k, e = .returned (.int .i64 k)) ∧ w' = w := by
  go_enter Tryz.func230, Tryz.ntmps230
  go_wp2
  go_ret
  exact ⟨⟨_, rfl⟩, rfl⟩

set_option maxHeartbeats 1000000 in
theorem blen_0 (w : World) : Calls Tryz.prog 179 #[.int .u64 0] w fun e w' => (∃ k, e = .returned (.int .i64 k)) ∧ w' = w := by
  go_enter Tryz.func179, Tryz.ntmps179
  go_wp2_with (first | (go_at_call 230; refine Calls.mono (len64_0 _) ?_; rintro e w' ⟨⟨k, rfl⟩, rfl⟩))
  go_ret
  exact ⟨⟨_, rfl⟩, rfl⟩

set_option maxHeartbeats 1000000 in
theorem ins_none (p : Option Addr) (c : Nat) (w : World) : Calls Tryz.prog 220 #[.slice p 0 c, .int .i64 0, .int .i64 0] w fun e w' => (∃ u, e = .returned u) ∧ w' = w := by
  go_enter Tryz.func220, Tryz.ntmps220
  go_wp2_with fail
  go_loopw [6] (fun i wr => i = .int .i64 1 ∧ w = wr) (fun _ _ => 0)
  case atStart => exact ⟨rfl, rfl⟩
  case round =>
    obtain ⟨rfl, rfl⟩ := hrel
    go_wp2
    first | go_end0 | (refine bodyPost_ret (results_none rfl _ _ _) rfl ?_)
    exact ⟨⟨_, rfl⟩, rfl⟩

set_option maxHeartbeats 1000000 in
theorem pdq_none (p : Option Addr) (c : Nat) (k : Int) (w : World) : Calls Tryz.prog 178 #[.slice p 0 c, .int .i64 0, .int .i64 0, .int .i64 k] w fun e w' => (∃ u, e = .returned u) ∧ w' = w := by
  have hi := ins_none p c w
  go_enter Tryz.func178, Tryz.ntmps178
  go_wp2_with fail
  go_loopw [1, 2] (fun i j wr => i = .int .i64 0 ∧ j = .int .i64 0 ∧ w = wr) (fun _ _ _ => 0)
  case atStart => exact ⟨rfl, rfl, rfl⟩
  case round =>
    obtain ⟨rfl, rfl, rfl⟩ := hrel
    go_wp2_with (first | (go_at_call 220; refine Calls.mono hi ?_; rintro e w' ⟨⟨u, rfl⟩, rfl⟩))
    first | go_end0 | (refine bodyPost_ret (results_none rfl _ _ _) rfl ?_)
    exact ⟨⟨_, rfl⟩, rfl⟩

set_option maxHeartbeats 1000000 in
theorem sort_none (p : Option Addr) (c : Nat) (w : World) : Calls Tryz.prog 121 #[.slice p 0 c] w fun e w' => (∃ u, e = .returned u) ∧ w' = w := by
  go_enter Tryz.func121, Tryz.ntmps121
  go_wp2_with (first | (go_at_call 179; refine Calls.mono (blen_0 _) ?_; rintro e w' ⟨⟨k, rfl⟩, rfl⟩) | (go_at_call 178; refine Calls.mono (pdq_none p c k _) ?_; rintro e w' ⟨⟨u, rfl⟩, rfl⟩))
  first | go_end0 | (refine bodyPost_ret (results_none rfl _ _ _) rfl ?_)
  exact ⟨⟨_, rfl⟩, rfl⟩

set_option maxHeartbeats 1000000 in
/-- The keys of an empty map, sorted: none. -/
theorem sorted_none {w : World} {b p2 : Nat} (hb : w.cell? ⟨b, 0, none⟩ = some (.map (some p2))) (hm : w.heap[p2]? = some (.map #[] 0)) :
    Calls Tryz.prog 70 #[.func (.func 122) #[] #[.pointer (some ⟨b, 0, none⟩)]] w fun e w' => ∃ p c, e = .returned (.slice p 0 c) ∧ Below w.heap.size w w' := by
  have hc := Go.callsIn_wide.1 (collect_in b p2 0 (.map []) w (lt_of_cell hb) (by decide) hb (slmap_of hm))
  go_enter Tryz.func70, Tryz.ntmps70
  go_wp2_with fail
  refine Calls.mono hc ?_
  rintro e w1 ⟨v, ss, rfl, ⟨_, hl, _⟩, hn, hb1⟩
  obtain rfl : ss = [] := List.eq_nil_of_length_eq_zero (Nat.le_zero.1 hl)
  obtain ⟨p, c, rfl, _⟩ := row_case hn
  have HB := (show Hid _ from hb1)
  clear hc hn hb1 hl
  dsimp only [List.length_nil]
  go_wp2_with (first | (go_at_call 121; refine Calls.mono (sort_none p c _) ?_; rintro e w' ⟨⟨u, rfl⟩, rfl⟩))
  go_ret
  exact ⟨p, c, rfl, HB.out⟩

set_option maxHeartbeats 1000000 in
theorem pblocks_none {w : World} {s p1 p2 : Nat} (hs : w.heap[s]? = some (.cells #[.int .i64 0, .map (some p1), .map (some p2)] 149 (0, 0))) (h2 : w.heap[p2]? = some (.map #[] 0)) :
    Calls Tryz.prog 30 #[.pointer (some ⟨s, 0, none⟩)] w fun e w' => ∃ p c, e = .returned (.slice p 0 c) ∧ Below w.heap.size w w' := by
  have hm := pmade_ok hs
  have c2 : w.cell? ⟨s, 2, none⟩ = some (.map (some p2)) := cell_of_row _ _ 2 _ 149 _ hs
  have hk := Go.callsIn_wide.1 (keys_in 1 (some p2) w)
  obtain ⟨W1, hW1⟩ : ∃ W1, w.alloc (.cells #[.map (some p2)] 146) = W1 := ⟨_, rfl⟩
  rw [hW1] at hk
  have hb1 : Below w.heap.size w W1 := by rw [← hW1]; exact (Below.refl _ w).alloc (Nat.le_refl _) _
  have hcell : W1.cell? ⟨w.heap.size, 0, none⟩ = some (.map (some p2)) := by rw [← hW1]; exact cell_of_row _ _ 0 _ 146 _ (at_new rfl)
  have hso := sorted_none hcell (kept_row h2 hb1)
  have HB := (show Hid _ from hb1)
  clear hW1 hcell hb1 hs h2
  go_enter Tryz.func30, Tryz.ntmps30
  go_wp2_with (first
    | (go_at_call 69; refine same_at hm ?_)
    | (go_at_call 71; refine Calls.mono hk ?_; rintro e w' ⟨rfl, hw'⟩; have hw2 := hw'.symm; subst hw2; clear hw')
    | (go_at_call 70; refine Calls.mono hso ?_; rintro e w2 ⟨p, c, rfl, hb2⟩))
  go_ret
  exact ⟨p, c, rfl, grew_trans' HB.out hb2⟩

set_option maxHeartbeats 2000000 in
theorem vdirty_none {B : Nat} {w : World} {v d c s m mb p1 p2 dm df : Nat} {C : Ch} {S : St} {k : Nat} (h : VE B w v d c s m mb p1 p2 dm df C S k) (hR : VRow w v d c s m none) :
    Calls Tryz.prog 11 #[.pointer (some ⟨v, 0, none⟩)] w fun e w' => ∃ p cc, e = .returned (.slice p 0 cc) ∧ VE B w' v d c s m mb p1 p2 dm df C S k ∧ VRow w' v d c s m none ∧ Frame (fun j => j = v) w w' := by
  have hm := vmade_ok hR.made
  have hlk := hR.lock
  have hH := hR.held
  have hrow := hR
  unfold VRow at hrow
  obtain ⟨WL, hWL⟩ : ∃ WL, w.setCell ⟨v, 0, none⟩ (.int .i32 1) = WL := ⟨_, rfl⟩
  have so : ∀ j, j ≠ v → WL.heap[j]? = w.heap[j]? := fun j hj => by rw [← hWL]; exact Below.heap_setCell _ _ _ _ hj
  rw [hWL] at hlk hH
  have hVL := h.own hrow so
  have hpb := pblocks_none hVL.set hVL.pm2
  have hHr := hH
  unfold VHeld at hHr
  have v4 : WL.cell? ⟨v, 4, none⟩ = some (.pointer (some ⟨s, 0, none⟩)) := cell_of_row _ _ 4 _ 40 _ hHr
  have HL : Hid (VE B WL v d c s m mb p1 p2 dm df C S k ∧ VHeld WL v d c s m none ∧ Frame (fun j => j = v) w WL) := ⟨hVL, hH, by rw [← hWL]; exact Frame.setCell _ _ rfl⟩
  clear h hVL so hH hrow hWL hR hHr
  go_enter_defers Tryz.func11, Tryz.ntmps11
  go_wp2_with (first
    | (go_at_call 27; refine same_at hm ?_)
    | (go_at_call 28; refine Calls.mono hlk ?_; rintro e w' ⟨rfl, hw'⟩; have hw2 := hw'.symm; subst hw2; clear hw')
    | (go_at_call 30; refine Calls.mono hpb ?_; rintro e w2 ⟨p, cc, rfl, hb2⟩))
  obtain ⟨hV, hH, hfL⟩ := HL.out
  have hV2 := hV.later hb2
  have hH2 : VHeld w2 v d c s m none := kept_row hH hb2
  refine leaves_cons (f := 29) (args := #[.pointer (some ⟨v, 0, none⟩)]) (by simp) (by simp [go_sem]) ?_
  refine (hH2.unlock .returning).mono ?_
  rintro e u' w'' ⟨rfl, rfl, rfl⟩
  have h1 := hH2
  unfold VHeld at h1
  refine ⟨_, results_tmp rfl _ _ _, p, cc, rfl, ?_, hH2.free, ?_⟩
  · exact hV2.own h1 (fun j hj => Below.heap_setCell _ _ _ _ hj)
  · exact (hfL.trans (frame_of_below hb2)).trans (Frame.setCell _ _ rfl)
end Go.Proofs.YtijbbkkapimljaaGreat
