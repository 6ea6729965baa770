/- C1 C2 C3 C4 C5 C6 -/
import Derived.Test.YtomkhipdcjnkhaaGreatNb18
import Derived.BigQuiet
import Derived.Deep.QuietTactic
import Derived.Test.YtomkhipdcjnkhaaGreatNb14

/- A snapshot of a new volume: asked for a block that there is not; dropped; asked when it was dropped. -/
namespace Go.Proofs.YtomkhipdcjnkhaaGreat
open Go.RowKit Go.Maps Go.MuLone
set_option linter.unusedVariables false
set_option maxRecDepth 100000

/-- A snapshot while its guard is held. -/
def SHeld (w : World) (t : Nat) (p : Option Addr) (G B I g : Int) : Prop := w.heap[t]? = some (.cells #[.int .i32 1, .int .u32 0, .pointer p, .int .i64 G, .int .i64 B, .int .i64 I, .int .i64 g] 36 (0, 0))

section
variable {w : World} {t : Nat} {p : Option Addr} {G B I g : Int}
theorem SRow.held (h : SRow w t p G B I g) : SHeld (w.setCell ⟨t, 0, none⟩ (.int .i32 1)) t p G B I g := heap_setCell_same w t 0 _ 36 _ h
theorem SHeld.free (h : SHeld w t p G B I g) : SRow (w.setCell ⟨t, 0, none⟩ (.int .i32 0)) t p G B I g := heap_setCell_same w t 0 _ 36 _ h
theorem SRow.lock (h : SRow w t p G B I g) : Calls Tryz.prog 46 #[.pointer (some ⟨t, 0, none⟩)] w fun e w' => e = .returned (.tuple #[]) ∧ w' = w.setCell ⟨t, 0, none⟩ (.int .i32 1) :=
  lock_free muLib ⟨t, 0, none⟩ w (cell_of_row w t 0 _ 36 _ h) (by have h1 := h; unfold SRow at h1; simp [World.frozen?, h1])
theorem SHeld.unlock (h : SHeld w t p G B I g) (u : FrameMode) : CallsD Tryz.prog 47 #[.pointer (some ⟨t, 0, none⟩)] u w fun e u' w' => u' = u ∧ (e = .returned (.tuple #[]) ∧ w' = w.setCell ⟨t, 0, none⟩ (.int .i32 0)) :=
  unlock_deferred muLib ⟨t, 0, none⟩ u w (cell_of_row w t 0 _ 36 _ h) (by have h1 := h; unfold SHeld at h1; simp [World.frozen?, h1])
end

/-- Taken and let go, a guard is as it was. -/
theorem lock_back {w : World} {b : Nat} {cs : List Value} {t : TypeId} (h : w.heap[b]? = some (.cells (.int .i32 0 :: cs).toArray t (0, 0))) : (w.setCell ⟨b, 0, none⟩ (.int .i32 1)).setCell ⟨b, 0, none⟩ (.int .i32 0) = w := by
  obtain ⟨hlt, hv⟩ := (Array.getElem?_eq_some_iff.1 h)
  have e : ((w.setCell ⟨b, 0, none⟩ (.int .i32 1)).setCell ⟨b, 0, none⟩ (.int .i32 0)).heap = w.heap := by
    apply Array.ext
    · simp [World.setCell]
    · intro i h1 h2
      simp only [World.setCell, Array.getElem_modify]
      by_cases hi : b = i
      · subst hi
        rw [hv]
        simp
      · simp [hi]
  cases w
  simp only [World.setCell] at e ⊢
  rw [e]

section
variable {w : World} {v d c s m mc p1 p2 x mv t : Nat} {r G B I g : Int}
set_option maxHeartbeats 400000 in
theorem vhas_neg (w : World) (v : Nat) : Calls Tryz.prog 221 #[.pointer (some ⟨v, 0, none⟩), .int .i64 (-1)] w fun e w' => e = .returned (.bool false) ∧ w' = w := by
  go_enter Tryz.func221, Tryz.ntmps221
  go_wp2
  go_ret
  exact ⟨rfl, rfl⟩
set_option maxHeartbeats 400000 in
theorem vread_neg (w : World) (v : Nat) : Calls Tryz.prog 125 #[.pointer (some ⟨v, 0, none⟩), .int .i64 (-1)] w fun e w' => e = .returned (.tuple #[.slice none 0 0, .int .i64 90]) ∧ w' = w := by
  have h := vhas_neg w v
  go_enter Tryz.func125, Tryz.ntmps125
  go_wp2_with (first | (go_at_call 221; refine same_at h ?_))
  go_ret2
  exact ⟨rfl, rfl⟩
set_option maxHeartbeats 400000 in
theorem whole_ok (h : VwR w x mv r) : Calls Tryz.prog 203 #[.pointer (some ⟨x, 0, none⟩)] w fun e w' => e = .returned (.bool true) ∧ w' = w := by
  have c2 : w.cell? ⟨x, 2, none⟩ = some (.bool false) := cell_of_row _ _ 2 _ 201 _ h.1
  clear h
  go_enter Tryz.func203, Tryz.ntmps203
  go_wp2
  go_ret
  exact ⟨rfl, rfl⟩
set_option maxHeartbeats 1000000 in
theorem old_neg (h : FV w v d c s m mc p1 p2 (some ⟨x, 0, none⟩)) (hw : VwR w x mv r) : Calls Tryz.prog 106 #[.pointer (some ⟨v, 0, none⟩), .int .i64 (-1)] w fun e w' => e = .returned (.tuple #[.slice none 0 0, .int .i64 90]) ∧ w' = w := by
  have hm := vmade_ok h.row.made
  have hlk := h.row.lock
  have hH := h.row.held
  have hbk := lock_back (cs := [.int .u32 0, .pointer (some ⟨d, 0, none⟩), .pointer (some ⟨c, 0, none⟩), .pointer (some ⟨s, 0, none⟩), .map (some m), .pointer (some ⟨x, 0, none⟩)]) h.row
  have hxv : x ≠ v := by
    intro e
    have h1 := hw.1
    have h2 := h.row
    unfold VRow at h2
    rw [e, h2] at h1
    simp at h1
  have hmv : mv ≠ v := by
    intro e
    have h1 := hw.2
    have h2 := h.row
    unfold VRow at h2
    rw [e, h2] at h1
    simp at h1
  obtain ⟨WL, hWL⟩ : ∃ WL, w.setCell ⟨v, 0, none⟩ (.int .i32 1) = WL := ⟨_, rfl⟩
  have hwL : VwR WL x mv r := ⟨by rw [← hWL, Below.heap_setCell _ _ _ _ hxv]; exact hw.1, by rw [← hWL, Below.heap_setCell _ _ _ _ hmv]; exact hw.2⟩
  rw [hWL] at hlk hH hbk
  have c6 : WL.cell? ⟨v, 6, none⟩ = some (.pointer (some ⟨x, 0, none⟩)) := cell_of_row _ _ 6 _ 55 _ hH
  have q1 := whole_ok hwL
  have q2 := vread_neg WL v
  have HH : Hid (VHeld WL v d c s m (some ⟨x, 0, none⟩)) := hH
  have HK : Hid (WL.setCell ⟨v, 0, none⟩ (.int .i32 0) = w) := hbk
  clear hwL hw h hWL hH hbk hxv hmv
  go_enter_defers Tryz.func106, Tryz.ntmps106
  go_wp2_with (first
    | (go_at_call 111; refine same_at hm ?_)
    | (go_at_call 46; refine Calls.mono hlk ?_; rintro e w' ⟨rfl, hw'⟩; have hw2 := hw'.symm; subst hw2; clear hw')
    | (go_at_call 203; refine same_at q1 ?_)
    | (go_at_call 125; refine same_at q2 ?_))
  refine leaves_cons (f := 47) (args := #[.pointer (some ⟨v, 0, none⟩)]) (by simp) (by simp [go_sem]) ?_
  refine (HH.out.unlock .returning).mono ?_
  rintro e u' w'' ⟨rfl, rfl, rfl⟩
  exact ⟨_, results_tmp2 rfl _ _ _, rfl, HK.out⟩
set_option maxHeartbeats 400000 in
theorem block_neg (ht : w.cell? ⟨t, 2, none⟩ = some (.pointer (some ⟨v, 0, none⟩))) (h : FV w v d c s m mc p1 p2 (some ⟨x, 0, none⟩)) (hw : VwR w x mv r) : Calls Tryz.prog 48 #[.pointer (some ⟨t, 2, none⟩), .int .i64 (-1)] w fun e w' => e = .returned (.tuple #[.slice none 0 0, .int .i64 90]) ∧ w' = w := by
  have q := old_neg h hw
  clear h hw
  go_enter Tryz.func48, Tryz.ntmps48
  go_wp2_with (first | (go_at_call 106; refine same_at q ?_))
  go_ret2
  exact ⟨rfl, rfl⟩
set_option maxHeartbeats 400000 in
theorem block_gone (ht : w.cell? ⟨t, 2, none⟩ = some (.pointer none)) (b : Int) : Calls Tryz.prog 48 #[.pointer (some ⟨t, 2, none⟩), .int .i64 b] w fun e w' => e = .returned (.tuple #[.slice none 0 0, .int .i64 100]) ∧ w' = w := by
  go_enter Tryz.func48, Tryz.ntmps48
  go_wp2
  go_ret2
  exact ⟨rfl, rfl⟩
set_option maxHeartbeats 1000000 in
/-- Read of a snapshot, from what its view tells in the same world. -/
theorem sread_of {p : Option Addr} (h : SRow w t p G B I g) (hg : ¬ g = 0) (b : Int) {a : Value} (hq : Calls Tryz.prog 48 #[.pointer (some ⟨t, 2, none⟩), .int .i64 b] (w.setCell ⟨t, 0, none⟩ (.int .i32 1)) fun e w' => e = .returned (.tuple #[.slice none 0 0, a]) ∧ w' = w.setCell ⟨t, 0, none⟩ (.int .i32 1)) :
    Calls Tryz.prog 9 #[.pointer (some ⟨t, 0, none⟩), .int .i64 b] w fun e w' => e = .returned (.tuple #[.slice none 0 0, a]) ∧ w' = w := by
  have hm := smade_ok h hg
  have hlk := h.lock
  have hH := h.held
  have hbk := lock_back (cs := [.int .u32 0, .pointer p, .int .i64 G, .int .i64 B, .int .i64 I, .int .i64 g]) h
  obtain ⟨WL, hWL⟩ : ∃ WL, w.setCell ⟨t, 0, none⟩ (.int .i32 1) = WL := ⟨_, rfl⟩
  rw [hWL] at hlk hH hbk hq
  have HH : Hid (SHeld WL t p G B I g) := hH
  have HK : Hid (WL.setCell ⟨t, 0, none⟩ (.int .i32 0) = w) := hbk
  clear h hWL hH hbk
  go_enter_defers Tryz.func9, Tryz.ntmps9
  go_wp2_with (first
    | (go_at_call 45; refine same_at hm ?_)
    | (go_at_call 46; refine Calls.mono hlk ?_; rintro e w' ⟨rfl, hw'⟩; have hw2 := hw'.symm; subst hw2; clear hw')
    | (go_at_call 48; refine same_at hq ?_))
  refine leaves_cons (f := 47) (args := #[.pointer (some ⟨t, 0, none⟩)]) (by simp) (by simp [go_sem]) ?_
  refine (HH.out.unlock .returning).mono ?_
  rintro e u' w'' ⟨rfl, rfl, rfl⟩
  exact ⟨_, results_tmp2 rfl _ _ _, rfl, HK.out⟩
end
end Go.Proofs.YtomkhipdcjnkhaaGreat

/- A snapshot of a new volume: its Read of no block, its Drop, its Read behind that, its geometry. -/
namespace Go.Proofs.YtomkhipdcjnkhaaGreat
open Go.RowKit Go.Maps Go.MuLone
set_option linter.unusedVariables false
set_option maxRecDepth 100000

theorem row_ne {w : World} {b b' : Nat} {o o' : Obj} (h : w.heap[b]? = some o) (h' : w.heap[b']? = some o') (hn : o ≠ o') : b ≠ b' := by
  rintro rfl
  rw [h] at h'
  cases h'
  exact hn rfl

section
variable {w : World} {v d c s m mc p1 p2 x mv t : Nat} {r G B I g : Int} {xo : Option Addr}
theorem FV.apart {p : Option Addr} (h : FV w v d c s m mc p1 p2 xo) (hs : SRow w t p G B I g) : t ≠ v ∧ t ≠ c ∧ t ≠ mc ∧ t ≠ s ∧ t ≠ p1 ∧ t ≠ p2 := by
  unfold SRow at hs
  exact ⟨row_ne hs h.row (by simp), row_ne hs h.cac (by simp), row_ne hs h.cm (by simp), row_ne hs h.set (by simp), row_ne hs h.pm1 (by simp), row_ne hs h.pm2 (by simp)⟩
theorem FV.lockS {p : Option Addr} (h : FV w v d c s m mc p1 p2 xo) (hs : SRow w t p G B I g) : FV (w.setCell ⟨t, 0, none⟩ (.int .i32 1)) v d c s m mc p1 p2 xo :=
  h.keptF (X := fun k => k = t) (Frame.setCell w _ rfl) (fun k hk => by rw [hk]; exact h.apart hs)
theorem VwR.lockS {p : Option Addr} (h : VwR w x mv r) (hs : SRow w t p G B I g) : VwR (w.setCell ⟨t, 0, none⟩ (.int .i32 1)) x mv r := by
  unfold SRow at hs
  exact ⟨by rw [Below.heap_setCell _ _ _ _ (row_ne h.1 hs (by simp))]; exact h.1, by rw [Below.heap_setCell _ _ _ _ (row_ne h.2 hs (by simp))]; exact h.2⟩

theorem sread_neg (hs : SRow w t (some ⟨v, 0, none⟩) G B I g) (hg : ¬ g = 0) (h : FV w v d c s m mc p1 p2 (some ⟨x, 0, none⟩)) (hw : VwR w x mv r) : Calls Tryz.prog 9 #[.pointer (some ⟨t, 0, none⟩), .int .i64 (-1)] w fun e w' => e = .returned (.tuple #[.slice none 0 0, .int .i64 90]) ∧ w' = w :=
  sread_of hs hg (-1) (block_neg (cell_of_row _ _ 2 _ 36 _ hs.held) (h.lockS hs) (hw.lockS hs))
theorem sread_gone (hs : SRow w t none G B I g) (hg : ¬ g = 0) (b : Int) : Calls Tryz.prog 9 #[.pointer (some ⟨t, 0, none⟩), .int .i64 b] w fun e w' => e = .returned (.tuple #[.slice none 0 0, .int .i64 100]) ∧ w' = w :=
  sread_of hs hg b (block_gone (cell_of_row _ _ 2 _ 36 _ hs.held) b)

set_option maxHeartbeats 1000000 in
theorem thaw_ok (h : FV w v d c s m mc p1 p2 (some ⟨x, 0, none⟩)) : Calls Tryz.prog 108 #[.pointer (some ⟨v, 0, none⟩)] w fun e w' => e = .returned (.int .i64 0) ∧ Frame (fun k => k = v) w w' := by
  have hm := vmade_ok h.row.made
  have hlk := h.row.lock
  have hH := h.row.held
  have hvl : v < w.heap.size := (Array.getElem?_eq_some_iff.1 h.row).1
  obtain ⟨WL, hWL⟩ : ∃ WL, w.setCell ⟨v, 0, none⟩ (.int .i32 1) = WL := ⟨_, rfl⟩
  rw [hWL] at hlk hH
  have c6 : WL.cell? ⟨v, 6, none⟩ = some (.pointer (some ⟨x, 0, none⟩)) := cell_of_row _ _ 6 _ 55 _ hH
  have fz : WL.frozen? ⟨v, 6, none⟩ = false := by have h1 := hH; unfold VHeld at h1; simp [World.frozen?, h1]
  have hH3 : VHeld (WL.setCell ⟨v, 6, none⟩ (.pointer none)) v d c s m none := heap_setCell_same WL v 6 _ 55 _ hH
  have HF : Hid (Frame (fun k => k = v) w ((WL.setCell ⟨v, 6, none⟩ (.pointer none)).setCell ⟨v, 0, none⟩ (.int .i32 0))) := by
    rw [← hWL]
    exact ((Frame.setCell (X := fun k => k = v) w _ rfl).trans (Frame.setCell _ _ rfl)).trans (Frame.setCell _ _ rfl)
  clear h hWL hH
  go_enter_defers Tryz.func108, Tryz.ntmps108
  go_wp2_with (first
    | (go_at_call 111; refine same_at hm ?_)
    | (go_at_call 46; refine Calls.mono hlk ?_; rintro e w' ⟨rfl, hw'⟩; have hw2 := hw'.symm; subst hw2; clear hw'))
  refine leaves_cons (f := 47) (args := #[.pointer (some ⟨v, 0, none⟩)]) (by simp) (by simp [go_sem]) ?_
  refine (hH3.unlock .returning).mono ?_
  rintro e u' w'' ⟨rfl, rfl, rfl⟩
  exact ⟨_, results_tmp rfl _ _ _, rfl, HF.out⟩
set_option maxHeartbeats 1000000 in
theorem sdrop_ok (hs : SRow w t (some ⟨v, 0, none⟩) G B I g) (hg : ¬ g = 0) (h : FV w v d c s m mc p1 p2 (some ⟨x, 0, none⟩)) :
    Calls Tryz.prog 11 #[.pointer (some ⟨t, 0, none⟩)] w fun e w' => e = .returned (.int .i64 0) ∧ SRow w' t none G B I g ∧ Frame (fun k => k = v ∨ k = t) w w' := by
  have hm := smade_ok hs hg
  have hlk := hs.lock
  have hH := hs.held
  have htv := (h.apart hs).1
  have hFL := h.lockS hs
  obtain ⟨WL, hWL⟩ : ∃ WL, w.setCell ⟨t, 0, none⟩ (.int .i32 1) = WL := ⟨_, rfl⟩
  rw [hWL] at hlk hH hFL
  have htl : t < WL.heap.size := (Array.getElem?_eq_some_iff.1 hH).1
  have hdr : Calls Tryz.prog 50 #[.pointer (some ⟨t, 2, none⟩)] WL fun e w' => e = .returned (.int .i64 0) ∧ SHeld w' t none G B I g ∧ Frame (fun k => k = v ∨ k = t) WL w' := by
    have c2 : WL.cell? ⟨t, 2, none⟩ = some (.pointer (some ⟨v, 0, none⟩)) := cell_of_row _ _ 2 _ 36 _ hH
    have hth := thaw_ok hFL
    have HH : Hid (SHeld WL t (some ⟨v, 0, none⟩) G B I g) := hH
    clear hFL hH hlk hm h hs
    go_enter Tryz.func50, Tryz.ntmps50
    go_wp2_with fail
    refine Calls.mono hth ?_
    rintro e w2 ⟨rfl, hfr⟩
    have hH2 : SHeld w2 t (some ⟨v, 0, none⟩) G B I g := (hfr.block t htl htv).trans HH.out
    have c22 : w2.cell? ⟨t, 2, none⟩ = some (.pointer (some ⟨v, 0, none⟩)) := cell_of_row _ _ 2 _ 36 _ hH2
    have fz2 : w2.frozen? ⟨t, 2, none⟩ = false := by have h1 := hH2; unfold SHeld at h1; simp [World.frozen?, h1]
    have HX : Hid (SHeld (w2.setCell ⟨t, 2, none⟩ (.pointer none)) t none G B I g ∧ Frame (fun k => k = v ∨ k = t) WL (w2.setCell ⟨t, 2, none⟩ (.pointer none))) :=
      ⟨heap_setCell_same w2 t 2 _ 36 _ hH2, (hfr.mono (fun k _ hk => .inl hk)).trans (Frame.setCell _ _ (.inr rfl))⟩
    clear hH2 hfr hth
    dsimp only
    go_wp2_with fail
    go_ret
    exact ⟨rfl, HX.out.1, HX.out.2⟩
  have HF : Hid (Frame (fun k => k = v ∨ k = t) w WL) := by rw [← hWL]; exact Frame.setCell _ _ (.inr rfl)
  clear h hs hWL hH hFL
  go_enter_defers Tryz.func11, Tryz.ntmps11
  go_wp2_with (first
    | (go_at_call 45; refine same_at hm ?_)
    | (go_at_call 46; refine Calls.mono hlk ?_; rintro e w' ⟨rfl, hw'⟩; have hw2 := hw'.symm; subst hw2; clear hw')
    | (go_at_call 50; refine Calls.mono hdr ?_; rintro e w2 ⟨rfl, hH2, hfr2⟩))
  refine leaves_cons (f := 47) (args := #[.pointer (some ⟨t, 0, none⟩)]) (by simp) (by simp [go_sem]) ?_
  refine (hH2.unlock .returning).mono ?_
  rintro e u' w'' ⟨rfl, rfl, rfl⟩
  exact ⟨_, results_tmp rfl _ _ _, rfl, hH2.free, (HF.out.trans hfr2).trans (Frame.setCell _ _ (.inr rfl))⟩
set_option maxHeartbeats 1000000 in
theorem sgeom_ok {p : Option Addr} (hs : SRow w t p G B I g) (hg : ¬ g = 0) : Calls Tryz.prog 13 #[.pointer (some ⟨t, 0, none⟩)] w fun e w' => e = .returned (Mk.geomV G B I) ∧ Below w.heap.size w w' := by
  have hb1 : Below w.heap.size w (w.alloc (Mk.geomO 0 0 0)) := Mk.grew_alloc _ _
  have hr1 : (w.alloc (Mk.geomO 0 0 0)).heap[w.heap.size]? = some (Mk.geomO 0 0 0) := at_new rfl
  obtain ⟨W1, hW1⟩ : ∃ W1, w.alloc (Mk.geomO 0 0 0) = W1 := ⟨_, rfl⟩
  rw [hW1] at hb1 hr1
  have hs1 : SRow W1 t p G B I g := kept_row hs hb1
  have hm := smade_ok hs1 hg
  have k0 : W1.cell? ⟨t, 3, none⟩ = some (.int .i64 G) := cell_of_row _ _ 3 _ 36 _ hs1
  have k1 : W1.cell? ⟨t, 4, none⟩ = some (.int .i64 B) := cell_of_row _ _ 4 _ 36 _ hs1
  have k2 : W1.cell? ⟨t, 5, none⟩ = some (.int .i64 I) := cell_of_row _ _ 5 _ 36 _ hs1
  have hone : (#[.int .i64 G, .int .i64 B, .int .i64 I] : Array Value).all (·.oneCell') = true := by simp [Value.oneCell']
  clear hs hs1
  go_enter Tryz.func13, Tryz.ntmps13
  go_wp2_with (first
    | (go_at_call 45; refine same_at hm ?_)
    | (refine wpList_store_row rfl 34 (.tmp 2) _ rfl w.heap.size #[.int .i64 G, .int .i64 B, .int .i64 I] rfl rfl 34 _ hr1 Mk.info23 rfl hone ?_))
  refine bodyPost_ret (v := Mk.geomV G B I) (results_cell_row (p := 2) (ty := 34) Tryz.results13 _ _ w.heap.size 34 _ (0, 0) _ rfl (setRow_heap _ _ _ _ 34 _ hr1) Tryz.underlying34 rfl Mk.info23) rfl ?_
  exact ⟨rfl, belowRow hb1 (Nat.le_refl _) _⟩
end
end Go.Proofs.YtomkhipdcjnkhaaGreat

/- A checker that no call made; check.New. -/
namespace Go.Proofs.YtomkhipdcjnkhaaGreat
open Go.RowKit Go.Maps Go.MuLone
set_option linter.unusedVariables false
set_option maxRecDepth 100000

/-- c stands for a checker that no call made. -/
def CVoid (w : World) (c : Value) : Prop := c = .pointer none ∨ ∃ z, c = .pointer (some ⟨z, 0, none⟩) ∧ w.cell? ⟨z, 0, none⟩ = some (.pointer none)
section
variable {w : World} {v : Value}
set_option maxHeartbeats 400000 in
theorem cmade_void (h : CVoid w v) : Calls Tryz.prog 97 #[v] w fun e w' => e = .returned (.bool false) ∧ w' = w := by
  rcases h with rfl | ⟨z, rfl, hc⟩
  · go_enter Tryz.func97, Tryz.ntmps97
    go_wp2
    go_ret
    exact ⟨rfl, rfl⟩
  · go_enter Tryz.func97, Tryz.ntmps97
    go_wp2
    go_ret
    exact ⟨rfl, rfl⟩
theorem CVoid.drew (h : CVoid w v) : CVoid w.drew v := h
set_option maxHeartbeats 400000 in
theorem cdone_void (h : CVoid w v) : Calls Tryz.prog 39 #[v] w fun e w' => e = .returned (.bool true) ∧ Below w.heap.size w w' := by
  have hm : ∀ n, Calls Tryz.prog 97 #[v] (w.drewN n) fun e w' => e = .returned (.bool false) ∧ w' = w.drewN n := fun n => cmade_void (w := w.drewN n) h
  go_enter Tryz.func39, Tryz.ntmps39
  go_wp2_with fail
  go_quiet (first | (go_at_call 97; exact Calls.quiet_of_same (hm _)))
  go_wp2_with fail
  go_ret
  exact ⟨rfl, ⟨rfl, rfl, rfl, Nat.le_refl _, fun _ _ => rfl⟩⟩
set_option maxHeartbeats 400000 in
theorem cpass_void (h : CVoid w v) : Calls Tryz.prog 38 #[v] w fun e w' => e = .returned (.int .i64 0) ∧ Below w.heap.size w w' := by
  have hm := cdone_void h
  go_enter Tryz.func38, Tryz.ntmps38
  go_wp2_with (first | (go_at_call 39; refine Mk.grew_at hm ?_; intro w2 hb2))
  go_ret
  exact ⟨rfl, hb2⟩
set_option maxHeartbeats 400000 in
theorem csteps_void (h : CVoid w v) : Calls Tryz.prog 40 #[v] w fun e w' => e = .returned (.int .i64 0) ∧ w' = w := by
  have hm := cmade_void h
  go_enter Tryz.func40, Tryz.ntmps40
  go_wp2_with (first | (go_at_call 97; refine same_at hm ?_))
  go_ret
  exact ⟨rfl, rfl⟩
set_option maxHeartbeats 400000 in
theorem cstep_void (h : CVoid w v) : Calls Tryz.prog 37 #[v] w fun e w' => e = .returned (.tuple #[.slice none 0 0, .int .i64 2]) ∧ w' = w := by
  have hm := cmade_void h
  go_enter Tryz.func37, Tryz.ntmps37
  go_wp2_with (first | (go_at_call 97; refine same_at hm ?_))
  go_ret2
  exact ⟨rfl, rfl⟩
set_option maxHeartbeats 400000 in
theorem cnew_none {a : Int} (ha : a = 2 ∨ a = 100) (h : Calls Tryz.prog 9 #[v, .int .i64 (-1)] w fun e w' => e = .returned (.tuple #[.slice none 0 0, .int .i64 a]) ∧ w' = w) : Calls Tryz.prog 41 #[v] w fun e w' => e = .returned (.tuple #[.pointer none, .int .i64 a]) ∧ w' = w := by
  rcases ha with rfl | rfl
  · go_enter Tryz.func41, Tryz.ntmps41
    go_wp2_with (first | (go_at_call 9; refine same_at h ?_))
    go_ret2
    exact ⟨rfl, rfl⟩
  · go_enter Tryz.func41, Tryz.ntmps41
    go_wp2_with (first | (go_at_call 9; refine same_at h ?_))
    go_ret2
    exact ⟨rfl, rfl⟩
end

/-- The cells of a checker behind its first three. -/
def ckT : List Value := List.replicate 2560 (.bool false) ++ (List.replicate 512 (.int .i64 0) ++ [.slice none 0 0])
/-- A checker at its beginning, of a snapshot. -/
def ckA (t : Option Addr) : Array Value := (.pointer t :: .int .i64 0 :: .int .i64 0 :: ckT).toArray
theorem ckA_size (t : Option Addr) : (ckA t).size = 3076 := by simp [ckA, ckT]
theorem zero106 (w : World) : (zeroValue 106).run Tryz.prog w = .ok (.agg (ckA none)) w := by kernel_rfl
theorem ckA_set (p : Option Addr) : (ckA none).setIfInBounds 0 (.pointer p) = ckA p := by simp [ckA]
theorem ckA_ne : ¬ ckA none = #[] := fun h => by have := congrArg Array.size h; rw [ckA_size] at this; simp at this
theorem info106 : (Tryz.prog.info? 106).map (·.size) = some 3076 := by kernel_rfl
set_option maxHeartbeats 1000000 in
theorem cnew_ok {w : World} {t : Nat} (h : Calls Tryz.prog 9 #[.pointer (some ⟨t, 0, none⟩), .int .i64 (-1)] w fun e w' => e = .returned (.tuple #[.slice none 0 0, .int .i64 90]) ∧ w' = w) : Calls Tryz.prog 41 #[.pointer (some ⟨t, 0, none⟩)] w fun e w' => e = .returned (.tuple #[.pointer (some ⟨w.heap.size, 0, none⟩), .int .i64 0]) ∧ w' = w.alloc (.cells (ckA (some ⟨t, 0, none⟩)) 106) := by
  have z106 := zero106
  have hne := ckA_ne
  go_enter Tryz.func41, Tryz.ntmps41
  go_wp2_with (first | (go_at_call 9; refine same_at h ?_))
  go_ret2
  exact ⟨rfl, by rw [ckA_set]⟩
end Go.Proofs.YtomkhipdcjnkhaaGreat

/- A checker of a snapshot of a new volume, at its beginning: its passes. -/
namespace Go.Proofs.YtomkhipdcjnkhaaGreat
open Go.RowKit Go.Maps Go.MuLone
set_option linter.unusedVariables false
set_option maxRecDepth 100000

/-- Block k is a checker at its beginning, of the snapshot t. -/
def Ck (w : World) (k t : Nat) : Prop := w.heap[k]? = some (.cells (ckA (some ⟨t, 0, none⟩)) 106 (0, 0))
theorem ckA_0 (t : Option Addr) : (ckA t)[0]? = some (.pointer t) := by simp [ckA]
theorem ckA_1 (t : Option Addr) : (ckA t)[1]? = some (.int .i64 0) := by simp [ckA]
theorem ckA_2 (t : Option Addr) : (ckA t)[2]? = some (.int .i64 0) := by simp [ckA]
theorem ckA_q (t : Option Addr) : (ckA t)[3075]? = some (.slice none 0 0) := by
  simp only [ckA, ckT, List.getElem?_toArray]
  rw [show (3075 : Nat) = 3072 + 1 + 1 + 1 from rfl]
  simp only [List.getElem?_cons_succ]
  rw [List.getElem?_append_right (by simp), List.getElem?_append_right (by simp)]
  simp
section
variable {w : World} {k t : Nat}
theorem Ck.c0 (h : Ck w k t) : w.cell? ⟨k, 0, none⟩ = some (.pointer (some ⟨t, 0, none⟩)) := by rw [cell_of_row _ _ 0 _ 106 _ h, ckA_0]
theorem Ck.c1 (h : Ck w k t) : w.cell? ⟨k, 1, none⟩ = some (.int .i64 0) := by rw [cell_of_row _ _ 1 _ 106 _ h, ckA_1]
theorem Ck.c2 (h : Ck w k t) : w.cell? ⟨k, 2, none⟩ = some (.int .i64 0) := by rw [cell_of_row _ _ 2 _ 106 _ h, ckA_2]
theorem Ck.cq (h : Ck w k t) : w.cell? ⟨k, 3075, none⟩ = some (.slice none 0 0) := by rw [cell_of_row _ _ 3075 _ 106 _ h, ckA_q]
theorem Ck.kept {w' : World} (h : Ck w k t) (hb : Below w.heap.size w w') : Ck w' k t := kept_row h hb
set_option maxHeartbeats 400000 in
theorem cmade_ok (h : Ck w k t) : Calls Tryz.prog 97 #[.pointer (some ⟨k, 0, none⟩)] w fun e w' => e = .returned (.bool true) ∧ w' = w := by
  have c0 := h.c0
  clear h
  go_enter Tryz.func97, Tryz.ntmps97
  go_wp2
  go_ret
  exact ⟨rfl, rfl⟩

/-- The four passes as a row. -/
def psA (k : Nat) : Array Value := #[.int .i64 4, .func (.func 177) #[.pointer (some ⟨k, 0, none⟩)] #[], .int .i64 0, .func (.func 178) #[.pointer (some ⟨k, 0, none⟩)] #[], .int .i64 2, .func (.func 179) #[.pointer (some ⟨k, 0, none⟩)] #[], .int .i64 1, .func (.func 180) #[.pointer (some ⟨k, 0, none⟩)] #[]]
def PsP (w : World) (k : Nat) (e : Ending) (w' : World) : Prop := ∃ A, e = .returned (.slice (some ⟨A, 0, none⟩) 4 4) ∧ w'.heap[A]? = some (.cells (psA k) 186 (0, 0)) ∧ Below w.heap.size w w'
set_option maxHeartbeats 2000000 in
theorem passes_ok {p : Option Addr} {g : Int} (h : Ck w k t) (hs : SRow w t p 1 8 4 g) (hg : ¬ g = 0) : Calls Tryz.prog 98 #[.pointer (some ⟨k, 0, none⟩)] w fun e w' => PsP w k e w' := by
  have c0 := h.c0
  have hge := sgeom_ok hs hg
  have HC : Hid (Ck w k t) := h
  clear h hs
  go_enter Tryz.func98, Tryz.ntmps98
  go_wp2_with fail
  refine Mk.grew_at hge ?_
  intro w2 hb2
  obtain ⟨W3, hW3⟩ : ∃ W3, (w2.alloc (Mk.geomO 0 0 0)).setRow w2.heap.size #[.int .i64 1, .int .i64 8, .int .i64 4] = W3 := ⟨_, rfl⟩
  have hb3 : Below w.heap.size w W3 := by rw [← hW3]; exact belowRow (hb2.alloc hb2.size _) hb2.size _
  have hg3 : W3.heap[w2.heap.size]? = some (Mk.geomO 1 8 4) := by rw [← hW3]; exact setRow_heap _ _ _ _ 34 _ (at_new rfl)
  have hin := Mk.inodes_ok 1 8 4 W3
  rw [Mk.Gm.num, if_pos (by decide)] at hin
  have H3 : Hid ((w2.alloc (Mk.geomO 0 0 0)).setRow w2.heap.size #[.int .i64 1, .int .i64 8, .int .i64 4] = W3) := hW3
  have HB : Hid (Below w.heap.size w W3) := hb3
  clear hW3 hb3 hb2 hge c0
  dsimp only
  go_wp2_with (first
    | (refine wpList_store_row rfl 34 (.tmp 3) _ rfl w2.heap.size #[.int .i64 1, .int .i64 8, .int .i64 4] rfl rfl 34 _ (at_new rfl) Mk.info23 rfl geom_one ?_; rw [H3.out])
    | (refine wpList_load_row rfl 34 (.tmp 3) rfl w2.heap.size rfl 34 _ (0, 0) _ hg3 Tryz.underlying34 rfl Mk.info23 ?_))
  refine Mk.grew_at hin ?_
  intro w4 hb4
  have hB4 : Below w.heap.size w w4 := Mk.grew_trans HB.out hb4
  have hg4 := kept_row hg3 hb4
  have hC4 := HC.out.kept hB4
  have cq : w4.drew.cell? ⟨k, 3075, none⟩ = some (.slice none 0 0) := hC4.cq
  have cg : w4.drew.cell? ⟨w2.heap.size, 0, none⟩ = some (.int .i64 1) := cell_of_row _ _ 0 _ 34 _ hg4
  have HB4 : Hid (Below w.heap.size w w4) := hB4
  clear hin hg3 hb4 hB4 hg4 hC4 HC HB H3
  dsimp only
  go_wp2_with fail
  go_region
  go_wp2_with fail
  go_ret
  exact ⟨w4.heap.size, rfl, at_new rfl, (HB4.out.alloc HB4.out.size _).drew⟩
end
end Go.Proofs.YtomkhipdcjnkhaaGreat

/- A checker at its beginning: Done, Pass; its first step, when the snapshot was dropped. -/
namespace Go.Proofs.YtomkhipdcjnkhaaGreat
open Go.RowKit Go.Maps Go.MuLone
set_option linter.unusedVariables false
set_option maxRecDepth 100000

section
variable {w : World} {k t : Nat} {p : Option Addr} {g : Int}
theorem SRow.kept {w' : World} {G B I : Int} (h : SRow w t p G B I g) (hb : Below w.heap.size w w') : SRow w' t p G B I g := kept_row h hb
set_option maxHeartbeats 2000000 in
theorem cdone_ok (h : Ck w k t) (hs : SRow w t p 1 8 4 g) (hg : ¬ g = 0) : Calls Tryz.prog 39 #[.pointer (some ⟨k, 0, none⟩)] w fun e w' => e = .returned (.bool false) ∧ Below w.heap.size w w' := by
  have hd : Below w.heap.size w w.drew := (Below.refl _ _).drew
  have hC := h.kept hd
  have hm := cmade_ok hC
  have hp := passes_ok hC (hs.kept hd) hg
  have c1 := hC.c1
  have HC : Hid (Ck w.drew k t) := hC
  clear hC hs h
  go_enter Tryz.func39, Tryz.ntmps39
  go_wp2_with fail
  go_region_with (first
    | (go_at_call 97; refine same_at hm ?_)
    | (go_at_call 98; refine Calls.mono hp ?_; rintro e w2 ⟨A, rfl, hA, hb2⟩; have c1' := (HC.out.kept hb2).c1))
  all_goals go_wp2_with fail
  all_goals go_ret
  all_goals exact ⟨rfl, Mk.grew_trans hd hb2⟩
set_option maxHeartbeats 1000000 in
theorem cpass_ok (h : Ck w k t) (hs : SRow w t p 1 8 4 g) (hg : ¬ g = 0) : Calls Tryz.prog 38 #[.pointer (some ⟨k, 0, none⟩)] w fun e w' => e = .returned (.int .i64 1) ∧ Below w.heap.size w w' := by
  have hd := cdone_ok h hs hg
  have HC : Hid (Ck w k t) := h
  clear h hs
  go_enter Tryz.func38, Tryz.ntmps38
  go_wp2_with (first | (go_at_call 39; refine Mk.grew_at hd ?_; intro w2 hb2; have c1 := (HC.out.kept hb2).c1))
  go_ret
  exact ⟨rfl, hb2⟩
abbrev dinZ : Array Value := #[.int .i64 0, .int .i64 0, .int .i64 0, .int .i64 0, .int .i64 0, .int .i64 0, .int .i64 0, .int .i64 0, .int .i64 0]
theorem dinZ_one : dinZ.all (·.oneCell') = true := by simp [dinZ, Value.oneCell']
set_option maxHeartbeats 2000000 in
theorem cinode_gone (h : Ck w k t) (hs : SRow w t none 1 8 4 g) (hg : ¬ g = 0) : Calls Tryz.prog 279 #[.pointer (some ⟨k, 0, none⟩), .int .i64 0] w fun e w' => e = .returned (.tuple #[.agg dinZ, .int .i64 100]) ∧ Below w.heap.size w w' := by
  have hb1 : Below w.heap.size w (w.alloc (.cells dinZ 146)) := Mk.grew_alloc _ _
  have hr1 : (w.alloc (.cells dinZ 146)).heap[w.heap.size]? = some (.cells dinZ 146 (0, 0)) := at_new rfl
  obtain ⟨W1, hW1⟩ : ∃ W1, w.alloc (.cells dinZ 146) = W1 := ⟨_, rfl⟩
  rw [hW1] at hb1 hr1
  have hC1 := h.kept hb1
  have hs1 := hs.kept hb1
  have c0 := hC1.c0
  have hge := sgeom_ok hs1 hg
  have H1 : Hid (Ck W1 k t ∧ SRow W1 t none 1 8 4 g ∧ Below w.heap.size w W1) := ⟨hC1, hs1, hb1⟩
  clear hC1 hs1 h hs hb1
  go_enter Tryz.func279, Tryz.ntmps279
  go_wp2_with fail
  refine Mk.grew_at hge ?_
  intro w2 hb2
  have hin := Mk.inode_in (G := 1) (B := 8) (I := 4) (n := 0) (by decide) w2
  clear hge c0
  dsimp only
  go_wp2_with fail
  refine Mk.grew_at hin ?_
  intro w3 hb3
  have hb13 := Mk.grew_trans hb2 hb3
  have c0 := (H1.out.1.kept hb13).c0
  have hrd := fun b => sread_gone (H1.out.2.1.kept hb13) hg b
  have hr3 := kept_row hr1 hb13
  have HB : Hid (Below w.heap.size w w3) := Mk.grew_trans H1.out.2.2 hb13
  clear hin hb13 hb2 hb3 hr1 H1
  dsimp only
  go_wp2_with (first
    | (go_at_call 9; refine same_at (hrd _) ?_)
    | (refine wpList_store_row rfl 146 (.tmp 4) _ rfl w.heap.size dinZ rfl rfl 146 _ hr3 Mk.info41 rfl dinZ_one ?_))
  refine bodyPost_ret (v := .tuple #[.agg dinZ, .int .i64 100]) (Mk.results_cell_tmp_row (p := 4) (u := 5) (ty := 146) Tryz.results279 _ _ w.heap.size 146 _ (0, 0) _ rfl (setRow_heap _ _ _ _ 146 _ hr3) Tryz.underlying146 rfl Mk.info41) rfl ?_
  exact ⟨rfl, belowRow HB.out (Nat.le_refl _) _⟩
set_option maxHeartbeats 2000000 in
theorem claim_gone (h : Ck w k t) (hs : SRow w t none 1 8 4 g) (hg : ¬ g = 0) : Calls Tryz.prog 177 #[.pointer (some ⟨k, 0, none⟩), .int .i64 0] w fun e w' => e = .returned (.tuple #[.slice none 0 0, .int .i64 100]) ∧ Below w.heap.size w w' := by
  have hi := cinode_gone h hs hg
  clear h hs
  go_enter Tryz.func177, Tryz.ntmps177
  go_wp2_with fail
  refine Mk.grew_at hi ?_
  intro w2 hb2
  have HB : Hid (Below w.heap.size w ((w2.alloc (.cells dinZ 146)).setRow w2.heap.size dinZ)) := belowRow (hb2.alloc hb2.size _) hb2.size _
  clear hi hb2
  dsimp only
  go_wp2_with (first
    | (refine wpList_store_row rfl 146 (.tmp 6) _ rfl w2.heap.size dinZ rfl rfl 146 _ (at_new rfl) Mk.info41 rfl dinZ_one ?_))
  go_ret2
  exact ⟨rfl, HB.out⟩
end
end Go.Proofs.YtomkhipdcjnkhaaGreat

/- A checker's first step, when the snapshot was dropped. -/
namespace Go.Proofs.YtomkhipdcjnkhaaGreat
open Go.RowKit Go.Maps Go.MuLone
set_option linter.unusedVariables false
set_option maxRecDepth 100000

theorem info106A (t : Option Addr) : (Tryz.prog.info? 106).map (·.size) = some (ckA t).size := by rw [ckA_size]; exact info106
theorem ckA_one (t : Option Addr) : (ckA t).all (·.oneCell') = true := by simp [ckA, ckT, Value.oneCell']
section
variable {w : World} {k t : Nat} {g : Int}
set_option maxHeartbeats 4000000 in
theorem cstep_gone (h : Ck w k t) (hs : SRow w t none 1 8 4 g) (hg : ¬ g = 0) : Calls Tryz.prog 37 #[.pointer (some ⟨k, 0, none⟩)] w fun e w' => e = .returned (.tuple #[.slice none 0 0, .int .i64 100]) ∧ Below w.heap.size w w' := by
  have hm := cmade_ok h
  have hd := cdone_ok h hs hg
  have z106 := zero106
  have H0 : Hid (Ck w k t ∧ SRow w t none 1 8 4 g) := ⟨h, hs⟩
  clear h hs
  go_enter Tryz.func37, Tryz.ntmps37
  go_wp2_with (first | (go_at_call 97; refine same_at hm ?_))
  refine Mk.grew_at hd ?_
  intro w2 hb2
  have hC2 := H0.out.1.kept hb2
  obtain ⟨W3, hW3⟩ : ∃ W3, (w2.alloc (.cells (ckA none) 106)).setRow w2.heap.size (ckA (some ⟨t, 0, none⟩)) = W3 := ⟨_, rfl⟩
  have hb3 : Below w.heap.size w W3 := by rw [← hW3]; exact belowRow (hb2.alloc hb2.size _) hb2.size _
  have hC3 : Ck W3 w2.heap.size t := by rw [← hW3]; exact setRow_heap _ _ _ _ 106 _ (at_new rfl)
  have hs3 := H0.out.2.kept hb3
  have H3 : Hid ((w2.alloc (.cells (ckA none) 106)).setRow w2.heap.size (ckA (some ⟨t, 0, none⟩)) = W3) := hW3
  have hdr : Below W3.heap.size W3 W3.drew := (Below.refl _ _).drew
  have hC4 := hC3.kept hdr
  have hp := passes_ok hC4 (hs3.kept hdr) hg
  have c1 := hC4.c1
  have c2 := hC4.c2
  have HB : Hid (Below w.heap.size w W3.drew ∧ Ck W3.drew w2.heap.size t ∧ SRow W3.drew t none 1 8 4 g) := ⟨hb3.drew, hC4, hs3.kept hdr⟩
  have hCr : w2.heap[k]? = some (.cells (ckA (some ⟨t, 0, none⟩)) 106 (0, 0)) := hC2
  clear hW3 hb3 hb2 hd hm hC4 hC3 hs3 hdr hC2
  dsimp only
  go_wp2_with (first
    | (refine wpList_load_row rfl 106 (.tmp 15) rfl k rfl 106 _ (0, 0) _ hCr Tryz.underlying106 rfl (info106A _) ?_)
    | (refine wpList_store_row rfl 106 (.tmp 4) _ rfl w2.heap.size (ckA (some ⟨t, 0, none⟩)) rfl rfl 106 _ (at_new rfl) (info106A _) (by rw [ckA_size, ckA_size]) (ckA_one _) ?_; rw [H3.out]))
  go_region_with (first
    | (go_at_call 98; refine Calls.mono hp ?_; rintro e w4 ⟨A, rfl, hA, hb4⟩
       have hC5 := HB.out.2.1.kept hb4
       have c1' := hC5.c1
       have c2' := hC5.c2
       have hcl := claim_gone hC5 (HB.out.2.2.kept hb4) hg
       have a1 : w4.cell? ⟨A, 1, none⟩ = some (.func (.func 177) #[.pointer (some ⟨w2.heap.size, 0, none⟩)] #[]) := cell_of_row _ _ 1 _ 186 _ hA
       clear hA)
    | (go_at_call 177; refine Mk.grew_at hcl ?_; intro w5 hb5))
  all_goals go_wp2_with fail
  all_goals go_ret2
  all_goals exact ⟨rfl, Mk.grew_trans (Mk.grew_trans HB.out.1 hb4) hb5⟩
end
end Go.Proofs.YtomkhipdcjnkhaaGreat
