/- S1 S2 S3 -/
import Derived.Test.YtomkhipdcjnkhaaGreatNb17

/- A snapshot that no call made; snap.Take of a volume that no call made. -/
namespace Go.Proofs.YtomkhipdcjnkhaaGreat
open Go.RowKit Go.Maps Go.MuLone
set_option linter.unusedVariables false
set_option maxRecDepth 100000

/-- v stands for a snapshot that no call made. -/
def SVoid (w : World) (v : Value) : Prop := v = .pointer none ∨ ∃ z, v = .pointer (some ⟨z, 0, none⟩) ∧ w.cell? ⟨z, 6, none⟩ = some (.int .i64 0)
theorem SVoid.kept {w w' : World} {v : Value} (h : SVoid w v) (hb : Below w.heap.size w w') : SVoid w' v := by
  rcases h with rfl | ⟨z, rfl, hc⟩
  · exact .inl rfl
  · exact .inr ⟨z, rfl, (hb.cell (p := ⟨z, 6, none⟩) (lt_of_cell hc)).trans hc⟩

section
variable {w : World} {v : Value}
set_option maxHeartbeats 400000 in
theorem smade_void (h : SVoid w v) : Calls Tryz.prog 45 #[v] w fun e w' => e = .returned (.bool false) ∧ w' = w := by
  rcases h with rfl | ⟨z, rfl, hc⟩
  · go_enter Tryz.func45, Tryz.ntmps45
    go_wp2
    go_ret
    exact ⟨rfl, rfl⟩
  · go_enter Tryz.func45, Tryz.ntmps45
    go_wp2
    go_ret
    exact ⟨rfl, rfl⟩
set_option maxHeartbeats 400000 in
theorem sread_void (h : SVoid w v) (b : Int) : Calls Tryz.prog 9 #[v, .int .i64 b] w fun e w' => e = .returned (.tuple #[.slice none 0 0, .int .i64 2]) ∧ w' = w := by
  have hm := smade_void h
  go_enter Tryz.func9, Tryz.ntmps9
  go_wp2_with (first | (go_at_call 45; refine same_at hm ?_))
  go_ret2
  exact ⟨rfl, rfl⟩
set_option maxHeartbeats 400000 in
theorem simage_void (h : SVoid w v) : Calls Tryz.prog 10 #[v] w fun e w' => e = .returned (.tuple #[.slice none 0 0, .int .i64 2]) ∧ w' = w := by
  have hm := smade_void h
  go_enter Tryz.func10, Tryz.ntmps10
  go_wp2_with (first | (go_at_call 45; refine same_at hm ?_))
  go_ret2
  exact ⟨rfl, rfl⟩
set_option maxHeartbeats 400000 in
theorem sdrop_void (h : SVoid w v) : Calls Tryz.prog 11 #[v] w fun e w' => e = .returned (.int .i64 2) ∧ w' = w := by
  have hm := smade_void h
  go_enter Tryz.func11, Tryz.ntmps11
  go_wp2_with (first | (go_at_call 45; refine same_at hm ?_))
  go_ret
  exact ⟨rfl, rfl⟩
set_option maxHeartbeats 400000 in
theorem sgen_void (h : SVoid w v) : Calls Tryz.prog 12 #[v] w fun e w' => e = .returned (.int .i64 0) ∧ w' = w := by
  have hm := smade_void h
  go_enter Tryz.func12, Tryz.ntmps12
  go_wp2_with (first | (go_at_call 45; refine same_at hm ?_))
  go_ret
  exact ⟨rfl, rfl⟩
set_option maxHeartbeats 400000 in
theorem skept_void (h : SVoid w v) : Calls Tryz.prog 14 #[v] w fun e w' => e = .returned (.int .i64 0) ∧ w' = w := by
  have hm := smade_void h
  go_enter Tryz.func14, Tryz.ntmps14
  go_wp2_with (first | (go_at_call 45; refine same_at hm ?_))
  go_ret
  exact ⟨rfl, rfl⟩
set_option maxHeartbeats 400000 in
theorem sbroken_void (h : SVoid w v) : Calls Tryz.prog 15 #[v] w fun e w' => e = .returned (.bool false) ∧ w' = w := by
  have hm := smade_void h
  go_enter Tryz.func15, Tryz.ntmps15
  go_wp2_with (first | (go_at_call 45; refine same_at hm ?_))
  go_ret
  exact ⟨rfl, rfl⟩
theorem geom_one0 : (#[.int .i64 0, .int .i64 0, .int .i64 0] : Array Value).all (·.oneCell') = true := by simp [Value.oneCell']
set_option maxHeartbeats 400000 in
theorem sgeom_void (h : SVoid w v) : Calls Tryz.prog 13 #[v] w fun e w' => e = .returned (Mk.geomV 0 0 0) ∧ Below w.heap.size w w' := by
  have hb1 : Below w.heap.size w (w.alloc (Mk.geomO 0 0 0)) := Mk.grew_alloc _ _
  have hr1 : (w.alloc (Mk.geomO 0 0 0)).heap[w.heap.size]? = some (Mk.geomO 0 0 0) := at_new rfl
  obtain ⟨W1, hW1⟩ : ∃ W1, w.alloc (Mk.geomO 0 0 0) = W1 := ⟨_, rfl⟩
  rw [hW1] at hb1 hr1
  have hm := smade_void (h.kept hb1)
  go_enter Tryz.func13, Tryz.ntmps13
  go_wp2_with (first
    | (go_at_call 45; refine same_at hm ?_)
    | (refine wpList_store_row rfl 34 (.tmp 2) _ rfl w.heap.size #[.int .i64 0, .int .i64 0, .int .i64 0] rfl rfl 34 _ hr1 Mk.info23 rfl geom_one0 ?_))
  refine bodyPost_ret (v := Mk.geomV 0 0 0) (results_cell_row (p := 2) (ty := 34) Tryz.results13 _ _ w.heap.size 34 _ (0, 0) _ rfl (setRow_heap _ _ _ _ 34 _ hr1) Tryz.underlying34 rfl Mk.info23) rfl ?_
  exact ⟨rfl, belowRow hb1 (Nat.le_refl _) _⟩
set_option maxHeartbeats 400000 in
theorem take_void {G B I : Int} (h : VVoid w v) (g r : Int) : Calls Tryz.prog 16 #[v, Mk.geomV G B I, .int .i64 g, .int .i64 r] w fun e w' => e = .returned (.tuple #[.pointer none, .int .i64 2]) ∧ Below w.heap.size w w' := by
  have hb1 : Below w.heap.size w (w.alloc (Mk.geomO G B I)) := Mk.grew_alloc _ _
  have hv := vblocks_void (h.kept hb1)
  go_enter Tryz.func16, Tryz.ntmps16
  go_wp2_with (first | (go_at_call 53; refine same_at hv ?_))
  go_ret2
  exact ⟨rfl, hb1⟩
end
end Go.Proofs.YtomkhipdcjnkhaaGreat

/- volume.Freeze of a new volume; snap.Take of it. -/
namespace Go.Proofs.YtomkhipdcjnkhaaGreat
open Go.RowKit Go.Maps Go.MuLone
set_option linter.unusedVariables false
set_option maxRecDepth 100000

/-- A view: so much room, a map of what is kept. -/
def VwR (w : World) (x mv : Nat) (room : Int) : Prop := w.heap[x]? = some (.cells #[.int .i64 room, .map (some mv), .bool false] 201 (0, 0)) ∧ w.heap[mv]? = some (.map #[] 0)

set_option maxHeartbeats 1000000 in
theorem vfreezeF_ok {w : World} {v d c s m mc p1 p2 : Nat} (h : FV w v d c s m mc p1 p2 none) (room : Int) (h0 : 0 ≤ room) (h1 : room ≤ 65536) :
    Calls Tryz.prog 55 #[.pointer (some ⟨v, 0, none⟩), .int .i64 room] w fun e w' => e = .returned (.int .i64 0) ∧ ∃ x mv, FV w' v d c s m mc p1 p2 (some ⟨x, 0, none⟩) ∧ VwR w' x mv room ∧ w.heap.size ≤ x ∧ Frame (fun k => k = v) w w' := by
  have hm := vmade_ok h.row.made
  have hlk := h.row.lock
  have hH := h.row.held
  obtain ⟨WL, hWL⟩ : ∃ WL, w.setCell ⟨v, 0, none⟩ (.int .i32 1) = WL := ⟨_, rfl⟩
  rw [hWL] at hlk hH
  have hsz : WL.heap.size = w.heap.size := by rw [← hWL]; simp
  have c6 : WL.cell? ⟨v, 6, none⟩ = some (.pointer none) := cell_of_row _ _ 6 _ 55 _ hH
  have d1 : ¬ (room < 0) := by omega
  have d2 : ¬ ((65536 : Int) < room) := by omega
  have hmm := @run_makeMap Tryz.prog
  obtain ⟨W2, hW2⟩ : ∃ W2, (WL.alloc (.map #[] 0)).alloc (.cells #[.int .i64 room, .map (some WL.heap.size), .bool false] 201) = W2 := ⟨_, rfl⟩
  have hb1 : Below WL.heap.size WL (WL.alloc (.map #[] 0)) := (Below.refl _ _).alloc (Nat.le_refl _) _
  have hb2 : Below WL.heap.size WL W2 := by rw [← hW2]; exact hb1.alloc hb1.size _
  have hs2 : W2.heap.size = WL.heap.size + 2 := by rw [← hW2]; simp
  have hH2 : VHeld W2 v d c s m none := kept_row hH hb2
  have c62 : W2.cell? ⟨v, 6, none⟩ = some (.pointer none) := cell_of_row _ _ 6 _ 55 _ hH2
  have fz2 : W2.frozen? ⟨v, 6, none⟩ = false := by have h1 := hH2; unfold VHeld at h1; simp [World.frozen?, h1]
  have hx2 : W2.heap[WL.heap.size + 1]? = some (.cells #[.int .i64 room, .map (some WL.heap.size), .bool false] 201 (0, 0)) := by rw [← hW2]; exact at_new (by simp)
  have hm2 : W2.heap[WL.heap.size]? = some (.map #[] 0) := by rw [← hW2]; exact at_old (at_new rfl)
  have hH3 : VHeld (W2.setCell ⟨v, 6, none⟩ (.pointer (some ⟨WL.heap.size + 1, 0, none⟩))) v d c s m (some ⟨WL.heap.size + 1, 0, none⟩) := heap_setCell_same W2 v 6 _ 55 _ hH2
  have hvl : v < w.heap.size := (Array.getElem?_eq_some_iff.1 h.row).1
  have HA : Hid (FV w v d c s m mc p1 p2 none ∧ WL.heap.size = w.heap.size ∧ W2.heap.size = WL.heap.size + 2 ∧ Below WL.heap.size WL W2 ∧ w.setCell ⟨v, 0, none⟩ (.int .i32 1) = WL ∧ W2.heap[WL.heap.size + 1]? = some (.cells #[.int .i64 room, .map (some WL.heap.size), .bool false] 201 (0, 0)) ∧ W2.heap[WL.heap.size]? = some (.map #[] 0)) := ⟨h, hsz, hs2, hb2, hWL, hx2, hm2⟩
  clear hs2 hb2 hb1 hWL hx2 hm2 h hsz
  go_enter_defers Tryz.func55, Tryz.ntmps55
  go_wp2_with (first
    | (go_at_call 111; refine same_at hm ?_)
    | (go_at_call 46; refine Calls.mono hlk ?_; rintro e w' ⟨rfl, hw'⟩; have hw2 := hw'.symm; subst hw2; clear hw'))
  refine leaves_cons (f := 47) (args := #[.pointer (some ⟨v, 0, none⟩)]) (by simp) (by simp [go_sem]) ?_
  refine (hH3.unlock .returning).mono ?_
  rintro e u' w'' ⟨rfl, rfl, rfl⟩
  refine ⟨_, results_tmp rfl _ _ _, rfl, ?_⟩
  obtain ⟨h, hsz, hs2, hb2, hWL, hx2, hm2⟩ := HA.out
  obtain ⟨W4, hW4⟩ : ∃ W4, (W2.setCell ⟨v, 6, none⟩ (.pointer (some ⟨WL.heap.size + 1, 0, none⟩))).setCell ⟨v, 0, none⟩ (.int .i32 0) = W4 := ⟨_, rfl⟩
  rw [hW4]
  have so4 : ∀ b, b ≠ v → W4.heap[b]? = W2.heap[b]? := fun b hb => by
    rw [← hW4, Below.heap_setCell _ _ _ _ hb, Below.heap_setCell _ _ _ _ hb]
  have soL : ∀ b, b ≠ v → WL.heap[b]? = w.heap[b]? := fun b hb => by
    rw [← hWL, Below.heap_setCell _ _ _ _ hb]
  have so : ∀ b, b < w.heap.size → b ≠ v → W4.heap[b]? = w.heap[b]? := fun b hb hn => by
    rw [so4 b hn, hb2.block b (by omega), soL b hn]
  have hrow4 : VRow W4 v d c s m (some ⟨WL.heap.size + 1, 0, none⟩) := by rw [← hW4]; exact hH3.free
  have lt : ∀ {b : Nat} {o : Obj}, w.heap[b]? = some o → b < w.heap.size := fun {b o} hh => (Array.getElem?_eq_some_iff.1 hh).1
  have hr := h.row
  unfold VRow at hr
  have ne : ∀ {b : Nat} {o : Obj}, w.heap[b]? = some o → o ≠ (.cells #[.int .i32 0, .int .u32 0, .pointer (some ⟨d, 0, none⟩), .pointer (some ⟨c, 0, none⟩), .pointer (some ⟨s, 0, none⟩), .map (some m), .pointer none] 55 (0, 0)) → W4.heap[b]? = some o := fun {b o} hh ho => by
    rw [so b (lt hh) (fun e => by rw [e, hr] at hh; cases hh; exact ho rfl)]
    exact hh
  refine ⟨WL.heap.size + 1, WL.heap.size, ⟨hrow4, ne h.cac (by simp), ne h.cm (by simp), ne h.set (by simp), ne h.pm1 (by simp), ne h.pm2 (by simp)⟩, ⟨(so4 _ (by omega)).trans hx2, (so4 _ (by omega)).trans hm2⟩, by omega, ?_⟩
  refine ⟨?_, ?_, ?_, ?_, fun b hb hn => so b hb hn⟩
  · rw [← hW4]; exact hb2.os.trans (by rw [← hWL]; rfl)
  · rw [← hW4]; exact hb2.tape.trans (by rw [← hWL]; rfl)
  · rw [← hW4]; exact hb2.output.trans (by rw [← hWL]; rfl)
  · rw [← hW4]; simp; omega

/-- A snapshot: its guard free; its volume p, its geometry, its number. -/
def SRow (w : World) (t : Nat) (p : Option Addr) (G B I g : Int) : Prop := w.heap[t]? = some (.cells #[.int .i32 0, .int .u32 0, .pointer p, .int .i64 G, .int .i64 B, .int .i64 I, .int .i64 g] 36 (0, 0))

theorem FV.keptF {w w' : World} {X : Nat → Prop} {v d c s m mc p1 p2 : Nat} {x : Option Addr} (h : FV w v d c s m mc p1 p2 x) (hb : Frame X w w') (hx : ∀ k, X k → k ≠ v ∧ k ≠ c ∧ k ≠ mc ∧ k ≠ s ∧ k ≠ p1 ∧ k ≠ p2) : FV w' v d c s m mc p1 p2 x := by
  have k : ∀ {b : Nat} {o : Obj}, w.heap[b]? = some o → ¬ X b → w'.heap[b]? = some o := fun {b o} hh hn => (hb.block b (Array.getElem?_eq_some_iff.1 hh).1 hn).trans hh
  exact ⟨k h.row (fun e => (hx _ e).1 rfl), k h.cac (fun e => (hx _ e).2.1 rfl), k h.cm (fun e => (hx _ e).2.2.1 rfl), k h.set (fun e => (hx _ e).2.2.2.1 rfl), k h.pm1 (fun e => (hx _ e).2.2.2.2.1 rfl), k h.pm2 (fun e => (hx _ e).2.2.2.2.2 rfl)⟩

/-- What snap.Take leaves of a new volume of the smallest geometry. -/
def TkP (w : World) (v d c s m mc p1 p2 : Nat) (g room : Int) (e : Ending) (w' : World) : Prop :=
  ∃ t x mv, e = .returned (.tuple #[.pointer (some ⟨t, 0, none⟩), .int .i64 0]) ∧ SRow w' t (some ⟨v, 0, none⟩) 1 8 4 g ∧ FV w' v d c s m mc p1 p2 (some ⟨x, 0, none⟩) ∧ VwR w' x mv room ∧ w.heap.size ≤ t ∧ w.heap.size ≤ x ∧ Frame (fun k => k = v) w w'

set_option maxHeartbeats 4000000 in
theorem take_ok {w : World} {v d c s m mc p1 p2 : Nat} (h : FV w v d c s m mc p1 p2 none) (hv : VHas w v 8) (g room : Int) (g0 : 1 ≤ g) (g1 : g ≤ 1099511627776) (r0 : 0 ≤ room) (r1 : room ≤ 65536) :
    Calls Tryz.prog 16 #[.pointer (some ⟨v, 0, none⟩), Mk.geomV 1 8 4, .int .i64 g, .int .i64 room] w fun e w' => TkP w v d c s m mc p1 p2 g room e w' := by
  have hb1 : Below w.heap.size w (w.alloc (Mk.geomO 1 8 4)) := Mk.grew_alloc _ _
  have hg1 : (w.alloc (Mk.geomO 1 8 4)).heap[w.heap.size]? = some (Mk.geomO 1 8 4) := at_new rfl
  obtain ⟨W1, hW1⟩ : ∃ W1, w.alloc (Mk.geomO 1 8 4) = W1 := ⟨_, rfl⟩
  rw [hW1] at hb1 hg1
  have hv1 := hv.kept hb1
  have c1 := hv1.blocks
  have hd : Below W1.heap.size W1 W1.drew := (Below.refl _ _).drew
  have hv2 := hv1.kept hd
  have g2 := (g3_of hg1).kept hd
  have q0 := g2.c0
  have q1 := g2.c1
  have q2 := g2.c2
  have hca := Mk.can_ok 1 8 4 W1.drew
  rw [Mk.Gm.can, if_pos (by decide)] at hca
  have HB : Hid (Below w.heap.size w W1.drew ∧ W1.drew.heap[w.heap.size]? = some (Mk.geomO 1 8 4) ∧ FV w v d c s m mc p1 p2 none) := ⟨hb1.drew, hg1, h⟩
  have d1 : ¬ g < 1 := by omega
  have d2 : ¬ (1099511627776 : Int) < g := by omega
  have HR : Hid (0 ≤ room ∧ room ≤ 65536) := ⟨r0, r1⟩
  clear hb1 hd h hg1 g0 g1 r0 r1
  go_enter Tryz.func16, Tryz.ntmps16
  go_wp2_with (first | (go_at_call 53; refine same_at c1 ?_))
  go_region_with (first
    | (go_at_call 54; refine Mk.grew_at hca ?_; intro w2 hb2; have hv3 := hv2.kept hb2; have g3 := g2.kept hb2; have q0' := g3.c0; have q1' := g3.c1; have q2' := g3.c2; have hb3 := Mk.blocks_ok 1 8 4 w2; rw [Mk.Gm.num, if_pos (by decide)] at hb3; have cb := hv3.blocks)
    | (go_at_call 53; first | refine same_at cb ?_ | refine same_at cb' ?_)
    | (go_at_call 49; refine Mk.grew_at hb3 ?_; intro w4 hb4; have cb' := (hv3.kept hb4).blocks))
  all_goals (
    have hB4 : Below w.heap.size w w4 := Mk.grew_trans (Mk.grew_trans HB.out.1 hb2) hb4
    have hg4 := kept_row (kept_row HB.out.2.1 hb2) hb4
    have hF4 := HB.out.2.2.kept hB4
    have hvl : v < w.heap.size := (Array.getElem?_eq_some_iff.1 HB.out.2.2.row).1
    have hfz := vfreezeF_ok hF4 room HR.out.1 HR.out.2
    have H4 : Hid (Below w.heap.size w w4 ∧ w4.heap[w.heap.size]? = some (Mk.geomO 1 8 4) ∧ v < w.heap.size) := ⟨hB4, hg4, hvl⟩
    clear hB4 hg4 hF4 hvl HB HR hca hb3 cb cb' g3 g2 q0 q1 q2 q0' q1' q2' c1 hv1 hv2 hv3 hb2 hb4 hW1 hv
    go_wp2_with fail
    refine Calls.mono hfz ?_
    rintro e w5 ⟨rfl, x, mv, hF5, hV5, hx5, hfr⟩
    have hg5 : w5.heap[w.heap.size]? = some (Mk.geomO 1 8 4) := (hfr.block _ (Array.getElem?_eq_some_iff.1 H4.out.2.1).1 (by have := H4.out.2.2; omega)).trans H4.out.2.1
    have H5 : Hid (FV w5 v d c s m mc p1 p2 (some ⟨x, 0, none⟩) ∧ VwR w5 x mv room ∧ w4.heap.size ≤ x ∧ Frame (fun k => k = v) w4 w5) := ⟨hF5, hV5, hx5, hfr⟩
    clear hfz hF5 hV5 hx5 hfr
    dsimp only
    go_wp2_with (first
      | (refine wpList_load_row rfl 34 (.tmp 5) rfl w.heap.size rfl 34 _ (0, 0) _ hg5 Tryz.underlying34 rfl Mk.info23 ?_))
    go_ret2
    obtain ⟨hB4, hg4, hvl⟩ := H4.out
    obtain ⟨hF5, hV5, hx5, hfr⟩ := H5.out
    have hb6 : Below w5.heap.size w5 (w5.alloc (.cells #[.int .i32 0, .int .u32 0, .pointer (some ⟨v, 0, none⟩), .int .i64 1, .int .i64 8, .int .i64 4, .int .i64 g] 36)) := Mk.grew_alloc _ _
    have e1 := hB4.size
    have e2 := hfr.size
    refine ⟨w5.heap.size, x, mv, rfl, at_new rfl, hF5.kept hb6, ⟨kept_row hV5.1 hb6, kept_row hV5.2 hb6⟩, by omega, by omega, ?_⟩
    exact ((frame_of_below hB4).trans hfr).trans (frame_of_below hb6))
end Go.Proofs.YtomkhipdcjnkhaaGreat

/- SnapNobody: the statement's own call returns true. -/
namespace Go.Proofs.YtomkhipdcjnkhaaGreat
open Go.RowKit Go.Maps Go.MuLone
set_option linter.unusedVariables false
set_option maxRecDepth 100000

/-- A snapshot that no call made as it is built. -/
abbrev sZ : Obj := .cells #[.int .i32 0, .int .u32 0, .pointer none, .int .i64 0, .int .i64 0, .int .i64 0, .int .i64 0] 36
theorem two_snap (w : World) {w0 : World} (hb : Below w0.heap.size w0 w) (t : TypeId) : Two w0 ((w.alloc sZ).alloc (.cells #[.pointer none, .pointer (some ⟨w.heap.size, 0, none⟩)] t)) w.heap.size 6 (.int .i64 0) := by
  have b0 : Below w.heap.size w (w.alloc sZ) := (Below.refl _ w).alloc (Nat.le_refl _) _
  have b1 := b0.alloc (show w.heap.size ≤ _ by simp) (.cells #[.pointer none, .pointer (some ⟨w.heap.size, 0, none⟩)] t)
  have hrow := heap_alloc_new (w.alloc sZ) (.cells #[.pointer none, .pointer (some ⟨w.heap.size, 0, none⟩)] t)
  rw [World.size_alloc] at hrow
  have hz := (Below.heap_alloc (w.alloc sZ) (.cells #[.pointer none, .pointer (some ⟨w.heap.size, 0, none⟩)] t) w.heap.size (by simp)).trans (heap_alloc_new w _)
  exact ⟨cell_of_row _ _ 0 _ t _ hrow, cell_of_row _ _ 1 _ t _ hrow, cell_of_row _ _ 6 _ 36 _ hz, hb.trans (b1.mono hb.size), by simp⟩
theorem Two.voidS {w w' : World} {H j : Nat} (h : Two w w' H 6 (.int .i64 0)) (hj : j < 2) : ∃ v, (∀ w', Two w w' H 6 (.int .i64 0) → SVoid w' (.pointer v)) ∧ w'.cell? ⟨H + 1, j, none⟩ = some (.pointer v) := by
  rcases (by omega : j = 0 ∨ j = 1) with rfl | rfl
  · exact ⟨none, fun _ _ => .inl rfl, h.c0⟩
  · exact ⟨_, fun w' h => .inr ⟨_, rfl, h.cz⟩, h.c1⟩

set_option maxHeartbeats 400000 in
theorem smade_ok {w : World} {t : Nat} {p : Option Addr} {G B I g : Int} (h : SRow w t p G B I g) (hg : ¬ g = 0) : Calls Tryz.prog 45 #[.pointer (some ⟨t, 0, none⟩)] w fun e w' => e = .returned (.bool true) ∧ w' = w := by
  have c6 : w.cell? ⟨t, 6, none⟩ = some (.int .i64 g) := cell_of_row _ _ 6 _ 36 _ h
  have hb : (g == 0) = false := by rw [beq_eq_false_iff_ne]; exact hg
  clear h
  go_enter Tryz.func45, Tryz.ntmps45
  go_wp2
  go_ret
  exact ⟨ret_bool (by simp [hg]), rfl⟩
set_option maxHeartbeats 400000 in
theorem sgen_ok {w : World} {t : Nat} {p : Option Addr} {G B I g : Int} (h : SRow w t p G B I g) (hg : ¬ g = 0) : Calls Tryz.prog 12 #[.pointer (some ⟨t, 0, none⟩)] w fun e w' => e = .returned (.int .i64 g) ∧ w' = w := by
  have c6 : w.cell? ⟨t, 6, none⟩ = some (.int .i64 g) := cell_of_row _ _ 6 _ 36 _ h
  have hm := smade_ok h hg
  clear h
  go_enter Tryz.func12, Tryz.ntmps12
  go_wp2_with (first | (go_at_call 45; refine same_at hm ?_))
  go_ret
  exact ⟨rfl, rfl⟩

theorem may0 : ¬ Mk.Gm.May 0 0 0 := by decide

set_option maxHeartbeats 4000000 in
theorem snapNobody_walk (b : Int) (w : World) : Calls Tryz.prog 3 #[.int .i64 b] w fun e w' => e = .returned (.bool true) ∧ Below w.heap.size w w' := by
  go_enter Tryz.func3, Tryz.ntmps3
  go_wp2_with fail
  have hT0 := two_snap w (Below.refl _ w) 22
  go_loopw [22] (fun i wr => ∃ j : Nat, j ≤ 2 ∧ i = .int .i64 (j : Int) ∧ Two w wr w.heap.size 6 (.int .i64 0)) (fun i _ => 2 - (intOf i).toNat)
  case atStart => exact ⟨0, by omega, rfl, hT0⟩
  case round =>
    clear hT0
    obtain ⟨j, hj, rfl, hp⟩ := hrel
    by_cases hlt : j < 2
    · obtain ⟨v, hv, hcell⟩ := hp.voidS hlt
      have hjI : (j : Int) < 2 := by omega
      have hj0 : (0 : Int) ≤ (j : Int) := by omega
      have v1 := hv _ hp
      have r1 := sread_void v1 b
      have r2 := simage_void v1
      have r3 := sdrop_void v1
      have r4 := sgen_void v1
      have r5 := sgeom_void v1
      have HD := (show Hid _ from hv)
      have HT : Hid (Two w wr w.heap.size 6 (.int .i64 0)) := hp
      clear hv v1 hp
      go_wp2_with (first
        | (go_at_call 9; refine same_at r1 ?_)
        | (go_at_call 10; refine same_at r2 ?_)
        | (go_at_call 11; refine same_at r3 ?_)
        | (go_at_call 12; refine same_at r4 ?_)
        | (go_at_call 13; refine Mk.grew_at r5 ?_; intro w2 hb2; have hT2 := HT.out.kept hb2; have v2 := HD.out _ hT2; have r6 := skept_void v2; have r7 := sbroken_void v2)
        | (go_at_call 14; refine same_at r6 ?_)
        | (go_at_call 15; refine same_at r7 ?_))
      exact ⟨⟨j + 1, by omega, by go_num, hT2⟩, by simp [intOf]; omega⟩
    · have hI2 : ¬ (j : Int) < 2 := by omega
      go_wp2_with fail
      have hT3 := two_vol wr hp.b 30
      generalize wr.heap.size = H2 at *
      clear hp
      go_loopw [81] (fun i w2 => ∃ j : Nat, j ≤ 2 ∧ i = .int .i64 (j : Int) ∧ Two w w2 H2 2 (.pointer none)) (fun i _ => 2 - (intOf i).toNat)
      case atStart => exact ⟨0, by omega, rfl, hT3⟩
      case round =>
        clear hT3
        obtain ⟨j, hj, rfl, hp2⟩ := hrel
        by_cases hlt : j < 2
        · obtain ⟨v, hv, hcell⟩ := hp2.void hlt
          have hjI : (j : Int) < 2 := by omega
          have hj0 : (0 : Int) ≤ (j : Int) := by omega
          have hq := take_void (G := 1) (B := 8) (I := 4) (hv _ hp2) 1 1
          have HT : Hid (Two w wr H2 2 (.pointer none)) := hp2
          clear hv hp2
          go_wp2_with (first | (go_at_call 16; refine Mk.grew_at hq ?_; intro w3 hb3))
          first
            | exact ⟨⟨j + 1, by omega, by go_num, HT.out.kept hb3⟩, by simp [intOf]; omega⟩
            | (go_roundw
               case rel => exact ⟨j + 1, by omega, by go_num, HT.out.kept hb3⟩
               case measure => simp [intOf]; omega)
        · have hI3 : ¬ (j : Int) < 2 := by omega
          have hbw := hp2.b
          clear hp2
          go_wp2_with fail
          refine Calls.mono (freshNo_ok 0 0 0 may0 wr) ?_
          rintro e w5 ⟨p, d, v, xd, y, c, s, m, mc, p1, p2, dm, df, B', rfl, hpr, hF, hLo, hBB, hD, hb5⟩
          obtain ⟨W6, hW6⟩ : ∃ W6, (w5.alloc (Mk.geomO 0 0 0)).setRow w5.heap.size #[.int .i64 1, .int .i64 8, .int .i64 4] = W6 := ⟨_, rfl⟩
          have hb6 : Below w5.heap.size w5 W6 := by rw [← hW6]; exact belowRow (Mk.grew_alloc _ _) (Nat.le_refl _) _
          have hg6 : W6.heap[w5.heap.size]? = some (Mk.geomO 1 8 4) := by rw [← hW6]; exact setRow_heap _ _ _ _ 34 _ (at_new rfl)
          have hb7 : Below w5.heap.size w5 W6.drew := hb6.drew
          have hg7 := g3_of (w := W6.drew) hg6
          have q0 := hg7.c0
          have q1 := hg7.c1
          have q2 := hg7.c2
          have hp7 := kept_row hpr hb7
          have c1 : W6.drew.cell? ⟨p, 1, none⟩ = some (.pointer (some ⟨v, 0, none⟩)) := cell_of_row _ _ 1 _ 65 _ hp7
          have htk := take_ok (hF.kept hb7) ((hF.has hD).kept hb7) 3 0 (by decide) (by decide) (by decide) (by decide)
          have HB : Hid (Below w.heap.size w W6.drew ∧ w.heap.size ≤ v) := ⟨hbw.trans ((hb5.trans (hb7.mono hb5.size)).mono hbw.size), by have := hLo.1; have := hbw.size; omega⟩
          have H6 : Hid ((w5.alloc (Mk.geomO 0 0 0)).setRow w5.heap.size #[.int .i64 1, .int .i64 8, .int .i64 4] = W6) := hW6
          clear hW6 hb6 hb7 hg6 hg7 hp7 hpr hF hD hBB hb5 hLo hbw
          dsimp only
          go_wp2_with (first
            | (refine wpList_store_row rfl 34 (.tmp 14) _ rfl w5.heap.size #[.int .i64 1, .int .i64 8, .int .i64 4] rfl rfl 34 _ (at_new rfl) Mk.info23 rfl geom_one ?_; rw [H6.out]))
          go_region_with (first
            | (go_at_call 16; refine Calls.mono htk ?_; rintro e w8 ⟨t, x, mv, rfl, hS, hF8, hV8, ht8, hx8, hfr⟩))
          all_goals (
            have hsg := sgen_ok hS (by decide)
            have HE : Hid (Below w.heap.size w w8) := HB.out.1.trans (hfr.below HB.out.1.size (fun k hk => by rw [hk]; exact HB.out.2))
            clear hS hF8 hV8 hfr htk q0 q1 q2 c1
            go_wp2_with (first | (go_at_call 12; refine same_at hsg ?_))
            go_ret
            exact ⟨rfl, HE.out⟩)
end Go.Proofs.YtomkhipdcjnkhaaGreat
