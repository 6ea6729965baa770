/- A volume without patches, its cache in whatever state: Read. -/
import Derived.Test.YtijbbkkapimljaaGreatL5
namespace Go.Proofs.YtijbbkkapimljaaGreat
open Go.RowKit Go.Maps Go.MuLone
set_option linter.unusedVariables false
set_option maxRecDepth 100000

/-- A cache that holds what the disk has; nothing is pinned; so many have been asked for. -/
structure Sn (C : Ch) (S : St) (k : Nat) : Prop where
  agree : ∀ f ∈ C.L, f.xs = S.f f.b
  free : ∀ f ∈ C.L, f.p = 0
  cnt : C.hi + C.mi = k

theorem Sn.go {C : Ch} {S : St} {k : Nat} (h : Sn C S k) {B : Nat} {w : World} {c mb d N : Nat} (hw : CW B w c mb d N C) : canGo C := by
  intro hl
  have hb := hw.bd
  obtain ⟨f, r, e⟩ : ∃ f r, C.L = f :: r := by
    match hh : C.L with
    | [] => rw [hh] at hl; simp at hl; omega
    | f :: r => exact ⟨f, r, rfl⟩
  refine ⟨f, ?_⟩
  unfold vic
  rw [e, List.find?_cons]
  have := h.free f (by rw [e]; exact List.mem_cons_self ..)
  simp [this]

theorem get_any {B : Nat} {w : World} {c mb d dm df : Nat} {dq : Value} {C : Ch} {S : St} {k : Nat} (h : CD B w c mb d dm df dq C S) (hs : Sn C S k) (hS : Ok S) (h0 : ∀ b, S.fl b = 0) (hk : k < 4611686018427387904) (b : Nat) (hb : b < S.N) :
    Calls Tryz.prog 100 #[.pointer (some ⟨c, 0, none⟩), .int .i64 (b : Int)] w fun e w' => ∃ g cap C', e = .returned (.tuple #[.slice (some ⟨g, 0, none⟩) 128 cap, .int .i64 0]) ∧ Own w.heap.size w' g 128 cap (S.f b) ∧
      CD B w' c mb d dm df dq C' S ∧ Sn C' S (k + 1) ∧ Frame (cfoot c mb C) w w' := by
  have hc := hs.cnt
  by_cases hin : ∃ f ∈ C.L, f.b = b
  · obtain ⟨f, hf, rfl⟩ := hin
    refine (get_hit h hf (by omega)).mono ?_
    rintro e w' ⟨g, cap, rfl, ho, hcd, hfr⟩
    rw [hs.agree f hf] at ho
    refine ⟨g, cap, _, rfl, ho, hcd, ⟨?_, ?_, ?_⟩, hfr⟩
    · intro f' hf'
      rcases List.mem_append.1 hf' with h' | h'
      · exact hs.agree f' (mem_outb.1 h').1
      · rw [List.mem_singleton] at h'
        subst h'
        exact hs.agree f hf
    · intro f' hf'
      rcases List.mem_append.1 hf' with h' | h'
      · exact hs.free f' (mem_outb.1 h').1
      · rw [List.mem_singleton] at h'
        subst h'
        exact hs.free f hf
    · show C.hi + 1 + C.mi = k + 1
      omega
  · have hno : ∀ f ∈ C.L, ¬ f.b = b := fun f hf e => hin ⟨f, hf, e⟩
    refine (get_new h hS b hb hno (by omega) (hs.go h.ci.toCW) (h0 b)).mono ?_
    rintro e w' ⟨g, cap, gn, rfl, ho, _, hcd, hfr⟩
    refine ⟨g, cap, _, rfl, ho, hcd, ⟨?_, ?_, ?_⟩, hfr⟩
    · intro f' hf'
      rcases List.mem_append.1 hf' with h' | h'
      · exact hs.agree f' ((room_sub C).mem h')
      · rw [List.mem_singleton] at h'
        subst h'
        rfl
    · intro f' hf'
      rcases List.mem_append.1 hf' with h' | h'
      · exact hs.free f' ((room_sub C).mem h')
      · rw [List.mem_singleton] at h'
        subst h'
        rfl
    · show C.hi + (C.mi + 1) = k + 1
      omega

/-- A volume without patches: its patches' two maps are empty; its cache C, its disk S; k blocks have been asked for. -/
structure VE (B : Nat) (w : World) (v d c s m mb p1 p2 dm df : Nat) (C : Ch) (S : St) (k : Nat) : Prop where
  cd : CD B w c mb d dm df (.slice none 0 0) C S
  sn : Sn C S k
  set : w.heap[s]? = some (.cells #[.int .i64 0, .map (some p1), .map (some p2)] 149 (0, 0))
  pm2 : w.heap[p2]? = some (.map #[] 0)
  ne : p2 ≠ mb
  ok : Ok S
  f0 : ∀ b, S.fl b = 0
  lo : B ≤ v

/-- The cache's own blocks are of two types, or its map. -/
theorem cfoot_ne {B : Nat} {w : World} {c mb d N : Nat} {C : Ch} (h : CW B w c mb d N C) {k : Nat} {cs : Array Value} {t : TypeId} (hk : w.heap[k]? = some (.cells cs t (0, 0))) (h1 : t ≠ 191) (h2 : t ≠ 294) : ¬ cfoot c mb C k := by
  intro hf
  rcases h.tys hf with rfl | ⟨cs', t', h', ht⟩
  · exact h.map_ne hk rfl
  · rw [hk] at h'
    simp only [Option.some.injEq, Obj.cells.injEq] at h'
    obtain ⟨_, rfl, _⟩ := h'
    rcases ht with e | e
    · exact h1 e
    · exact h2 e

theorem cfoot_map {B : Nat} {w : World} {c mb d N : Nat} {C : Ch} (h : CW B w c mb d N C) {k : Nat} (hk : w.heap[k]? = some (.map #[] 0)) (hne : k ≠ mb) : ¬ cfoot c mb C k := by
  intro hf
  rcases h.tys hf with rfl | ⟨cs', t', h', ht⟩
  · exact hne rfl
  · rw [hk] at h'
    cases h'

set_option maxHeartbeats 2000000 in
theorem vrd_any {B : Nat} {w : World} {v d c s m mb p1 p2 dm df : Nat} {C : Ch} {S : St} {k : Nat} (h : VE B w v d c s m mb p1 p2 dm df C S k) (hH : VHeld w v d c s m none) (hk : k < 4611686018427387904) (b : Nat) (hb : b < S.N) :
    Calls Tryz.prog 51 #[.pointer (some ⟨v, 0, none⟩), .int .i64 (b : Int)] w fun e w' => ∃ x cap C', e = .returned (.tuple #[.slice (some ⟨x, 0, none⟩) 128 cap, .int .i64 0]) ∧ Own w.heap.size w' x 128 cap (S.f b) ∧ VE B w' v d c s m mb p1 p2 dm df C' S (k + 1) ∧ VHeld w' v d c s m none ∧ Frame (cfoot c mb C) w w' := by
  have hN := h.cd.di.N2
  have hH' := hH
  unfold VHeld at hH'
  have hv : w.cell? ⟨v, 2, none⟩ = some (.pointer (some ⟨d, 0, none⟩)) := cell_of_row _ _ 2 _ 40 _ hH'
  have v3 : w.cell? ⟨v, 3, none⟩ = some (.pointer (some ⟨c, 0, none⟩)) := cell_of_row _ _ 3 _ 40 _ hH'
  have hh := vhas_ok hv h.cd.di.c0 b (by omega)
  have hge := get_any h.cd h.sn h.ok h.f0 hk b hb
  have HV := (show Hid _ from h)
  have HH := (show Hid _ from hH)
  clear h hH hH'
  go_enter Tryz.func51, Tryz.ntmps51
  go_wp2_with (first | (go_at_call 99; refine same_at hh ?_))
  refine Calls.mono hge ?_
  rintro e w2 ⟨x, cap, C', rfl, ho, hcd, hsn, hfr⟩
  have cw := HV.out.cd.ci.toCW
  have hH1 := HH.out
  unfold VHeld at hH1
  have e1 := (hfr.block s (Array.getElem?_eq_some_iff.1 HV.out.set).1 (cfoot_ne cw HV.out.set (by decide) (by decide))).trans HV.out.set
  have e2 := (hfr.block p2 (Array.getElem?_eq_some_iff.1 HV.out.pm2).1 (cfoot_map cw HV.out.pm2 HV.out.ne)).trans HV.out.pm2
  have e3 := (hfr.block v (Array.getElem?_eq_some_iff.1 hH1).1 (cfoot_ne cw hH1 (by decide) (by decide))).trans hH1
  have v42 : w2.cell? ⟨v, 4, none⟩ = some (.pointer (some ⟨s, 0, none⟩)) := cell_of_row _ _ 4 _ 40 _ e3
  have hnw := now_none e1 e2 b (by omega) ⟨x, 0, none⟩ cap (S.f b) (ho.bi (by omega) (HV.out.ok.sec b).2)
  have H2 : Hid (w.heap.size ≤ w2.heap.size ∧ Frame (cfoot c mb C) w w2 ∧ VE B w2 v d c s m mb p1 p2 dm df C' S (k + 1) ∧ VHeld w2 v d c s m none) := ⟨hfr.size, hfr, ⟨hcd, hsn, e1, e2, HV.out.ne, HV.out.ok, HV.out.f0, HV.out.lo⟩, e3⟩
  clear hge hh ho hfr v3 hv hcd hsn cw hH1 e1 e2 e3
  dsimp only
  go_wp2_with fail
  refine Calls.mono hnw ?_
  rintro e w3 ⟨x3, cap3, rfl, ho3, hb3⟩
  have h2 := H2.out.2.2.1
  have H3 : Hid (Own w.heap.size w3 x3 128 cap3 (S.f b) ∧ VE B w3 v d c s m mb p1 p2 dm df C' S (k + 1) ∧ VHeld w3 v d c s m none ∧ Frame (cfoot c mb C) w w3) := ⟨ho3.base H2.out.1, ⟨h2.cd.later hb3, h2.sn, kept_row h2.set hb3, kept_row h2.pm2 hb3, h2.ne, h2.ok, h2.f0, h2.lo⟩, kept_row H2.out.2.2.2 hb3, H2.out.2.1.trans (frame_of_below hb3)⟩
  clear hnw ho3 hb3 h2
  dsimp only
  go_wp2_with fail
  go_ret2
  exact ⟨x3, cap3, C', rfl, H3.out.1, H3.out.2.1, H3.out.2.2.1, H3.out.2.2.2⟩

theorem VE.notV {B : Nat} {w : World} {v d c s m mb p1 p2 dm df : Nat} {C : Ch} {S : St} {k : Nat} (h : VE B w v d c s m mb p1 p2 dm df C S k) {A : Array Value} (hr : w.heap[v]? = some (.cells A 40 (0, 0))) : (∀ j, foot d dm df (.slice none 0 0) j → j ≠ v) ∧ (∀ j, cfoot c mb C j → j ≠ v) ∧ s ≠ v ∧ p2 ≠ v := by
  refine ⟨?_, ?_, row_ne2 h.set hr (by simp), row_ne2 h.pm2 hr (by simp)⟩
  · obtain ⟨D1, ⟨es1, k1, hm1, _⟩, _⟩ := h.cd.di.secs.ex
    obtain ⟨D2, ⟨es2, k2, hm2, _⟩, _⟩ := h.cd.di.fls.ex
    rintro j (rfl | rfl | rfl | hk)
    · exact row_ne2 h.cd.di.row hr (by simp)
    · exact row_ne2 hm1 hr (by simp)
    · exact row_ne2 hm2 hr (by simp)
    · simp [Value.ownBlock] at hk
  · rintro j hj rfl
    exact cfoot_ne h.cd.ci.toCW hr (by decide) (by decide) hj

/-- What is done to the volume's own block alone leaves the rest. -/
theorem VE.own {B : Nat} {w w' : World} {v d c s m mb p1 p2 dm df : Nat} {C : Ch} {S : St} {k : Nat} (h : VE B w v d c s m mb p1 p2 dm df C S k) {A : Array Value} (hr : w.heap[v]? = some (.cells A 40 (0, 0))) (so : ∀ j, j ≠ v → w'.heap[j]? = w.heap[j]?) : VE B w' v d c s m mb p1 p2 dm df C S k := by
  obtain ⟨h1, h2, h3, h4⟩ := h.notV hr
  exact ⟨⟨h.cd.ci.kept (fun j hj => so j (h2 j hj)), h.cd.di.kept (fun j hj => so j (h1 j hj)), h.cd.ne⟩, h.sn, (so s h3).trans h.set, (so p2 h4).trans h.pm2, h.ne, h.ok, h.f0, h.lo⟩

set_option maxHeartbeats 2000000 in
theorem vread_any {B : Nat} {w : World} {v d c s m mb p1 p2 dm df : Nat} {C : Ch} {S : St} {k : Nat} (h : VE B w v d c s m mb p1 p2 dm df C S k) (hR : VRow w v d c s m none) (hk : k < 4611686018427387904) (b : Nat) (hb : b < S.N) :
    Calls Tryz.prog 18 #[.pointer (some ⟨v, 0, none⟩), .int .i64 (b : Int)] w fun e w' => ∃ x cap C', e = .returned (.tuple #[.slice (some ⟨x, 0, none⟩) 128 cap, .int .i64 0]) ∧ Own w.heap.size w' x 128 cap (S.f b) ∧ VE B w' v d c s m mb p1 p2 dm df C' S (k + 1) ∧ VRow w' v d c s m none ∧ Frame (fun j => j = v ∨ cfoot c mb C j) w w' := by
  have hm := vmade_ok hR.made
  have hlk := hR.lock
  have hH := hR.held
  have hrow := hR
  unfold VRow at hrow
  obtain ⟨WL, hWL⟩ : ∃ WL, w.setCell ⟨v, 0, none⟩ (.int .i32 1) = WL := ⟨_, rfl⟩
  have so : ∀ j, j ≠ v → WL.heap[j]? = w.heap[j]? := fun j hj => by rw [← hWL]; exact Below.heap_setCell _ _ _ _ hj
  have hsz : WL.heap.size = w.heap.size := by rw [← hWL]; simp
  rw [hWL] at hlk hH
  have hVL := h.own hrow so
  have hrd := vrd_any hVL hH hk b hb
  have HL : Hid (Frame (fun j => j = v ∨ cfoot c mb C j) w WL ∧ WL.heap.size = w.heap.size) := ⟨by rw [← hWL]; exact Frame.setCell _ _ (.inl rfl), hsz⟩
  clear h hVL so hH hrow hWL hsz hR
  go_enter_defers Tryz.func18, Tryz.ntmps18
  go_wp2_with (first
    | (go_at_call 27; refine same_at hm ?_)
    | (go_at_call 28; refine Calls.mono hlk ?_; rintro e w' ⟨rfl, hw'⟩; have hw2 := hw'.symm; subst hw2; clear hw')
    | (go_at_call 51; refine Calls.mono hrd ?_; rintro e w2 ⟨x, cap, C', rfl, ho, hV2, hH2, hfr⟩))
  obtain ⟨hfL, hsz⟩ := HL.out
  refine leaves_cons (f := 29) (args := #[.pointer (some ⟨v, 0, none⟩)]) (by simp) (by simp [go_sem]) ?_
  refine (hH2.unlock .returning).mono ?_
  rintro e u' w'' ⟨rfl, rfl, rfl⟩
  have h1 := hH2
  unfold VHeld at h1
  refine ⟨_, results_tmp2 rfl _ _ _, x, cap, C', rfl, ?_, ?_, hH2.free, ?_⟩
  · have hxv : x ≠ v := by
      intro e
      obtain ⟨cs, hc⟩ := own_ty ho (k := x) rfl
      rw [e, h1] at hc
      simp at hc
    rw [← hsz]
    exact ownsRow_kept ho (fun k hk => by cases hk; exact Below.heap_setCell _ _ _ _ hxv)
  · exact hV2.own h1 (fun j hj => Below.heap_setCell _ _ _ _ hj)
  · exact (hfL.trans (hfr.mono (fun k _ hk => .inr hk))).trans (Frame.setCell _ _ (.inl rfl))
end Go.Proofs.YtijbbkkapimljaaGreat
