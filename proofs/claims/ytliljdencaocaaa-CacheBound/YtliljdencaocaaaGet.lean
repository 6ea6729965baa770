/- Get: a block's bytes, from its buffer, or else from the disk. -/
import Derived.Test.YtliljdencaocaaaFetch2
namespace Go.Proofs.Ytliljdencaocaaa
open Go.RowKit Go.Maps
set_option linter.unusedVariables false

section
variable {B : Nat} {w w' : World} {c mb d dm df N : Nat} {dq : Value} {C : Ch} {S : St}
theorem CW.bump (h : CW B w c mb d N C) (j : Nat) (v : Value) {hi mi : Nat} (hr : (w.setCell ⟨c, j, none⟩ v).heap[c]? = some (.cells #[.pointer (some ⟨d, 0, none⟩), .int .i64 (C.bd : Int), .map (some mb), .int .i64 (hi : Int), .int .i64 (mi : Int)] 56 (0, 0)))
    (hc : hi + mi ≤ 4611686018427387904) : CW B (w.setCell ⟨c, j, none⟩ v) c mb d N { C with hi := hi, mi := mi } :=
  { row := hr, map := h.map.kept (heap_setCell_other _ _ _ _ (h.map_ne h.row).symm), buf := fun f hf => (heap_setCell_other _ _ _ _ (h.row_ne hf).symm).trans (h.buf f hf), sec := h.sec, gs := h.gs, ps := h.ps, bs := h.bs, N12 := h.N12, bd := h.bd, len := h.len, lo := h.lo, cnt := hc }
theorem CW.hits (h : CW B w c mb d N C) (hc : C.hi + C.mi < 4611686018427387904) : CW B (w.setCell ⟨c, 3, none⟩ (.int .i64 ((C.hi : Int) + 1))) c mb d N { C with hi := C.hi + 1 } := by
  have := h.bump 3 (.int .i64 ((C.hi : Int) + 1)) (hi := C.hi + 1) (mi := C.mi) (by
    rw [heap_setCell_same w c 3 _ 56 _ h.row]
    simp) (by omega)
  exact this
theorem CW.misses (h : CW B w c mb d N C) (hc : C.hi + C.mi < 4611686018427387904) : CW B (w.setCell ⟨c, 4, none⟩ (.int .i64 ((C.mi : Int) + 1))) c mb d N { C with mi := C.mi + 1 } := by
  have := h.bump 4 (.int .i64 ((C.mi : Int) + 1)) (hi := C.hi) (mi := C.mi + 1) (by
    rw [heap_setCell_same w c 4 _ 56 _ h.row]
    simp) (by omega)
  exact this
theorem CD.missed (h : CD B w c mb d dm df dq C S) (hc : C.hi + C.mi < 4611686018427387904) : CD B (w.setCell ⟨c, 4, none⟩ (.int .i64 ((C.mi : Int) + 1))) c mb d dm df dq { C with mi := C.mi + 1 } S :=
  ⟨{ CW.misses h.ci.toCW hc with ord := h.ci.ord, us := fun f hf => by have := h.ci.us f hf; show f.u ≤ C.hi + (C.mi + 1); omega },
   h.di.kept (fun k hk => heap_setCell_other _ _ _ _ (by rintro rfl; exact h.apart _ (.inl rfl) hk)), h.ne⟩

set_option maxHeartbeats 400000 in
theorem get_arg (h : CD B w c mb d dm df dq C S) (b : Int) (hb : b < 0 ∨ (S.N : Int) ≤ b) : Calls Try.prog 15 #[.pointer (some ⟨c, 0, none⟩), .int .i64 b] w fun e w' => e = .returned (.tuple #[.slice none 0 0, .int .i64 1]) ∧ w' = w := by
  have hr := refusal_arg h.ci.toCW (blocks_ok h.di) b hb
  clear hb
  go_enter Try.func15, Try.ntmps15
  go_wp2_with (first | (go_at_call 51; refine same_at hr ?_))
  go_ret2
  exact ⟨rfl, rfl⟩

set_option maxHeartbeats 1000000 in
theorem get_hit (h : CD B w c mb d dm df dq C S) {f : Bf} (hf : f ∈ C.L) (hc : C.hi + C.mi < 4611686018427387904) :
    Calls Try.prog 15 #[.pointer (some ⟨c, 0, none⟩), .int .i64 (f.b : Int)] w fun e w' => ∃ g cap, e = .returned (.tuple #[.slice (some ⟨g, 0, none⟩) 128 cap, .int .i64 0]) ∧ Own w.heap.size w' g 128 cap f.xs ∧
      CD B w' c mb d dm df dq { C with hi := C.hi + 1, L := outb C.L f.b ++ [{ f with u := C.hi + 1 + C.mi }] } S ∧ Frame (cfoot c mb C) w w' := by
  have hfb := h.ci.bs f hf
  have hr := refusal_ok h.ci.toCW (blocks_ok h.di) f.b hfb
  have c2 := h.ci.c2
  have c3 := h.ci.c3
  have hl := h.ci.hit hf
  have hfz := row_frozC h.ci.toCW 3
  have hcw := CW.hits h.ci.toCW hc
  have hu := use_ok hcw (f := f) hf (fun k hk hne => by have := h.ci.us k hk; show k.u < C.hi + 1 + C.mi; omega) (List.Pairwise.sublist (sub_outb C.L f.b) h.ci.ord)
  have H := (show Hid _ from h)
  have hhi : (C.hi : Int) + 1 ≤ 4611686018427387904 := by omega
  have hh0 : (0 : Int) ≤ (C.hi : Int) := by omega
  clear h hcw hfb
  go_enter Try.func15, Try.ntmps15
  go_wp2_with (first
    | (go_at_call 51; refine same_at hr ?_)
    | (go_at_call 52; refine Calls.mono hu ?_; rintro e w2 ⟨g, cap, rfl, hown, hci2, hf2⟩))
  go_ret2
  have hfr : Frame (cfoot c mb C) w w2 := (Frame.setCell w (p := ⟨c, 3, none⟩) _ (.inl rfl)).trans (hf2.mono (fun k _ e => by rw [e]; exact .inr (.inr ⟨f, hf, rfl⟩)))
  exact ⟨g, cap, rfl, hown.base (by simp), ⟨hci2, H.out.di.kept (fun k hk => hfr.block k (H.out.di.in k hk).2 (fun e => H.out.apart k e hk)), H.out.ne⟩, hfr⟩

set_option maxHeartbeats 1000000 in
theorem get_pinned (h : CD B w c mb d dm df dq C S) (b : Nat) (hb : b < S.N) (hno : ∀ k ∈ C.L, ¬ k.b = b) (hc : C.hi + C.mi < 4611686018427387904) (hfull : C.bd ≤ C.L.length) (hv : vic C.L = none) :
    Calls Try.prog 15 #[.pointer (some ⟨c, 0, none⟩), .int .i64 (b : Int)] w fun e w' => e = .returned (.tuple #[.slice none 0 0, .int .i64 60]) ∧ CD B w' c mb d dm df dq { C with mi := C.mi + 1 } S ∧ Frame (cfoot c mb C) w w' := by
  have hr := refusal_ok h.ci.toCW (blocks_ok h.di) b hb
  have c2 := h.ci.c2
  have c4 := h.ci.c4
  have hl := h.ci.miss hb hno
  have hfz := row_frozC h.ci.toCW 4
  have hcd := h.missed hc
  have hu := fetch_pinned hcd b hb hfull hv
  have H := (show Hid _ from hcd)
  have hhi : (C.mi : Int) + 1 ≤ 4611686018427387904 := by omega
  have hh0 : (0 : Int) ≤ (C.mi : Int) := by omega
  clear h hcd hv hno
  go_enter Try.func15, Try.ntmps15
  go_wp2_with (first
    | (go_at_call 51; refine same_at hr ?_)
    | (go_at_call 53; refine Calls.mono hu ?_; rintro e w2 ⟨rfl, hb2⟩))
  go_ret2
  exact ⟨rfl, H.out.later hb2, (Frame.setCell w (p := ⟨c, 4, none⟩) _ (.inl rfl)).trans (frame_of_below hb2)⟩

set_option maxHeartbeats 1000000 in
theorem get_err (h : CD B w c mb d dm df dq C S) (b : Nat) (hb : b < S.N) (hno : ∀ k ∈ C.L, ¬ k.b = b) (hc : C.hi + C.mi < 4611686018427387904) (hg : canGo C) (hr0 : ¬ (aRead S b).2.2.1 = 0) :
    Calls Try.prog 15 #[.pointer (some ⟨c, 0, none⟩), .int .i64 (b : Int)] w fun e w' => e = .returned (.tuple #[.slice none 0 0, .int .i64 (aRead S b).2.2.1]) ∧ CD B w' c mb d dm df dq { C with mi := C.mi + 1 } (aRead S b).2.2.2 ∧ Frame (fun k => cfoot c mb C k ∨ foot d dm df dq k) w w' := by
  have hr := refusal_ok h.ci.toCW (blocks_ok h.di) b hb
  have c2 := h.ci.c2
  have c4 := h.ci.c4
  have hl := h.ci.miss hb hno
  have hfz := row_frozC h.ci.toCW 4
  have hcd := h.missed hc
  have hu := fetch_err hcd b hb hg hr0
  have hhi : (C.mi : Int) + 1 ≤ 4611686018427387904 := by omega
  have hh0 : (0 : Int) ≤ (C.mi : Int) := by omega
  clear h hcd hno hg
  generalize (aRead S (b : Int)).2.2.1 = er at *
  have hr' : (er != 0) = true := by rw [bne_iff_ne]; exact hr0
  go_enter Try.func15, Try.ntmps15
  go_wp2_with (first
    | (go_at_call 51; refine same_at hr ?_)
    | (go_at_call 53; refine Calls.mono hu ?_; rintro e w2 ⟨rfl, hcd2, hf2⟩))
  go_ret2
  exact ⟨rfl, hcd2, (Frame.setCell w (p := ⟨c, 4, none⟩) _ (.inl (.inl rfl))).trans (hf2.mono (fun k _ e => .inr e))⟩

theorem outb_snoc {L : List Bf} {f : Bf} (h : ∀ k ∈ L, ¬ k.b = f.b) : outb (L ++ [f]) f.b = L := by
  unfold outb
  rw [List.filter_append]
  have e1 : L.filter (fun k => !(k.b == f.b)) = L := by
    rw [List.filter_eq_self]
    intro k hk
    simpa using h k hk
  rw [e1]
  simp

set_option maxHeartbeats 1000000 in
theorem get_new (h : CD B w c mb d dm df dq C S) (hS : Ok S) (b : Nat) (hb : b < S.N) (hno : ∀ k ∈ C.L, ¬ k.b = b) (hc : C.hi + C.mi < 4611686018427387904) (hg : canGo C) (h0 : S.fl b = 0) :
    Calls Try.prog 15 #[.pointer (some ⟨c, 0, none⟩), .int .i64 (b : Int)] w fun e w' => ∃ g cap gn, e = .returned (.tuple #[.slice (some ⟨g, 0, none⟩) 128 cap, .int .i64 0]) ∧ Own w.heap.size w' g 128 cap (S.f b) ∧ w.heap.size ≤ gn ∧
      CD B w' c mb d dm df dq { C with mi := C.mi + 1, L := room C ++ [⟨b, C.hi + (C.mi + 1), 0, gn, S.f b⟩] } S ∧ Frame (cfoot c mb C) w w' := by
  have hr := refusal_ok h.ci.toCW (blocks_ok h.di) b hb
  have c2 := h.ci.c2
  have c4 := h.ci.c4
  have hl := h.ci.miss hb hno
  have hfz := row_frozC h.ci.toCW 4
  have hcd := h.missed hc
  have hsub := room_sub C
  have hu := fetch_ok hcd hS b hb hno hg h0
  have hux : ∀ w2 g, CW B w2 c mb d S.N { C with mi := C.mi + 1, L := room C ++ [⟨b, 0, 0, g, S.f b⟩] } → _ := fun w2 g hcw =>
    use_ok (f := ⟨b, 0, 0, g, S.f b⟩) hcw (by simp) (fun k hk hne => by
      rcases List.mem_append.1 hk with hk | hk
      · have := h.ci.us k (hsub.subset hk); show k.u < C.hi + (C.mi + 1); omega
      · simp at hk; subst hk; exact absurd rfl hne) (by
      show (outb (room C ++ [⟨b, 0, 0, g, S.f b⟩]) b).Pairwise _
      rw [outb_snoc (f := ⟨b, 0, 0, g, S.f b⟩) (fun k hk => hno k (hsub.subset hk))]
      exact List.Pairwise.sublist hsub h.ci.ord)
  have HU := (show Hid _ from hux)
  have H := (show Hid _ from h)
  have HO : Hid (∀ g, outb (room C ++ [⟨b, 0, 0, g, S.f b⟩]) b = room C) := fun g => outb_snoc (f := ⟨b, 0, 0, g, S.f b⟩) (fun k hk => hno k (hsub.subset hk))
  have hhi : (C.mi : Int) + 1 ≤ 4611686018427387904 := by omega
  have hh0 : (0 : Int) ≤ (C.mi : Int) := by omega
  clear h hcd hno hg hux hsub
  go_enter Try.func15, Try.ntmps15
  go_wp2_with (first
    | (go_at_call 51; refine same_at hr ?_)
    | (go_at_call 53; refine Calls.mono hu ?_; rintro e w2 ⟨gn, rfl, hgn, hcw2, hf2⟩)
    | (go_at_call 52; refine Calls.mono (HU.out w2 gn hcw2) ?_; rintro e w3 ⟨g, cap, rfl, hown, hci3, hf3⟩))
  go_ret2
  have hsz : (w.setCell ⟨c, 4, none⟩ (.int .i64 ((C.mi : Int) + 1))).heap.size = w.heap.size := by simp
  have hf1 : Frame (cfoot c mb C) w (w.setCell ⟨c, 4, none⟩ (.int .i64 ((C.mi : Int) + 1))) := Frame.setCell w (p := ⟨c, 4, none⟩) (.int .i64 ((C.mi : Int) + 1)) (.inl rfl)
  have hf12 : Frame (cfoot c mb C) w w2 := hf1.trans (hf2.mono (fun k _ e => by rw [e]; exact .inr (.inl rfl)))
  have hgn' : w.heap.size ≤ gn := by rw [hsz] at hgn; exact hgn
  have hs2 := hf12.size
  have hfr : Frame (cfoot c mb C) w w3 := ⟨hf3.os.trans hf12.os, hf3.tape.trans hf12.tape, hf3.output.trans hf12.output, Nat.le_trans hs2 hf3.size, fun k hk hn => (hf3.block k (by omega) (by show ¬ k = gn; omega)).trans (hf12.block k hk hn)⟩
  refine ⟨g, cap, gn, rfl, hown.base (by omega), hgn', ⟨?_, H.out.di.kept (fun k hk => hfr.block k (H.out.di.in k hk).2 (fun e => H.out.apart k e hk)), H.out.ne⟩, hfr⟩
  have hci4 := hci3
  rw [HO.out gn] at hci4
  exact hci4
end
end Go.Proofs.Ytliljdencaocaaa
