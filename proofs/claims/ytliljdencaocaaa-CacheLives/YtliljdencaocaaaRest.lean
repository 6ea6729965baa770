/- Put, Drop, Pin, Unpin, Hits, New. -/
import Derived.Test.YtliljdencaocaaaGet
namespace Go.Proofs.Ytliljdencaocaaa
open Go.RowKit Go.Maps
set_option linter.unusedVariables false

section
variable {B : Nat} {w w' : World} {c mb d dm df N : Nat} {dq : Value} {C : Ch} {S : St}

theorem CD.turn (h : CD B w c mb d dm df dq C S) {C' : Ch} (hci : CI B w' c mb d S.N C') (hf : Frame (cfoot c mb C) w w') : CD B w' c mb d dm df dq C' S :=
  ⟨hci, h.di.kept (fun k hk => hf.block k (h.di.in k hk).2 (fun e => h.apart k e hk)), h.ne⟩

set_option maxHeartbeats 400000 in
theorem drop_arg (h : CD B w c mb d dm df dq C S) (b : Int) (hb : b < 0 ∨ (S.N : Int) ≤ b) : Calls Try.prog 26 #[.pointer (some ⟨c, 0, none⟩), .int .i64 b] w fun e w' => e = .returned (.int .i64 1) ∧ w' = w := by
  have hr := refusal_arg h.ci.toCW (blocks_ok h.di) b hb
  clear hb
  go_enter Try.func26, Try.ntmps26
  go_wp2_with (first | (go_at_call 51; refine same_at hr ?_))
  go_ret
  exact ⟨rfl, rfl⟩
set_option maxHeartbeats 400000 in
theorem drop_pinned (h : CD B w c mb d dm df dq C S) {f : Bf} (hf : f ∈ C.L) (hp : 0 < f.p) : Calls Try.prog 26 #[.pointer (some ⟨c, 0, none⟩), .int .i64 (f.b : Int)] w fun e w' => e = .returned (.int .i64 3) ∧ w' = w := by
  have hr := refusal_ok h.ci.toCW (blocks_ok h.di) f.b (h.ci.bs f hf)
  have hq := pinned_hit h.ci.toCW hf
  rw [decide_eq_true hp] at hq
  go_enter Try.func26, Try.ntmps26
  go_wp2_with (first | (go_at_call 51; refine same_at hr ?_) | (go_at_call 54; refine same_at hq ?_))
  go_ret
  exact ⟨rfl, rfl⟩
set_option maxHeartbeats 400000 in
theorem drop_ok (h : CD B w c mb d dm df dq C S) (b : Nat) (hb : b < S.N) (hq : Calls Try.prog 54 #[.pointer (some ⟨c, 0, none⟩), .int .i64 (b : Int)] w fun e w' => e = .returned (.bool false) ∧ w' = w) :
    Calls Try.prog 26 #[.pointer (some ⟨c, 0, none⟩), .int .i64 (b : Int)] w fun e w' => e = .returned (.int .i64 0) ∧ CD B w' c mb d dm df dq { C with L := outb C.L b } S ∧ Frame (cfoot c mb C) w w' := by
  have hr := refusal_ok h.ci.toCW (blocks_ok h.di) b hb
  have c2 := h.ci.c2
  obtain ⟨w3, hr3, hcw3, hg3⟩ := CW.out h.ci.toCW b hb 0
  have hsub := sub_outb C.L b
  have hci : CI B w3 c mb d S.N { C with L := outb C.L b } := { hcw3 with ord := List.Pairwise.sublist hsub h.ci.ord, us := fun f hf => h.ci.us f (hsub.subset hf) }
  have hfr : Frame (cfoot c mb C) w w3 := frame_of_grown hg3 (fun k hk => by cases hk; exact .inr (.inl rfl))
  have HR := (show Hid _ from h.turn hci hfr)
  clear hci hcw3 hg3 h
  go_enter Try.func26, Try.ntmps26
  go_wp2_with (first | (go_at_call 51; refine same_at hr ?_) | (go_at_call 54; refine same_at hq ?_))
  go_ret
  exact ⟨rfl, HR.out, hfr⟩

theorem CD.pinned (h : CD B w c mb d dm df dq C S) {f : Bf} (hf : f ∈ C.L) (p : Nat) (hp : p ≤ 100) :
    CD B (w.setCell ⟨f.g, 129, none⟩ (.int .i64 (p : Int))) c mb d dm df dq { C with L := rep C.L { f with p := p } } S ∧ Frame (cfoot c mb C) w (w.setCell ⟨f.g, 129, none⟩ (.int .i64 (p : Int))) := by
  have hfr : Frame (cfoot c mb C) w (w.setCell ⟨f.g, 129, none⟩ (.int .i64 (p : Int))) := Frame.setCell w (p := ⟨f.g, 129, none⟩) _ (.inr (.inr ⟨f, hf, rfl⟩))
  have hw := h.ci.toCW
  refine ⟨h.turn (h.ci.rep hf (f' := { f with p := p }) rfl rfl rfl (h.ci.sec f hf) hp (heap_setCell_other _ _ _ _ (hw.row_ne hf)) (heap_setCell_other _ _ _ _ (hw.map_ne (h.ci.buf f hf)).symm) (fun k hk hne => heap_setCell_other _ _ _ _ hne) ?_) hfr, hfr⟩
  rw [← bufA_pins (h.ci.sec f hf)]
  exact heap_setCell_same w f.g 129 _ 90 _ (h.ci.buf f hf)

set_option maxHeartbeats 400000 in
theorem unpin_arg (h : CD B w c mb d dm df dq C S) (b : Int) (hb : b < 0 ∨ (S.N : Int) ≤ b) : Calls Try.prog 17 #[.pointer (some ⟨c, 0, none⟩), .int .i64 b] w fun e w' => e = .returned (.int .i64 1) ∧ w' = w := by
  have hr := refusal_arg h.ci.toCW (blocks_ok h.di) b hb
  clear hb
  go_enter Try.func17, Try.ntmps17
  go_wp2_with (first | (go_at_call 51; refine same_at hr ?_))
  go_ret
  exact ⟨rfl, rfl⟩
set_option maxHeartbeats 400000 in
theorem unpin_not (h : CD B w c mb d dm df dq C S) (b : Nat) (hb : b < S.N) (hq : Calls Try.prog 54 #[.pointer (some ⟨c, 0, none⟩), .int .i64 (b : Int)] w fun e w' => e = .returned (.bool false) ∧ w' = w) :
    Calls Try.prog 17 #[.pointer (some ⟨c, 0, none⟩), .int .i64 (b : Int)] w fun e w' => e = .returned (.int .i64 3) ∧ w' = w := by
  have hr := refusal_ok h.ci.toCW (blocks_ok h.di) b hb
  go_enter Try.func17, Try.ntmps17
  go_wp2_with (first | (go_at_call 51; refine same_at hr ?_) | (go_at_call 54; refine same_at hq ?_))
  go_ret
  exact ⟨rfl, rfl⟩
set_option maxHeartbeats 400000 in
theorem unpin_ok (h : CD B w c mb d dm df dq C S) {f : Bf} (hf : f ∈ C.L) (hp : 0 < f.p) :
    Calls Try.prog 17 #[.pointer (some ⟨c, 0, none⟩), .int .i64 (f.b : Int)] w fun e w' => e = .returned (.int .i64 0) ∧ CD B w' c mb d dm df dq { C with L := rep C.L { f with p := f.p - 1 } } S ∧ Frame (cfoot c mb C) w w' := by
  have hr := refusal_ok h.ci.toCW (blocks_ok h.di) f.b (h.ci.bs f hf)
  have hq := pinned_hit h.ci.toCW hf
  rw [decide_eq_true hp] at hq
  have c2 := h.ci.c2
  have hl := h.ci.hit hf
  have hpc := h.ci.pins hf
  have hfz := buf_froz h.ci.toCW hf 129
  have hp100 := h.ci.ps f hf
  have hd := h.pinned hf (f.p - 1) (by omega)
  rw [show ((f.p - 1 : Nat) : Int) = (f.p : Int) - 1 by omega] at hd
  have HD := (show Hid _ from hd)
  have hpI : (0 : Int) < (f.p : Int) := by omega
  have hpJ : (f.p : Int) ≤ 100 := by omega
  clear hd h
  go_enter Try.func17, Try.ntmps17
  go_wp2_with (first | (go_at_call 51; refine same_at hr ?_) | (go_at_call 54; refine same_at hq ?_))
  go_ret
  exact ⟨rfl, HD.out⟩

set_option maxHeartbeats 400000 in
theorem hits_ok (h : CD B w c mb d dm df dq C S) : Calls Try.prog 13 #[.pointer (some ⟨c, 0, none⟩)] w fun e w' => e = .returned (.tuple #[.int .i64 (C.hi : Int), .int .i64 (C.mi : Int)]) ∧ ∃ q, w' = w.drewN q := by
  have hm := cmade_ok h.ci.toCW
  have c3 := h.ci.c3
  have c4 := h.ci.c4
  go_enter Try.func13, Try.ntmps13
  go_wp2_with (first | (go_at_call 46; refine same_at hm ?_))
  go_quiet (fail)
  go_wp2
  go_ret2
  exact ⟨rfl, _, rfl⟩

set_option maxHeartbeats 400000 in
theorem pin_err (b : Int) (er : Int) (R : World → World → Prop) (hr : ¬ er = 0) (hG : Calls Try.prog 15 #[.pointer (some ⟨c, 0, none⟩), .int .i64 b] w fun e w' => ∃ p n cp, e = .returned (.tuple #[.slice p n cp, .int .i64 er]) ∧ R w w') :
    Calls Try.prog 16 #[.pointer (some ⟨c, 0, none⟩), .int .i64 b] w fun e w' => e = .returned (.int .i64 er) ∧ R w w' := by
  have hr' : (er != 0) = true := by rw [bne_iff_ne]; exact hr
  go_enter Try.func16, Try.ntmps16
  go_wp2_with (first | (go_at_call 15; refine Calls.mono hG ?_; rintro e w1 ⟨p, n, cp, rfl, hR⟩))
  go_ret
  exact ⟨rfl, hR⟩
set_option maxRecDepth 100000 in
set_option maxHeartbeats 1000000 in
theorem pin_ok (f : Bf) (X : Nat → Prop) (hG : Calls Try.prog 15 #[.pointer (some ⟨c, 0, none⟩), .int .i64 (f.b : Int)] w fun e w' => ∃ p n cp, e = .returned (.tuple #[.slice p n cp, .int .i64 0]) ∧ CD B w' c mb d dm df dq C S ∧ f ∈ C.L ∧ Frame X w w') (hp : f.p < 100) :
    Calls Try.prog 16 #[.pointer (some ⟨c, 0, none⟩), .int .i64 (f.b : Int)] w fun e w' => ∃ w1, e = .returned (.int .i64 0) ∧ Frame X w w1 ∧ Frame (cfoot c mb C) w1 w' ∧ CD B w' c mb d dm df dq { C with L := rep C.L { f with p := f.p + 1 } } S := by
  have hpI : (f.p : Int) < 100 := by omega
  have hp0 : (0 : Int) ≤ (f.p : Int) := by omega
  go_enter Try.func16, Try.ntmps16
  go_wp2_with (first | (go_at_call 15; refine Calls.mono hG ?_; rintro e w1 ⟨p, n, cp, rfl, hcd, hf, hX⟩; have c2 := hcd.ci.c2; have hl := hcd.ci.hit hf; have hpc := hcd.ci.pins hf; have hfz := buf_froz hcd.ci.toCW hf 129; have hd := hcd.pinned hf (f.p + 1) (by omega); rw [show ((f.p + 1 : Nat) : Int) = (f.p : Int) + 1 by omega] at hd; have HD := (show Hid _ from hd); clear hd hcd))
  go_ret
  first
    | exact ⟨w1, rfl, hX, HD.out.2, HD.out.1⟩
    | exact ⟨rfl, w1, hX, HD.out.2, HD.out.1⟩
set_option maxHeartbeats 1000000 in
theorem pin_full (f : Bf) (X : Nat → Prop) (hG : Calls Try.prog 15 #[.pointer (some ⟨c, 0, none⟩), .int .i64 (f.b : Int)] w fun e w' => ∃ p n cp, e = .returned (.tuple #[.slice p n cp, .int .i64 0]) ∧ CD B w' c mb d dm df dq C S ∧ f ∈ C.L ∧ Frame X w w') (hp : 100 ≤ f.p) :
    Calls Try.prog 16 #[.pointer (some ⟨c, 0, none⟩), .int .i64 (f.b : Int)] w fun e w' => e = .returned (.int .i64 3) ∧ Frame X w w' ∧ CD B w' c mb d dm df dq C S := by
  have hpI : (100 : Int) ≤ (f.p : Int) := by omega
  go_enter Try.func16, Try.ntmps16
  go_wp2_with (first | (go_at_call 15; refine Calls.mono hG ?_; rintro e w1 ⟨p, n, cp, rfl, hcd, hf, hX⟩; have c2 := hcd.ci.c2; have hl := hcd.ci.hit hf; have hpc := hcd.ci.pins hf))
  go_ret
  exact ⟨rfl, hX, hcd⟩
end
end Go.Proofs.Ytliljdencaocaaa
