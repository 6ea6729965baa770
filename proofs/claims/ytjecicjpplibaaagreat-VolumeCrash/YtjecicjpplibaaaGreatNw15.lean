/- Get Rest Put -/
import Derived.Test.YtjecicjpplibaaaGreatNw14

/- Get: a block's bytes, from its buffer, or else from the disk. -/
namespace Go.Proofs.YtjecicjpplibaaaGreat
open Go.RowKit Go.Maps
set_option maxRecDepth 100000
set_option linter.unusedVariables false

section
variable {B : Nat} {w w' : World} {c mb d dm df N : Nat} {dq : Value} {C : Ch} {S : St}
theorem CW.bump (h : CW B w c mb d N C) (j : Nat) (v : Value) {hi mi : Nat} (hr : (w.setCell ⟨c, j, none⟩ v).heap[c]? = some (.cells #[.pointer (some ⟨d, 0, none⟩), .int .i64 (C.bd : Int), .map (some mb), .int .i64 (hi : Int), .int .i64 (mi : Int)] 140 (0, 0)))
    (hc : hi + mi ≤ 4611686018427387904) : CW B (w.setCell ⟨c, j, none⟩ v) c mb d N { C with hi := hi, mi := mi } :=
  { row := hr, map := h.map.kept (heap_setCell_other _ _ _ _ (h.map_ne h.row).symm), buf := fun f hf => (heap_setCell_other _ _ _ _ (h.row_ne hf).symm).trans (h.buf f hf), sec := h.sec, gs := h.gs, ps := h.ps, bs := h.bs, N12 := h.N12, bd := h.bd, len := h.len, lo := h.lo, cnt := hc }
theorem CW.hits (h : CW B w c mb d N C) (hc : C.hi + C.mi < 4611686018427387904) : CW B (w.setCell ⟨c, 3, none⟩ (.int .i64 ((C.hi : Int) + 1))) c mb d N { C with hi := C.hi + 1 } := by
  have := h.bump 3 (.int .i64 ((C.hi : Int) + 1)) (hi := C.hi + 1) (mi := C.mi) (by
    rw [heap_setCell_same w c 3 _ 140 _ h.row]
    simp) (by omega)
  exact this
theorem CW.misses (h : CW B w c mb d N C) (hc : C.hi + C.mi < 4611686018427387904) : CW B (w.setCell ⟨c, 4, none⟩ (.int .i64 ((C.mi : Int) + 1))) c mb d N { C with mi := C.mi + 1 } := by
  have := h.bump 4 (.int .i64 ((C.mi : Int) + 1)) (hi := C.hi) (mi := C.mi + 1) (by
    rw [heap_setCell_same w c 4 _ 140 _ h.row]
    simp) (by omega)
  exact this
theorem CD.missed (h : CD B w c mb d dm df dq C S) (hc : C.hi + C.mi < 4611686018427387904) : CD B (w.setCell ⟨c, 4, none⟩ (.int .i64 ((C.mi : Int) + 1))) c mb d dm df dq { C with mi := C.mi + 1 } S :=
  ⟨{ CW.misses h.ci.toCW hc with ord := h.ci.ord, us := fun f hf => by have := h.ci.us f hf; show f.u ≤ C.hi + (C.mi + 1); omega },
   h.di.kept (fun k hk => heap_setCell_other _ _ _ _ (by rintro rfl; exact h.apart _ (.inl rfl) hk)), h.ne⟩

set_option maxHeartbeats 400000 in
theorem get_arg (h : CD B w c mb d dm df dq C S) (b : Int) (hb : b < 0 ∨ (S.N : Int) ≤ b) : Calls Tryz.prog 99 #[.pointer (some ⟨c, 0, none⟩), .int .i64 b] w fun e w' => e = .returned (.tuple #[.slice none 0 0, .int .i64 1]) ∧ w' = w := by
  have hr := refusal_arg h.ci.toCW (blocks_ok h.di) b hb
  clear hb
  go_enter Tryz.func99, Tryz.ntmps99
  go_wp2_with (first | (go_at_call 124; refine same_at hr ?_))
  go_ret2
  exact ⟨rfl, rfl⟩

set_option maxHeartbeats 1000000 in
theorem get_hit (h : CD B w c mb d dm df dq C S) {f : Bf} (hf : f ∈ C.L) (hc : C.hi + C.mi < 4611686018427387904) :
    Calls Tryz.prog 99 #[.pointer (some ⟨c, 0, none⟩), .int .i64 (f.b : Int)] w fun e w' => ∃ g cap, e = .returned (.tuple #[.slice (some ⟨g, 0, none⟩) 128 cap, .int .i64 0]) ∧ Own w.heap.size w' g 128 cap f.xs ∧
      CD B w' c mb d dm df dq { C with hi := C.hi + 1, L := outb C.L f.b ++ [{ f with u := C.hi + 1 + C.mi }] } S ∧ Frame (cfoot c mb C) w w' := by
  have hfb := h.ci.bs f hf
  have hr := refusal_ok h.ci.toCW (blocks_ok h.di) f.b hfb
  have c2 := h.ci.c2
  have c3 := h.ci.c3
  have hl := h.ci.hit hf
  have hfz := row_frozC h.ci.toCW 3
  have hcw := CW.hits h.ci.toCW hc
  have hu := use_ok hcw (f := f) hf (fun k hk hne => by have := h.ci.us k hk; show k.u < C.hi + 1 + C.mi; omega) (List.Pairwise.sublist (sub_outb C.L f.b) h.ci.ord)
  have H := (show Hid _ from h)
  have hhi : (C.hi : Int) + 1 ≤ 4611686018427387904 := by omega
  have hh0 : (0 : Int) ≤ (C.hi : Int) := by omega
  clear h hcw hfb
  go_enter Tryz.func99, Tryz.ntmps99
  go_wp2_with (first
    | (go_at_call 124; refine same_at hr ?_)
    | (go_at_call 129; refine Calls.mono hu ?_; rintro e w2 ⟨g, cap, rfl, hown, hci2, hf2⟩))
  go_ret2
  have hfr : Frame (cfoot c mb C) w w2 := (Frame.setCell w (p := ⟨c, 3, none⟩) _ (.inl rfl)).trans (hf2.mono (fun k _ e => by rw [e]; exact .inr (.inr ⟨f, hf, rfl⟩)))
  exact ⟨g, cap, rfl, hown.base (by simp), ⟨hci2, H.out.di.kept (fun k hk => hfr.block k (H.out.di.in k hk).2 (fun e => H.out.apart k e hk)), H.out.ne⟩, hfr⟩

set_option maxHeartbeats 1000000 in
theorem get_pinned (h : CD B w c mb d dm df dq C S) (b : Nat) (hb : b < S.N) (hno : ∀ k ∈ C.L, ¬ k.b = b) (hc : C.hi + C.mi < 4611686018427387904) (hfull : C.bd ≤ C.L.length) (hv : vic C.L = none) :
    Calls Tryz.prog 99 #[.pointer (some ⟨c, 0, none⟩), .int .i64 (b : Int)] w fun e w' => e = .returned (.tuple #[.slice none 0 0, .int .i64 60]) ∧ CD B w' c mb d dm df dq { C with mi := C.mi + 1 } S ∧ Frame (cfoot c mb C) w w' := by
  have hr := refusal_ok h.ci.toCW (blocks_ok h.di) b hb
  have c2 := h.ci.c2
  have c4 := h.ci.c4
  have hl := h.ci.miss hb hno
  have hfz := row_frozC h.ci.toCW 4
  have hcd := h.missed hc
  have hu := fetch_pinned hcd b hb hfull hv
  have H := (show Hid _ from hcd)
  have hhi : (C.mi : Int) + 1 ≤ 4611686018427387904 := by omega
  have hh0 : (0 : Int) ≤ (C.mi : Int) := by omega
  clear h hcd hv hno
  go_enter Tryz.func99, Tryz.ntmps99
  go_wp2_with (first
    | (go_at_call 124; refine same_at hr ?_)
    | (go_at_call 130; refine Calls.mono hu ?_; rintro e w2 ⟨rfl, hb2⟩))
  go_ret2
  exact ⟨rfl, H.out.later hb2, (Frame.setCell w (p := ⟨c, 4, none⟩) _ (.inl rfl)).trans (frame_of_below hb2)⟩

set_option maxHeartbeats 1000000 in
theorem get_err (h : CD B w c mb d dm df dq C S) (b : Nat) (hb : b < S.N) (hno : ∀ k ∈ C.L, ¬ k.b = b) (hc : C.hi + C.mi < 4611686018427387904) (hg : canGo C) (hr0 : ¬ (aRead S b).2.2.1 = 0) :
    Calls Tryz.prog 99 #[.pointer (some ⟨c, 0, none⟩), .int .i64 (b : Int)] w fun e w' => e = .returned (.tuple #[.slice none 0 0, .int .i64 (aRead S b).2.2.1]) ∧ CD B w' c mb d dm df dq { C with mi := C.mi + 1 } (aRead S b).2.2.2 ∧ Frame (fun k => cfoot c mb C k ∨ foot d dm df dq k) w w' := by
  have hr := refusal_ok h.ci.toCW (blocks_ok h.di) b hb
  have c2 := h.ci.c2
  have c4 := h.ci.c4
  have hl := h.ci.miss hb hno
  have hfz := row_frozC h.ci.toCW 4
  have hcd := h.missed hc
  have hu := fetch_err hcd b hb hg hr0
  have hhi : (C.mi : Int) + 1 ≤ 4611686018427387904 := by omega
  have hh0 : (0 : Int) ≤ (C.mi : Int) := by omega
  clear h hcd hno hg
  generalize (aRead S (b : Int)).2.2.1 = er at *
  have hr' : (er != 0) = true := by rw [bne_iff_ne]; exact hr0
  go_enter Tryz.func99, Tryz.ntmps99
  go_wp2_with (first
    | (go_at_call 124; refine same_at hr ?_)
    | (go_at_call 130; refine Calls.mono hu ?_; rintro e w2 ⟨rfl, hcd2, hf2⟩))
  go_ret2
  exact ⟨rfl, hcd2, (Frame.setCell w (p := ⟨c, 4, none⟩) _ (.inl (.inl rfl))).trans (hf2.mono (fun k _ e => .inr e))⟩

theorem outb_snoc {L : List Bf} {f : Bf} (h : ∀ k ∈ L, ¬ k.b = f.b) : outb (L ++ [f]) f.b = L := by
  unfold outb
  rw [List.filter_append]
  have e1 : L.filter (fun k => !(k.b == f.b)) = L := by
    rw [List.filter_eq_self]
    intro k hk
    simpa using h k hk
  rw [e1]
  simp

set_option maxHeartbeats 1000000 in
theorem get_new (h : CD B w c mb d dm df dq C S) (hS : Ok S) (b : Nat) (hb : b < S.N) (hno : ∀ k ∈ C.L, ¬ k.b = b) (hc : C.hi + C.mi < 4611686018427387904) (hg : canGo C) (h0 : S.fl b = 0) :
    Calls Tryz.prog 99 #[.pointer (some ⟨c, 0, none⟩), .int .i64 (b : Int)] w fun e w' => ∃ g cap gn, e = .returned (.tuple #[.slice (some ⟨g, 0, none⟩) 128 cap, .int .i64 0]) ∧ Own w.heap.size w' g 128 cap (S.f b) ∧ w.heap.size ≤ gn ∧
      CD B w' c mb d dm df dq { C with mi := C.mi + 1, L := room C ++ [⟨b, C.hi + (C.mi + 1), 0, gn, S.f b⟩] } S ∧ Frame (cfoot c mb C) w w' := by
  have hr := refusal_ok h.ci.toCW (blocks_ok h.di) b hb
  have c2 := h.ci.c2
  have c4 := h.ci.c4
  have hl := h.ci.miss hb hno
  have hfz := row_frozC h.ci.toCW 4
  have hcd := h.missed hc
  have hsub := room_sub C
  have hu := fetch_ok hcd hS b hb hno hg h0
  have hux : ∀ w2 g, CW B w2 c mb d S.N { C with mi := C.mi + 1, L := room C ++ [⟨b, 0, 0, g, S.f b⟩] } → _ := fun w2 g hcw =>
    use_ok (f := ⟨b, 0, 0, g, S.f b⟩) hcw (by simp) (fun k hk hne => by
      rcases List.mem_append.1 hk with hk | hk
      · have := h.ci.us k (hsub.subset hk); show k.u < C.hi + (C.mi + 1); omega
      · simp at hk; subst hk; exact absurd rfl hne) (by
      show (outb (room C ++ [⟨b, 0, 0, g, S.f b⟩]) b).Pairwise _
      rw [outb_snoc (f := ⟨b, 0, 0, g, S.f b⟩) (fun k hk => hno k (hsub.subset hk))]
      exact List.Pairwise.sublist hsub h.ci.ord)
  have HU := (show Hid _ from hux)
  have H := (show Hid _ from h)
  have HO : Hid (∀ g, outb (room C ++ [⟨b, 0, 0, g, S.f b⟩]) b = room C) := fun g => outb_snoc (f := ⟨b, 0, 0, g, S.f b⟩) (fun k hk => hno k (hsub.subset hk))
  have hhi : (C.mi : Int) + 1 ≤ 4611686018427387904 := by omega
  have hh0 : (0 : Int) ≤ (C.mi : Int) := by omega
  clear h hcd hno hg hux hsub
  go_enter Tryz.func99, Tryz.ntmps99
  go_wp2_with (first
    | (go_at_call 124; refine same_at hr ?_)
    | (go_at_call 130; refine Calls.mono hu ?_; rintro e w2 ⟨gn, rfl, hgn, hcw2, hf2⟩)
    | (go_at_call 129; refine Calls.mono (HU.out w2 gn hcw2) ?_; rintro e w3 ⟨g, cap, rfl, hown, hci3, hf3⟩))
  go_ret2
  have hsz : (w.setCell ⟨c, 4, none⟩ (.int .i64 ((C.mi : Int) + 1))).heap.size = w.heap.size := by simp
  have hf1 : Frame (cfoot c mb C) w (w.setCell ⟨c, 4, none⟩ (.int .i64 ((C.mi : Int) + 1))) := Frame.setCell w (p := ⟨c, 4, none⟩) (.int .i64 ((C.mi : Int) + 1)) (.inl rfl)
  have hf12 : Frame (cfoot c mb C) w w2 := hf1.trans (hf2.mono (fun k _ e => by rw [e]; exact .inr (.inl rfl)))
  have hgn' : w.heap.size ≤ gn := by rw [hsz] at hgn; exact hgn
  have hs2 := hf12.size
  have hfr : Frame (cfoot c mb C) w w3 := ⟨hf3.os.trans hf12.os, hf3.tape.trans hf12.tape, hf3.output.trans hf12.output, Nat.le_trans hs2 hf3.size, fun k hk hn => (hf3.block k (by omega) (by show ¬ k = gn; omega)).trans (hf12.block k hk hn)⟩
  refine ⟨g, cap, gn, rfl, hown.base (by omega), hgn', ⟨?_, H.out.di.kept (fun k hk => hfr.block k (H.out.di.in k hk).2 (fun e => H.out.apart k e hk)), H.out.ne⟩, hfr⟩
  have hci4 := hci3
  rw [HO.out gn] at hci4
  exact hci4
end
end Go.Proofs.YtjecicjpplibaaaGreat

/- Put, Drop, Pin, Unpin, Hits, New. -/
namespace Go.Proofs.YtjecicjpplibaaaGreat
open Go.RowKit Go.Maps
set_option maxRecDepth 100000
set_option linter.unusedVariables false

section
variable {B : Nat} {w w' : World} {c mb d dm df N : Nat} {dq : Value} {C : Ch} {S : St}

theorem CD.turn (h : CD B w c mb d dm df dq C S) {C' : Ch} (hci : CI B w' c mb d S.N C') (hf : Frame (cfoot c mb C) w w') : CD B w' c mb d dm df dq C' S :=
  ⟨hci, h.di.kept (fun k hk => hf.block k (h.di.in k hk).2 (fun e => h.apart k e hk)), h.ne⟩

theorem CD.pinned (h : CD B w c mb d dm df dq C S) {f : Bf} (hf : f ∈ C.L) (p : Nat) (hp : p ≤ 100) :
    CD B (w.setCell ⟨f.g, 129, none⟩ (.int .i64 (p : Int))) c mb d dm df dq { C with L := rep C.L { f with p := p } } S ∧ Frame (cfoot c mb C) w (w.setCell ⟨f.g, 129, none⟩ (.int .i64 (p : Int))) := by
  have hfr : Frame (cfoot c mb C) w (w.setCell ⟨f.g, 129, none⟩ (.int .i64 (p : Int))) := Frame.setCell w (p := ⟨f.g, 129, none⟩) _ (.inr (.inr ⟨f, hf, rfl⟩))
  have hw := h.ci.toCW
  refine ⟨h.turn (h.ci.rep hf (f' := { f with p := p }) rfl rfl rfl (h.ci.sec f hf) hp (heap_setCell_other _ _ _ _ (hw.row_ne hf)) (heap_setCell_other _ _ _ _ (hw.map_ne (h.ci.buf f hf)).symm) (fun k hk hne => heap_setCell_other _ _ _ _ hne) ?_) hfr, hfr⟩
  rw [← bufA_pins (h.ci.sec f hf)]
  exact heap_setCell_same w f.g 129 _ 158 _ (h.ci.buf f hf)

end
end Go.Proofs.YtjecicjpplibaaaGreat

/- Put, New. -/
namespace Go.Proofs.YtjecicjpplibaaaGreat
open Go.RowKit Go.Maps
set_option maxRecDepth 100000
set_option linter.unusedVariables false

section
variable {B : Nat} {w w' : World} {c mb d dm df N : Nat} {dq : Value} {C : Ch} {S : St}
set_option maxHeartbeats 400000 in
theorem put_arg (h : CD B w c mb d dm df dq C S) (b : Int) (p : Option Addr) (n cp : Nat) (hb : b < 0 ∨ (S.N : Int) ≤ b) : Calls Tryz.prog 84 #[.pointer (some ⟨c, 0, none⟩), .int .i64 b, .slice p n cp] w fun e w' => e = .returned (.int .i64 1) ∧ w' = w := by
  have hr := refusal_arg h.ci.toCW (blocks_ok h.di) b hb
  clear hb
  go_enter Tryz.func84, Tryz.ntmps84
  go_wp2_with (first | (go_at_call 124; refine same_at hr ?_))
  go_ret
  exact ⟨rfl, rfl⟩
set_option maxHeartbeats 400000 in
theorem put_len (h : CD B w c mb d dm df dq C S) (b : Nat) (hb : b < S.N) (p : Option Addr) (n cp : Nat) (hn : ¬ n = 128) (hnn : n ≤ 140737488355328) : Calls Tryz.prog 84 #[.pointer (some ⟨c, 0, none⟩), .int .i64 (b : Int), .slice p n cp] w fun e w' => e = .returned (.int .i64 1) ∧ w' = w := by
  have hr := refusal_ok h.ci.toCW (blocks_ok h.di) b hb
  have hI : ¬ (n : Int) = 128 := by omega
  have hJ : ((n : Int) != 128) = true := by rw [bne_iff_ne]; exact hI
  go_enter Tryz.func84, Tryz.ntmps84
  go_wp2_with (first | (go_at_call 124; refine same_at hr ?_))
  go_ret
  exact ⟨rfl, rfl⟩
set_option maxHeartbeats 400000 in
theorem put_miss (h : CD B w c mb d dm df dq C S) (b : Nat) (hb : b < S.N) (hno : ∀ k ∈ C.L, ¬ k.b = b) (p : Option Addr) (cp : Nat) : Calls Tryz.prog 84 #[.pointer (some ⟨c, 0, none⟩), .int .i64 (b : Int), .slice p 128 cp] w fun e w' => e = .returned (.int .i64 0) ∧ w' = w := by
  have hr := refusal_ok h.ci.toCW (blocks_ok h.di) b hb
  have c2 := h.ci.c2
  have hl := h.ci.miss hb hno
  go_enter Tryz.func84, Tryz.ntmps84
  go_wp2_with (first | (go_at_call 124; refine same_at hr ?_))
  go_ret
  exact ⟨rfl, rfl⟩
theorem put_cells (f : Bf) (xs : List Int) (h : Sect f.xs) (hx : xs.length = 128) : ((bufA f).toList.take 0 ++ (xs.map (Value.int .u8) ++ (bufA f).toList.drop (0 + (xs.map (Value.int .u8)).length))).toArray = bufA { f with xs := xs } := by
  have hl := h.1
  unfold bufA bufL
  simp [hl, hx]
set_option maxRecDepth 100000 in
set_option maxHeartbeats 1000000 in
theorem put_hit (h : CD B w c mb d dm df dq C S) {f : Bf} (hf : f ∈ C.L) (p : Option Addr) (cp : Nat) (xs : List Int) (hx : BI w p 128 xs) : Calls Tryz.prog 84 #[.pointer (some ⟨c, 0, none⟩), .int .i64 (f.b : Int), .slice p 128 cp] w fun e w' => e = .returned (.int .i64 0) ∧ CD B w' c mb d dm df dq { C with L := rep C.L { f with xs := xs } } S ∧ Frame (cfoot c mb C) w w' := by
  have hr := refusal_ok h.ci.toCW (blocks_ok h.di) f.b (h.ci.bs f hf)
  have c2 := h.ci.c2
  have hl := h.ci.hit hf
  have hbuf := h.ci.buf f hf
  have hsec := h.ci.sec f hf
  have hw := h.ci.toCW
  obtain ⟨b0, o0, rfl, _⟩ := hx.cells (by omega)
  have hsrc := hx.src'
  have hfr : ∀ cs, Frame (cfoot c mb C) w (w.setRow f.g cs) := fun cs => ⟨rfl, rfl, rfl, by simp [World.setRow], fun k hk hn => setRow_other w f.g k cs (fun e => hn (by rw [e]; exact .inr (.inr ⟨f, hf, rfl⟩)))⟩
  have hci := fun cs (e : cs = bufA { f with xs := xs }) => h.turn (h.ci.rep (w' := w.setRow f.g cs) hf (f' := { f with xs := xs }) rfl rfl rfl ⟨hx.len, hx.byt⟩ (h.ci.ps f hf) (setRow_other w f.g c cs (hw.row_ne hf)) (setRow_other w f.g mb cs (hw.map_ne hbuf).symm) (fun k hk hne => setRow_other w f.g k.g cs hne) (by rw [e]; exact setRow_heap w f.g _ _ _ _ hbuf)) (hfr cs)
  have HC := (show Hid _ from hci)
  have hlx := hx.len
  have hone := one_cells xs
  clear hci h hw
  go_enter Tryz.func84, Tryz.ntmps84
  go_wp2_with (first
    | (go_at_call 124; refine same_at hr ?_)
    | (refine wpList_copy_own rfl (.tmp 29) (.tmp 30) 42 42 rfl 5 Tryz.underlying42 size5 f.g 0 128 128 ⟨b0, o0, none⟩ 128 cp rfl rfl _ 158 hbuf (xs.map (Value.int .u8)) (by simp [hlx]) hsrc (by simp [bufA, bufL, hlx, hsec.1]) hone ?_; rw [put_cells f xs hsec hlx]))
  go_ret
  exact ⟨rfl, HC.out _ rfl, hfr _⟩

set_option maxHeartbeats 400000 in
theorem cnew_arg (h : DI B w d dm df dq S) (bd : Int) (hb : bd < 1 ∨ 64 < bd) : Calls Tryz.prog 62 #[.pointer (some ⟨d, 0, none⟩), .int .i64 bd] w fun e w' => e = .returned (.tuple #[.pointer none, .int .i64 1]) ∧ w' = w := by
  have hd := blocks_ok h
  have hN := h.N1
  have hN2 : ((S.N : Int) == 0) = false := by rw [beq_eq_false_iff_ne]; omega
  have hN3 : ¬ (S.N : Int) = 0 := by omega
  by_cases h0 : bd < 1
  · clear hb
    go_enter Tryz.func62, Tryz.ntmps62
    go_wp2_with (first | (go_at_call 56; refine same_at hd ?_))
    go_ret2
    exact ⟨rfl, rfl⟩
  · have h1 : 64 < bd := by omega
    have h0 : 1 ≤ bd := by omega
    clear hb
    go_enter Tryz.func62, Tryz.ntmps62
    go_wp2_with (first | (go_at_call 56; refine same_at hd ?_))
    go_ret2
    exact ⟨rfl, rfl⟩
set_option maxHeartbeats 400000 in
theorem cnew_ok (h : DI B w d dm df dq S) (hB : B ≤ w.heap.size) (bd : Nat) (hb : 1 ≤ bd ∧ bd ≤ 64) (hN12 : S.N ≤ 12) : Calls Tryz.prog 62 #[.pointer (some ⟨d, 0, none⟩), .int .i64 (bd : Int)] w fun e w' => ∃ c mb, e = .returned (.tuple #[.pointer (some ⟨c, 0, none⟩), .int .i64 0]) ∧ w.heap.size ≤ c ∧ w.heap.size ≤ mb ∧ CD B w' c mb d dm df dq ⟨bd, 0, 0, []⟩ S ∧ Below w.heap.size w w' := by
  have hd := blocks_ok h
  have hN := h.N1
  have hN2 : ((S.N : Int) == 0) = false := by rw [beq_eq_false_iff_ne]; omega
  have hN3 : ¬ (S.N : Int) = 0 := by omega
  have h1 : (1 : Int) ≤ (bd : Int) := by omega
  have h2 : (bd : Int) ≤ 64 := by omega
  have hmm := @run_makeMap Tryz.prog
  go_enter Tryz.func62, Tryz.ntmps62
  go_wp2_with (first | (go_at_call 56; refine same_at hd ?_))
  go_ret2
  have hb0 : Below w.heap.size w (w.alloc (.map #[] 0)) := (Below.refl _ w).alloc (Nat.le_refl _) _
  have hb1 := hb0.alloc (show w.heap.size ≤ (w.alloc (.map #[] 0)).heap.size by simp) (.cells #[.pointer (some ⟨d, 0, none⟩), .int .i64 (bd : Int), .map (some w.heap.size), .int .i64 0, .int .i64 0] 140)
  have hlt : ∀ k, foot d dm df dq k → k < w.heap.size := fun k hk => (h.in k hk).2
  refine ⟨w.heap.size + 1, w.heap.size, rfl, by omega, Nat.le_refl _, ⟨?_, h.later hb1, ⟨?_, ?_⟩⟩, hb1⟩
  · have hrow := World.alloc_heap_new (w.alloc (.map #[] 0)) (.cells #[.pointer (some ⟨d, 0, none⟩), .int .i64 (bd : Int), .map (some w.heap.size), .int .i64 0, .int .i64 0] 140)
    rw [World.size_alloc] at hrow
    exact { row := hrow
            map := (bm_made w).kept (Below.heap_alloc _ _ _ (by simp))
            buf := fun f hf => by cases hf
            sec := fun f hf => by cases hf
            gs := List.nodup_nil
            ps := fun f hf => by cases hf
            bs := fun f hf => by cases hf
            N12 := hN12, bd := hb, len := Nat.zero_le _, lo := ⟨by omega, hB, fun f hf => by cases hf⟩, cnt := by show 0 + 0 ≤ _; omega
            ord := List.Pairwise.nil, us := fun f hf => by cases hf }
  · have := hlt dm (.inr (.inl rfl)); omega
  · have := hlt df (.inr (.inr (.inl rfl))); omega
end
end Go.Proofs.YtjecicjpplibaaaGreat
