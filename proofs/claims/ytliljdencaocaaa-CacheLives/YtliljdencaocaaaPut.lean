/- Put, New. -/
import Derived.Test.YtliljdencaocaaaRest
namespace Go.Proofs.Ytliljdencaocaaa
open Go.RowKit Go.Maps
set_option linter.unusedVariables false

section
variable {B : Nat} {w w' : World} {c mb d dm df N : Nat} {dq : Value} {C : Ch} {S : St}
set_option maxHeartbeats 400000 in
theorem put_arg (h : CD B w c mb d dm df dq C S) (b : Int) (p : Option Addr) (n cp : Nat) (hb : b < 0 ∨ (S.N : Int) ≤ b) : Calls Try.prog 23 #[.pointer (some ⟨c, 0, none⟩), .int .i64 b, .slice p n cp] w fun e w' => e = .returned (.int .i64 1) ∧ w' = w := by
  have hr := refusal_arg h.ci.toCW (blocks_ok h.di) b hb
  clear hb
  go_enter Try.func23, Try.ntmps23
  go_wp2_with (first | (go_at_call 51; refine same_at hr ?_))
  go_ret
  exact ⟨rfl, rfl⟩
set_option maxHeartbeats 400000 in
theorem put_len (h : CD B w c mb d dm df dq C S) (b : Nat) (hb : b < S.N) (p : Option Addr) (n cp : Nat) (hn : ¬ n = 128) (hnn : n ≤ 140737488355328) : Calls Try.prog 23 #[.pointer (some ⟨c, 0, none⟩), .int .i64 (b : Int), .slice p n cp] w fun e w' => e = .returned (.int .i64 1) ∧ w' = w := by
  have hr := refusal_ok h.ci.toCW (blocks_ok h.di) b hb
  have hI : ¬ (n : Int) = 128 := by omega
  have hJ : ((n : Int) != 128) = true := by rw [bne_iff_ne]; exact hI
  go_enter Try.func23, Try.ntmps23
  go_wp2_with (first | (go_at_call 51; refine same_at hr ?_))
  go_ret
  exact ⟨rfl, rfl⟩
set_option maxHeartbeats 400000 in
theorem put_miss (h : CD B w c mb d dm df dq C S) (b : Nat) (hb : b < S.N) (hno : ∀ k ∈ C.L, ¬ k.b = b) (p : Option Addr) (cp : Nat) : Calls Try.prog 23 #[.pointer (some ⟨c, 0, none⟩), .int .i64 (b : Int), .slice p 128 cp] w fun e w' => e = .returned (.int .i64 0) ∧ w' = w := by
  have hr := refusal_ok h.ci.toCW (blocks_ok h.di) b hb
  have c2 := h.ci.c2
  have hl := h.ci.miss hb hno
  go_enter Try.func23, Try.ntmps23
  go_wp2_with (first | (go_at_call 51; refine same_at hr ?_))
  go_ret
  exact ⟨rfl, rfl⟩
theorem put_cells (f : Bf) (xs : List Int) (h : Sect f.xs) (hx : xs.length = 128) : ((bufA f).toList.take 0 ++ (xs.map (Value.int .u8) ++ (bufA f).toList.drop (0 + (xs.map (Value.int .u8)).length))).toArray = bufA { f with xs := xs } := by
  have hl := h.1
  unfold bufA bufL
  simp [hl, hx]
set_option maxRecDepth 100000 in
set_option maxHeartbeats 1000000 in
theorem put_hit (h : CD B w c mb d dm df dq C S) {f : Bf} (hf : f ∈ C.L) (p : Option Addr) (cp : Nat) (xs : List Int) (hx : BI w p 128 xs) : Calls Try.prog 23 #[.pointer (some ⟨c, 0, none⟩), .int .i64 (f.b : Int), .slice p 128 cp] w fun e w' => e = .returned (.int .i64 0) ∧ CD B w' c mb d dm df dq { C with L := rep C.L { f with xs := xs } } S ∧ Frame (cfoot c mb C) w w' := by
  have hr := refusal_ok h.ci.toCW (blocks_ok h.di) f.b (h.ci.bs f hf)
  have c2 := h.ci.c2
  have hl := h.ci.hit hf
  have hbuf := h.ci.buf f hf
  have hsec := h.ci.sec f hf
  have hw := h.ci.toCW
  obtain ⟨b0, o0, rfl, _⟩ := hx.cells (by omega)
  have hsrc := hx.src'
  have hfr : ∀ cs, Frame (cfoot c mb C) w (w.setRow f.g cs) := fun cs => ⟨rfl, rfl, rfl, by simp [World.setRow], fun k hk hn => setRow_other w f.g k cs (fun e => hn (by rw [e]; exact .inr (.inr ⟨f, hf, rfl⟩)))⟩
  have hci := fun cs (e : cs = bufA { f with xs := xs }) => h.turn (h.ci.rep (w' := w.setRow f.g cs) hf (f' := { f with xs := xs }) rfl rfl rfl ⟨hx.len, hx.byt⟩ (h.ci.ps f hf) (setRow_other w f.g c cs (hw.row_ne hf)) (setRow_other w f.g mb cs (hw.map_ne hbuf).symm) (fun k hk hne => setRow_other w f.g k.g cs hne) (by rw [e]; exact setRow_heap w f.g _ _ _ _ hbuf)) (hfr cs)
  have HC := (show Hid _ from hci)
  have hlx := hx.len
  have hone := one_cells xs
  clear hci h hw
  go_enter Try.func23, Try.ntmps23
  go_wp2_with (first
    | (go_at_call 51; refine same_at hr ?_)
    | (refine wpList_copy_own rfl (.tmp 29) (.tmp 30) 29 29 rfl 5 Try.underlying29 size5 f.g 0 128 128 ⟨b0, o0, none⟩ 128 cp rfl rfl _ 90 hbuf (xs.map (Value.int .u8)) (by simp [hlx]) hsrc (by simp [bufA, bufL, hlx, hsec.1]) hone ?_; rw [put_cells f xs hsec hlx]))
  go_ret
  exact ⟨rfl, HC.out _ rfl, hfr _⟩

set_option maxHeartbeats 400000 in
theorem cnew_arg (h : DI B w d dm df dq S) (bd : Int) (hb : bd < 1 ∨ 64 < bd) : Calls Try.prog 27 #[.pointer (some ⟨d, 0, none⟩), .int .i64 bd] w fun e w' => e = .returned (.tuple #[.pointer none, .int .i64 1]) ∧ w' = w := by
  have hd := blocks_ok h
  have hN := h.N1
  have hN2 : ((S.N : Int) == 0) = false := by rw [beq_eq_false_iff_ne]; omega
  have hN3 : ¬ (S.N : Int) = 0 := by omega
  by_cases h0 : bd < 1
  · clear hb
    go_enter Try.func27, Try.ntmps27
    go_wp2_with (first | (go_at_call 21; refine same_at hd ?_))
    go_ret2
    exact ⟨rfl, rfl⟩
  · have h1 : 64 < bd := by omega
    have h0 : 1 ≤ bd := by omega
    clear hb
    go_enter Try.func27, Try.ntmps27
    go_wp2_with (first | (go_at_call 21; refine same_at hd ?_))
    go_ret2
    exact ⟨rfl, rfl⟩
set_option maxHeartbeats 400000 in
theorem cnew_ok (h : DI B w d dm df dq S) (hB : B ≤ w.heap.size) (bd : Nat) (hb : 1 ≤ bd ∧ bd ≤ 64) (hN12 : S.N ≤ 12) : Calls Try.prog 27 #[.pointer (some ⟨d, 0, none⟩), .int .i64 (bd : Int)] w fun e w' => ∃ c mb, e = .returned (.tuple #[.pointer (some ⟨c, 0, none⟩), .int .i64 0]) ∧ w.heap.size ≤ c ∧ w.heap.size ≤ mb ∧ CD B w' c mb d dm df dq ⟨bd, 0, 0, []⟩ S ∧ Below w.heap.size w w' := by
  have hd := blocks_ok h
  have hN := h.N1
  have hN2 : ((S.N : Int) == 0) = false := by rw [beq_eq_false_iff_ne]; omega
  have hN3 : ¬ (S.N : Int) = 0 := by omega
  have h1 : (1 : Int) ≤ (bd : Int) := by omega
  have h2 : (bd : Int) ≤ 64 := by omega
  have hmm := @run_makeMap Try.prog
  go_enter Try.func27, Try.ntmps27
  go_wp2_with (first | (go_at_call 21; refine same_at hd ?_))
  go_ret2
  have hb0 : Below w.heap.size w (w.alloc (.map #[] 0)) := (Below.refl _ w).alloc (Nat.le_refl _) _
  have hb1 := hb0.alloc (show w.heap.size ≤ (w.alloc (.map #[] 0)).heap.size by simp) (.cells #[.pointer (some ⟨d, 0, none⟩), .int .i64 (bd : Int), .map (some w.heap.size), .int .i64 0, .int .i64 0] 56)
  have hlt : ∀ k, foot d dm df dq k → k < w.heap.size := fun k hk => (h.in k hk).2
  refine ⟨w.heap.size + 1, w.heap.size, rfl, by omega, Nat.le_refl _, ⟨?_, h.later hb1, ⟨?_, ?_⟩⟩, hb1⟩
  · have hrow := World.alloc_heap_new (w.alloc (.map #[] 0)) (.cells #[.pointer (some ⟨d, 0, none⟩), .int .i64 (bd : Int), .map (some w.heap.size), .int .i64 0, .int .i64 0] 56)
    rw [World.size_alloc] at hrow
    exact { row := hrow
            map := (bm_made w).kept (Below.heap_alloc _ _ _ (by simp))
            buf := fun f hf => by cases hf
            sec := fun f hf => by cases hf
            gs := List.nodup_nil
            ps := fun f hf => by cases hf
            bs := fun f hf => by cases hf
            N12 := hN12, bd := hb, len := Nat.zero_le _, lo := ⟨by omega, hB, fun f hf => by cases hf⟩, cnt := by show 0 + 0 ≤ _; omega
            ord := List.Pairwise.nil, us := fun f hf => by cases hf }
  · have := hlt dm (.inr (.inl rfl)); omega
  · have := hlt df (.inr (.inr (.inl rfl))); omega
end
end Go.Proofs.Ytliljdencaocaaa
