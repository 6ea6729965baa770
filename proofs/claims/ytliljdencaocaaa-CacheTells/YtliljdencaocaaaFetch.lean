/- A cache over a disk; a block that is fetched. -/
import Derived.Test.YtliljdencaocaaaMove
import Derived.Test.YtliljdencaocaaaActs
namespace Go.Proofs.Ytliljdencaocaaa
open Go.RowKit Go.Maps
set_option linter.unusedVariables false

/-- A cache and the disk below it. -/
structure CD (B : Nat) (w : World) (c mb d dm df : Nat) (dq : Value) (C : Ch) (S : St) : Prop where
  ci : CI B w c mb d S.N C
  di : DI B w d dm df dq S
  ne : mb ≠ dm ∧ mb ≠ df

section
variable {B : Nat} {w w' : World} {c mb d dm df : Nat} {dq : Value} {C : Ch} {S : St}
theorem CW.tys {N : Nat} (h : CW B w c mb d N C) {k : Nat} (hk : cfoot c mb C k) : k = mb ∨ ∃ cs t, w.heap[k]? = some (.cells cs t (0, 0)) ∧ (t = 56 ∨ t = 90) := by
  rcases hk with rfl | rfl | ⟨f, hf, rfl⟩
  · exact .inr ⟨_, _, h.row, .inl rfl⟩
  · exact .inl rfl
  · exact .inr ⟨_, _, h.buf f hf, .inr rfl⟩
theorem CW.apart {N : Nat} (h : CW B w c mb d N C) (hd : DI B w d dm df dq S) (hne : mb ≠ dm ∧ mb ≠ df) : ∀ k, cfoot c mb C k → ¬ foot d dm df dq k := by
  intro k hk hf
  obtain ⟨D, ⟨es, ck, hm, _⟩, _⟩ := hd.secs.ex
  obtain ⟨D', ⟨es', ck', hm', _⟩, _⟩ := hd.fls.ex
  obtain ⟨D2, ⟨es2, ck2, hm2, _⟩, _⟩ := h.map.ex
  rcases h.tys hk with rfl | ⟨cs, t, hc, ht⟩
  · rcases hf with rfl | rfl | rfl | hq
    · rw [hd.row] at hm2; cases hm2
    · exact hne.1 rfl
    · exact hne.2 rfl
    · obtain ⟨cs, hc⟩ := own_ty hd.que hq
      rw [hc] at hm2; cases hm2
  · rcases hf with rfl | rfl | rfl | hq
    · rw [hd.row] at hc
      simp only [Option.some.injEq, Obj.cells.injEq] at hc
      rcases ht with rfl | rfl
      · exact absurd hc.2.1 (by decide)
      · exact absurd hc.2.1 (by decide)
    · rw [hm] at hc; cases hc
    · rw [hm'] at hc; cases hc
    · obtain ⟨cs', hc'⟩ := own_ty hd.que hq
      rw [hc'] at hc
      simp only [Option.some.injEq, Obj.cells.injEq] at hc
      rcases ht with rfl | rfl
      · exact absurd hc.2.1 (by decide)
      · exact absurd hc.2.1 (by decide)
theorem CD.apart (h : CD B w c mb d dm df dq C S) : ∀ k, cfoot c mb C k → ¬ foot d dm df dq k := CW.apart h.ci.toCW h.di h.ne
theorem CD.later (h : CD B w c mb d dm df dq C S) (hb : Below w.heap.size w w') : CD B w' c mb d dm df dq C S := ⟨h.ci.later hb, h.di.later hb, h.ne⟩
theorem CD.read (h : CD B w c mb d dm df dq C S) {S' : St} (hN : S'.N = S.N) (hd : DI B w' d dm df dq S') (hf : Frame (foot d dm df dq) w w') : CD B w' c mb d dm df dq C S' :=
  ⟨hN ▸ h.ci.kept (fun k hk => hf.block k (h.ci.in k hk).2 (h.apart k hk)), hd, h.ne⟩
theorem aRead_N (S : St) (b : Int) : (aRead S b).2.2.2.N = S.N := by
  unfold aRead
  split
  · rfl
  · split <;> rfl

def zbuf (g : Nat) : Bf := ⟨0, 0, 0, g, zer⟩
theorem build90 (w : World) : (Instr.build 90 #[]).run Try.prog w = .ok (.agg (bufA (zbuf 0))) w := by kernel_rfl
theorem len54 {N : Nat} (h : CW B w c mb d N C) (ty : TypeId) : (Builtin.len_ #[54] ty #[.map (some mb)]).run Try.prog w = .ok (.int .i64 (C.L.length : Int)) w := by
  obtain ⟨D, ho, hs, _⟩ := h.map.ex
  rw [ho.len Try.underlying54 ty, hs]
  simp

set_option maxRecDepth 100000 in
set_option maxHeartbeats 1000000 in
theorem fetch_pinned (h : CD B w c mb d dm df dq C S) (b : Nat) (hb : b < S.N) (hfull : C.bd ≤ C.L.length) (hv : vic C.L = none) :
    Calls Try.prog 53 #[.pointer (some ⟨c, 0, none⟩), .int .i64 (b : Int)] w fun e w' => e = .returned (.int .i64 60) ∧ Below w.heap.size w w' := by
  have c2 := h.ci.c2
  have c1 := h.ci.c1
  have hlen : ∀ q, (Builtin.len_ #[54] 3 #[.map (some mb)]).run Try.prog (w.drewN q) = .ok (.int .i64 (C.L.length : Int)) (w.drewN q) := fun q => len54 (h.ci.later (below_drewN (Below.refl _ _) q)).toCW 3
  have hfI : (C.bd : Int) ≤ (C.L.length : Int) := by omega
  have hold := fun q => oldest_ok (h.ci.later (below_drewN (Below.refl _ _) q))
  have eV : vicV C.L = .tuple #[.int .i64 0, .bool false] := by unfold vicV; rw [hv]
  rw [eV] at hold
  have HO := (show Hid _ from hold)
  clear hold h hv eV
  go_enter Try.func53, Try.ntmps53
  go_wp2_with fail
  go_quiet (fail)
  go_wp2_with (first | (go_at_call 79; refine Calls.mono (HO.out _) ?_; rintro e w1 ⟨rfl, hb1⟩))
  go_ret
  exact ⟨rfl, (below_drewN (Below.refl _ w) _).trans (hb1.mono (Nat.le_refl _))⟩

/-- Whether there is no room, and which one goes then. -/
def canGo (C : Ch) : Prop := C.bd ≤ C.L.length → ∃ f, vic C.L = some f

theorem vicV_ok {L : List Bf} : ∃ x y, vicV L = .tuple #[.int .i64 x, .bool y] ∧ (y = (vic L).isSome) ∧ (∀ f, vic L = some f → x = (f.b : Int)) := by
  unfold vicV
  cases h : vic L with
  | none => exact ⟨0, false, rfl, rfl, fun f e => by cases e⟩
  | some f => exact ⟨_, true, rfl, rfl, fun k e => by cases e; rfl⟩

set_option maxRecDepth 100000 in
set_option maxHeartbeats 1000000 in
theorem fetch_err (h : CD B w c mb d dm df dq C S) (b : Nat) (hb : b < S.N) (hg : canGo C) (hr : ¬ (aRead S b).2.2.1 = 0) :
    Calls Try.prog 53 #[.pointer (some ⟨c, 0, none⟩), .int .i64 (b : Int)] w fun e w' => e = .returned (.int .i64 (aRead S b).2.2.1) ∧ CD B w' c mb d dm df dq C (aRead S b).2.2.2 ∧ Frame (foot d dm df dq) w w' := by
  have c2 := h.ci.c2
  have c1 := h.ci.c1
  have hlen : ∀ q, (Builtin.len_ #[54] 3 #[.map (some mb)]).run Try.prog (w.drewN q) = .ok (.int .i64 (C.L.length : Int)) (w.drewN q) := fun q => len54 (h.ci.later (below_drewN (Below.refl _ _) q)).toCW 3
  have hold := fun q => oldest_ok (h.ci.later (below_drewN (Below.refl _ _) q))
  obtain ⟨vx, vy, eV, hvy, hvx⟩ := @vicV_ok C.L
  rw [eV] at hold
  have hgo : decide ((C.bd : Int) ≤ (C.L.length : Int)) = true → vy = true := by
    intro hd
    obtain ⟨f, hf⟩ := hg (by have := of_decide_eq_true hd; omega)
    rw [hvy, hf]
    rfl
  have hread := fun w1 (hb1 : Below w.heap.size w w1) => dRead (h.later hb1).di (b : Int)
  have HRN := aRead_N S (b : Int)
  have H := (show Hid _ from h)
  have HO := (show Hid _ from hold)
  have HR := (show Hid _ from hread)
  generalize (aRead S (b : Int)).2.2.1 = er at *
  have hr' : (er != 0) = true := by rw [bne_iff_ne]; exact hr
  clear hold h hread eV hvy hvx hg
  by_cases hfull : C.bd ≤ C.L.length
  · have hfI : (C.bd : Int) ≤ (C.L.length : Int) := by omega
    obtain rfl : vy = true := hgo (decide_eq_true hfI)
    clear hgo
    go_enter Try.func53, Try.ntmps53
    go_wp2_with fail
    go_quiet (fail)
    go_wp2_with (first
      | (go_at_call 79; refine Calls.mono (HO.out _) ?_; rintro e w1 ⟨rfl, hb1⟩; have hb1 := (below_drewN (Below.refl w.heap.size w) nq).trans (hb1.mono (Nat.le_refl _)); have c0 := (H.out.later hb1).ci.c0)
      | (go_at_call 24; refine Calls.mono (HR.out _ hb1) ?_; rintro e w2 ⟨p, cp, rfl, hown, hd2, hf2⟩))
    go_ret
    exact ⟨rfl, (H.out.later hb1).read HRN hd2 hf2, (frame_of_below hb1).trans hf2⟩
  · have hfI : ¬ (C.bd : Int) ≤ (C.L.length : Int) := by omega
    have hfd : decide ((C.bd : Int) ≤ (C.L.length : Int)) = false := decide_eq_false hfI
    have hfJ : (C.L.length : Int) < (C.bd : Int) := by omega
    have hfK : decide (C.bd ≤ C.L.length) = false := decide_eq_false hfull
    clear hgo
    go_enter Try.func53, Try.ntmps53
    go_wp2_with fail
    go_quiet (fail)
    go_wp2_with (first
      | (go_at_call 79; refine Calls.mono (HO.out _) ?_; rintro e w1 ⟨rfl, hb1⟩; have hb1 := (below_drewN (Below.refl w.heap.size w) nq).trans (hb1.mono (Nat.le_refl _)); have c0 := (H.out.later hb1).ci.c0)
      | (go_at_call 24; refine Calls.mono (HR.out _ hb1) ?_; rintro e w2 ⟨p, cp, rfl, hown, hd2, hf2⟩))
    go_ret
    exact ⟨rfl, (H.out.later hb1).read HRN hd2 hf2, (frame_of_below hb1).trans hf2⟩
end
end Go.Proofs.Ytliljdencaocaaa
