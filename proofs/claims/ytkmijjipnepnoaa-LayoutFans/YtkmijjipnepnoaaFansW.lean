/- LayoutFans: addresses as bytes, and out of bytes, by the program as by the document. -/
import Derived.Test.YtkmijjipnepnoaaDFan
import Derived.Test.YtkmijjipnepnoaaSupersW
namespace Go.Proofs.Ytkmijjipnepnoaa
open Go.RowKit
set_option linter.unusedVariables false

/-- Both encode alike. -/
theorem encFan_both (m : Nat) (ls : List Int) : ∃ er : Int, ∃ n : Nat, ∃ zs : List Int, n ≤ 128 ∧ Num.Byt zs ∧
    (∀ w p c, II w p m ls → Calls Try.prog 30 #[.slice p m c] w fun e w' => ∃ p c, e = .returned (.tuple #[.slice p n c, .int .i64 er]) ∧ BI w' p n zs ∧ Below w.heap.size w w') ∧
    (∀ w p c, II w p m ls → Calls Try.prog 31 #[.slice p m c] w fun e w' => ∃ p c, e = .returned (.tuple #[.slice p n c, .int .i64 er]) ∧ BI w' p n zs ∧ Below w.heap.size w w') := by
  by_cases hm : m = 64
  · subst hm
    by_cases hA : Ads ls
    · refine ⟨0, 128, fanL ls, by omega, fanL_byt ls, fun w p c h => ?_, fun w p c h => ?_⟩
      · exact encodeFan_yes p c ls w h hA
      · refine (rencodeFan_ok p c ls w h).mono fun e w' hh => ?_
        rcases hh with ⟨_, hh⟩ | ⟨hn, _⟩
        · exact hh
        · exact absurd hA hn
    · refine ⟨1, 0, [], by omega, fun i => by simp, fun w p c h => ?_, fun w p c h => ?_⟩
      · exact (encodeFan_bad p c ls w h hA).mono fun e w' ⟨he, hb⟩ => ⟨_, 0, he, BI.none _ _, hb⟩
      · refine (rencodeFan_ok p c ls w h).mono fun e w' hh => ?_
        rcases hh with ⟨hn, _⟩ | ⟨_, he, hb⟩
        · exact absurd hn hA
        · exact ⟨_, 0, he, BI.none _ _, hb⟩
  · refine ⟨1, 0, [], by omega, fun i => by simp, fun w p c h => ?_, fun w p c h => ?_⟩
    · exact (encodeFan_len p m c ls w h hm).mono fun e w' ⟨he, hb⟩ => ⟨_, 0, he, BI.none _ _, hb⟩
    · exact (rencodeFan_len p m c ls w h hm).mono fun e w' ⟨he, hb⟩ => ⟨_, 0, he, BI.none _ _, hb⟩

/-- Both decode alike. -/
theorem decFan_both (m : Nat) (xs : List Int) : ∃ er : Int, ∃ n : Nat, ∃ zs : List Int,
    (∀ w p c, BI w p m xs → Calls Try.prog 32 #[.slice p m c] w fun e w' => ∃ p c, e = .returned (.tuple #[.slice p n c, .int .i64 er]) ∧ II w' p n zs ∧ Below w.heap.size w w') ∧
    (∀ w p c, BI w p m xs → Calls Try.prog 33 #[.slice p m c] w fun e w' => ∃ p c, e = .returned (.tuple #[.slice p n c, .int .i64 er]) ∧ II w' p n zs ∧ Below w.heap.size w w') := by
  by_cases hm : m = 128
  · subst hm
    by_cases hA : Ads (fanZ xs)
    · refine ⟨0, 64, fanZ xs, fun w p c h => ?_, fun w p c h => ?_⟩
      · refine (decodeFan_ok p c xs w h).mono fun e w' hh => ?_
        rcases hh with ⟨_, hh⟩ | ⟨hn, _⟩
        · exact hh
        · exact absurd hA hn
      · refine (rdecodeFan_ok p c xs w h).mono fun e w' hh => ?_
        rcases hh with ⟨_, hh⟩ | ⟨hn, _⟩
        · exact hh
        · exact absurd hA hn
    · refine ⟨6, 0, [], fun w p c h => ?_, fun w p c h => ?_⟩
      · refine (decodeFan_ok p c xs w h).mono fun e w' hh => ?_
        rcases hh with ⟨hn, _⟩ | ⟨_, he, hb⟩
        · exact absurd hn hA
        · exact ⟨_, 0, he, II.none _, hb⟩
      · refine (rdecodeFan_ok p c xs w h).mono fun e w' hh => ?_
        rcases hh with ⟨hn, _⟩ | ⟨_, he, hb⟩
        · exact absurd hn hA
        · exact ⟨_, 0, he, II.none _, hb⟩
  · refine ⟨6, 0, [], fun w p c h => ?_, fun w p c h => ?_⟩
    · exact (decodeFan_len p m c xs w h hm).mono fun e w' ⟨he, hb⟩ => ⟨_, 0, he, II.none _, hb⟩
    · exact (rdecodeFan_len p m c xs w h hm).mono fun e w' ⟨he, hb⟩ => ⟨_, 0, he, II.none _, hb⟩

set_option maxRecDepth 10000 in
set_option maxHeartbeats 1000000 in
theorem layoutFans_walk (a : Option Addr) (m d : Nat) (ls : List Int) (hm8 : m * 8 ≤ 140737488355328) (p : Option Addr) (n c : Nat) (xs : List Int) (w : World) (l0 : II w a m ls) (h0 : BI w p n xs) :
    Calls Try.prog 7 #[.slice a m d, .slice p n c] w fun e w' => e = .returned (.bool true) ∧ Below w.heap.size w w' := by
  obtain ⟨er, k, zs, hk, hzb, he1, he2⟩ := encFan_both m ls
  obtain ⟨er2, k2, ys, hd1, hd2⟩ := decFan_both n xs
  have HB := Below.refl w.heap.size w
  go_enter Try.func7, Try.ntmps7
  go_wp2_with (first
    | (go_at_call 11; refine Calls.mono (bclone_any _ _ _ _ _ h0) ?_; rintro e w1 ⟨p1, q1, rfl, hq1, g0, hb⟩; have HB := grew_trans HB hb; have h0 := h0.kept hb; have l0 := l0.kept hb; clear hb)
    | (go_at_call 29; refine Calls.mono (iclone_ok _ _ _ _ _ l0 hm8) ?_; rintro e w2 ⟨p2, q2, rfl, l1, hb⟩; have HB := grew_trans HB hb; have h0 := h0.kept hb; have l0 := l0.kept hb; have g0 := g0.kept hb; clear hb)
    | (go_at_call 30; refine Calls.mono (he1 _ _ _ l1) ?_; rintro e w3 ⟨p3, q3, rfl, b1, hb⟩; have HB := grew_trans HB hb; have h0 := h0.kept hb; have l0 := l0.kept hb; have l1 := l1.kept hb; have g0 := g0.kept hb; clear hb)
    | (go_at_call 31; refine Calls.mono (he2 _ _ _ l0) ?_; rintro e w4 ⟨p4, q4, rfl, b2, hb⟩; have HB := grew_trans HB hb; have h0 := h0.kept hb; have l0 := l0.kept hb; have l1 := l1.kept hb; have g0 := g0.kept hb; have b1 := b1.kept hb; clear hb)
    | (go_at_call 32; refine Calls.mono (hd1 _ _ _ g0) ?_; rintro e w5 ⟨p5, q5, rfl, y1, hb⟩; have HB := grew_trans HB hb; have h0 := h0.kept hb; have l0 := l0.kept hb; have l1 := l1.kept hb; have g0 := g0.kept hb; have b1 := b1.kept hb; have b2 := b2.kept hb; clear hb)
    | (go_at_call 33; refine Calls.mono (hd2 _ _ _ h0) ?_; rintro e w6 ⟨p6, q6, rfl, y2, hb⟩; have HB := grew_trans HB hb; have h0 := h0.kept hb; have l0 := l0.kept hb; have l1 := l1.kept hb; have g0 := g0.kept hb; have b1 := b1.kept hb; have b2 := b2.kept hb; have y1 := y1.kept hb; clear hb)
    | (go_at_call_of 14 p3; refine same_at (equal_same _ _ _ _ _ _ _ _ b1 b2) ?_)
    | (go_at_call_of 34 p5; refine Calls.mono (iequal_same _ _ _ _ _ _ _ y1 y2) ?_; rintro e w7 ⟨rfl, hb⟩; have HB := grew_trans HB hb; have h0 := h0.kept hb; have l0 := l0.kept hb; have l1 := l1.kept hb; have g0 := g0.kept hb; clear hb)
    | (go_at_call_of 14 p1; refine same_at (equal_same _ _ _ _ _ _ _ _ g0 h0) ?_)
    | (go_at_call_of 34 p2; refine Calls.mono (iequal_same _ _ _ _ _ _ _ l1 l0) ?_; rintro e w8 ⟨rfl, hb⟩; have HB := grew_trans HB hb))
  go_ret
  exact ⟨rfl, HB⟩
end Go.Proofs.Ytkmijjipnepnoaa
