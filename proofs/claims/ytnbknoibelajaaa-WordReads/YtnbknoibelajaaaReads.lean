/- One call of a reader, held against the same call of the document's: both answer the same, and have the same left and the same error behind it. -/
import Derived.Test.YtnbknoibelajaaaRef
namespace Go.Proofs.Ytnbknoibelajaaa
open Go.RowKit

theorem rest_kept {w w' : World} {rb n : Nat} {xs : List Int} {E : Int} (h : Rest w rb n xs E) (hb : Below w.heap.size w w') : Rest w' rb n xs E := by
  obtain ⟨b, o, c, hr, hnc, hbi⟩ := h
  exact ⟨b, o, c, rd_kept hr hb, hnc, hbi.kept hb⟩

theorem rx_kept {w w' : World} {xb : Nat} {v : Value} {E : Int} (h : Rx w xb v E) (hb : Below w.heap.size w w') : Rx w' xb v E := by
  unfold Rx
  rw [hb.block xb h.lt]
  exact h

theorem restx_kept {w w' : World} {xb n : Nat} {xs : List Int} {E : Int} (h : RestX w xb n xs E) (hb : Below w.heap.size w w') : RestX w' xb n xs E := by
  obtain ⟨p, c, hr, hnc, hbi⟩ := h
  exact ⟨p, c, rx_kept hr hb, hnc, hbi.kept hb⟩

theorem restx_turn {w w' : World} {rb xb n m : Nat} {xs ys : List Int} {E F : Int} (h : RestX w xb n xs E) (hr : Rest w rb m ys F) (hne : xb ≠ rb) (hg : w.grownBy w' (some rb)) : RestX w' xb n xs E := by
  obtain ⟨p, c, hx, hnc, hbi⟩ := h
  obtain ⟨b, o, c', hd, _, _⟩ := hr
  refine ⟨p, c, ?_, hnc, bi_same hbi fun b' o' e hn => ?_⟩
  · unfold Rx
    rw [hg.block xb hx.lt (by simpa using hne)]
    exact hx
  · subst e
    have n1 := bi_ne hbi hn hd (rd_no _ _ _ (by intro x; simp))
    exact hg.block b' (bi_block hbi hn) (by simpa using n1)

theorem rest_turn {w w' : World} {rb xb n m : Nat} {xs ys : List Int} {E F : Int} (hr : Rest w rb m ys F) (h : RestX w xb n xs E) (hne : xb ≠ rb) (hg : w.grownBy w' (some xb)) : Rest w' rb m ys F := by
  obtain ⟨p, c, hx, _, _⟩ := h
  obtain ⟨b, o, c', hd, hnc, hbi⟩ := hr
  refine ⟨b, o, c', ?_, hnc, bi_same hbi fun b' o' e hn => ?_⟩
  · unfold Rd
    rw [hg.block rb hd.lt (by simpa using Ne.symm hne)]
    exact hd
  · cases e
    have n1 := bi_ne hbi hn hx (rx_no _ _ (by intro x; simp))
    exact hg.block b (bi_block hbi hn) (by simpa using n1)

theorem grown_of_below {w w' : World} (h : Below w.heap.size w w') (r : Option Nat) : w.grownBy w' r := ⟨h.os, h.tape, h.output, h.size, fun k hk _ => h.block k hk⟩

theorem below_of_grown {B : Nat} {w0 w w' : World} {g : Nat} (h : Below B w0 w) (hg : w.grownBy w' (some g)) (hB : B ≤ g) (hs : B ≤ w.heap.size) : Below B w0 w' :=
  h.grown hg hs (by intro k hk; cases hk; exact hB)

/-- What a call of a reader does, and the same call of the document's. -/
def Both (f g : FuncId) (k : Int) (n : Nat) (xs : List Int) (E : Int) (V : Value) (n' : Nat) (ys : List Int) (E' : Int) : Prop :=
  (∀ w rb, Rest w rb n xs E → Calls Try.prog f #[.pointer (some ⟨rb, 0, none⟩), .int .i64 k] w fun e w' => e = .returned V ∧ w.grownBy w' (some rb) ∧ Rest w' rb n' ys E') ∧
  (∀ w xb, RestX w xb n xs E → Calls Try.prog g #[.pointer (some ⟨xb, 0, none⟩), .int .i64 k] w fun e w' => e = .returned V ∧ w.grownBy w' (some xb) ∧ RestX w' xb n' ys E')

theorem notyet_rest {w : World} {rb n : Nat} {xs : List Int} {E : Int} (h : Rest w rb n xs E) : NotYet w (some ⟨rb, 0, none⟩) E := by
  obtain ⟨b, o, c, hr, _, _⟩ := h
  exact notyet_err w rb _ E hr

theorem take_both (k : Int) (n : Nat) (xs : List Int) (E : Int) : ∃ V n' ys E', Both 22 23 k n xs E (.int .i64 V) n' ys E' := by
  by_cases hE : E = 0
  · subst hE
    by_cases h1 : k < 1 ∨ 4 < k
    · have e : Num.gE n 0 k = 1 := by unfold Num.gE; rw [if_pos (by omega)]
      refine ⟨0, n, xs, 1, fun w rb h => ?_, fun w xb h => rtake_arg w xb n xs k h h1⟩
      have := take_bad w rb n xs k h (by rw [e]; decide)
      rw [e] at this
      exact this
    · obtain ⟨m, rfl⟩ := Int.eq_ofNat_of_zero_le (show 0 ≤ k by omega)
      by_cases h2 : n < m
      · have e : Num.gE n 0 m = 10 := by unfold Num.gE; rw [if_neg (by omega), if_pos (by omega)]
        refine ⟨0, n, xs, 10, fun w rb h => ?_, fun w xb h => rtake_past w xb n m xs h (by omega) (by omega) h2⟩
        have := take_bad w rb n xs m h (by rw [e]; decide)
        rw [e] at this
        exact this
      · exact ⟨_, _, _, _, fun w rb h => take_yes w rb n m xs h (by omega) (by omega) (by omega), fun w xb h => rtake_yes w xb n m xs h (by omega) (by omega) (by omega)⟩
  · have hE' : (E != 0) = true := by rw [bne_iff_ne]; exact hE
    refine ⟨0, n, xs, E, fun w rb h => ?_, fun w xb h => ?_⟩
    · exact (take_no w _ E k hE' (notyet_rest h)).mono fun e w' ⟨he, hb⟩ => ⟨he, grown_of_below hb _, rest_kept h hb⟩
    · exact (rtake_no w xb n xs E k h hE').mono fun e w' ⟨he, hw⟩ => ⟨he, by rw [hw]; exact grown_of_below (Below.refl _ _) _, by rw [hw]; exact h⟩

theorem tE_zero {n : Nat} {k : Int} (h : Num.tE n k = 0) : 0 ≤ k ∧ k ≤ n := by
  unfold Num.tE at h
  split at h
  · omega
  · split at h <;> omega

theorem text_both (k : Int) (n : Nat) (xs : List Int) (E : Int) : ∃ V n' ys E', Both 24 25 k n xs E (.string V) n' ys E' := by
  by_cases hE : E = 0
  · subst hE
    by_cases h1 : Num.tE n k = 0
    · obtain ⟨h2, h3⟩ := tE_zero h1
      obtain ⟨m, rfl⟩ := Int.eq_ofNat_of_zero_le h2
      exact ⟨_, _, _, _, fun w rb h => text_yes w rb n m xs h (by omega), fun w xb h => rtext_yes w xb n m xs h (by omega)⟩
    · exact ⟨_, _, _, _, fun w rb h => text_bad w rb n xs k h h1, fun w xb h => rtext_bad w xb n xs k h h1⟩
  · have hE' : (E != 0) = true := by rw [bne_iff_ne]; exact hE
    refine ⟨ByteArray.empty, n, xs, E, fun w rb h => ?_, fun w xb h => ?_⟩
    · exact (text_no w _ E k hE' (notyet_rest h)).mono fun e w' ⟨he, hb⟩ => ⟨he, grown_of_below hb _, rest_kept h hb⟩
    · exact (rtext_no w xb n xs E k h hE').mono fun e w' ⟨he, hw⟩ => ⟨he, by rw [hw]; exact grown_of_below (Below.refl _ _) _, by rw [hw]; exact h⟩

theorem skip_both (k : Int) (n : Nat) (xs : List Int) (E : Int) : ∃ n' ys E', Both 26 27 k n xs E (.tuple #[]) n' ys E' := by
  by_cases hE : E = 0
  · subst hE
    by_cases h1 : Num.tE n k = 0
    · obtain ⟨h2, h3⟩ := tE_zero h1
      obtain ⟨m, rfl⟩ := Int.eq_ofNat_of_zero_le h2
      exact ⟨_, _, _, fun w rb h => skip_yes w rb n m xs h (by omega), fun w xb h => rskip_yes w xb n m xs h (by omega)⟩
    · exact ⟨_, _, _, fun w rb h => skip_bad w rb n xs k h h1, fun w xb h => rskip_bad w xb n xs k h h1⟩
  · have hE' : (E != 0) = true := by rw [bne_iff_ne]; exact hE
    refine ⟨n, xs, E, fun w rb h => ?_, fun w xb h => ?_⟩
    · exact (skip_no w _ E k hE' (notyet_rest h)).mono fun e w' ⟨he, hb⟩ => ⟨he, grown_of_below hb _, rest_kept h hb⟩
    · exact (rskip_no w xb n xs E k h hE').mono fun e w' ⟨he, hw⟩ => ⟨he, by rw [hw]; exact grown_of_below (Below.refl _ _) _, by rw [hw]; exact h⟩

/-- Both readers, in step; and what was there when the call began. -/
structure Step (w wr : World) (rb xb : Nat) (n : Nat) (ys : List Int) (E : Int) : Prop where
  rd : Rest wr rb n ys E
  rx : RestX wr xb n ys E
  ne : xb ≠ rb
  hr : w.heap.size ≤ rb
  hx : w.heap.size ≤ xb
  below : Below w.heap.size w wr

theorem Step.kept {w wr w' : World} {rb xb n : Nat} {ys : List Int} {E : Int} (h : Step w wr rb xb n ys E) (hb : Below wr.heap.size wr w') : Step w w' rb xb n ys E :=
  ⟨rest_kept h.rd hb, restx_kept h.rx hb, h.ne, h.hr, h.hx, h.below.trans (hb.mono h.below.size)⟩

/-- The two calls, one behind the other. -/
theorem Step.go {w wr w1 w2 : World} {rb xb n n' : Nat} {ys zs : List Int} {E E' : Int} (h : Step w wr rb xb n ys E) (hg1 : wr.grownBy w1 (some rb)) (hr1 : Rest w1 rb n' zs E') (hg2 : w1.grownBy w2 (some xb)) (hx2 : RestX w2 xb n' zs E') (hx1 : RestX w1 xb n ys E) : Step w w2 rb xb n' zs E' :=
  ⟨rest_turn hr1 hx1 h.ne hg2, hx2, h.ne, h.hr, h.hx, below_of_grown (below_of_grown h.below hg1 h.hr h.below.size) hg2 h.hx (Nat.le_trans h.below.size hg1.size)⟩

end Go.Proofs.Ytnbknoibelajaaa
