/- DirsTurns: a block with an entry more, or less. -/
import Derived.Test.YthfnldclpommlabD15
namespace Go.Proofs.Ythfnldclpommlab
open Go.RowKit
set_option linter.unusedVariables false

theorem eqlNil (w : World) (a : Option Addr) (n c n' c' : Nat) : (binOp .eql 22 (.slice a n c) (.slice none n' c')).run Try.prog w = .ok (.bool a.isNone) w := Lib.run_eql_slice_nil w _ _ a n c n' c' Try.underlying22
set_option maxHeartbeats 400000 in
theorem bclone_some (a : Addr) (n c : Nat) (xs : List Int) (w : World) (h : BI w (some a) n xs) :
    Calls Try.prog 15 #[.slice (some a) n c] w fun e w' => ∃ g cap, e = .returned (.slice (some ⟨g, 0, none⟩) n cap) ∧ Own w.heap.size w' g n cap xs ∧ Below w.heap.size w w' := by
  obtain ⟨i0, hi, hz0, hz1, hz2⟩ := info_parts info5
  have hbig := h.big
  have hlen := h.len
  have q22 := eqlNil
  have hb0 := (Below.refl w.heap.size w).alloc (Nat.le_refl _) (Obj.cells #[] 5)
  go_enter Try.func15, Try.ntmps15
  go_wp2_with (at_builtin; refine wpList_append_own _ rfl _ _ 22 rfl w.heap.size 5 i0 (.int .u8 0) 1 1 Try.underlying22 hi hz0 hz1 hz2 rfl (by decide) _ _ _ rfl (World.ownsRow_made w #[] 0 (Nat.le_refl _) (Nat.zero_le _) rfl) a n c (xs.map (Value.int .u8)) rfl ?c1 ?c2 ?c3 ?c4 ?c5 ?c6 ?_)
  case c1 => simp [hlen]
  case c2 => exact (h.kept hb0).src'
  case c3 => exact one_cells xs
  case c4 => unfold maxLen; omega
  case c5 => omega
  case c6 => simp
  intro v' w1 hown hgrow hnil
  obtain ⟨g, cap, hv, ho⟩ := own_shape hown (by first | exact hnil | (intro e; exact absurd (hnil.1 e).1 (by simp)))
  rw [hv]
  clear hown hnil
  have hb1 := hb0.grown hgrow (by simp) (by intro k hk; simp [Value.ownBlock] at hk; omega)
  go_wp2
  go_ret
  exact ⟨g, cap, rfl, ho, hb1⟩
set_option maxHeartbeats 400000 in
theorem bclone_nil (n c : Nat) (w : World) :
    Calls Try.prog 15 #[.slice none n c] w fun e w' => e = .returned (.slice none 0 0) ∧ w' = w := by
  have q22 := eqlNil
  go_enter Try.func15, Try.ntmps15
  go_wp2
  go_ret
  exact ⟨rfl, rfl⟩
set_option maxHeartbeats 400000 in
theorem equal_any (p q : Option Addr) (n c m d : Nat) (xs ys : List Int) (w : World) (h : BI w p n xs) (k : BI w q m ys) :
    Calls Try.prog 20 #[.slice p n c, .slice q m d] w fun e w' => e = .returned (.bool (xs == ys)) ∧ w' = w := by
  have h1 := h.conv c
  have h2 := k.conv d
  go_enter Try.func20, Try.ntmps20
  go_wp2
  go_ret
  exact ⟨ret_bool (str_beq h.byt k.byt), rfl⟩
theorem equal_same (p q : Option Addr) (n c m d : Nat) (xs : List Int) (w : World) (h : BI w p n xs) (k : BI w q m xs) :
    Calls Try.prog 20 #[.slice p n c, .slice q m d] w fun e w' => e = .returned (.bool true) ∧ w' = w :=
  (equal_any p q n c m d xs xs w h k).mono fun e w' ⟨he, hw⟩ => ⟨by rw [he]; simp, hw⟩

theorem bclone_ok (p : Option Addr) (n c : Nat) (xs : List Int) (w : World) (h : BI w p n xs) :
    Calls Try.prog 15 #[.slice p n c] w fun e w' => ∃ q m d, e = .returned (.slice q m d) ∧ m ≤ d ∧ d ≤ 9223372036854775807 ∧ n = m ∧ BI w' q m xs ∧ Below w.heap.size w w' := by
  cases p with
  | none =>
    have hn : n = 0 := by
      rcases Nat.eq_zero_or_pos n with h0 | h0
      · exact h0
      · obtain ⟨b, o, e, _⟩ := h.cells h0; cases e
    subst hn
    refine (bclone_nil 0 c w).mono ?_
    rintro e w' ⟨rfl, rfl⟩
    exact ⟨none, 0, 0, rfl, Nat.le_refl _, by omega, rfl, h, Below.refl _ _⟩
  | some a =>
    refine (bclone_some a n c xs w h).mono ?_
    rintro e w' ⟨g, cap, rfl, hO, hb⟩
    have hcap : n ≤ cap ∧ cap ≤ 9223372036854775807 := by
      rcases hO.2 with ⟨e, _⟩ | ⟨g', cap', cur, e, _, _, h1, h2, _⟩
      · cases e
      · injection e with _ _ e
        subst e
        unfold maxLen at h2
        exact ⟨h1, by omega⟩
    exact ⟨_, n, cap, rfl, hcap.1, hcap.2, rfl, hO.bi h.big h.byt, hb⟩

set_option maxRecDepth 20000 in
set_option maxHeartbeats 4000000 in
theorem dirsTurns_walk (p : Option Addr) (n c : Nat) (xs : List Int) (N : Int) (s t : ByteArray) (hs : s.size ≤ 140737488355328) (w : World) (h : BI w p n xs) (hnc : n ≤ c) (hc2 : c ≤ 9223372036854775807) :
    Calls Try.prog 4 #[.slice p n c, entV N s, .string t] w fun e w' => e = .returned (.bool true) ∧ Below w.heap.size w w' := by
  have HB := grew_alloc w (entO N s)
  have hx := heap_new w (entO N s)
  have hcl := bclone_ok p n c xs (w.alloc (entO N s)) (h.kept HB)
  go_enter Try.func4, Try.ntmps4
  go_wp2_with fail
  refine hcl.mono ?_
  rintro _ w1 ⟨q, m, d, rfl, hmd, hd2, rfl, hq, hb1⟩
  clear hcl
  have hx1 := (hb1.block _ (Array.getElem?_eq_some_iff.1 hx).1).trans hx
  have x0 : w1.cell? ⟨w.heap.size, 0, none⟩ = some (.int .i64 N) := cell_row hx1 0 _ rfl
  have x1 : w1.cell? ⟨w.heap.size, 1, none⟩ = some (.string s) := cell_row hx1 1 _ rfl
  have hw1 := With_ok q n d xs N s hs w1 hq hmd hd2
  have H1 : Hid _ := And.intro hq (And.intro (grew_trans HB hb1) (And.intro hx1 h))
  clear hx hx1 hq hb1 h HB
  dsimp only
  go_wp2_with fail
  refine hw1.mono ?_
  rintro _ w2 ⟨q2, m2, d2, rfl, hB2, hb2⟩
  clear hw1 x0 x1
  have hx2 := (hb2.block _ (Array.getElem?_eq_some_iff.1 H1.out.2.2.1).1).trans H1.out.2.2.1
  have x0 : w2.cell? ⟨w.heap.size, 0, none⟩ = some (.int .i64 N) := cell_row hx2 0 _ rfl
  have x1 : w2.cell? ⟨w.heap.size, 1, none⟩ = some (.string s) := cell_row hx2 1 _ rfl
  have hbw2 := grew_trans H1.out.2.1 hb2
  have hw2 := rWith_ok p n c xs N s hs w2 (H1.out.2.2.2.kept hbw2) hnc hc2
  have H2 : Hid _ := And.intro hB2 (And.intro hbw2 (H1.out.1.kept hb2))
  clear hx2 hB2 hb2 hbw2
  dsimp only
  go_wp2_with fail
  refine hw2.mono ?_
  rintro _ w3 ⟨q3, m3, d3, rfl, hB3, hb3⟩
  clear hw2 x0 x1
  have hbw3 := grew_trans H2.out.2.1 hb3
  have hq3 := H2.out.2.2.kept hb3
  have hw3 := Without_ok q n d xs t w3 hq3 hmd hd2
  have H3 : Hid _ := And.intro (H2.out.1.kept hb3) (And.intro hB3 (And.intro hbw3 hq3))
  clear hB3 hb3 hbw3 hq3
  dsimp only
  go_wp2_with fail
  refine hw3.mono ?_
  rintro _ w4 ⟨q4, m4, d4, rfl, hB4, hb4⟩
  clear hw3
  have hbw4 := grew_trans H3.out.2.2.1 hb4
  have hw4 := rWithout_ok p n c xs t w4 (H1.out.2.2.2.kept hbw4) hnc hc2
  have H4 : Hid _ := And.intro (H3.out.1.kept hb4) (And.intro (H3.out.2.1.kept hb4) (And.intro hB4 (And.intro hbw4 (H3.out.2.2.2.kept hb4))))
  clear hB4 hb4 hbw4
  dsimp only
  go_wp2_with fail
  refine hw4.mono ?_
  rintro _ w5 ⟨q5, m5, d5, rfl, hB5, hb5⟩
  clear hw4
  have hbw5 := grew_trans H4.out.2.2.2.1 hb5
  have he1 := equal_same q2 q3 m2 d2 m3 d3 _ w5 (H4.out.1.kept hb5) (H4.out.2.1.kept hb5)
  have he2 := equal_same q4 q5 m4 d4 m5 d5 _ w5 (H4.out.2.2.1.kept hb5) hB5
  have he3 := equal_same q p n d n c _ w5 (H4.out.2.2.2.2.kept hb5) (H1.out.2.2.2.kept hbw5)
  have H5 : Hid _ := hbw5
  clear hB5 hb5 hbw5
  generalize (wi n xs N s).2.1 = I1 at *
  generalize (wi n xs N s).2.2 = I2 at *
  generalize woI n xs t = I3 at *
  generalize woE n xs t = I4 at *
  dsimp only
  go_wp2_with fail
  refine same_at he1 ?_
  clear he1
  dsimp only
  go_wp2_with fail
  refine same_at he2 ?_
  clear he2
  dsimp only
  go_wp2_with fail
  refine same_at he3 ?_
  clear he3
  dsimp only
  go_wp2_with fail
  go_ret
  exact ⟨by simp, H5.out⟩
end Go.Proofs.Ythfnldclpommlab
