/- DirsBlocks: a block's entries, and the block of some. -/
import Derived.Test.YthfnldclpommlaaD21
namespace Go.Proofs.Ythfnldclpommlaa
open Go.RowKit
set_option linter.unusedVariables false

theorem eqlNil23 (w : World) (a : Option Addr) (n c n' c' : Nat) : (binOp .eql 23 (.slice a n c) (.slice none n' c')).run Try.prog w = .ok (.bool a.isNone) w := Lib.run_eql_slice_nil w _ _ a n c n' c' Try.underlying23
theorem flat2_src {w : World} {a : Addr} {n : Nat} {L : List En} (h : EI w (some a) n L) : ∀ j u, (flat2 L)[j]? = some u → w.cell? (a.add j) = some u := fun j u hu => by
  have hj : j < 2 * L.length := by rw [← flat2_len]; exact (List.getElem?_eq_some_iff.1 hu).1
  obtain ⟨e, he⟩ : ∃ e, L[j / 2]? = some e := ⟨_, List.getElem?_eq_getElem (by omega)⟩
  obtain ⟨b, o, e1, hc⟩ := h.cells (by have := h.len; omega)
  injection e1 with e1
  subst e1
  obtain ⟨c0, c1⟩ := hc _ e he
  rw [Addr.add_mid]
  rcases Nat.mod_two_eq_zero_or_one j with hm | hm
  · have h1 := flat2_n L _ e he
    rw [show j / 2 * 2 = j by omega] at h1 c0
    rw [h1] at hu
    injection hu with hu
    subst hu
    exact c0
  · have h1 := flat2_s L _ e he
    rw [show j / 2 * 2 + 1 = j by omega] at h1
    rw [show o + j / 2 * 2 + 1 = o + j by omega] at c1
    rw [h1] at hu
    injection hu with hu
    subst hu
    exact c1

set_option maxRecDepth 20000 in
set_option maxHeartbeats 1000000 in
theorem eclone_ok (p : Option Addr) (n c : Nat) (L : List En) (w : World) (h : EI w p n L) (h24 : n * 24 ≤ 140737488355328) :
    Calls Try.prog 5 #[.slice p n c] w fun e w' => ∃ q m d, e = .returned (.slice q m d) ∧ m ≤ d ∧ d ≤ 9223372036854775807 ∧ n = m ∧ EI w' q m L ∧ Below w.heap.size w w' := by
  have q23 := eqlNil23
  cases p with
  | none =>
    have hn : n = 0 := by
      rcases Nat.eq_zero_or_pos n with h0 | h0
      · exact h0
      · obtain ⟨b, o, e, _⟩ := h.cells h0; cases e
    subst hn
    have HH : Hid _ := h
    clear h
    go_enter Try.func5, Try.ntmps5
    go_wp2
    go_ret
    exact ⟨none, 0, 0, rfl, Nat.le_refl _, by omega, rfl, HH.out, Below.refl _ _⟩
  | some a =>
    obtain ⟨i0, hi, hz0, hz1, hz2⟩ := info_parts info32z
    have hlen := h.len
    have hb0 := grew_alloc w (.cells #[] 27)
    have hE0 : Er w.heap.size (w.alloc (.cells #[] 27)) (.slice (some ⟨w.heap.size, 0, none⟩) 0 0) [] := ⟨rfl, .inr ⟨w.heap.size, 0, #[], rfl, Nat.le_refl _, heap_new w _, Nat.le_refl _, Nat.zero_le _, rfl, rfl⟩⟩
    obtain ⟨v', w', hr, ho, hgr, _, hb⟩ := run_append_own_at (P := Try.prog) (w.alloc (.cells #[] 27)) w.heap.size 23 23 27 i0 _ 2 24 Try.underlying23 hi hz0 hz1 hz2 rfl (by decide) _ 0 (flat2 []) hE0 a n c (flat2 L) (by rw [flat2_len]; omega) (flat2_src (h.kept hb0)) (flat2_one L) (by unfold maxLen; omega) (by omega) hb0.size
    have hE : Er w.heap.size w' v' L := by
      unfold Er
      rw [Nat.zero_add] at ho
      rw [hlen]
      exact ho
    have hbf : Below w.heap.size w w' := grown_bel hb0 hgr (fun g hg => by simp [Value.ownBlock] at hg; omega)
    obtain ⟨q, d, rfl, hd1, hd2, hEI⟩ := hE.ei (by have := h.big; omega)
    rw [hlen] at hEI hd1 hr
    have HF : Hid _ := And.intro hEI (And.intro hbf (And.intro hd1 hd2))
    clear hE hEI hbf ho hgr hb hE0 hb0 h hd1 hd2 hlen
    go_enter Try.func5, Try.ntmps5
    go_wp2_with (refine wpList_append_run rfl _ _ 23 23 rfl rfl rfl hr ?_)
    go_ret
    exact ⟨q, n, d, rfl, HF.out.2.2.1, HF.out.2.2.2, rfl, HF.out.1, HF.out.2.1⟩

theorem El_len (n : Nat) (xs : List Int) : (El n xs).length ≤ 8 := by
  unfold El
  split
  · rw [ents_len]; omega
  · simp

set_option maxRecDepth 20000 in
set_option maxHeartbeats 4000000 in
theorem dirsBlocks_walk (p q : Option Addr) (n c m d : Nat) (xs : List Int) (L : List En) (w : World) (h : BI w p n xs) (hnc : n ≤ c) (hc2 : c ≤ 9223372036854775807) (hL : EI w q m L) (hmd : m ≤ d) (hd2 : d ≤ 9223372036854775807) (hsz : ∀ e ∈ L, e.s.size ≤ 140737488355328) (h24 : m * 24 ≤ 140737488355328) :
    Calls Try.prog 3 #[.slice p n c, .slice q m d] w fun e w' => e = .returned (.bool true) ∧ Below w.heap.size w w' := by
  have hcl := bclone_ok p n c xs w h
  have H0 : Hid _ := And.intro h hL
  clear h hL
  go_enter Try.func3, Try.ntmps3
  go_wp2_with fail
  refine hcl.mono ?_
  rintro _ w1 ⟨q1, m1, d1, rfl, hmd1, hd1, rfl, hB1, hb1⟩
  clear hcl
  have hec := eclone_ok q m d L w1 (H0.out.2.kept hb1) h24
  have H1 : Hid _ := And.intro hB1 hb1
  clear hB1 hb1
  dsimp only
  go_wp2_with fail
  refine hec.mono ?_
  rintro _ w2 ⟨q2, m2, d2, rfl, hmd2', hd2', rfl, hE2, hb2⟩
  clear hec
  have hbw2 := grew_trans H1.out.2 hb2
  have hB2 := H1.out.1.kept hb2
  have hde := Decode_ok q1 n d1 xs w2 hB2 hmd1 hd1
  have H2 : Hid _ := And.intro hB2 (And.intro hE2 hbw2)
  clear hB2 hE2 hbw2 hb2
  dsimp only
  go_wp2_with fail
  refine hde.mono ?_
  rintro _ w3 ⟨q3, m3, d3, rfl, hE3, hb3, _, _⟩
  clear hde
  have hbw3 := grew_trans H2.out.2.2 hb3
  have hrd := rdecode_ok p n c xs w3 (H0.out.1.kept hbw3) hnc hc2
  have H3 : Hid _ := And.intro (H2.out.1.kept hb3) (And.intro (H2.out.2.1.kept hb3) (And.intro hbw3 hE3))
  clear hbw3 hb3 hE3
  dsimp only
  go_wp2_with fail
  refine hrd.mono ?_
  rintro _ w4 ⟨v4, rfl, hR4, hb4⟩
  clear hrd
  have hl8 := El_len n xs
  obtain ⟨q4, d4, rfl, _, _, hE4⟩ := hR4.ei (by omega)
  have hbw4 := grew_trans H3.out.2.2.1 hb4
  have hen := Encode_c q2 m d2 L w4 (H3.out.2.1.kept hb4) hsz
  have H4 : Hid _ := And.intro (H3.out.1.kept hb4) (And.intro (H3.out.2.1.kept hb4) (And.intro hbw4 (And.intro (H3.out.2.2.2.kept hb4) hE4)))
  clear hR4 hE4 hb4 hbw4
  dsimp only
  go_wp2_with fail
  refine hen.mono ?_
  rintro _ w5 ⟨q5, m5, d5, rfl, hB5, hb5, _, _⟩
  clear hen
  have hbw5 := grew_trans H4.out.2.2.1 hb5
  have hre := rEncode_ok q m d L w5 (H0.out.2.kept hbw5) hmd hd2 hsz
  have H5 : Hid _ := And.intro hB5 (And.intro hbw5 hb5)
  clear hB5 hb5 hbw5
  dsimp only
  go_wp2_with fail
  refine hre.mono ?_
  rintro _ w6 ⟨q6, m6, d6, rfl, hB6, hb6⟩
  clear hre
  have hbw6 := grew_trans H5.out.2.1 hb6
  have hb46 := grew_trans H5.out.2.2 hb6
  have h1 := eequal_same q3 q4 m3 _ d3 d4 _ w6 (H4.out.2.2.2.1.kept hb46) (H4.out.2.2.2.2.kept hb46)
  have H6 : Hid _ := And.intro hB6 (And.intro hbw6 (And.intro hb46 hb6))
  clear hB6 hbw6 hb46 hb6
  generalize (El n xs).length = NL at *
  generalize deX n xs = DX at *
  generalize enE L = EX at *
  dsimp only
  go_wp2_with fail
  refine grew_at h1 ?_
  intro w7 hb7
  clear h1
  have hb67 := grew_trans H6.out.2.2.2 hb7
  have hb47 := grew_trans H6.out.2.2.1 hb7
  have hbw7 := grew_trans H6.out.2.1 hb7
  have h2 := equal_same q5 q6 m5 d5 m6 d6 _ w7 (H5.out.1.kept hb67) (H6.out.1.kept hb7)
  have h3 := equal_same q1 p n d1 n c xs w7 (H4.out.1.kept hb47) (H0.out.1.kept hbw7)
  have h4 := eequal_same q2 q m m d2 d L w7 (H4.out.2.1.kept hb47) (H0.out.2.kept hbw7)
  have H7 : Hid _ := hbw7
  clear hb67 hb47 hbw7 hb7
  dsimp only
  go_wp2_with fail
  refine same_at h2 ?_
  clear h2
  dsimp only
  go_wp2_with fail
  refine same_at h3 ?_
  clear h3
  dsimp only
  go_wp2_with fail
  refine grew_at h4 ?_
  intro w8 hb8
  clear h4
  have hfin := grew_trans H7.out hb8
  dsimp only
  go_wp2_with fail
  go_ret
  exact ⟨by simp, hfin⟩
end Go.Proofs.Ythfnldclpommlaa
