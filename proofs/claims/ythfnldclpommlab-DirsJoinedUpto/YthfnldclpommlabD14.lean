/- dirs, the document's: With, Without. -/
import Derived.Test.YthfnldclpommlabD13
namespace Go.Proofs.Ythfnldclpommlab
open Go.RowKit
set_option linter.unusedVariables false

theorem deX_yes {n : Nat} {xs : List Int} (h : mayB n xs) : deX n xs = 0 := by unfold deX; rw [if_pos h]
theorem deX_no {n : Nat} {xs : List Int} (h : ¬ mayB n xs) : deX n xs = 6 := by unfold deX; rw [if_neg h]
theorem er_shape {B : Nat} {w : World} {v : Value} {L : List En} (h : Er B w v L) (h0 : 0 < L.length) : ∃ g cap, v = .slice (some ⟨g, 0, none⟩) L.length cap ∧ B ≤ g ∧ g < w.heap.size ∧ L.length ≤ cap ∧ cap ≤ 9223372036854775807 ∧ ∃ cs, w.heap[g]? = some (.cells cs 32 (0, 0)) := by
  rcases h.2 with ⟨e, e0⟩ | ⟨g, cap, cur, e, hB, hg, hc, hm, _⟩
  · omega
  · exact ⟨g, cap, e, hB, (Array.getElem?_eq_some_iff.1 hg).1, hc, by unfold maxLen at hm; omega, _, hg⟩
theorem entsz {n : Nat} {xs : List Int} : ∀ e ∈ dec8 n xs, e.s.size ≤ 140737488355328 := fun e he => by have := emay_size (dec8_may n xs e he); omega
theorem set_sz {L : List En} {k : Nat} {x : En} (h : ∀ e ∈ L, e.s.size ≤ 140737488355328) (hx : x.s.size ≤ 140737488355328) : ∀ e ∈ L.set k x, e.s.size ≤ 140737488355328 := fun e he => by
  rcases List.mem_or_eq_of_mem_set he with he | he
  · exact h e he
  · rw [he]; exact hx
theorem two_bel {w w1 : World} {g : Nat} (h : Below w.heap.size w w1) (hg : w.heap.size ≤ g) (i j : Nat) (u v : Value) : Below w.heap.size w ((w1.setCell ⟨g, i, none⟩ u).setCell ⟨g, j, none⟩ v) :=
  ((h.setCell (by simpa using hg) _).setCell (by simpa using hg) _)
/-- What Without gives, as one. -/
def wo (n : Nat) (xs : List Int) (s : ByteArray) : List Int × Nat × Int := (woB n xs s, woI n xs s, woE n xs s)
theorem p3_end {w w' : World} {q : Option Addr} {m d k : Nat} {er : Int} {A L : List Int} {i0 : Int} {e0 : Int} (hB : BI w' q m L) (hb : Below w.heap.size w w') (h1 : A = L) (h2 : i0 = (k : Int)) (h3 : e0 = er) :
    P3 w A i0 e0 (.returned (.tuple #[.slice q m d, .int .i64 (k : Int), .int .i64 er])) w' := by
  subst h1 h2 h3
  exact ⟨q, m, d, rfl, hB, hb⟩

set_option maxRecDepth 20000 in
set_option maxHeartbeats 2000000 in
theorem rWithout_ok (p : Option Addr) (n c : Nat) (xs : List Int) (s : ByteArray) (w : World) (h : BI w p n xs) (hnc : n ≤ c) (hc2 : c ≤ 9223372036854775807) :
    Calls Try.prog 19 #[.slice p n c, .string s] w fun e w' => P3 w (woB n xs s) (woI n xs s : Int) (woE n xs s) e w' := by
  have hde := rdecode_ok p n c xs w h hnc hc2
  by_cases hm : mayB n xs
  · have hE0 : ((dec8 n xs).findIdx? (hit s)) = none → woB n xs s = [] ∧ woI n xs s = 0 ∧ woE n xs s = 211 := fun hx => by
      unfold woE woI woB
      rw [if_pos hm, El_yes hm, hx]
      exact ⟨rfl, rfl, rfl⟩
    have hE1 : ∀ k, ((dec8 n xs).findIdx? (hit s)) = some k → woB n xs s = encL ((dec8 n xs).set k ent00) ∧ woI n xs s = k ∧ woE n xs s = 0 := fun k hx => by
      unfold woE woI woB
      rw [if_pos hm, El_yes hm, hx]
      exact ⟨rfl, rfl, rfl⟩
    have HE : Hid _ := And.intro hE0 hE1
    have HM : Hid _ := hm
    have HH : Hid _ := h
    clear hE0 hE1 hm h
    go_enter Try.func19, Try.ntmps19
    go_wp2_with fail
    refine hde.mono ?_
    rintro _ w1 ⟨v, rfl, hR, hb1⟩
    clear hde
    rw [El_yes HM.out] at hR
    rw [deX_yes HM.out]
    obtain ⟨g, cap, rfl, hg1, hg2, hgc, hgc2, hgr⟩ := er_shape hR (by rw [dec8_len]; omega)
    have hfi := rFind_ok p n c xs s w1 (HH.out.kept hb1) hnc hc2
    rw [El_yes HM.out] at hfi
    have H1 : Hid _ := And.intro hR (And.intro hb1 (And.intro hg1 hg2))
    clear hR hb1 hg1 hg2 hgr
    rw [dec8_len] at hgc
    dsimp only
    cases hx : (dec8 n xs).findIdx? (hit s) with
    | none =>
      rw [hx] at hfi
      have HX : Hid _ := hx
      clear hx
      go_wp2_with fail
      refine grew_at hfi ?_
      intro w2 hb2
      clear hfi
      obtain ⟨e1, e2, e3⟩ := HE.out.1 HX.out
      have HP : Hid _ := And.intro e1 (And.intro e2 e3)
      clear e1 e2 e3
      dsimp only
      go_wp2_with fail
      go_ret3
      exact p3_end (k := 0) (bi_nil _) (grew_trans H1.out.2.1 hb2) HP.out.1 (by rw [HP.out.2.1]) HP.out.2.2
    | some k =>
      rw [hx] at hfi
      have hk := (List.findIdx?_eq_some_iff_getElem.1 hx).1
      rw [dec8_len] at hk
      have hkI : (k : Int) < 8 := by omega
      have hk0 : (0 : Int) ≤ (k : Int) := by omega
      have HX : Hid _ := hx
      clear hx
      go_wp2_with fail
      refine grew_at hfi ?_
      intro w2 hb2
      clear hfi
      have hR2 := H1.out.1.kept hb2
      obtain ⟨e0, he0⟩ : ∃ e, (dec8 n xs)[k]? = some e := ⟨_, List.getElem?_eq_getElem (by rw [dec8_len]; exact hk)⟩
      obtain ⟨c0, c1⟩ := er_cells hR2 rfl k e0 he0
      obtain ⟨g', cap', hge, _, _, _, _, cs, hcs⟩ := er_shape hR2 (by rw [dec8_len]; omega)
      obtain ⟨rfl, rfl⟩ : g = g' ∧ cap = cap' := by
        injection hge with h1 h2 h3
        injection h1 with h1
        injection h1 with h1
        exact ⟨h1, h3⟩
      have f0 : w2.frozen? ⟨g, k * 2, none⟩ = false := unfrozen hcs _
      have f1 : w2.frozen? ⟨g, k * 2 + 1, none⟩ = false := unfrozen hcs _
      have hRs := er_set hR2 (k := k) (by rw [dec8_len]; exact hk) ent00
      have hbs := two_bel (grew_trans H1.out.2.1 hb2) H1.out.2.2.1 (k * 2) (k * 2 + 1) (.int .i64 0) (.string ⟨#[]⟩)
      obtain ⟨q3, d3, hv3, hq1, hq2, hE3⟩ := hRs.ei (by rw [List.length_set, dec8_len]; omega)
      have hen := rEncode_ok q3 _ d3 _ _ hE3 hq1 hq2 (set_sz entsz (by decide))
      rw [← hv3, List.length_set, dec8_len] at hen
      rw [enB_set HM.out (.inl ⟨rfl, rfl⟩) (fun h => absurd rfl h)] at hen
      have H2 : Hid _ := hbs
      clear hcs hge hR2 hRs hbs hv3 hq1 hq2 hE3 hb2 he0
      have hlen8 := dec8_len n xs
      dsimp only [Option.getD_some, Option.isSome_some]
      rw [hlen8]
      go_wp2_with fail
      refine hen.mono ?_
      rintro _ w4 ⟨q4, m4, d4, rfl, hB4, hb4⟩
      clear hen
      obtain ⟨e1, e2, e3⟩ := HE.out.2 k HX.out
      have HP : Hid _ := And.intro hB4 (And.intro (grew_trans H2.out hb4) (And.intro e1 (And.intro e2 e3)))
      clear e1 e2 e3 hB4 hb4
      dsimp only
      go_wp2_with fail
      go_ret3
      exact p3_end HP.out.1 HP.out.2.1 HP.out.2.2.1 (by rw [HP.out.2.2.2.1]) HP.out.2.2.2.2
  · have hE0 : woB n xs s = [] ∧ woI n xs s = 0 ∧ woE n xs s = 6 := by
      unfold woE woI woB
      rw [if_neg hm, El_no hm]
      exact ⟨rfl, rfl, rfl⟩
    have HP : Hid _ := hE0
    have HM : Hid _ := hm
    clear hE0 hm
    go_enter Try.func19, Try.ntmps19
    go_wp2_with fail
    refine hde.mono ?_
    rintro _ w1 ⟨v, rfl, hR, hb1⟩
    clear hde
    rw [deX_no HM.out]
    clear hR
    dsimp only
    go_wp2_with fail
    go_ret3
    exact p3_end (k := 0) (bi_nil _) hb1 HP.out.1 (by rw [HP.out.2.1]) HP.out.2.2
end Go.Proofs.Ythfnldclpommlab
