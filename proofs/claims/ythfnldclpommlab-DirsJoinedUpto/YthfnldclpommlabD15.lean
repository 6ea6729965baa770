/- dirs, the document's: With. -/
import Derived.Test.YthfnldclpommlabD14
namespace Go.Proofs.Ythfnldclpommlab
open Go.RowKit
set_option linter.unusedVariables false

theorem p3_some' {w w' : World} {n : Nat} {xs : List Int} {N : Int} {s : ByteArray} {q : Option Addr} {m d k : Nat} {L : List Int} (hB : BI w' q m L) (hb : Below w.heap.size w w') (h : wi n xs N s = (L, k, 0)) :
    P3 w (wi n xs N s).1 ((wi n xs N s).2.1 : Int) (wi n xs N s).2.2 (.returned (.tuple #[.slice q m d, .int .i64 (k : Int), .int .i64 0])) w' := by
  rw [h]
  exact ⟨q, m, d, rfl, hB, hb⟩

set_option maxRecDepth 20000 in
set_option maxHeartbeats 4000000 in
theorem rWith_ok (p : Option Addr) (n c : Nat) (xs : List Int) (N : Int) (s : ByteArray) (hs : s.size ≤ 140737488355328) (w : World) (h : BI w p n xs) (hnc : n ≤ c) (hc2 : c ≤ 9223372036854775807) :
    Calls Try.prog 17 #[.slice p n c, entV N s] w fun e w' => P3 w (wi n xs N s).1 ((wi n xs N s).2.1 : Int) (wi n xs N s).2.2 e w' := by
  have HB := grew_alloc w (entO N s)
  have hx := heap_new w (entO N s)
  have hde := rdecode_ok p n c xs (w.alloc (entO N s)) (h.kept HB) hnc hc2
  have HH : Hid _ := h
  clear h
  by_cases hm : mayB n xs
  · by_cases hk : kd N s = 2
    · have hkt := kd_two hk
      cases hf : (dec8 n xs).findIdx? (hit s) with
      | some k =>
        have hwi : wi n xs N s = ([], 0, 212) := by unfold wi; rw [if_pos hm, if_pos hk, El_yes hm, hf]
        have HT : Hid _ := hwi
        have HF : Hid _ := hf
        have HK2 : Hid _ := hkt
        have HM : Hid _ := hm
        clear hwi hm hf hk hkt
        go_enter Try.func17, Try.ntmps17
        go_wp2_with fail
        refine hde.mono ?_
        rintro _ w1 ⟨v, rfl, hR, hb1⟩
        clear hde
        rw [El_yes HM.out] at hR
        rw [deX_yes HM.out]
        obtain ⟨g, cap, rfl, hg1, hg2, hgc, hgc2, hgr⟩ := er_shape hR (by rw [dec8_len]; omega)
        rw [dec8_len] at hgc
        have hx1 := (hb1.block _ (Array.getElem?_eq_some_iff.1 hx).1).trans hx
        have x0 : w1.cell? ⟨w.heap.size, 0, none⟩ = some (.int .i64 N) := cell_row hx1 0 _ rfl
        have x1 : w1.cell? ⟨w.heap.size, 1, none⟩ = some (.string s) := cell_row hx1 1 _ rfl
        have hgw : w.heap.size ≤ g := by simp at hg1; omega
        have H1 : Hid _ := And.intro hR (And.intro (grew_trans HB hb1) (And.intro hgw (And.intro hg2 hx1)))
        clear hR hb1 hg1 hg2 hgr hx1 hx hgw
        have hlen8 := dec8_len n xs
        dsimp only
        rw [hlen8]
        have hen := rencodeEntry_yes N s HK2.out.1 w1
        go_wp2_with fail
        refine hen.mono ?_
        rintro _ w2 ⟨q2, d2, rfl, hB2, hb2⟩
        clear hen hB2 x0 x1
        have hx2 := (hb2.block _ (Array.getElem?_eq_some_iff.1 H1.out.2.2.2.2).1).trans H1.out.2.2.2.2
        have x0 : w2.cell? ⟨w.heap.size, 0, none⟩ = some (.int .i64 N) := cell_row hx2 0 _ rfl
        have x1 : w2.cell? ⟨w.heap.size, 1, none⟩ = some (.string s) := cell_row hx2 1 _ rfl
        have hbw2 := grew_trans H1.out.2.1 hb2
        have hfi := rFind_ok p n c xs s w2 (HH.out.kept hbw2) hnc hc2
        rw [El_yes HM.out, HF.out] at hfi
        have hN0 : ¬ N = 0 := HK2.out.2
        have H2 : Hid _ := And.intro (H1.out.1.kept hb2) (And.intro hbw2 hx2)
        clear hb2 hbw2 hx2
        dsimp only
        go_wp2_with fail
        refine grew_at hfi ?_
        intro w3 hb3
        clear hfi x0 x1
        have hbw3 := grew_trans H2.out.2.1 hb3
        clear hb3
        dsimp only [Option.getD_some, Option.isSome_some]
        go_wp2_with fail
        go_ret3
        exact p3_nil hbw3 HT.out
      | none =>
        cases hr : (dec8 n xs).findIdx? emp with
        | none =>
          have hwi : wi n xs N s = ([], 0, 120) := by unfold wi; rw [if_pos hm, if_pos hk, El_yes hm, hf]; simp only; rw [hr]
          have HT : Hid _ := hwi
          have HF : Hid _ := hf
          have HK2 : Hid _ := hkt
          have HR : Hid _ := hr
          have HM : Hid _ := hm
          clear hwi hm hf hk hkt hr
          go_enter Try.func17, Try.ntmps17
          go_wp2_with fail
          refine hde.mono ?_
          rintro _ w1 ⟨v, rfl, hR, hb1⟩
          clear hde
          rw [El_yes HM.out] at hR
          rw [deX_yes HM.out]
          obtain ⟨g, cap, rfl, hg1, hg2, hgc, hgc2, hgr⟩ := er_shape hR (by rw [dec8_len]; omega)
          rw [dec8_len] at hgc
          have hx1 := (hb1.block _ (Array.getElem?_eq_some_iff.1 hx).1).trans hx
          have x0 : w1.cell? ⟨w.heap.size, 0, none⟩ = some (.int .i64 N) := cell_row hx1 0 _ rfl
          have x1 : w1.cell? ⟨w.heap.size, 1, none⟩ = some (.string s) := cell_row hx1 1 _ rfl
          have hgw : w.heap.size ≤ g := by simp at hg1; omega
          have H1 : Hid _ := And.intro hR (And.intro (grew_trans HB hb1) (And.intro hgw (And.intro hg2 hx1)))
          clear hR hb1 hg1 hg2 hgr hx1 hx hgw
          have hlen8 := dec8_len n xs
          dsimp only
          rw [hlen8]
          have hen := rencodeEntry_yes N s HK2.out.1 w1
          go_wp2_with fail
          refine hen.mono ?_
          rintro _ w2 ⟨q2, d2, rfl, hB2, hb2⟩
          clear hen hB2 x0 x1
          have hx2 := (hb2.block _ (Array.getElem?_eq_some_iff.1 H1.out.2.2.2.2).1).trans H1.out.2.2.2.2
          have x0 : w2.cell? ⟨w.heap.size, 0, none⟩ = some (.int .i64 N) := cell_row hx2 0 _ rfl
          have x1 : w2.cell? ⟨w.heap.size, 1, none⟩ = some (.string s) := cell_row hx2 1 _ rfl
          have hbw2 := grew_trans H1.out.2.1 hb2
          have hfi := rFind_ok p n c xs s w2 (HH.out.kept hbw2) hnc hc2
          rw [El_yes HM.out, HF.out] at hfi
          have hN0 : ¬ N = 0 := HK2.out.2
          have H2 : Hid _ := And.intro (H1.out.1.kept hb2) (And.intro hbw2 hx2)
          clear hb2 hbw2 hx2
          dsimp only
          go_wp2_with fail
          refine grew_at hfi ?_
          intro w3 hb3
          clear hfi x0 x1
          have hbw3 := grew_trans H2.out.2.1 hb3
          have hfr := rFree_ok p n c xs w3 (HH.out.kept hbw3) hnc hc2
          rw [El_yes HM.out, HR.out] at hfr
          have hx3 := (hb3.block _ (Array.getElem?_eq_some_iff.1 H2.out.2.2).1).trans H2.out.2.2
          have H3 : Hid _ := And.intro (H2.out.1.kept hb3) (And.intro hbw3 hx3)
          clear hb3 hbw3 hx3
          dsimp only [Option.getD_none, Option.isSome_none]
          go_wp2_with fail
          refine grew_at hfr ?_
          intro w4 hb4
          clear hfr
          have hbf := grew_trans H3.out.2.1 hb4
          clear hb4
          dsimp only [Option.getD_none, Option.isSome_none]
          go_wp2_with fail
          go_ret3
          exact p3_nil hbf HT.out
        | some k =>
          have hwi : wi n xs N s = (encL ((dec8 n xs).set k ⟨N, s⟩), k, 0) := by unfold wi; rw [if_pos hm, if_pos hk, El_yes hm, hf]; simp only; rw [hr]
          have hkl := (List.findIdx?_eq_some_iff_getElem.1 hr).1
          rw [dec8_len] at hkl
          have HT : Hid _ := hwi
          have HF : Hid _ := hf
          have HR : Hid _ := hr
          have HK2 : Hid _ := hkt
          have HKl : Hid _ := hkl
          have HM : Hid _ := hm
          clear hwi hm hf hk hkt hr hkl
          go_enter Try.func17, Try.ntmps17
          go_wp2_with fail
          refine hde.mono ?_
          rintro _ w1 ⟨v, rfl, hR, hb1⟩
          clear hde
          rw [El_yes HM.out] at hR
          rw [deX_yes HM.out]
          obtain ⟨g, cap, rfl, hg1, hg2, hgc, hgc2, hgr⟩ := er_shape hR (by rw [dec8_len]; omega)
          rw [dec8_len] at hgc
          have hx1 := (hb1.block _ (Array.getElem?_eq_some_iff.1 hx).1).trans hx
          have x0 : w1.cell? ⟨w.heap.size, 0, none⟩ = some (.int .i64 N) := cell_row hx1 0 _ rfl
          have x1 : w1.cell? ⟨w.heap.size, 1, none⟩ = some (.string s) := cell_row hx1 1 _ rfl
          have hgw : w.heap.size ≤ g := by simp at hg1; omega
          have H1 : Hid _ := And.intro hR (And.intro (grew_trans HB hb1) (And.intro hgw (And.intro hg2 hx1)))
          clear hR hb1 hg1 hg2 hgr hx1 hx hgw
          have hlen8 := dec8_len n xs
          dsimp only
          rw [hlen8]
          have hen := rencodeEntry_yes N s HK2.out.1 w1
          go_wp2_with fail
          refine hen.mono ?_
          rintro _ w2 ⟨q2, d2, rfl, hB2, hb2⟩
          clear hen hB2 x0 x1
          have hx2 := (hb2.block _ (Array.getElem?_eq_some_iff.1 H1.out.2.2.2.2).1).trans H1.out.2.2.2.2
          have x0 : w2.cell? ⟨w.heap.size, 0, none⟩ = some (.int .i64 N) := cell_row hx2 0 _ rfl
          have x1 : w2.cell? ⟨w.heap.size, 1, none⟩ = some (.string s) := cell_row hx2 1 _ rfl
          have hbw2 := grew_trans H1.out.2.1 hb2
          have hfi := rFind_ok p n c xs s w2 (HH.out.kept hbw2) hnc hc2
          rw [El_yes HM.out, HF.out] at hfi
          have hN0 : ¬ N = 0 := HK2.out.2
          have H2 : Hid _ := And.intro (H1.out.1.kept hb2) (And.intro hbw2 hx2)
          clear hb2 hbw2 hx2
          dsimp only
          go_wp2_with fail
          refine grew_at hfi ?_
          intro w3 hb3
          clear hfi x0 x1
          have hbw3 := grew_trans H2.out.2.1 hb3
          have hfr := rFree_ok p n c xs w3 (HH.out.kept hbw3) hnc hc2
          rw [El_yes HM.out, HR.out] at hfr
          have hx3 := (hb3.block _ (Array.getElem?_eq_some_iff.1 H2.out.2.2).1).trans H2.out.2.2
          have H3 : Hid _ := And.intro (H2.out.1.kept hb3) (And.intro hbw3 hx3)
          clear hb3 hbw3 hx3
          dsimp only [Option.getD_none, Option.isSome_none]
          go_wp2_with fail
          refine grew_at hfr ?_
          intro w4 hb4
          clear hfr
          have hkI : (k : Int) < 8 := by have := HKl.out; omega
          have hk0 : (0 : Int) ≤ (k : Int) := by omega
          have hR2 := H3.out.1.kept hb4
          have hx4 := (hb4.block _ (Array.getElem?_eq_some_iff.1 H3.out.2.2).1).trans H3.out.2.2
          have x0 : w4.cell? ⟨w.heap.size, 0, none⟩ = some (.int .i64 N) := cell_row hx4 0 _ rfl
          have x1 : w4.cell? ⟨w.heap.size, 1, none⟩ = some (.string s) := cell_row hx4 1 _ rfl
          obtain ⟨e0, he0⟩ : ∃ e, (dec8 n xs)[k]? = some e := ⟨_, List.getElem?_eq_getElem (by rw [dec8_len]; exact HKl.out)⟩
          obtain ⟨c0, c1⟩ := er_cells hR2 (by rw [hlen8]) k e0 he0
          obtain ⟨g', cap', hge, _, _, _, _, cs, hcs⟩ := er_shape hR2 (by rw [dec8_len]; omega)
          obtain ⟨rfl, rfl⟩ : g = g' ∧ cap = cap' := by
            injection hge with h1 h2 h3
            injection h1 with h1
            injection h1 with h1
            exact ⟨h1, h3⟩
          have f0 : w4.frozen? ⟨g, k * 2, none⟩ = false := unfrozen hcs _
          have f1 : w4.frozen? ⟨g, k * 2 + 1, none⟩ = false := unfrozen hcs _
          have hRs := er_set hR2 (k := k) (by rw [dec8_len]; exact HKl.out) ⟨N, s⟩
          have hbs := two_bel (grew_trans H3.out.2.1 hb4) H1.out.2.2.1 (k * 2) (k * 2 + 1) (.int .i64 N) (.string s)
          obtain ⟨q5, d5, hv5, hq1, hq2, hE5⟩ := hRs.ei (by rw [List.length_set, dec8_len]; omega)
          have hen := rEncode_ok q5 _ d5 _ _ hE5 hq1 hq2 (set_sz entsz hs)
          rw [← hv5, List.length_set, dec8_len] at hen
          rw [enB_set HM.out HK2.out.1 (fun _ => any_none HF.out)] at hen
          have H4 : Hid _ := hbs
          clear hcs hge hR2 hRs hbs hv5 hq1 hq2 hE5 hb4 he0 hx4
          dsimp only [Option.getD_some, Option.isSome_some]
          go_wp2_with fail
          refine hen.mono ?_
          rintro _ w6 ⟨q6, m6, d6, rfl, hB6, hb6⟩
          clear hen
          have HP : Hid _ := And.intro hB6 (grew_trans H4.out hb6)
          clear hB6 hb6 x0 x1 c0 c1 f0 f1
          dsimp only
          go_wp2_with fail
          go_ret3
          exact p3_some' HP.out.1 HP.out.2 HT.out
    · have hwi : wi n xs N s = ([], 0, 1) := by unfold wi; rw [if_pos hm, if_neg hk]
      have HT : Hid _ := hwi
      have HM : Hid _ := hm
      by_cases hmay : EMay N s
      · have h0 : N = 0 := by
          by_cases h0 : N = 0
          · exact h0
          · exact absurd (by unfold kd; rw [if_pos hmay, if_neg h0]) hk
        have HNK : Hid _ := And.intro hmay h0
        clear hwi hm hk hmay h0
        go_enter Try.func17, Try.ntmps17
        go_wp2_with fail
        refine hde.mono ?_
        rintro _ w1 ⟨v, rfl, hR, hb1⟩
        clear hde
        rw [El_yes HM.out] at hR
        rw [deX_yes HM.out]
        obtain ⟨g, cap, rfl, hg1, hg2, hgc, hgc2, hgr⟩ := er_shape hR (by rw [dec8_len]; omega)
        rw [dec8_len] at hgc
        have hx1 := (hb1.block _ (Array.getElem?_eq_some_iff.1 hx).1).trans hx
        have x0 : w1.cell? ⟨w.heap.size, 0, none⟩ = some (.int .i64 N) := cell_row hx1 0 _ rfl
        have x1 : w1.cell? ⟨w.heap.size, 1, none⟩ = some (.string s) := cell_row hx1 1 _ rfl
        have hgw : w.heap.size ≤ g := by simp at hg1; omega
        have H1 : Hid _ := And.intro hR (And.intro (grew_trans HB hb1) (And.intro hgw (And.intro hg2 hx1)))
        clear hR hb1 hg1 hg2 hgr hx1 hx hgw
        have hlen8 := dec8_len n xs
        dsimp only
        rw [hlen8]
        have hen := rencodeEntry_yes N s HNK.out.1 w1
        go_wp2_with fail
        refine hen.mono ?_
        rintro _ w2 ⟨q2, d2, rfl, hB2, hb2⟩
        clear hen hB2 x0 x1
        have hx2 := (hb2.block _ (Array.getElem?_eq_some_iff.1 H1.out.2.2.2.2).1).trans H1.out.2.2.2.2
        have x0 : w2.cell? ⟨w.heap.size, 0, none⟩ = some (.int .i64 0) := by have := cell_row hx2 0 _ rfl; rw [HNK.out.2] at this; exact this
        have hbf := grew_trans H1.out.2.1 hb2
        clear hb2 hx2
        dsimp only
        go_wp2_with fail
        go_ret3
        exact p3_nil hbf HT.out
      · have HNK : Hid _ := hmay
        clear hwi hm hk hmay
        go_enter Try.func17, Try.ntmps17
        go_wp2_with fail
        refine hde.mono ?_
        rintro _ w1 ⟨v, rfl, hR, hb1⟩
        clear hde
        rw [El_yes HM.out] at hR
        rw [deX_yes HM.out]
        obtain ⟨g, cap, rfl, hg1, hg2, hgc, hgc2, hgr⟩ := er_shape hR (by rw [dec8_len]; omega)
        rw [dec8_len] at hgc
        have hx1 := (hb1.block _ (Array.getElem?_eq_some_iff.1 hx).1).trans hx
        have x0 : w1.cell? ⟨w.heap.size, 0, none⟩ = some (.int .i64 N) := cell_row hx1 0 _ rfl
        have x1 : w1.cell? ⟨w.heap.size, 1, none⟩ = some (.string s) := cell_row hx1 1 _ rfl
        have hgw : w.heap.size ≤ g := by simp at hg1; omega
        have H1 : Hid _ := And.intro hR (And.intro (grew_trans HB hb1) (And.intro hgw (And.intro hg2 hx1)))
        clear hR hb1 hg1 hg2 hgr hx1 hx hgw
        have hlen8 := dec8_len n xs
        dsimp only
        rw [hlen8]
        have hen := rencodeEntry_no N s hs HNK.out w1
        go_wp2_with fail
        refine grew_at hen ?_
        intro w2 hb2
        clear hen x0 x1
        have hbf := grew_trans H1.out.2.1 hb2
        clear hb2
        dsimp only
        go_wp2_with fail
        go_ret3
        exact p3_nil hbf HT.out
  · have hwi : wi n xs N s = ([], 0, 6) := by unfold wi; rw [if_neg hm]
    have HT : Hid _ := hwi
    have HM : Hid _ := hm
    clear hwi hm
    go_enter Try.func17, Try.ntmps17
    go_wp2_with fail
    refine hde.mono ?_
    rintro _ w1 ⟨v, rfl, hR, hb1⟩
    clear hde
    rw [deX_no HM.out]
    have hbf := grew_trans HB hb1
    clear hR hb1
    dsimp only
    go_wp2_with fail
    go_ret3
    exact p3_nil hbf HT.out
end Go.Proofs.Ythfnldclpommlab
