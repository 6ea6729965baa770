/- DiskOf: the walk. -/
import Derived.Test.YtnbknoibelajaabDoesW
import Derived.Test.YtnbknoibelajaabPSpoil
import Derived.Test.YtnbknoibelajaabROf
import Derived.Test.YtnbknoibelajaabRCopy
namespace Go.Proofs.Ytnbknoibelajaab
open Go.RowKit Go.Maps

theorem IB.kept {w w' : World} {p : Option Addr} {n : Nat} {L : List (List Int)} (h : IB w p n L) (hb : Below w.heap.size w w') : IB w' p n L := by
  refine ⟨h.len, h.big, fun h0 => ?_⟩
  obtain ⟨b, o, rfl, hc⟩ := h.cells h0
  refine ⟨b, o, rfl, fun i xs hx => ?_⟩
  obtain ⟨q, m, c, hcell, hbi⟩ := hc i xs hx
  exact ⟨q, m, c, (hb.cell (p := ⟨b, o + i, none⟩) (lt_of_cell hcell)).trans hcell, hbi.kept hb⟩

theorem DI.base {B B' : Nat} {w : World} {a mb fb : Nat} {qv : Value} {S : St} (h : DI B w a mb fb qv S) (hB : B' ≤ B) : DI B' w a mb fb qv S :=
  { h with
    que := ownsRow_base h.que hB
    lo := ⟨Nat.le_trans hB h.lo.1, Nat.le_trans hB h.lo.2.1, Nat.le_trans hB h.lo.2.2⟩ }

theorem five_cells {w : World} {T : Nat} {a b c d e : Value} (h : w.heap[T]? = some (.cells #[a, b, c, d, e] 33 (0, 0))) : w.cell? ⟨T, 0, none⟩ = some a ∧ w.cell? ⟨T, 1, none⟩ = some b ∧ w.cell? ⟨T, 2, none⟩ = some c ∧ w.cell? ⟨T, 3, none⟩ = some d ∧ w.cell? ⟨T, 4, none⟩ = some e := by
  refine ⟨?_, ?_, ?_, ?_, ?_⟩
  · rw [cell_of_row _ T 0 _ _ _ h]; rfl
  · rw [cell_of_row _ T 1 _ _ _ h]; rfl
  · rw [cell_of_row _ T 2 _ _ _ h]; rfl
  · rw [cell_of_row _ T 3 _ _ _ h]; rfl
  · rw [cell_of_row _ T 4 _ _ _ h]; rfl

theorem PI.spot {B : Nat} {w : World} {v : Value} {n : Nat} {vs : List Value} {L : List (List Int)} (h : PI B w v n vs L) {k : Nat} (hk : ∃ (i : Nat) (u : Value), vs[i]? = some u ∧ u.ownBlock = some k) : B ≤ k ∧ k < w.heap.size := by
  obtain ⟨i, u, hu, hku⟩ := hk
  have hl := h.vlen
  have hll := h.len
  have hil := (List.getElem?_eq_some_iff.1 hu).1
  obtain ⟨q, m, d, eu, ho, _⟩ := h.el i u _ hu (List.getElem?_eq_getElem (by omega))
  rw [eu] at hku
  exact ho.lt k hku

theorem bad_not {L : List (List Int)} (h1 : ∀ xs ∈ L, xs.length = 128) (h2 : ∃ xs ∈ L, xs.length ≠ 128) : False := by
  obtain ⟨xs, hx, hn⟩ := h2
  exact hn (h1 xs hx)

set_option maxRecDepth 10000 in
set_option maxHeartbeats 4000000 in
theorem of_walk (ip : Option Addr) (m ic : Nat) (L : List (List Int)) (p : Option Addr) (n c : Nat) (D : List DoV) (w : World) (hI : IB w ip m L) (h24 : m * 24 ≤ 140737488355328) (h : DoI w p n D) :
    Calls Try.prog 4 #[.slice ip m ic, .slice p n c] w fun e w' => e = .returned (.bool true) ∧ Below w.heap.size w w' := by
  have hbig := h.big
  have hlen := h.len
  have hself : ∀ l : List (List Int), (l == l) = true := fun l => by simp
  go_enter Try.func4, Try.ntmps4
  go_wp2_with fail
  refine (pimage_ok ip m ic L w hI h24).mono ?_
  rintro e w1 ⟨v, vs, rfl, hp, hb1⟩
  obtain ⟨gp, gc, rfl, hib1⟩ := hp.ib (by omega)
  by_cases hr : m < 1 ∨ 2048 < m
  · have cs := sameImage_ok gp ip m gc m ic L L w1 hib1 (hI.kept hb1)
    rw [hself] at cs
    have CS := (show Hid _ from cs)
    clear cs hself
    go_wp2_with fail
    refine same_at (of_range gp m gc hr w1) ?_
    go_wp2_with fail
    refine same_at (rof_range ip m ic hr w1) ?_
    go_wp2_with fail
    refine same_at CS.out ?_
    go_wp2
    go_ret
    exact ⟨by first | rfl | exact ret_bool (by simp), hb1⟩
  · go_wp2_with fail
    refine (of_ok gp m gc L w1 hib1 (by omega) (by omega)).mono ?_
    rintro e w2 ⟨hb2, ⟨hgood, a, mb, fb, rfl, hd2⟩ | ⟨hbad, rfl⟩⟩
    · have hbw2 := hb1.trans (hb2.mono hb1.size)
      go_wp2_with fail
      refine (rof_ok ip m ic L w2 (hI.kept hbw2) (by omega) (by omega)).mono ?_
      rintro e w3 ⟨hb3, ⟨_, x, bv, fv, gB, rfl, hr3⟩ | ⟨hbad, rfl⟩⟩
      · have hd3 := hd2.later hb3
        have hbw3 := hbw2.trans (hb3.mono hbw2.size)
        have hb13 := hb2.trans (hb3.mono hb2.size)
        have hp3 := hp.kept (w' := w3) (fun k _ hk => hb13.block k hk)
        have cs := sameImage_ok gp ip m gc m ic L L w3 (hib1.kept hb13) (hI.kept hbw3)
        rw [hself] at cs
        have CS := (show Hid _ from cs)
        have CP := (show Hid _ from spoilImage_ok hp3 (by omega))
        clear cs hself
        go_wp2_with fail
        refine same_at CS.out ?_
        go_wp2_with fail
        refine Calls.mono CP.out ?_
        rintro e w4 ⟨⟨u4, rfl⟩, hf4⟩
        have hd4 : DI w.heap.size w4 a mb fb (.slice none 0 0) ⟨m, part L m, [], 0, fun _ => 0⟩ := (hd3.kept (w' := w4) (fun k hk => hf4.block k (hd3.in k hk).2 (fun e => by have := (hp.spot e).2; have := (hd3.in k hk).1; omega))).base hb1.size
        have hr4 : RI w.heap.size w4 x bv (.slice none 0 0) fv gB [] ⟨m, part L m, [], 0, fun _ => 0⟩ := (hr3.kept (w' := w4) (fun k hk => hf4.block k (hr3.in hk).2 (fun e => by have := (hp.spot e).2; have := (hr3.in hk).1; have := hb2.size; omega))).base hbw2.size
        have hb4 : Below w.heap.size w w4 := hbw3.trans (hf4.below hbw3.size (fun k hk => (hp.spot hk).1))
        clear CS CP hd2 hd3 hr3 hp hp3 hf4 hib1 hb1 hb2 hb3 hb13 hbw2 hbw3
        go_wp2_with fail
        go_loopw [48] (fun i wr => ∃ (j : Nat) (dq qv fv : Value) (gB gQ : List (Nat × Nat)) (S : St), j ≤ n ∧ i = .int .i64 (j : Int) ∧ DI w.heap.size wr a mb fb dq S ∧ RI w.heap.size wr x bv qv fv gB gQ S ∧ S.last ≤ j ∧ Below w.heap.size w wr) (fun i _ => n - (intOf i).toNat)
        case atStart => exact ⟨0, _, _, _, _, _, _, by omega, rfl, hd4, hr4, Int.le_refl _, hb4⟩
        case round =>
          clear hd4 hr4 hb4
          obtain ⟨j, dq, qv, fv, gB, gQ, S, hj, rfl, hd, hr, hl, hb⟩ := hrel
          by_cases hlt : j < n
          · obtain ⟨bb, oo, rfl, hat⟩ := h.cells (by omega)
            obtain ⟨k, hk⟩ : ∃ k, D[j]? = some k := ⟨D[j], List.getElem?_eq_getElem (by omega)⟩
            obtain ⟨k0, k1, k2, ⟨xp, xm, xc, k3, x1, x2, x3⟩, ⟨yp, ym, yc, k4, y1, y2, y3⟩, r0, r1, r2⟩ := hat j k hk
            have hbl := lt_of_cell k0
            have e0 := (hb.cell (p := ⟨bb, oo + j * 5, none⟩) hbl).trans k0
            have e1 := (hb.cell (p := ⟨bb, oo + j * 5 + 1, none⟩) hbl).trans k1
            have e2 := (hb.cell (p := ⟨bb, oo + j * 5 + 2, none⟩) hbl).trans k2
            have e3 := (hb.cell (p := ⟨bb, oo + j * 5 + 3, none⟩) hbl).trans k3
            have e4 := (hb.cell (p := ⟨bb, oo + j * 5 + 4, none⟩) hbl).trans k4
            clear k0 k1 k2 k3 k4 hat
            have hS := hd.ok
            have hjI : (j : Int) < (n : Int) := by omega
            have ba := (Below.refl wr.heap.size wr).alloc (Nat.le_refl _) (.cells #[.int .i64 k.op, .int .i64 k.b, .int .i64 k.n, .slice xp xm xc, .slice yp ym yc] 33)
            have hT5 : (wr.alloc (.cells #[.int .i64 k.op, .int .i64 k.b, .int .i64 k.n, .slice xp xm xc, .slice yp ym yc] 33)).heap[wr.heap.size]? = some (.cells #[.int .i64 k.op, .int .i64 k.b, .int .i64 k.n, .slice xp xm xc, .slice yp ym yc] 33 (0, 0)) := at_new rfl
            have hs5 : (wr.alloc (.cells #[.int .i64 k.op, .int .i64 k.b, .int .i64 k.n, .slice xp xm xc, .slice yp ym yc] 33)).heap.size = wr.heap.size + 1 := by simp
            go_wp2_with fail
            generalize wr.alloc (.cells #[.int .i64 k.op, .int .i64 k.b, .int .i64 k.n, .slice xp xm xc, .slice yp ym yc] 33) = w5 at ba hT5 hs5 ⊢
            have HS5 := (show Hid _ from hs5)
            clear hs5 e0 e1 e2 e3 e4
            have hd5 := hd.later ba
            have hr5 := hr.later ba
            have hb5 := hb.trans (ba.mono hb.size)
            refine (copy_ok hd5).mono ?_
            rintro e w6 ⟨a', mb', fb', dq', rfl, hc6, hb6⟩
            have hr6 := hr5.later hb6
            go_wp2_with fail
            refine (rcopy_ok hr6 hS).mono ?_
            rintro e w7 ⟨x', bv', qv', fv', gB', gQ', rfl, hy7, hb7⟩
            have hc7 := hc6.later hb7
            go_wp2_with fail
            refine (same_ok hc7 hy7).mono ?_
            rintro e w8 ⟨rfl, hb8⟩
            have hc8 := hc7.later hb8
            have hy8 := hy7.later hb8
            have hd8 := ((hd5.later hb6).later hb7).later hb8
            have hr8 := (hr6.later hb7).later hb8
            have b58 := (hb6.trans (hb7.mono hb6.size)).trans (hb8.mono (Nat.le_trans hb6.size hb7.size))
            have hbw8 := hb5.trans (b58.mono hb5.size)
            have hT8 : w8.heap[wr.heap.size]? = _ := (b58.block wr.heap.size (Array.getElem?_eq_some_iff.1 hT5).1).trans hT5
            obtain ⟨t0, t1, t2, t3, t4⟩ := five_cells hT8
            have CD := (show Hid _ from does_ok hd8 hr8 hbw8 k xp xm xc x3 yp ym yc y3 (by omega))
            go_wp2_with fail
            refine Calls.mono CD.out ?_
            rintro e w9 ⟨dq9, qv9, fv9, gB9, gQ9, S9, rfl, hd9, hr9, hl9, hb9, hx9, hdn9, hrn9⟩
            clear CD t0 t1 t2 t3 t4
            have low : ∀ i, foot a mb fb dq i ∨ rfoot x bv qv fv i → i < wr.heap.size := fun i hi => by
              rcases hi with hi | hi
              · exact (hd.in i hi).2
              · exact (hr.in (.inl hi)).2
            have low2 : ∀ i, rfoot x bv qv fv i ∨ rrows gB gQ i → i < wr.heap.size := fun i hi => (hr.in hi).2
            have hs6 := hb6.size
            have hs57 := Nat.le_trans hb6.size hb7.size
            have hs58 := b58.size
            have hc9 := hc8.kept (w' := w9) (fun i hi => hx9.block i (hc8.in i hi).2 (fun e => by have := low i e; have := (hc8.in i hi).1; have := HS5.out; omega))
            have hy9 := hy8.kept (w' := w9) (fun i hi => hx9.block i (hy8.in hi).2 (fun e => by have := low i e; have := (hy8.in hi).1; have := HS5.out; omega))
            have hT9 : w9.heap[wr.heap.size]? = _ := (hx9.block wr.heap.size (Array.getElem?_eq_some_iff.1 hT8).1 (fun e => by have := low _ e; omega)).trans hT8
            go_wp2_with fail
            refine (same_ok hd9 hr9).mono ?_
            rintro e w10 ⟨rfl, hb10⟩
            have hd10 := hd9.later hb10
            have hr10 := hr9.later hb10
            have hc10 : DI w.heap.size w10 a' mb' fb' dq' S := (hc9.later hb10).base (Nat.le_trans hb.size (by have := HS5.out; omega))
            have hy10 : RI w.heap.size w10 x' bv' qv' fv' gB' gQ' S := (hy9.later hb10).base (Nat.le_trans hb.size (by have := HS5.out; omega))
            have hT10 : w10.heap[wr.heap.size]? = _ := (hb10.block wr.heap.size (Array.getElem?_eq_some_iff.1 hT9).1).trans hT9
            have hbw10 := hb9.trans (hb10.mono hb9.size)
            obtain ⟨t0, t1, t2, t3, t4⟩ := five_cells hT10
            have CD := (show Hid _ from does_ok hc10 hy10 hbw10 k xp xm xc x3 yp ym yc y3 (by omega))
            go_wp2_with fail
            refine Calls.mono CD.out ?_
            rintro e w11 ⟨dq11, qv11, fv11, gB11, gQ11, S11, rfl, hd11, hr11, hl11, hb11, hx11, _, _⟩
            clear CD t0 t1 t2 t3 t4
            have mid : ∀ i, foot a' mb' fb' dq' i ∨ rfoot x' bv' qv' fv' i → wr.heap.size < i ∧ i < w8.heap.size := fun i hi => by
              have := HS5.out
              rcases hi with hi | hi
              · have := hc8.in i hi; omega
              · have := hy8.in (k := i) (.inl hi); omega
            have hdE := hd10.kept (w' := w11) (fun i hi => hx11.block i (hd10.in i hi).2 (fun e => by
              have h1 := mid i e
              rcases hdn9 i hi with h' | h'
              · have := low i h'; omega
              · omega))
            have hrE := hr10.kept (w' := w11) (fun i hi => hx11.block i (hr10.in hi).2 (fun e => by
              have h1 := mid i e
              rcases hrn9 i hi with h' | h'
              · have := low2 i h'; omega
              · omega))
            go_wp2_with fail
            refine (same_ok hd11 hr11).mono ?_
            rintro e w12 ⟨rfl, hb12⟩
            have hdF := hdE.later hb12
            have hrF := hrE.later hb12
            have hbF := hb11.trans (hb12.mono hb11.size)
            clear hd hr hd5 hr5 hr6 hc6 hc7 hy7 hc8 hy8 hd8 hr8 hd9 hr9 hc9 hy9 hd10 hr10 hc10 hy10 hd11 hr11 hdE hrE hT5 hT8 hT9 hT10
            go_wp2
            go_roundw
            case rel => exact ⟨j + 1, _, _, _, _, _, _, by omega, by go_num, hdF, hrF, by omega, hbF⟩
            case measure => simp [intOf]; omega
          · obtain rfl : n = j := by omega
            go_wp2_with fail
            refine (same_ok hd hr).mono ?_
            rintro e w5 ⟨rfl, hb5⟩
            go_wp2
            go_ret
            exact ⟨by first | rfl | exact ret_bool (by simp), hb.trans (hb5.mono hb.size)⟩
      · exact (bad_not hgood hbad).elim
    · have hbw2 := hb1.trans (hb2.mono hb1.size)
      go_wp2_with fail
      refine (rof_ok ip m ic L w2 (hI.kept hbw2) (by omega) (by omega)).mono ?_
      rintro e w3 ⟨hb3, ⟨hgood, _⟩ | ⟨_, rfl⟩⟩
      · exact (bad_not hgood hbad).elim
      · have hbw3 := hbw2.trans (hb3.mono hbw2.size)
        have hb13 := hb2.trans (hb3.mono hb2.size)
        have cs := sameImage_ok gp ip m gc m ic L L w3 (hib1.kept hb13) (hI.kept hbw3)
        rw [hself] at cs
        have CS := (show Hid _ from cs)
        clear cs hself
        go_wp2_with fail
        refine same_at CS.out ?_
        go_wp2
        go_ret
        exact ⟨by first | rfl | exact ret_bool (by simp), hbw3⟩
end Go.Proofs.Ytnbknoibelajaab
