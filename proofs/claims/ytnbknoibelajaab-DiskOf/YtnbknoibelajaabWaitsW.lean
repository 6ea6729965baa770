/- DiskWaits: the walk. -/
import Derived.Test.YtnbknoibelajaabWaits
namespace Go.Proofs.Ytnbknoibelajaab
open Go.RowKit Go.Maps

section
variable {B : Nat} {w : World} {a mb fb : Nat} {qv : Value} {S : St}
theorem queue_zero (h : DI B w a mb fb qv S) (h0 : S.q = []) : Calls Try.prog 20 #[.pointer (some ⟨a, 0, none⟩)] w fun e w' => ∃ g, e = .returned (.slice (some ⟨g, 0, none⟩) 0 0) ∧ Below w.heap.size w w' :=
  (queue_ok h).mono fun e w' ⟨g, gs, he, _, hb⟩ => ⟨g, by rw [he, h0]; rfl, hb⟩
theorem image_is (h : DI B w a mb fb qv S) {F : Nat → List Int} {M : Nat} (hF : S.f = F) (hM : S.N = M) : Calls Try.prog 21 #[.pointer (some ⟨a, 0, none⟩)] w fun e w' => ∃ g gs, e = .returned (.slice (some ⟨g, 0, none⟩) M M) ∧ Img w.heap.size w' g M gs F ∧ Below w.heap.size w w' := by
  subst hF
  subst hM
  exact image_ok h
end

set_option maxRecDepth 10000 in
set_option maxHeartbeats 4000000 in
theorem waits_walk (blocks : Int) (p : Option Addr) (n c : Nat) (D : List DoV) (w : World) (h : DoI w p n D) :
    Calls Try.prog 5 #[.int .i64 blocks, .slice p n c] w fun e w' => e = .returned (.bool true) ∧ Below w.heap.size w w' := by
  obtain ⟨i0, hi, hz0, hz1, hz2⟩ := info_parts info5
  obtain ⟨i3, hi3, hy0, hy1, hy2⟩ := info_parts info3
  have hbig := h.big
  go_enter Try.func5, Try.ntmps5
  go_wp2_with fail
  refine (script_ok blocks p n c D w h).mono ?_
  rintro e w1 ⟨a, mb, fb, qv, S, N, rfl, hd, hsc, hpos, hb1⟩
  clear h
  have hN2 := hd.N2
  have hN1 := hd.N1
  have hq64 := hd.q64
  by_cases hn : 0 < n
  case' pos =>
    have hq0 : ¬ (S.q.length : Int) = 0 := by have := hpos hn; omega
    have hnI : (0 : Int) < (n : Int) := by omega
    clear hpos
    go_wp2_with fail
    refine (queue_ok hd).mono ?_
    rintro e wq ⟨gq0, gsq0, rfl, _, hbq⟩
    have hdq := hd.later hbq
    have hb1q := hb1.trans (hbq.mono hb1.size)
    clear hd hb1 hbq
  case' neg =>
    obtain rfl : n = 0 := by omega
    have hdq := hd
    have hb1q := hb1
    clear hd hb1 hpos
  all_goals
    go_wp2_with fail
    refine (image_ok hdq).mono ?_
    rintro e w2 ⟨gw, gsw, rfl, him, hb2⟩
    have hd2 := hdq.later hb2
    have hb12 := hb1q.trans (hb2.mono hb1q.size)
    clear hdq hb1q hb2
    obtain ⟨M, hM⟩ : ∃ M, M = S.N := ⟨_, rfl⟩
    rw [← hM] at him hN1 hN2 ⊢
    have HM := (show Hid (M = S.N) from hM)
    clear hM
    have hMI : (1 : Int) ≤ (M : Int) := by omega
    go_wp2_with fail
    go_loopw [31] (fun i wr => ∃ j : Nat, j ≤ M ∧ i = .int .i64 (j : Int) ∧ Below w2.heap.size w2 wr) (fun i _ => M - (intOf i).toNat)
    case atStart => exact ⟨0, by omega, rfl, Below.refl _ _⟩
    case round =>
      obtain ⟨j, hj, rfl, hb⟩ := hrel
      by_cases hlt : j < M
      · have him3 := him.kept (w' := wr) (fun k _ hk => hb.block k hk)
        have hl := him3.len
        have hcell : wr.cell? ⟨gw, j, none⟩ = some (sl (gsw.getD j 0)) := by
          rw [him3.row.cellAt j (by omega), List.getElem?_map, List.getD_eq_getElem?_getD, List.getElem?_eq_getElem (by omega)]
          rfl
        have hel := him3.el j hlt
        generalize gsw.getD j 0 = g' at hcell hel
        unfold sl at hcell
        have hjI : (j : Int) < (M : Int) := by omega
        go_wp2_with (at_make; refine wpList_make_full _ rfl _ _ 30 rfl wr.heap.size 5 i0 (.int .u8 0) 1 Try.underlying30 hi hz0 hz1 .i64 .i64 _ _ 128 rfl rfl (by omega) (by omega) (by rw [hz2]; omega) (by unfold maxLen; omega) (Nat.le_refl _) ?_; intro w3 hown3 hgrow3; have hb3 := (Below.refl wr.heap.size wr).grown hgrow3 (Nat.le_refl _) (by intro k hk; cases hk); clear hgrow3)
        have ho3 : Own wr.heap.size w3 wr.heap.size 128 128 zer := by
          rw [made_list _ _ rfl] at hown3
          unfold Own zer
          rw [List.map_replicate]
          exact hown3
        have hbi1 := (hel.kept hb3).bi (by omega) (hd2.secs.all j).2
        have hbi2 := ho3.bi (by omega) sect_zer.2
        rw [hsc.f] at hbi1
        have heq := equal_any _ _ 128 128 128 128 zer zer w3 hbi1 hbi2
        rw [show (zer == zer) = true by simp] at heq
        refine same_at heq ?_
        clear heq hbi1 hbi2 ho3 hown3 hel hcell him3
        go_wp2
        go_roundw
        case rel => exact ⟨j + 1, by omega, by go_num, hb.trans (hb3.mono hb.size)⟩
        case measure => simp [intOf]; omega
      · obtain rfl : M = j := by omega
        have hd4 := hd2.later hb
        have hb4 := hb12.trans (hb.mono hb12.size)
        clear hd2 hb12 him hb
        go_wp2_with fail
        refine (copy_ok hd4).mono ?_
        rintro e w5 ⟨a', mb', fb', qv', rfl, hc5, hb5⟩
        have hd5 := hd4.later hb5
        go_wp2_with fail
        refine (queue_ok hd5).mono ?_
        rintro e w6 ⟨gq, gsq, rfl, hsq, hb6⟩
        have hat : Wt w wr w5 w6 a mb fb qv S a' mb' fb' gq gsq 0 0 qv' S (.slice none 0 0) :=
          { d := hd5.later hb6, df := fun k hk => (hd4.in k hk).2, c := hc5.later hb6, cf := fun k hk => (hc5.in k hk).2, sq := rfl, sn := rfl, sf := rfl, sents := hsq, ids := World.ownsRow_nil _ _ _ _, bw := (hb4.trans (hb5.mono hb4.size)).trans (hb6.mono (Nat.le_trans hb4.size hb5.size)), b5 := hb6.size, b4 := hb5.size, b0 := hb4.size }
        clear hd4 hd5 hc5 hsq hb5 hb6 hb4
        have hids := hsc.ids
        have hsn := hsc.n
        clear hsc
        obtain ⟨L, hL⟩ : ∃ L, L = S.q.length := ⟨_, rfl⟩
        rw [← hL] at hq64 ⊢
        have HL := (show Hid (L = S.q.length) from hL)
        clear hL
        obtain ⟨w4, rfl⟩ : ∃ w4, w4 = wr := ⟨_, rfl⟩
        go_wp2_with fail
        go_loopw [9, 45] (fun v i wr => ∃ (j : Nat) (qv' : Value) (S' : St) (u : Value), j ≤ L ∧ i = .int .i64 (j : Int) ∧ u = v ∧ Wt w w4 w5 wr a mb fb qv S a' mb' fb' gq gsq j j qv' S' u) (fun _ i _ => L - (intOf i).toNat)
        case atStart => exact ⟨0, _, _, _, by omega, rfl, rfl, hat⟩
        case round =>
          clear hat
          obtain ⟨j, qv', S', v, hj, rfl, rfl, hat⟩ := hrel
          by_cases hlt : j < L
          · obtain ⟨x, hx⟩ : ∃ x, S.q[j]? = some x := ⟨S.q[j]'(by have := HL.out; omega), List.getElem?_eq_getElem (by have := HL.out; omega)⟩
            obtain ⟨s0, s1, s2⟩ := hat.sents.at hx
            obtain ⟨fz, fx⟩ := find_zero hx
            rw [← hat.sq] at fz fx
            generalize gsq.getD j 0 = g' at s2
            unfold sl at s2
            have hjI : (j : Int) < (L : Int) := by omega
            have hb6 := (Below.refl wr.heap.size wr).alloc (Nat.le_refl _) (.cells #[.int .i64 x.id, .int .i64 (x.block : Int), .slice (some ⟨g', 0, none⟩) 128 128] 52)
            have hat6 := hat.later hb6
            have hT6 : (wr.alloc (.cells #[.int .i64 x.id, .int .i64 (x.block : Int), .slice (some ⟨g', 0, none⟩) 128 128] 52)).heap[wr.heap.size]? = some (.cells #[.int .i64 x.id, .int .i64 (x.block : Int), .slice (some ⟨g', 0, none⟩) 128 128] 52 (0, 0)) := at_new rfl
            have hs6 : (wr.alloc (.cells #[.int .i64 x.id, .int .i64 (x.block : Int), .slice (some ⟨g', 0, none⟩) 128 128] 52)).heap.size = wr.heap.size + 1 := by simp
            have c60 : (wr.alloc (.cells #[.int .i64 x.id, .int .i64 (x.block : Int), .slice (some ⟨g', 0, none⟩) 128 128] 52)).cell? ⟨wr.heap.size, 0, none⟩ = some (.int .i64 x.id) := by rw [cell_of_row _ _ 0 _ _ _ hT6]; rfl
            have hvT : ∀ k, v.ownBlock = some k → k < wr.heap.size := fun k hk => (hat.ids.lt k hk).2
            generalize hw6 : wr.alloc (.cells #[.int .i64 x.id, .int .i64 (x.block : Int), .slice (some ⟨g', 0, none⟩) 128 128] 52) = w6 at hb6 hat6 hT6 c60 hs6
            have hb7 := (Below.refl w6.heap.size w6).alloc (Nat.le_refl _) (.cells #[.int .i64 x.id] 3)
            have hat7 := hat6.later hb7
            have hT7 := (hb7.block wr.heap.size (by omega)).trans hT6
            have h5 := hat6.b5
            have c70 : (w6.alloc (.cells #[.int .i64 x.id] 3)).cell? ⟨w6.heap.size, 0, none⟩ = some (.int .i64 x.id) := by rw [cell_of_row _ w6.heap.size 0 _ _ _ (at_new rfl)]; rfl
            obtain ⟨LL, HLL⟩ : ∃ LL, Hid (((S.q.take j).map Wr.id).map (Value.int .i64) = LL) := ⟨_, rfl⟩
            have hl7 := hat7.ids
            rw [HLL.out] at hl7
            have H6 := (show Hid (w6.heap.size = wr.heap.size + 1) from hs6)
            clear hs6
            go_wp2_with (at_builtin; refine wpList_append_own _ rfl _ _ 31 rfl w5.heap.size 3 i3 (.int .i64 0) 1 8 Try.underlying31 hi3 hy0 hy1 hy2 rfl (by decide) v j LL rfl hl7 ⟨w6.heap.size, 0, none⟩ 1 1 [.int .i64 x.id] rfl rfl ?c2 ?c3 ?c4 ?c5 ?c6 ?_)
            case c2 =>
              intro i u hu
              obtain rfl : i = 0 := by have := (List.getElem?_eq_some_iff.1 hu).1; simpa using this
              cases hu
              exact c70
            case c3 => intro u hu; simp at hu; subst hu; rfl
            case c4 => unfold maxLen; omega
            case c5 => omega
            case c6 => simp only [World.size_alloc]; omega
            intro v8 w8 hown8 hgrow8 hnil8
            rw [← HLL.out] at hown8
            have hat8 := hat7.app hx hown8 hgrow8
            have hT8 : w8.heap[wr.heap.size]? = _ := (hgrow8.block wr.heap.size (by simp only [World.size_alloc]; have := H6.out; omega) (fun e => by have := hvT _ e.symm; omega)).trans hT7
            have c80 := cell_of_row w8 wr.heap.size 0 _ _ _ hT8
            simp at c80
            have cc := complete_some hat8.c x.id true 0 x fz fx
            have HC := (show Hid _ from cc)
            clear hl7 cc hown8 hgrow8 hnil8 hT8 hT7 hat7 c70 hb7 hat6 hb6 hT6 c60 s0 s1 s2 hat
            go_wp2_with fail
            refine Calls.mono HC.out ?_
            rintro e w9 ⟨qv9, rfl, hd9, hf9, ho9⟩
            have hat9 := hat8.step hx hd9 hf9 ho9
            clear HC hd9 hf9 ho9 hat8 c80
            go_wp2
            go_roundw
            case rel => exact ⟨j + 1, qv9, _, _, by omega, by go_num, rfl, hat9⟩
            case measure => simp [intOf]; omega
          · obtain rfl : j = L := by omega
            have hidr := hat.ids
            have hcf := hat.sf
            have hcq := hat.sq
            rw [List.take_of_length_le (by have := HL.out; omega)] at hidr hcf
            rw [List.drop_of_length_le (by have := HL.out; omega)] at hcq
            obtain ⟨ip, ic, rfl, hI, hIlo⟩ := ids_ii hidr (by omega) (fun y hy => by
              obtain ⟨x, hx, rfl⟩ := List.mem_map.1 hy
              exact (hat.d.qok x hx).2.2)
            have hcr := crash_ok hat.d ip j ic (S.q.map Wr.id) hI (fun k hk b o hp _ e => by
              have h1 := hIlo b o hp
              have h2 := hat.df k hk
              have h3 := hat.b4
              omega) (fun id hid => by
              obtain ⟨x, hx, rfl⟩ := List.mem_map.1 hid
              obtain ⟨i, hi⟩ := List.mem_iff_getElem?.1 hx
              exact ⟨i, idx_at hids hi⟩)
            rw [crash_part hids S.q S.f (fun _ hx => hx)] at hcr
            have HC := (show Hid _ from hcr)
            clear hcr hidr hIlo
            go_wp2_with fail
            refine Calls.mono HC.out ?_
            rintro e w8 ⟨rfl, hd8, hf8⟩
            have hb8 : Below w.heap.size w w8 := hat.bw.trans (hf8.below hat.bw.size (fun k hk => (hat.d.in k hk).1))
            have hc8 := hat.c.kept (w' := w8) (fun k hk => hf8.block k (hat.c.in k hk).2 (fun hx => by have := hat.df k hx; have := (hat.c.in k hk).1; omega))
            have hsn8 := hat.sn.trans HM.out.symm
            clear HC hat hf8 hI
            go_wp2_with fail
            refine (image_is hd8 rfl HM.out.symm).mono ?_
            rintro e w9 ⟨g9, gs9, rfl, him9, hb9⟩
            have hd9 := hd8.later hb9
            have hc9 := hc8.later hb9
            clear hd8 hc8
            go_wp2_with fail
            refine (image_is hc9 hcf hsn8).mono ?_
            rintro e w10 ⟨g10, gs10, rfl, him10, hb10⟩
            have hd10 := hd9.later hb10
            have hc10 := hc9.later hb10
            have i1 := (him9.kept (w' := w10) (fun k _ hk => hb10.block k hk)).ib (by omega) (fun i _ => (hd10.secs.all i).2)
            have i2 := him10.ib (by omega) (fun i _ => (hd10.secs.all i).2)
            have hsame := sameImage_ok _ _ _ M _ M _ _ w10 i1 i2
            rw [show ∀ l : List (List Int), (l == l) = true from fun l => by simp] at hsame
            have HS := (show Hid _ from hsame)
            clear hsame i1 i2 him9 him10 hd9 hc9
            go_wp2_with fail
            refine same_at HS.out ?_
            go_wp2_with fail
            refine (queue_zero hd10 rfl).mono ?_
            rintro e w11 ⟨g11, rfl, hb11⟩
            have hc11 := hc10.later hb11
            go_wp2_with fail
            refine (queue_zero hc11 hcq).mono ?_
            rintro e w12 ⟨g12, rfl, hb12⟩
            have hbw : Below w.heap.size w w12 := (((hb8.trans (hb9.mono hb8.size)).trans (hb10.mono (Nat.le_trans hb8.size hb9.size))).trans (hb11.mono (Nat.le_trans hb8.size (Nat.le_trans hb9.size hb10.size)))).trans (hb12.mono (Nat.le_trans hb8.size (Nat.le_trans hb9.size (Nat.le_trans hb10.size hb11.size))))
            clear hd10 hc10 hc11 HS hb9 hb10 hb11 hb12
            go_wp2
            go_ret
            exact ⟨by first | rfl | exact ret_bool (by simp), hbw⟩
end Go.Proofs.Ytnbknoibelajaab
