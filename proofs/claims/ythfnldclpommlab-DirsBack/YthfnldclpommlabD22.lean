/- DirsBack's walk. -/
import Derived.Test.YthfnldclpommlabD21
namespace Go.Proofs.Ythfnldclpommlab
open Go.RowKit
set_option linter.unusedVariables false

theorem EI.take {w : World} {p : Option Addr} {n : Nat} {L : List En} (h : EI w p n L) (k : Nat) (hk : k ≤ n) : EI w p k (L.take k) := by
  refine ⟨by rw [List.length_take]; have := h.len; omega, by have := h.big; omega, fun h0 => ?_⟩
  obtain ⟨b, o, rfl, hc⟩ := h.cells (by omega)
  refine ⟨b, o, rfl, fun i e he => hc i e ?_⟩
  rw [List.getElem?_take] at he
  split at he
  · exact he
  · cases he
theorem wi_ok {n : Nat} {xs : List Int} {N : Int} {s : ByteArray} (hm : mayB n xs) (h : (wi n xs N s).2.2 = 0) : (EMay N s ∧ N ≠ 0) ∧ (dec8 n xs).findIdx? (hit s) = none ∧ ∃ k, (dec8 n xs).findIdx? emp = some k ∧ (wi n xs N s).1 = encL ((dec8 n xs).set k ⟨N, s⟩) := by
  unfold wi at h ⊢
  rw [if_pos hm] at h ⊢
  rw [El_yes hm] at h ⊢
  split at h
  · rename_i hk
    rw [if_pos hk]
    cases hf : (dec8 n xs).findIdx? (hit s) with
    | some k => rw [hf] at h; cases h
    | none =>
      rw [hf] at h
      simp only at h ⊢
      cases hr : (dec8 n xs).findIdx? emp with
      | none => rw [hr] at h; cases h
      | some k => exact ⟨kd_two hk, trivial, k, rfl, rfl⟩
  · cases h

set_option maxRecDepth 20000 in
set_option maxHeartbeats 4000000 in
theorem dirsBack_walk (p : Option Addr) (n c : Nat) (L : List En) (N : Int) (s : ByteArray) (w : World) (h : EI w p n L) (hnc : n ≤ c) (hc2 : c ≤ 9223372036854775807) (hsz : ∀ e ∈ L, e.s.size ≤ 140737488355328) (hs : s.size ≤ 140737488355328) :
    Calls Try.prog 6 #[.slice p n c, entV N s] w fun e w' => e = .returned (.bool true) ∧ Below w.heap.size w w' := by
  have HB := grew_alloc w (entO N s)
  have hx := heap_new w (entO N s)
  have hen := Encode_c p n c L (w.alloc (entO N s)) (h.kept HB) hsz
  have hlen := h.len
  by_cases hM : mayE L
  · have hE : enE L = 0 := by unfold enE; rw [if_pos hM]
    have hBt : enB L = encL (pad L) := by unfold enB; rw [if_pos hM]
    have hn8 : n ≤ 8 := by have := hM.1; omega
    rw [hE, hBt] at hen
    have HH : Hid _ := And.intro h (And.intro hM (And.intro hE hBt))
    clear hM hE hBt h
    go_enter Try.func6, Try.ntmps6
    go_wp2_with fail
    refine hen.mono ?_
    rintro _ w1 ⟨q1, m1, d1, rfl, hB1, hb1, hmd1, hd1⟩
    clear hen
    have hm1 : m1 = 128 := by have h1 := hB1.len; rw [encL_len _ (pad_may HH.out.2.1.2.2), pad_len HH.out.2.1.1] at h1; omega
    subst hm1
    have hbw1 := grew_trans HB hb1
    have hx1 := (hb1.block _ (Array.getElem?_eq_some_iff.1 hx).1).trans hx
    have hre := rEncode_ok p n c L w1 (HH.out.1.kept hbw1) hnc hc2 hsz
    rw [HH.out.2.2.1] at hre
    have H1 : Hid _ := And.intro hB1 (And.intro hbw1 hx1)
    clear hB1 hb1 hbw1 hx1 hx HB
    dsimp only
    go_wp2_with fail
    refine hre.mono ?_
    rintro _ w2 ⟨q2, m2, d2, rfl, hB2, hb2⟩
    clear hre hB2
    have hB12 := H1.out.1.kept hb2
    have hde := Decode_ok q1 128 d1 _ w2 hB12 hmd1 hd1
    have hx2 := (hb2.block _ (Array.getElem?_eq_some_iff.1 H1.out.2.2).1).trans H1.out.2.2
    have H2 : Hid _ := And.intro hB12 (And.intro (grew_trans H1.out.2.1 hb2) hx2)
    clear hB12 hb2 hx2
    dsimp only
    go_wp2_with fail
    refine hde.mono ?_
    rintro _ w3 ⟨q3, m3, d3, rfl, hE3, hb3, hmd3, hd3⟩
    clear hde
    rw [back_El HH.out.2.1] at hE3
    rw [deX_yes (back_may HH.out.2.1)]
    have hm3 : m3 = 8 := by have h1 := hE3.len; rw [pad_len HH.out.2.1.1] at h1; omega
    subst hm3
    have hT : (pad L).take n = L := by unfold pad; rw [List.take_append_of_le_length (by omega), List.take_of_length_le (by omega)]
    have hE3' := hE3.take n hn8
    rw [hT] at hE3'
    have hbw3 := grew_trans H2.out.2.1 hb3
    have heq := eequal_same q3 p n n d3 c L w3 hE3' (HH.out.1.kept hbw3)
    have hx3 := (hb3.block _ (Array.getElem?_eq_some_iff.1 H2.out.2.2).1).trans H2.out.2.2
    have H3 : Hid _ := And.intro (H2.out.1.kept hb3) (And.intro hbw3 hx3)
    have hnd3 : (n : Int) ≤ (d3 : Int) := by omega
    clear hE3 hE3' hT hbw3 hb3 hx3
    dsimp only
    go_wp2_with fail
    refine grew_at heq ?_
    intro w4 hb4
    clear heq
    have hB4 := H3.out.1.kept hb4
    have hbw4 := grew_trans H3.out.2.1 hb4
    have hx4 := (hb4.block _ (Array.getElem?_eq_some_iff.1 H3.out.2.2).1).trans H3.out.2.2
    have x0 : w4.cell? ⟨w.heap.size, 0, none⟩ = some (.int .i64 N) := cell_row hx4 0 _ rfl
    have x1 : w4.cell? ⟨w.heap.size, 1, none⟩ = some (.string s) := cell_row hx4 1 _ rfl
    have hwi := With_c q1 128 d1 _ N s hs w4 hB4 hmd1 hd1
    have H4 : Hid _ := And.intro hB4 (And.intro hbw4 hx4)
    clear hB4 hbw4 hx4 hb4
    dsimp only
    go_wp2_with fail
    refine hwi.mono ?_
    rintro _ w5 ⟨q5, m5, d5, rfl, hB5, hb5, hmd5, hd5⟩
    clear hwi x0 x1
    have hB45 := H4.out.1.kept hb5
    have hbw5 := grew_trans H4.out.2.1 hb5
    have hx5 := (hb5.block _ (Array.getElem?_eq_some_iff.1 H4.out.2.2).1).trans H4.out.2.2
    have x0 : w5.cell? ⟨w.heap.size, 0, none⟩ = some (.int .i64 N) := cell_row hx5 0 _ rfl
    have x1 : w5.cell? ⟨w.heap.size, 1, none⟩ = some (.string s) := cell_row hx5 1 _ rfl
    have hrw := rWith_ok q1 128 d1 _ N s hs w5 hB45 hmd1 hd1
    have H5 : Hid _ := And.intro hB45 (And.intro hbw5 (And.intro hx5 hB5))
    clear hB45 hbw5 hx5 hb5 hB5
    obtain ⟨er, her⟩ : ∃ er, (wi 128 (encL (pad L)) N s).2.2 = er := ⟨_, rfl⟩
    obtain ⟨ix, hix⟩ : ∃ ix, (wi 128 (encL (pad L)) N s).2.1 = ix := ⟨_, rfl⟩
    rw [her, hix] at hrw
    rw [her, hix]
    have HE : Hid _ := her
    clear her hix
    dsimp only
    go_wp2_with fail
    refine hrw.mono ?_
    rintro _ w6 ⟨q6, m6, d6, rfl, hB6, hb6⟩
    clear hrw hB6 x0 x1
    have hbw6 := grew_trans H5.out.2.1 hb6
    by_cases her0 : er = 0
    · subst her0
      obtain ⟨hkk, hnf, k, hfr, hw1⟩ := wi_ok (back_may HH.out.2.1) HE.out
      obtain ⟨b1, b2, b3, b4, b5⟩ := with_back (back_may HH.out.2.1) hkk hnf hfr
      have hB56 := H5.out.2.2.2.kept hb6
      rw [hw1] at hB56
      have hm5 : m5 = 128 := by have h1 := hB56.len; rw [encL_len _ (set_may (dec8_may _ _) hkk.1), List.length_set, dec8_len] at h1; omega
      subst hm5
      have hfi := Find_ok q5 128 d5 _ s w6 hB56 hmd5 hd5
      rw [b1, b2, b3] at hfi
      have hx6 := (hb6.block _ (Array.getElem?_eq_some_iff.1 H5.out.2.2.1).1).trans H5.out.2.2.1
      have x0 : w6.cell? ⟨w.heap.size, 0, none⟩ = some (.int .i64 N) := cell_row hx6 0 _ rfl
      have x1 : w6.cell? ⟨w.heap.size, 1, none⟩ = some (.string s) := cell_row hx6 1 _ rfl
      have H6 : Hid _ := And.intro hB56 (And.intro hbw6 (And.intro hx6 (And.intro (H5.out.1.kept hb6) (And.intro b4 b5))))
      clear hkk hnf hfr hw1 b1 b2 b3 b4 b5 hB56 hbw6 hx6 hb6
      dsimp only
      go_wp2_with fail
      refine grew_at hfi ?_
      intro w7 hb7
      clear hfi x0 x1
      have hB7 := H6.out.1.kept hb7
      have hbw7 := grew_trans H6.out.2.1 hb7
      have hx7 := (hb7.block _ (Array.getElem?_eq_some_iff.1 H6.out.2.2.1).1).trans H6.out.2.2.1
      have x0 : w7.cell? ⟨w.heap.size, 0, none⟩ = some (.int .i64 N) := cell_row hx7 0 _ rfl
      have x1 : w7.cell? ⟨w.heap.size, 1, none⟩ = some (.string s) := cell_row hx7 1 _ rfl
      have hwo := Without_ok q5 128 d5 _ s w7 hB7 hmd5 hd5
      rw [H6.out.2.2.2.2.1, H6.out.2.2.2.2.2, back_dec HH.out.2.1] at hwo
      obtain ⟨iw, hiw⟩ : ∃ iw, woI 128 (encL ((dec8 128 (encL (pad L))).set k ⟨N, s⟩)) s = iw := ⟨_, rfl⟩
      have H7 : Hid _ := And.intro (H6.out.2.2.2.1.kept hb7) (And.intro hbw7 hx7)
      clear hB7 hbw7 hx7 hb7
      dsimp only [Option.getD_some, Option.isSome_some]
      go_wp2_with fail
      refine hwo.mono ?_
      rintro _ w8 ⟨q8, m8, d8, rfl, hB8, hb8⟩
      clear hwo x0 x1
      have hx8 := (hb8.block _ (Array.getElem?_eq_some_iff.1 H7.out.2.2).1).trans H7.out.2.2
      have x0 : w8.cell? ⟨w.heap.size, 0, none⟩ = some (.int .i64 N) := cell_row hx8 0 _ rfl
      have he8 := equal_same q8 q1 m8 d8 128 d1 _ w8 hB8 (H7.out.1.kept hb8)
      have H8 : Hid _ := grew_trans H7.out.2.1 hb8
      clear hx8 hb8 hB8
      dsimp only
      go_wp2_with fail
      refine same_at he8 ?_
      clear he8
      dsimp only
      go_wp2_with fail
      go_ret
      exact ⟨by simp, H8.out⟩
    · have H6 : Hid _ := hbw6
      clear hbw6 hb6
      dsimp only
      go_wp2_with fail
      go_ret
      exact ⟨rfl, H6.out⟩
  · have hE : enE L = 1 := by unfold enE; rw [if_neg hM]
    have hBt : enB L = [] := by unfold enB; rw [if_neg hM]
    rw [hE, hBt] at hen
    have HH : Hid _ := And.intro h hE
    clear hM hE hBt h
    go_enter Try.func6, Try.ntmps6
    go_wp2_with fail
    refine hen.mono ?_
    rintro _ w1 ⟨q1, m1, d1, rfl, hB1, hb1, hmd1, hd1⟩
    clear hen
    obtain rfl : m1 = 0 := by have h1 := hB1.len; simpa using h1.symm
    have hbw1 := grew_trans HB hb1
    have hre := rEncode_ok p n c L w1 (HH.out.1.kept hbw1) hnc hc2 hsz
    rw [HH.out.2] at hre
    have H1 : Hid _ := hbw1
    clear hB1 hb1 hbw1 hx HB
    dsimp only
    go_wp2_with fail
    refine hre.mono ?_
    rintro _ w2 ⟨q2, m2, d2, rfl, hB2, hb2⟩
    clear hre hB2
    have H2 : Hid _ := grew_trans H1.out hb2
    clear hb2
    dsimp only
    go_wp2_with fail
    go_ret
    exact ⟨by simp, H2.out⟩
end Go.Proofs.Ythfnldclpommlab
