/- ForeBytes: the walk. -/
import Derived.Test.YtknklopohdmncaaFH
namespace Go.Proofs.Ytknklopohdmncaa
open Go.RowKit Go.Maps

theorem Own.room {B : Nat} {w : World} {g n cap : Nat} {xs : List Int} (h : Own B w g n cap xs) : n ≤ cap ∧ cap ≤ 9223372036854775807 := by
  rcases h.2 with ⟨h', _⟩ | ⟨g', cap', cur, h', _, _, h1, h2, _⟩
  · simp at h'
  · simp only [Value.slice.injEq, Option.some.injEq, Addr.mk.injEq, and_true, true_and] at h'
    obtain ⟨rfl, rfl⟩ := h'
    unfold maxLen at h2
    exact ⟨h1, h2⟩

theorem tot_chs {xs : List Int} {m : Nat} (h : xs.length = 128 * m) : tot (chs xs m) = 128 * m := by
  rw [← flat_len]
  have := cat_chs xs m
  unfold cat at this
  rw [this, List.take_of_length_le (by omega), h]

theorem cat_all {xs : List Int} {m : Nat} (h : xs.length = 128 * m) : cat (chs xs m) = xs := by
  rw [cat_chs, List.take_of_length_le (by omega)]

set_option maxRecDepth 10000 in
set_option maxHeartbeats 1000000 in
theorem foreBytes_no (p q : Option Addr) (n c k d : Nat) (xs : List Int) (L : List (List Int)) (w : World) (hb : BI w p n xs) (hL : IC w q k L) (ht : tot L ≤ 1048576) (hno : n = 0 ∨ n % 128 ≠ 0 ∨ 2048 < n / 128) :
    Calls Try.prog 3 #[.slice p n c, .slice q k d] w fun e w' => e = .returned (.bool true) ∧ Below w.heap.size w w' := by
  have hbig := hb.big
  have B0 := (show Hid _ from hb)
  have I0 := (show Hid _ from hL)
  clear hb hL
  go_enter Try.func3, Try.ntmps3
  go_wp2_with fail
  refine (bclone_any p n c xs w B0.out).mono ?_
  rintro e w1 ⟨v0, rfl, ho0, hb1⟩
  obtain ⟨p0, c0, rfl, _⟩ := row_case ho0
  have G1 := (show Hid _ from own_bi ho0 hbig B0.out.byt)
  have HB1 := (show Hid _ from hb1)
  clear hb1 ho0
  dsimp only
  go_wp2_with fail
  refine same_at (fblocks_no p0 n c0 w1 hno hbig) ?_
  go_wp2_with fail
  refine same_at (rblocks_no p n c w1 hno hbig) ?_
  have E1 : Hid (IB w1 none 0 []) := show IB w1 none 0 [] from ⟨rfl, by omega, fun h => by omega⟩
  go_wp2_with fail
  refine same_at (sameImage_ok none none 0 0 0 0 [] [] w1 E1.out E1.out) ?_
  have I1 := (show Hid _ from I0.out.kept HB1.out)
  go_wp2_with fail
  refine (fbytes_ok q k d L w1 I1.out ht).mono ?_
  rintro e w2 ⟨v2, rfl, hc2, hb2⟩
  have I2 := (show Hid _ from I1.out.kept hb2)
  obtain ⟨p2, c2, rfl, hB2⟩ := cat_bi hc2 I1.out.byt ht
  have HB2 := (show Hid _ from hb2)
  have K2 := (show Hid _ from hB2)
  clear hb2 hB2 hc2
  dsimp only
  go_wp2_with fail
  refine (rbytes_ok q k d L w2 I2.out ht).mono ?_
  rintro e w3 ⟨v3, rfl, hc3, hb3⟩
  obtain ⟨p3, c3, rfl, hB3⟩ := cat_bi hc3 I1.out.byt ht
  have HB3 := (show Hid _ from hb3)
  have K3 := (show Hid _ from hB3)
  have K2' := (show Hid _ from K2.out.kept hb3)
  clear hb3 hB3 hc3
  dsimp only
  go_wp2_with fail
  refine same_at (equal_any p2 p3 (tot L) c2 (tot L) c3 _ _ w3 K2'.out K3.out) ?_
  rw [beq_self_eq_true]
  have P0 : Hid (PI w3.heap.size w3 (.slice none 0 0) 0 [] []) := show PI w3.heap.size w3 (.slice none 0 0) 0 [] [] from ⟨World.ownsRow_nil _ _ _ _, rfl, by simp, by simp⟩
  go_wp2_with fail
  refine (spoilImage_ok P0.out (by omega)).mono ?_
  rintro e w4 ⟨⟨u4, rfl⟩, hf4⟩
  have hb34 : Below w3.heap.size w3 w4 := hf4.below (Nat.le_refl _) (by rintro k ⟨i, u, hu, _⟩; simp at hu)
  have HB4 : Hid (Below w.heap.size w w4) := show Below w.heap.size w w4 from ((HB1.out.trans (HB2.out.mono HB1.out.size)).trans (HB3.out.mono (Nat.le_trans HB1.out.size HB2.out.size))).trans (hb34.mono (Nat.le_trans (Nat.le_trans HB1.out.size HB2.out.size) HB3.out.size))
  have G4 := (show Hid _ from ((G1.out.kept HB2.out).kept HB3.out).kept hb34)
  have B4 := (show Hid _ from B0.out.kept HB4.out)
  clear hb34 hf4
  dsimp only
  go_wp2_with fail
  refine same_at (equal_any p0 p n c0 n c xs xs w4 G4.out B4.out) ?_
  rw [beq_self_eq_true]
  go_wp2
  go_ret
  exact ⟨rfl, HB4.out⟩

set_option maxRecDepth 10000 in
set_option maxHeartbeats 1000000 in
theorem foreBytes_yes (b o : Nat) (q : Option Addr) (n c k d m : Nat) (xs : List Int) (L : List (List Int)) (w : World) (hb : BI w (some ⟨b, o, none⟩) n xs) (hL : IC w q k L) (ht : tot L ≤ 1048576) (hm : n = 128 * m) (h1 : 1 ≤ m) (h2 : m ≤ 2048) (hc : n ≤ c) :
    Calls Try.prog 3 #[.slice (some ⟨b, o, none⟩) n c, .slice q k d] w fun e w' => e = .returned (.bool true) ∧ Below w.heap.size w w' := by
  have hbig := hb.big
  have hxl : xs.length = 128 * m := by rw [hb.len, hm]
  have HM := (show Hid _ from hm)
  have hpos : 0 < n := by omega
  have B0 := (show Hid _ from hb)
  have I0 := (show Hid _ from hL)
  clear hb hL hm
  go_enter Try.func3, Try.ntmps3
  go_wp2_with fail
  refine (bclone_any (some ⟨b, o, none⟩) n c xs w B0.out).mono ?_
  rintro e w1 ⟨v0, rfl, ho0, hb1⟩
  obtain ⟨p0, c0, rfl, hg0⟩ := row_case ho0
  obtain ⟨g0, rfl⟩ := hg0 hpos
  have hc0 := Own.room (B := w.heap.size) (cap := c0) ho0
  have hg0 : g0 < w1.heap.size := (ho0.lt g0 rfl).2
  have G1 := (show Hid _ from own_bi ho0 hbig B0.out.byt)
  have HB1 := (show Hid _ from hb1)
  have B1 := (show Hid _ from B0.out.kept hb1)
  have I1 := (show Hid _ from I0.out.kept hb1)
  clear hb1 ho0
  dsimp only
  go_wp2_with fail
  refine (fblocks_ok g0 0 n c0 m xs w1 G1.out HM.out h1 h2 hc0.1 hc0.2).mono ?_
  rintro e w2 ⟨vx, vsx, rfl, hPx, hb2⟩
  have HB2 := (show Hid _ from hb2)
  have B2 := (show Hid _ from B1.out.kept hb2)
  have I2 := (show Hid _ from I1.out.kept hb2)
  have G2 := (show Hid _ from G1.out.kept hb2)
  have HPx := (show Hid _ from hPx)
  clear hb2 hPx
  dsimp only
  go_wp2_with fail
  refine (rblocks_ok b o n c m xs w2 B2.out HM.out h1 h2 hc).mono ?_
  rintro e w3 ⟨vy, vsy, rfl, hPy, hb3⟩
  have HB3 := (show Hid _ from hb3)
  have I3 := (show Hid _ from I2.out.kept hb3)
  have G3 := (show Hid _ from G2.out.kept hb3)
  have HPx3 := (show Hid _ from HPx.out.kept (fun k _ hk => hb3.block k hk))
  obtain ⟨px, cx, rfl, hIx⟩ := HPx3.out.ib (by omega)
  obtain ⟨py, cy, rfl, hIy⟩ := hPy.ic (by omega)
  have HIx := (show Hid _ from hIx)
  have HIy := (show Hid _ from hIy)
  have HPy := (show Hid _ from hPy)
  clear hb3 hPy hIx hIy
  dsimp only
  go_wp2_with fail
  refine same_at (sameImage_ok px py m cx m cy _ _ w3 HIx.out HIy.out.ib) ?_
  rw [beq_self_eq_true]
  go_wp2_with fail
  refine (fbytes_ok q k d L w3 I3.out ht).mono ?_
  rintro e w4 ⟨v4, rfl, hc4, hb4⟩
  have I4 := (show Hid _ from I3.out.kept hb4)
  obtain ⟨p4, c4, rfl, hB4⟩ := cat_bi hc4 I3.out.byt ht
  have HB4 := (show Hid _ from hb4)
  have K4 := (show Hid _ from hB4)
  clear hb4 hB4 hc4
  dsimp only
  go_wp2_with fail
  refine (rbytes_ok q k d L w4 I4.out ht).mono ?_
  rintro e w5 ⟨v5, rfl, hc5, hb5⟩
  obtain ⟨p5, c5, rfl, hB5⟩ := cat_bi hc5 I3.out.byt ht
  have HB5 := (show Hid _ from hb5)
  have K5 := (show Hid _ from hB5)
  have K4' := (show Hid _ from K4.out.kept hb5)
  have hb35 : Below w3.heap.size w3 w5 := HB4.out.trans (hb5.mono HB4.out.size)
  have HB35 := (show Hid _ from hb35)
  have HPx5 := (show Hid _ from HPx3.out.kept (fun k _ hk => hb35.block k hk))
  have HPy5 := (show Hid _ from HPy.out.kept (fun k _ hk => hb35.block k hk))
  have G5 := (show Hid _ from G3.out.kept hb35)
  clear hb5 hB5 hc5 hb35
  dsimp only
  go_wp2_with fail
  refine same_at (equal_any p4 p5 (tot L) c4 (tot L) c5 _ _ w5 K4'.out K5.out) ?_
  rw [beq_self_eq_true]
  go_wp2_with fail
  refine (spoilImage_ok HPx5.out (by omega)).mono ?_
  rintro e w6 ⟨⟨u6, rfl⟩, hf6⟩
  have hX : ∀ j, (∃ (i : Nat) (u : Value), vsx[i]? = some u ∧ u.ownBlock = some j) → w1.heap.size ≤ j ∧ j < w2.heap.size := by
    rintro j ⟨i, u, hu, hj⟩
    have hl := HPx.out.vlen
    have hll := HPx.out.len
    have hil := (List.getElem?_eq_some_iff.1 hu).1
    obtain ⟨q', m', d', eu, ho, _⟩ := HPx.out.el i u _ hu (List.getElem?_eq_getElem (by omega))
    rw [eu] at hj
    exact ho.lt j hj
  have hb56 : Below w1.heap.size w5 w6 := hf6.below (by have := HB2.out.size; have := HB3.out.size; have := HB35.out.size; omega) (fun j hj => (hX j hj).1)
  have HB56 : Hid (Below w.heap.size w w6) := show Below w.heap.size w w6 from (((HB1.out.trans (HB2.out.mono HB1.out.size)).trans (HB3.out.mono (Nat.le_trans HB1.out.size HB2.out.size))).trans (HB35.out.mono (Nat.le_trans (Nat.le_trans HB1.out.size HB2.out.size) HB3.out.size))).trans (hb56.mono HB1.out.size)
  have G6 := (show Hid _ from G5.out.frame hf6 (fun a e h => by cases e; have := hX _ h; have h' : w1.heap.size ≤ g0 := this.1; omega))
  have B6 := (show Hid _ from B0.out.kept HB56.out)
  have hPy6 := HPy5.out.kept (w' := w6) (fun j hj hlt => hf6.block j hlt (fun h => by have := hX _ h; omega))
  obtain ⟨py', cy', ey, hIy6⟩ := hPy6.ic (by omega)
  cases ey
  have I6 := (show Hid _ from hIy6)
  clear hIy6 hPy6 hb56 hf6 hX
  dsimp only
  go_wp2_with fail
  refine same_at (equal_any (some ⟨g0, 0, none⟩) (some ⟨b, o, none⟩) n c0 n c xs xs w6 G6.out B6.out) ?_
  rw [beq_self_eq_true]
  go_wp2_with fail
  have ht' : tot (chs xs m) ≤ 1048576 := by rw [tot_chs hxl]; omega
  refine (fbytes_ok py m cy (chs xs m) w6 I6.out ht').mono ?_
  rintro e w7 ⟨v7, rfl, hc7, hb7⟩
  obtain ⟨p7, c7, rfl, hB7⟩ := cat_bi hc7 I6.out.byt ht'
  have HB7 : Hid (Below w.heap.size w w7) := show Below w.heap.size w w7 from HB56.out.trans (hb7.mono HB56.out.size)
  have B7 := (show Hid _ from B6.out.kept hb7)
  have K7 := (show Hid _ from hB7)
  clear hb7 hB7 hc7
  dsimp only
  go_wp2_with fail
  refine same_at (equal_any p7 (some ⟨b, o, none⟩) (tot (chs xs m)) c7 n c _ xs w7 K7.out B7.out) ?_
  rw [cat_all hxl, beq_self_eq_true]
  go_wp2
  go_ret
  exact ⟨rfl, HB7.out⟩

theorem foreBytes_walk (p q : Option Addr) (n c k d : Nat) (xs : List Int) (L : List (List Int)) (w : World) (hb : BI w p n xs) (hc : n ≤ c) (hL : IC w q k L) (ht : tot L ≤ 1048576) :
    Calls Try.prog 3 #[.slice p n c, .slice q k d] w fun e w' => e = .returned (.bool true) ∧ Below w.heap.size w w' := by
  by_cases hno : n = 0 ∨ n % 128 ≠ 0 ∨ 2048 < n / 128
  · exact foreBytes_no p q n c k d xs L w hb hL ht hno
  · obtain ⟨b, o, rfl, _⟩ := hb.cells (by omega)
    exact foreBytes_yes b o q n c k d (n / 128) xs L w hb hL ht (by omega) (by omega) (by omega) hc
end Go.Proofs.Ytknklopohdmncaa
