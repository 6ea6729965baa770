/- C6 C8 CA J2 J3 J4 -/
import Derived.Test.YthdlpeejmmobmaaGreatYC35
import Derived.Test.YthdlpeejmmobmaaGreatYC34

namespace Go.Proofs.YthdlpeejmmobmaaGreat
open Go.RowKit Go.Maps
set_option maxRecDepth 100000
set_option linter.unusedVariables false
def ido (H : Nat → List Int) (dir : Bool) (G B Q near : Nat) : Option (Nat × Nat) := if dir then mos H true G B Q near else nst H true G B Q near G
theorem ido_some {H : Nat → List Int} {dir : Bool} {G B Q near n i : Nat} (hr : near < G) (h : ido H dir G B Q near = some (n, i)) : n < G ∧ frs H true B Q n = some i := by
 unfold ido at h
 cases dir with
 | false => exact nst_some (by omega) h
 | true =>
  simp only [if_true, mos] at h
  cases ho : frs H true B Q (bst H true G B Q near G) with
  | none => rw [ho] at h; cases h
  | some j => rw [ho] at h; cases h; exact ⟨bst_lt hr G, ho⟩
theorem ii_nil (w : World) : Pt.II w none 0 [] := ⟨rfl, by omega, fun x hx => (by cases hx), fun h => absurd h (by omega)⟩
section
variable {w w' : World} {v : Nat} {F : Nat → Prop} {N : Nat} {I : Nat → List Int} {l c G B Q : Nat}
open Mk.Al in
set_option maxHeartbeats 4000000 in
theorem inode_ok (h : Vol w v F N I l c) (hg : Geo G B Q N) {H : Nat → List Int} (hH : Hds I G B H) {near : Nat} (hn : near < G) (dir : Bool) (hc : c + 8 < 4611686018427387904) (hl1 : l + 1 ≤ 10000) :
  Calls Tryz.prog 25 #[.pointer (some ⟨v, 0, none⟩), Mk.geomV G B Q, .int .i64 (near : Int), .bool dir] w fun e w' =>
   (∀ n i, ido H dir G B Q near = some (n, i) → e = .returned (.tuple #[.int .i64 ((n * Q + i : Nat) : Int), .int .i64 ((l + 1 : Nat) : Int), .int .i64 0]) ∧ ∃ F' c', c' ≤ c + 8 ∧ Vol w' v F' N (putH I B n (putY true (H n) i true)) (l + 1) c' ∧ Pt.Stp F F' w w') ∧
   (ido H dir G B Q near = none → e = .returned (.tuple #[.int .i64 0, .int .i64 0, .int .i64 5]) ∧ ∃ F' c', c' ≤ c + 8 ∧ Vol w' v F' N I l c' ∧ Pt.Stp F F' w w') := by
 have hfit := hg.fit
 obtain ⟨W, hW⟩ : ∃ W, w.alloc (Mk.geomO G B Q) = W := ⟨_, rfl⟩
 have hb : Below w.heap.size w W := by rw [← hW]; exact Mk.grew_alloc _ _
 have hx : W.heap[w.heap.size]? = some (Mk.geomO G B Q) := by rw [← hW]; exact at_new rfl
 have hsz : W.heap.size = w.heap.size + 1 := by rw [← hW]; simp
 have c0 := (g3_of hx).c0
 have c1 := (g3_of hx).c1
 have c2 := (g3_of hx).c2
 have hlt := h.lt
 have hv := h.later hb
 have hnr := near_ok hv hg hn
 have HV : Hid (Vol W v F N I l c ∧ Below w.heap.size w W ∧ (∀ k, F k → k < w.heap.size)) := ⟨hv, hb, hlt⟩
 clear hv h hb hlt
 go_enter Tryz.func25, Tryz.ntmps25
 go_wp2_with fail
 refine Mk.grew_at hnr ?_
 intro w1 hb1
 have hx1 := (hb1.block _ (Array.getElem?_eq_some_iff.1 hx).1).trans hx
 have c0 := (g3_of hx1).c0
 have c1 := (g3_of hx1).c1
 have c2 := (g3_of hx1).c2
 have hne := nearest_ok (HV.out.1.later hb1) hg hH true hn hc
 have hme := emptiest_ok (HV.out.1.later hb1) hg hH true hn hc
 dsimp only
 cases dir with
 | false =>
  go_wp2_with fail
  refine Calls.mono hne ?_
  rintro e w2 ⟨rfl, F2, c', hc', hv2, hst2⟩
  have hx2 : w2.heap[w.heap.size]? = some (Mk.geomO G B Q) := (hst2.fr.block _ (Array.getElem?_eq_some_iff.1 hx1).1 (fun hf => by have := HV.out.2.2 _ hf; omega)).trans hx1
  have c0 := (g3_of hx2).c0
  have c1 := (g3_of hx2).c1
  have c2 := (g3_of hx2).c2
  have hst : Pt.Stp F F2 w w2 := stp_after (HV.out.2.1.trans (hb1.mono HV.out.2.1.size)) hst2
  have hs2 : w.heap.size + 1 ≤ w2.heap.size := by have := (Array.getElem?_eq_some_iff.1 hx2).1; omega
  obtain ⟨W5, hW5⟩ : ∃ W5, w2.alloc (spotO 0 (Mk.zers 40) false 0) = W5 := ⟨_, rfl⟩
  have hn5 : W5.heap[w2.heap.size]? = some (spotO 0 (Mk.zers 40) false 0) := by rw [← hW5]; exact at_new rfl
  have hb5 : Below w2.heap.size w2 W5 := by rw [← hW5]; exact Mk.grew_alloc _ _
  have hx5 := (hb5.block _ (Array.getElem?_eq_some_iff.1 hx2).1).trans hx2
  dsimp only [spotO] at hW5
  rw [zeroSpot] at hW5
  cases ho : nst H true G B Q near G with
  | none =>
   have hd : ido H false G B Q near = none := ho
   obtain ⟨W6, hW6⟩ : ∃ W6, W5.setRow w2.heap.size (spotA 0 (Mk.zers 40) false 0) = W6 := ⟨_, rfl⟩
   have hb6 : Below w2.heap.size w2 W6 := by rw [← hW6]; exact below_setRow hb5 (Nat.le_refl _) _
   have hi0 := info138 0 (Mk.zers_len 40) false 0
   have h10 := spot_one 0 (Mk.zers 40) false 0
   dsimp only [nstV]
   go_wp2_with (first
    | (refine wpList_store_row rfl 138 _ _ rfl w2.heap.size (spotA 0 (Mk.zers 40) false 0) rfl rfl 138 _ hn5 hi0 rfl h10 ?_; rw [hW6]))
   go_ret3
   exact ⟨rfl, F2, c', hc', hv2.later hb6, stp_grown hst hb6⟩
  | some ni =>
   obtain ⟨n, i⟩ := ni
   have hd : ido H false G B Q near = some (n, i) := ho
   obtain ⟨hnG, hfr⟩ := ido_some hn hd
   obtain ⟨hf1, hf2, hf3⟩ := frs_some hg.may hfr
   have hln := hH.len n hnG
   have hinf := info138 (n : Int) hln true (i : Int)
   have hso := spot_one (n : Int) (H n) true (i : Int)
   have hss : (spotA 0 (Mk.zers 40) false 0).size = (spotA n (H n) true i).size := (spot_size 0 (Mk.zers_len 40) false 0).trans (spot_size (n : Int) hln true (i : Int)).symm
   obtain ⟨W6, hW6⟩ : ∃ W6, W5.setRow w2.heap.size (spotA n (H n) true i) = W6 := ⟨_, rfl⟩
   have hn6 : W6.heap[w2.heap.size]? = some (spotO n (H n) true i) := by rw [← hW6]; exact setRow_heap _ _ _ _ _ _ hn5
   have hb6 : Below w2.heap.size w2 W6 := by rw [← hW6]; exact below_setRow hb5 (Nat.le_refl _) _
   have hx6 := (hb6.block _ (Array.getElem?_eq_some_iff.1 hx2).1).trans hx2
   have c0 := (g3_of hx6).c0
   have c1 := (g3_of hx6).c1
   have c2 := (g3_of hx6).c2
   have hgv := give_ok (hv2.later hb6) hg hnG (hH.at_ n hnG) (hH.len n hnG) (hH.byt n hnG) hl1 true i hf2 none 0 0 [] (ii_nil W6) (fun k hk => by cases hk) rfl (by omega)
   rw [hf3] at hgv
   dsimp only [nstV]
   go_wp2_with (first
    | (refine wpList_store_row rfl 138 _ _ rfl w2.heap.size (spotA n (H n) true i) rfl rfl 138 _ hn5 hinf hss hso ?_; rw [hW6])
    | (refine wpList_load_row rfl 138 _ rfl w2.heap.size rfl 138 _ (0, 0) _ hn6 Tryz.underlying138 rfl hinf ?_))
   refine Calls.mono hgv ?_
   rintro e w3 ⟨rfl, F3, hv3, hst3⟩
   dsimp only
   go_wp2_with fail
   go_ret3
   refine ⟨fun n' i' h => ?_, fun h => by rw [hd] at h; cases h⟩
   rw [hd] at h; cases h
   exact ⟨rfl, F3, c', hc', hv3, stp_trans (stp_grown hst hb6) hst3⟩
 | true =>
  go_wp2_with fail
  refine Calls.mono hme ?_
  rintro e w2 ⟨rfl, F2, c', hc', hv2, hst2⟩
  have hx2 : w2.heap[w.heap.size]? = some (Mk.geomO G B Q) := (hst2.fr.block _ (Array.getElem?_eq_some_iff.1 hx1).1 (fun hf => by have := HV.out.2.2 _ hf; omega)).trans hx1
  have c0 := (g3_of hx2).c0
  have c1 := (g3_of hx2).c1
  have c2 := (g3_of hx2).c2
  have hst : Pt.Stp F F2 w w2 := stp_after (HV.out.2.1.trans (hb1.mono HV.out.2.1.size)) hst2
  have hs2 : w.heap.size + 1 ≤ w2.heap.size := by have := (Array.getElem?_eq_some_iff.1 hx2).1; omega
  obtain ⟨W5, hW5⟩ : ∃ W5, w2.alloc (spotO 0 (Mk.zers 40) false 0) = W5 := ⟨_, rfl⟩
  have hn5 : W5.heap[w2.heap.size]? = some (spotO 0 (Mk.zers 40) false 0) := by rw [← hW5]; exact at_new rfl
  have hb5 : Below w2.heap.size w2 W5 := by rw [← hW5]; exact Mk.grew_alloc _ _
  have hx5 := (hb5.block _ (Array.getElem?_eq_some_iff.1 hx2).1).trans hx2
  dsimp only [spotO] at hW5
  rw [zeroSpot] at hW5
  cases ho : mos H true G B Q near with
  | none =>
   have hd : ido H true G B Q near = none := ho
   obtain ⟨W6, hW6⟩ : ∃ W6, W5.setRow w2.heap.size (spotA 0 (Mk.zers 40) false 0) = W6 := ⟨_, rfl⟩
   have hb6 : Below w2.heap.size w2 W6 := by rw [← hW6]; exact below_setRow hb5 (Nat.le_refl _) _
   have hi0 := info138 0 (Mk.zers_len 40) false 0
   have h10 := spot_one 0 (Mk.zers 40) false 0
   dsimp only [nstV]
   go_wp2_with (first
    | (refine wpList_store_row rfl 138 _ _ rfl w2.heap.size (spotA 0 (Mk.zers 40) false 0) rfl rfl 138 _ hn5 hi0 rfl h10 ?_; rw [hW6]))
   go_ret3
   exact ⟨rfl, F2, c', hc', hv2.later hb6, stp_grown hst hb6⟩
  | some ni =>
   obtain ⟨n, i⟩ := ni
   have hd : ido H true G B Q near = some (n, i) := ho
   obtain ⟨hnG, hfr⟩ := ido_some hn hd
   obtain ⟨hf1, hf2, hf3⟩ := frs_some hg.may hfr
   have hln := hH.len n hnG
   have hinf := info138 (n : Int) hln true (i : Int)
   have hso := spot_one (n : Int) (H n) true (i : Int)
   have hss : (spotA 0 (Mk.zers 40) false 0).size = (spotA n (H n) true i).size := (spot_size 0 (Mk.zers_len 40) false 0).trans (spot_size (n : Int) hln true (i : Int)).symm
   obtain ⟨W6, hW6⟩ : ∃ W6, W5.setRow w2.heap.size (spotA n (H n) true i) = W6 := ⟨_, rfl⟩
   have hn6 : W6.heap[w2.heap.size]? = some (spotO n (H n) true i) := by rw [← hW6]; exact setRow_heap _ _ _ _ _ _ hn5
   have hb6 : Below w2.heap.size w2 W6 := by rw [← hW6]; exact below_setRow hb5 (Nat.le_refl _) _
   have hx6 := (hb6.block _ (Array.getElem?_eq_some_iff.1 hx2).1).trans hx2
   have c0 := (g3_of hx6).c0
   have c1 := (g3_of hx6).c1
   have c2 := (g3_of hx6).c2
   have hgv := give_ok (hv2.later hb6) hg hnG (hH.at_ n hnG) (hH.len n hnG) (hH.byt n hnG) hl1 true i hf2 none 0 0 [] (ii_nil W6) (fun k hk => by cases hk) rfl (by omega)
   rw [hf3] at hgv
   dsimp only [nstV]
   go_wp2_with (first
    | (refine wpList_store_row rfl 138 _ _ rfl w2.heap.size (spotA n (H n) true i) rfl rfl 138 _ hn5 hinf hss hso ?_; rw [hW6])
    | (refine wpList_load_row rfl 138 _ rfl w2.heap.size rfl 138 _ (0, 0) _ hn6 Tryz.underlying138 rfl hinf ?_))
   refine Calls.mono hgv ?_
   rintro e w3 ⟨rfl, F3, hv3, hst3⟩
   dsimp only
   go_wp2_with fail
   go_ret3
   refine ⟨fun n' i' h => ?_, fun h => by rw [hd] at h; cases h⟩
   rw [hd] at h; cases h
   exact ⟨rfl, F3, c', hc', hv3, stp_trans (stp_grown hst hb6) hst3⟩
end
end Go.Proofs.YthdlpeejmmobmaaGreat

namespace Go.Proofs.YthdlpeejmmobmaaGreat
open Go.RowKit Go.Maps
open Mk.Al (putY rowOf fN eN lo zc)
set_option maxRecDepth 100000
set_option linter.unusedVariables false
theorem row_hdY (Q n : Nat) : rowOf true (Mk.hdY Q n) = Mk.hdI n := by
 have h := Mk.hdI_len n
 simp [rowOf, Mk.Al.rAt, Mk.Al.rLen, Mk.hdY, h]
theorem on_first : ∀ j : Fin 64, Mk.Bit.on [7, 0, 0, 0, 0, 0, 0, 0] j.val = decide (j.val < 3) := by decide +kernel
end Go.Proofs.YthdlpeejmmobmaaGreat

namespace Go.Proofs.YthdlpeejmmobmaaGreat
open Go.RowKit Go.Maps
open Mk.Al (putY rowOf fN eN lo zc)
set_option maxRecDepth 100000
set_option linter.unusedVariables false
theorem row_updF {H : Nat → List Int} {n i k : Nat} (r bb : Bool) (hl : (H n).length = 40) : rowOf r (updH H n (putY r (H n) i bb) k) = if k = n then Mk.Bit.put (rowOf r (H n)) i bb else rowOf r (H k) := by
 unfold updH
 by_cases e : k = n
 ·rw [if_pos e, if_pos e]; exact Mk.Al.row_put r hl i bb
 ·rw [if_neg e, if_neg e]
theorem div_at {n i b : Nat} (hi : i < b) : (n * b + i) / b = n ∧ (n * b + i) % b = i := by
 refine ⟨?_, ?_⟩
 ·rw [Nat.add_comm, Nat.add_mul_div_right _ _ (by omega), Nat.div_eq_of_lt hi]; omega
 ·rw [Nat.add_comm, Nat.add_mul_mod_self_right, Nat.mod_eq_of_lt hi]
end Go.Proofs.YthdlpeejmmobmaaGreat

namespace Go.Proofs.YthdlpeejmmobmaaGreat
open Go.RowKit Go.Maps
set_option linter.unusedVariables false
set_option maxRecDepth 100000
def adI (I : Nat → List Int) (b p : Nat) : Int := Mk.Num.numD (I b) (2 * p) 2
theorem fan_adI (I : Nat → List Int) (b : Nat) {k : Nat} (h : k < 64) : (Mk.fanZ (I b)).getD k 0 = adI I b k := by
 rw [List.getD_eq_getElem?_getD, Mk.fanZ_at _ _ h]; rfl
theorem lay_at {ys xs : List Int} {o : Nat} (h : o + xs.length ≤ ys.length) (i : Nat) : (lay ys o xs).getD i 0 = if i < o then ys.getD i 0 else if i < o + xs.length then xs.getD (i - o) 0 else ys.getD i 0 := by
 have ho : (ys.take o).length = o := by rw [List.length_take]; omega
 simp only [List.getD_eq_getElem?_getD, lay]
 by_cases h1 : i < o
 ·rw [if_pos h1, List.append_assoc, List.getElem?_append_left (by omega), List.getElem?_take_of_lt h1]
 ·rw [if_neg h1]
  by_cases h2 : i < o + xs.length
  ·rw [if_pos h2, List.append_assoc, List.getElem?_append_right (by omega), ho, List.getElem?_append_left (by omega)]
  ·rw [if_neg h2, List.getElem?_append_right (by rw [List.length_append]; omega), List.length_append, ho, List.getElem?_drop]
   congr 2
   omega
theorem numD_two (xs : List Int) (a : Nat) : Mk.Num.numD xs a 2 = xs.getD a 0 + 256 * (xs.getD (a + 1) 0 + 256 * 0) := rfl
theorem adI_else (I : Nat → List Int) {b c : Nat} (o : Nat) (xs : List Int) (h : c ≠ b) (q : Nat) : adI (updI I b o xs) c q = adI I c q := by
 unfold adI updI; rw [if_neg h]
theorem adI_new {I : Nat → List Int} {b p : Nat} {xs : List Int} (hl : (I b).length = 128) (hx : xs.length = 2) (hp : p < 64) : adI (updI I b (2 * p) xs) b p = Mk.Num.numD xs 0 2 := by
 unfold adI updI
 rw [if_pos rfl, numD_two, numD_two, lay_at (by omega), lay_at (by omega), if_neg (by omega), if_pos (by omega), if_neg (by omega), if_pos (by omega), show 2 * p - 2 * p = 0 by omega, show 2 * p + 1 - 2 * p = 0 + 1 by omega]
theorem adI_old {I : Nat → List Int} {b p q : Nat} {xs : List Int} (hl : (I b).length = 128) (hx : xs.length = 2) (hp : p < 64) (h : q ≠ p) : adI (updI I b (2 * p) xs) b q = adI I b q := by
 unfold adI updI
 have hk : ∀ i, i = 2 * q ∨ i = 2 * q + 1 → (lay (I b) (2 * p) xs).getD i 0 = (I b).getD i 0 := by
  intro i hi
  rw [lay_at (by omega)]
  by_cases h1 : i < 2 * p
  ·rw [if_pos h1]
  ·rw [if_neg h1, if_neg (by omega)]
 rw [if_pos rfl, numD_two, numD_two, hk _ (.inl rfl), hk _ (.inr rfl)]
theorem adI_zero {I : Nat → List Int} {b : Nat} (hl : (I b).length = 128) (q : Nat) : adI (updI I b 0 (Mk.zers 128)) b q = 0 := by
 unfold adI updI
 have e : lay (I b) 0 (Mk.zers 128) = Mk.zers 128 := by
  unfold lay
  rw [List.take_zero, List.nil_append, Mk.zers_len, List.drop_eq_nil_of_le (by omega), List.append_nil]
 rw [if_pos rfl, e, Mk.numD_zers]
def twoB (p b : Nat) : List Int := ((Mk.fanL ((Mk.zers 64).set p (b : Int))).drop (2 * p)).take 2
theorem twoB_len {p b : Nat} (hp : p < 64) : (twoB p b).length = 2 := by
 unfold twoB; rw [List.length_take, List.length_drop, Mk.fanL_len]; omega
theorem twoB_num {p b : Nat} (hp : p < 64) (hb : b < 65536) : Mk.Num.numD (twoB p b) 0 2 = (b : Int) := by
 have hz : ((Mk.zers 64).set p (b : Int)).getD p 0 = (b : Int) := by
  rw [List.getD_eq_getElem?_getD, List.getElem?_set_self (by rw [Mk.zers_len]; exact hp)]; rfl
 have h := Mk.num_ins (Mk.zers 128) 0 2 ((Mk.zers 64).set p (b : Int)) 64 p hp (by rw [Mk.zers_len]; omega) (by rw [hz]; omega) (by rw [hz]; omega)
 rw [hz] at h
 rw [← h]
 show _ = Mk.Num.numD (Mk.fanL _) (0 + 2 * p) 2
 unfold twoB
 rw [numD_two, numD_two, Mk.getD_take _ _ _ (by omega), Mk.getD_take _ _ _ (by omega), Mk.getD_drop', Mk.getD_drop']
 simp
theorem twoB_ads {p b : Nat} (hb : b ≤ 2047) : Mk.Ads ((Mk.zers 64).set p (b : Int)) := by
 intro z hz
 rcases List.mem_or_eq_of_mem_set hz with h | h
 ·unfold Mk.zers at h
  have := List.eq_of_mem_replicate h
  omega
 ·omega
end Go.Proofs.YthdlpeejmmobmaaGreat

namespace Go.Proofs.YthdlpeejmmobmaaGreat
open Go.RowKit Go.Maps
open Mk.Al (putY rowOf fN eN lo zc)
set_option linter.unusedVariables false
set_option maxRecDepth 100000
def onB (H : Nat → List Int) (B b : Nat) : Bool := Mk.Bit.on (rowOf false (H (b / B))) (b % B)
theorem onB_upd {H : Nat → List Int} {G B Q : Nat} (hm : Mk.Gm.May (G : Int) B Q) (x : Nat) (hl : (H (x / B)).length = 40) (hy : Mk.Num.Byt (H (x / B))) (bb : Bool) (y : Nat) :
  onB (updH H (x / B) (putY false (H (x / B)) (x % B) bb)) B y = if y = x then bb else onB H B y := by
 have hfe := Mk.Al.fe_lt hm false 0
 have hB8 : B ≤ 8 * 32 := hfe.2.1
 have hB0 : 0 < B := by have := hfe.1; have : fN false Q 0 < B := this; omega
 have hlt := Nat.mod_lt x hB0
 have hi : x % B / 8 < (rowOf false (H (x / B))).length := by rw [Mk.Al.row_len false hl]; show x % B / 8 < 32; omega
 have hby := Mk.Al.row_byt false hy
 unfold onB
 rw [row_updF false bb hl]
 by_cases e : y = x
 ·rw [if_pos e, e, if_pos rfl, Mk.Bit.put_on hby hi]
 ·rw [if_neg e]
  by_cases e2 : y / B = x / B
  ·rw [if_pos e2, Mk.Bit.put_other hby hi bb (fun e3 => e (by have h5 := Nat.div_add_mod y B; have h6 := Nat.div_add_mod x B; rw [e2, e3] at h5; omega)), e2]
  ·rw [if_neg e2]
structure Inw (I : Nat → List Int) (G B Q N : Nat) (H H0 : Nat → List Int) (val : Nat → Nat) : Prop where
 hds : Hds I G B H
 tre : Tre (adI I) val
 rng : ∀ i, i < 4230 → val i ≠ 0 → val i < N ∧ 2 + Q / 4 ≤ val i % B ∧ onB H0 B (val i) = false
 bits : ∀ b, b < N → (onB H B b = true ↔ onB H0 B b = true ∨ ∃ i, i < 4230 ∧ val i ≠ 0 ∧ val i = b)
 rows : ∀ n, n < G → rowOf true (H n) = rowOf true (H0 n)
structure Gvn1 (I I2 : Nat → List Int) (G B Q N : Nat) (H H2 : Nat → List Int) (b : Nat) : Prop where
 lt : b < N
 data : 2 + Q / 4 ≤ b % B
 off : onB H B b = false
 hds : Hds I2 G B H2
 bits : ∀ y, onB H2 B y = if y = b then true else onB H B y
 rows : ∀ n, n < G → rowOf true (H2 n) = rowOf true (H n)
 zero : ∀ q, adI I2 b q = 0
 else_ : ∀ c, c % B ≠ 1 → c ≠ b → I2 c = I c
theorem gvn1_mk {I : Nat → List Int} {G B Q N : Nat} {H : Nat → List Int} (hg : Geo G B Q N) (hH : Hds I G B H) (hs : ∀ b, (I b).length = 128) {near n i : Nat} (ho : nst H false G B Q near G = some (n, i)) :
  Gvn1 I (updI (putH I B n (putY false (H n) i true)) (n * B + i) 0 (Mk.zers 128)) G B Q N H (updH H n (putY false (H n) i true)) (n * B + i) := by
 have hfit := hg.fit
 obtain ⟨hn, hfr⟩ := nst_some (by omega) ho
 obtain ⟨h1, h2, h3⟩ := frs_some hg.may hfr
 have h1 : 2 + Q / 4 ≤ i := h1
 have h2 : i < B := h2
 obtain ⟨d1, d2⟩ := div_at (n := n) h2
 have hl := hH.len n hn
 have hy := hH.byt n hn
 have hne : ∀ k, n * B + i ≠ k * B + 1 := fun k e => by
  have := congrArg (· % B) e
  simp only [d2] at this
  rw [Nat.add_comm, Nat.add_mul_mod_self_right, Nat.mod_eq_of_lt (by omega)] at this
  omega
 have hput := hds_put hH (by omega) n (Mk.Al.putY_len false hl i true) (Mk.Al.putY_byt false hy i true)
 have hst : (putH I B n (putY false (H n) i true) (n * B + i)).length = 128 := by
  unfold putH; rw [if_neg (hne n)]; exact hs _
 refine ⟨hg.hd hn h2, by rw [d2]; exact h1, by unfold onB; rw [d1, d2]; exact h3, ⟨fun k hk => ?_, hput.len, hput.byt⟩, fun y => ?_, fun k hk => ?_, fun q => adI_zero hst q, fun c hc hcb => ?_⟩
 ·have := hput.at_ k hk
  unfold updI
  rw [if_neg (fun e => hne k e.symm)]
  exact this
 ·have := onB_upd (H := H) hg.may (n * B + i) (by rw [d1]; exact hl) (by rw [d1]; exact hy) true y
  rw [d1, d2] at this
  exact this
 ·unfold updH
  split
  ·rename_i e; subst e; exact Mk.Al.row_other false hl i true
  ·rfl
 ·unfold updI putH
  rw [if_neg hcb, if_neg]
  intro e
  rw [e] at hc
  rw [Nat.add_comm, Nat.add_mul_mod_self_right, Nat.mod_eq_of_lt (by omega)] at hc
  omega
def par (s : Nat) : Nat := if s < 70 then 4 else if s < 134 then 5 else 70 + (s - 134) / 64
def plc (s : Nat) : Nat := if s < 70 then s - 6 else if s < 134 then s - 70 else (s - 134) % 64
theorem par_kid {j p : Nat} (hj : inner j) (hp : p < 64) : par (kid j p) = j ∧ plc (kid j p) = p := by
 have e : ∀ s, (s < 70 → par s = 4 ∧ plc s = s - 6) ∧ (70 ≤ s → s < 134 → par s = 5 ∧ plc s = s - 70) ∧ (134 ≤ s → par s = 70 + (s - 134) / 64 ∧ plc s = (s - 134) % 64) := by
  intro s
  unfold par plc
  refine ⟨fun h => by rw [if_pos h, if_pos h]; exact ⟨rfl, rfl⟩, fun h1 h2 => ?_, fun h => ?_⟩
  ·rw [if_neg (by omega), if_pos h2, if_neg (by omega), if_pos h2]; exact ⟨rfl, rfl⟩
  ·rw [if_neg (by omega), if_neg (by omega), if_neg (by omega), if_neg (by omega)]; exact ⟨rfl, rfl⟩
 rcases hj with rfl | rfl | hj
 ·have k : kid 4 p = 6 + p := by unfold kid; rw [if_pos rfl]
  rw [k, ((e (6 + p)).1 (by omega)).1, ((e (6 + p)).1 (by omega)).2]; omega
 ·have k : kid 5 p = 70 + p := by unfold kid; rw [if_neg (by omega), if_pos rfl]
  rw [k, ((e (70 + p)).2.1 (by omega) (by omega)).1, ((e (70 + p)).2.1 (by omega) (by omega)).2]; omega
 ·have k : kid j p = 134 + 64 * (j - 70) + p := by unfold kid; rw [if_neg (by omega), if_neg (by omega)]
  rw [k, ((e (134 + 64 * (j - 70) + p)).2.2 (by omega)).1, ((e (134 + 64 * (j - 70) + p)).2.2 (by omega)).2]; omega
theorem par_in {s : Nat} (h6 : 6 ≤ s) (hs : s < 4230) : inner (par s) ∧ plc s < 64 ∧ kid (par s) (plc s) = s := by
 unfold par plc inner kid
 by_cases h1 : s < 70
 ·rw [if_pos h1, if_pos h1, if_pos rfl]; omega
 ·rw [if_neg h1, if_neg h1]
  by_cases h2 : s < 134
  ·rw [if_pos h2, if_pos h2, if_neg (by omega), if_pos rfl]; omega
  ·rw [if_neg h2, if_neg h2, if_neg (by omega), if_neg (by omega)]; omega
def putS (I : Nat → List Int) (val : Nat → Nat) (s b : Nat) : Nat → List Int := if s < 6 then I else updI I (val (par s)) (2 * plc s) (twoB (plc s) b)
theorem Inw.step {I I2 : Nat → List Int} {G B Q N : Nat} {H H2 H0 : Nat → List Int} {val : Nat → Nat} {s b : Nat} (hg : Geo G B Q N) (h : Inw I G B Q N H H0 val) (k : Gvn1 I I2 G B Q N H H2 b) (hN : N ≤ 2048) (hl : ∀ b, (I2 b).length = 128)
  (hs : s < 4230) (h0 : val s = 0) (hp : 6 ≤ s → val (par s) ≠ 0) : Inw (putS I2 val s b) G B Q N H2 H0 (updV val s b) ∧ ∀ c, c % B ≠ 1 → c % B < 2 + Q / 4 → putS I2 val s b c = I c := by
 have hfit := hg.fit
 have hb0 : b ≠ 0 := fun e => by have := k.data; rw [e, Nat.zero_mod] at this; omega
 have hf : ∀ i, i < 4230 → val i ≠ b := by
  intro i hi e
  have hv : val i ≠ 0 := by rw [e]; exact hb0
  have := (h.bits b k.lt).2 (.inr ⟨i, hi, hv, e⟩)
  rw [k.off] at this; cases this
 have hpd : 6 ≤ s → val (par s) % B ≠ 1 ∧ 2 + Q / 4 ≤ val (par s) % B ∧ val (par s) ≠ b := fun h6 => by
  have hi := inner_lt (par_in h6 hs).1
  have := (h.rng _ hi (hp h6)).2.1
  exact ⟨by omega, this, hf _ hi⟩
 have hold : ∀ j p, inner j → val j ≠ 0 → adI I2 (val j) p = adI I (val j) p := fun j p hj hv => by
  have hi := inner_lt hj
  have := (h.rng _ hi hv).2.1
  unfold adI
  rw [k.else_ _ (by omega) (hf _ hi)]
 refine ⟨⟨?_, ?_, ?_, ?_, fun n hn => (k.rows n hn).trans (h.rows n hn)⟩, ?_⟩
 ·refine ⟨fun n hn => ?_, k.hds.len, k.hds.byt⟩
  rw [← k.hds.at_ n hn]
  unfold putS
  split
  ·rfl
  ·unfold updI
   rw [if_neg]
   intro e
   have := (hpd (by omega)).1
   rw [← e, Nat.add_comm, Nat.add_mul_mod_self_right, Nat.mod_eq_of_lt (by omega)] at this
   exact this rfl
 ·refine h.tre.step hs h0 hb0 hf (fun j p hj hp6 e => ?_) (fun p hp6 => ?_) (fun j p hj hp6 e => ?_) (fun j p hj hv hp6 e => ?_)
  ·have h6 := (kid_lt hj hp6).1
   have := hp (by rw [← e]; exact h6)
   rw [← e, (par_kid hj hp6).1] at this
   exact this
  ·unfold putS
   split
   ·exact k.zero p
   ·rw [adI_else _ _ _ (fun e => (hpd (by omega)).2.2 e.symm)]; exact k.zero p
  ·have h6 := (kid_lt hj hp6).1
   obtain ⟨e1, e2⟩ := par_kid hj hp6
   unfold putS
   rw [if_neg (by omega), ← e, e1, e2, adI_new (hl _) (twoB_len hp6) hp6, twoB_num hp6 (by have := k.lt; omega)]
  ·unfold putS
   split
   ·exact hold j p hj hv
   ·rename_i h6
    have h6 : 6 ≤ s := by omega
    obtain ⟨a1, a2, a3⟩ := par_in h6 hs
    by_cases e2 : val j = val (par s)
    ·have ej := h.tre.inj j (par s) (inner_lt hj) (inner_lt a1) hv e2
     subst ej
     rw [adI_old (hl _) (twoB_len a2) a2 (fun e4 => e (by rw [e4]; exact a3))]
     exact hold _ p hj hv
    ·rw [adI_else _ _ _ e2]; exact hold j p hj hv
 ·intro i hi hv
  by_cases e : i = s
  ·subst e
   rw [updV_same]
   refine ⟨k.lt, k.data, ?_⟩
   cases hx : onB H0 B b with
   | false => rfl
   | true =>
    have := (h.bits b k.lt).2 (.inl hx)
    rw [k.off] at this; cases this
  ·rw [updV_ne _ _ e] at hv ⊢
   exact h.rng i hi hv
 ·intro y hy
  rw [k.bits]
  by_cases e : y = b
  ·rw [if_pos e]
   exact ⟨fun _ => .inr ⟨s, hs, by rw [updV_same]; exact hb0, by rw [updV_same, e]⟩, fun _ => rfl⟩
  ·rw [if_neg e, h.bits y hy]
   constructor
   ·rintro (h1 | ⟨i, hi, hv, e2⟩)
    ·exact .inl h1
    ·have : i ≠ s := fun e3 => hv (by rw [e3]; exact h0)
     exact .inr ⟨i, hi, by rw [updV_ne _ _ this]; exact hv, by rw [updV_ne _ _ this]; exact e2⟩
   ·rintro (h1 | ⟨i, hi, hv, e2⟩)
    ·exact .inl h1
    ·have : i ≠ s := fun e3 => e (by rw [← e2, e3, updV_same])
     rw [updV_ne _ _ this] at hv e2
     exact .inr ⟨i, hi, hv, e2⟩
 ·intro c hc1 hc2
  have h1 : I2 c = I c := k.else_ c hc1 (fun e => by have := k.data; rw [← e] at this; omega)
  unfold putS
  split
  ·exact h1
  ·unfold updI
   rw [if_neg (fun e => by have := (hpd (by omega)).2.1; rw [← e] at this; omega)]
   exact h1
end Go.Proofs.YthdlpeejmmobmaaGreat

namespace Go.Proofs.YthdlpeejmmobmaaGreat
set_option linter.unusedVariables false
set_option maxRecDepth 100000
def spk (f : Nat → List Nat) (s : Nat) : Nat → List Nat
 | 0 => []
 | k + 1 => spk f s k ++ f (kid s k)
def spn (val : Nat → Nat) : Nat → Nat → List Nat
 | 0, s => if val s = 0 then [] else [val s]
 | d + 1, s => if val s = 0 then [] else val s :: spk (spn val d) s 64
def span (val : Nat → Nat) : List Nat := spn val 0 0 ++ spn val 0 1 ++ spn val 0 2 ++ spn val 0 3 ++ spn val 1 4 ++ spn val 2 5
theorem spk_len {f : Nat → List Nat} {s m : Nat} (h : ∀ k, (f (kid s k)).length ≤ m) : ∀ k, (spk f s k).length ≤ k * m
 | 0 => by simp [spk]
 | k + 1 => by
  have h1 := spk_len h k
  have h2 := h k
  rw [spk, List.length_append, Nat.add_mul]
  omega
theorem spn_len0 (val : Nat → Nat) (s : Nat) : (spn val 0 s).length ≤ 1 := by
 unfold spn; split <;> simp
theorem spn_len1 (val : Nat → Nat) (s : Nat) : (spn val 1 s).length ≤ 65 := by
 unfold spn
 split
 ·simp
 ·have := spk_len (f := spn val 0) (s := s) (m := 1) (fun k => spn_len0 val _) 64
  rw [List.length_cons]; omega
theorem spn_len2 (val : Nat → Nat) (s : Nat) : (spn val 2 s).length ≤ 4161 := by
 unfold spn
 split
 ·simp
 ·have := spk_len (f := spn val 1) (s := s) (m := 65) (fun k => spn_len1 val _) 64
  rw [List.length_cons]; omega
theorem spn_len (val : Nat → Nat) {d : Nat} (hd : d ≤ 2) (s : Nat) : (spn val d s).length ≤ 4161 := by
 rcases (by omega : d = 0 ∨ d = 1 ∨ d = 2) with rfl | rfl | rfl
 ·exact Nat.le_trans (spn_len0 val s) (by omega)
 ·exact Nat.le_trans (spn_len1 val s) (by omega)
 ·exact spn_len2 val s
theorem mem_spk {f : Nat → List Nat} {s y : Nat} : ∀ {k}, y ∈ spk f s k ↔ ∃ p, p < k ∧ y ∈ f (kid s p)
 | 0 => by simp [spk]
 | k + 1 => by
  rw [spk, List.mem_append, mem_spk]
  constructor
  ·rintro (⟨p, h1, h2⟩ | h)
   ·exact ⟨p, by omega, h2⟩
   ·exact ⟨k, by omega, h⟩
  ·rintro ⟨p, h1, h2⟩
   by_cases e : p = k
   ·subst e; exact .inr h2
   ·exact .inl ⟨p, by omega, h2⟩
def Dep (d s : Nat) : Prop := s < 4230 ∧ (d = 1 → s = 4 ∨ (70 ≤ s ∧ s < 134)) ∧ (d = 2 → s = 5) ∧ d ≤ 2
theorem Dep.inner {d s : Nat} (h : Dep (d + 1) s) : inner s := by
 obtain ⟨h1, h2, h3, h4⟩ := h
 unfold Proofs.YthdlpeejmmobmaaGreat.inner
 rcases (by omega : d = 0 ∨ d = 1) with rfl | rfl
 ·have := h2 rfl; omega
 ·have := h3 rfl; omega
theorem Dep.kid {d s p : Nat} (h : Dep (d + 1) s) (hp : p < 64) : Dep d (kid s p) := by
 have hk := kid_lt h.inner hp
 refine ⟨hk.2.1, fun e => ?_, fun e => ?_, by have := h.2.2.2; omega⟩
 ·subst e
  have := h.2.2.1 rfl
  subst this
  unfold Proofs.YthdlpeejmmobmaaGreat.kid
  rw [if_neg (by omega), if_pos rfl]; omega
 ·have := h.2.2.2; omega
theorem spn_mem {val : Nat → Nat} {y : Nat} : ∀ {d s : Nat}, Dep d s → y ∈ spn val d s → ∃ i, i < 4230 ∧ val i ≠ 0 ∧ val i = y
 | 0, s, hd, h => by
  unfold spn at h
  split at h
  ·cases h
  ·rename_i hv; rw [List.mem_singleton] at h; exact ⟨s, hd.1, hv, h.symm⟩
 | d + 1, s, hd, h => by
  unfold spn at h
  split at h
  ·cases h
  ·rename_i hv
   rcases List.mem_cons.1 h with h | h
   ·exact ⟨s, hd.1, hv, h.symm⟩
   ·obtain ⟨p, hp, h⟩ := mem_spk.1 h
    exact spn_mem (hd.kid hp) h
theorem spn_self {val : Nat → Nat} {d s : Nat} (h : val s ≠ 0) : val s ∈ spn val d s := by
 cases d with
 | zero => unfold spn; rw [if_neg h]; exact List.mem_singleton.2 rfl
 | succ d => unfold spn; rw [if_neg h]; exact List.mem_cons_self ..
theorem spn_kid {val : Nat → Nat} {d s p y : Nat} (h : val s ≠ 0) (hp : p < 64) (hy : y ∈ spn val d (kid s p)) : y ∈ spn val (d + 1) s := by
 unfold spn; rw [if_neg h]
 exact List.mem_cons_of_mem _ (mem_spk.2 ⟨p, hp, hy⟩)
theorem Tre.up {A : Nat → Nat → Int} {val : Nat → Nat} (h : Tre A val) {s : Nat} (h6 : 6 ≤ s) (hs : s < 4230) (hv : val s ≠ 0) : val (par s) ≠ 0 := fun e => by
 obtain ⟨a1, a2, a3⟩ := par_in h6 hs
 have := h.dead _ a1 e _ a2
 rw [a3] at this
 exact hv this
theorem span_iff {A : Nat → Nat → Int} {val : Nat → Nat} (h : Tre A val) (y : Nat) : y ∈ span val ↔ ∃ i, i < 4230 ∧ val i ≠ 0 ∧ val i = y := by
 have d0 : ∀ s, s < 4230 → Dep 0 s := fun s hs => ⟨hs, fun e => by omega, fun e => by omega, by omega⟩
 have d4 : Dep 1 4 := ⟨by omega, fun _ => .inl rfl, fun e => by omega, by omega⟩
 have d5 : Dep 2 5 := ⟨by omega, fun e => by omega, fun _ => rfl, by omega⟩
 unfold span
 simp only [List.mem_append]
 constructor
 ·rintro (((((h | h) | h) | h) | h) | h)
  ·exact spn_mem (d0 0 (by omega)) h
  ·exact spn_mem (d0 1 (by omega)) h
  ·exact spn_mem (d0 2 (by omega)) h
  ·exact spn_mem (d0 3 (by omega)) h
  ·exact spn_mem d4 h
  ·exact spn_mem d5 h
 ·rintro ⟨i, hi, hv, rfl⟩
  have s0 : ∀ d, val i ∈ spn val d i := fun d => spn_self hv
  by_cases h6 : 6 ≤ i
  ·have hu := h.up h6 hi hv
   obtain ⟨a1, a2, a3⟩ := par_in h6 hi
   have s1 : ∀ d, val i ∈ spn val (d + 1) (par i) := fun d => spn_kid hu a2 (by rw [a3]; exact s0 d)
   by_cases h7 : i < 70
   ·have e : par i = 4 := by unfold par; rw [if_pos h7]
    have := s1 0
    rw [e] at this
    exact .inl (.inr this)
   ·by_cases h8 : i < 134
    ·have e : par i = 5 := by unfold par; rw [if_neg h7, if_pos h8]
     have := s1 1
     rw [e] at this
     exact .inr this
    ·have e : par i = 70 + (i - 134) / 64 := by unfold par; rw [if_neg h7, if_neg h8]
     have hp7 : ¬ par i < 70 := by omega
     have hp8 : par i < 134 := by omega
     have e2 : par (par i) = 5 := by
      have : par (par i) = if par i < 70 then 4 else if par i < 134 then 5 else 70 + (par i - 134) / 64 := rfl
      rw [this, if_neg hp7, if_pos hp8]
     have hu2 := h.up (show 6 ≤ par i by omega) (by omega) hu
     obtain ⟨b1, b2, b3⟩ := par_in (show 6 ≤ par i by omega) (by omega)
     have s2 : val i ∈ spn val 2 (par (par i)) := spn_kid hu2 b2 (by rw [b3]; exact s1 0)
     rw [e2] at s2
     exact .inr s2
  ·rcases (by omega : i = 0 ∨ i = 1 ∨ i = 2 ∨ i = 3 ∨ i = 4 ∨ i = 5) with rfl | rfl | rfl | rfl | rfl | rfl
   ·exact .inl (.inl (.inl (.inl (.inl (s0 0)))))
   ·exact .inl (.inl (.inl (.inl (.inr (s0 0)))))
   ·exact .inl (.inl (.inl (.inr (s0 0))))
   ·exact .inl (.inl (.inr (s0 0)))
   ·exact .inl (.inr (s0 1))
   ·exact .inr (s0 2)
end Go.Proofs.YthdlpeejmmobmaaGreat
