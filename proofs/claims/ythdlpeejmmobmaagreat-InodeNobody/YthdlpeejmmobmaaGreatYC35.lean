/- C3 C4 C5 -/
import Derived.Test.YthdlpeejmmobmaaGreatYC34
import Derived.WalkMore
import Derived.Deep.LoopGhost
import Derived.Test.YthdlpeejmmobmaaGreatYC01

namespace Go.Proofs.YthdlpeejmmobmaaGreat
open Go.RowKit Go.Maps
set_option maxRecDepth 100000
set_option linter.unusedVariables false
section
variable {w w' : World} {v : Nat} {F : Nat → Prop} {N : Nat} {I : Nat → List Int} {l c G B Q : Nat}
open Mk.Al in
set_option maxHeartbeats 4000000 in
theorem allHeaders_ok (h : Vol w v F N I l c) (hg : Geo G B Q N) {H : Nat → List Int} (hH : Hds I G B H) (hc : c + 8 < 4611686018427387904) :
  Calls Tryz.prog 64 #[.pointer (some ⟨v, 0, none⟩), Mk.geomV G B Q] w fun e w' => ∃ b, e = .returned (.tuple #[.slice (some ⟨b, 0, none⟩) G G, .int .i64 0]) ∧ ∃ F' c', c' ≤ c + 8 ∧ Vol w' v F' N I l c' ∧ Pt.Stp F F' w w' ∧ w.heap.size ≤ b ∧ ¬ F' b ∧ Hrow w' b G G H := by
 have hfit := hg.fit
 obtain ⟨W, hW⟩ : ∃ W, w.alloc (Mk.geomO G B Q) = W := ⟨_, rfl⟩
 have hb : Below w.heap.size w W := by rw [← hW]; exact Mk.grew_alloc _ _
 have hx : W.heap[w.heap.size]? = some (Mk.geomO G B Q) := by rw [← hW]; exact at_new rfl
 have hsz : W.heap.size = w.heap.size + 1 := by rw [← hW]; simp
 have c0 := (g3_of hx).c0
 have c1 := (g3_of hx).c1
 have c2 := (g3_of hx).c2
 have hlt := h.lt
 have hv := h.later hb
 obtain ⟨Z, hZ, hmk⟩ := made_hdrs (G := G) (by omega)
 obtain ⟨W1, hW1⟩ : ∃ W1, W.alloc (.cells Z 64) = W1 := ⟨_, rfl⟩
 have hb1 : Below W.heap.size W W1 := by rw [← hW1]; exact Mk.grew_alloc _ _
 have hn1 : W1.heap[w.heap.size + 1]? = some (.cells Z 64 (0, 0)) := by rw [← hW1]; exact at_new (by omega)
 have hx1 := (hb1.block _ (Array.getElem?_eq_some_iff.1 hx).1).trans hx
 have hmkW := hmk W
 rw [hW1, hsz] at hmkW
 have hr1 := hrow_new hn1 hZ H
 have hs1 : w.heap.size + 2 ≤ W1.heap.size := by have := (Array.getElem?_eq_some_iff.1 hn1).1; omega
 clear hmk hn1
 go_enter Tryz.func64, Tryz.ntmps64
 go_wp2_with fail
 have HC : Hid (Below w.heap.size w W ∧ (∀ k, F k → k < w.heap.size) ∧ c + 8 < 4611686018427387904 ∧ w.heap.size + 2 ≤ W1.heap.size) := ⟨hb, hlt, hc, hs1⟩
 have hI0 : ∃ k F1 c1, k ≤ G ∧ (.int .i64 0 : Value) = .int .i64 (k : Int) ∧ c1 ≤ c + k ∧ Vol W1 v F1 N I l c1 ∧ Pt.Stp F F1 W W1 ∧ ¬ F1 (w.heap.size + 1) ∧ w.heap.size + 2 ≤ W1.heap.size ∧ W1.heap[w.heap.size]? = some (Mk.geomO G B Q) ∧ Hrow W1 (w.heap.size + 1) G k H :=
  ⟨0, F, c, by omega, rfl, by omega, hv.later hb1, Pt.stp_below hb1, fun hf => by have := hlt _ hf; omega, hs1, hx1, hr1⟩
 clear hb1 hb hx hx1 hW1 hW hv h hlt hr1 hmkW hs1
 go_loopw [15] (fun v15 wr => ∃ k F1 c1, k ≤ G ∧ v15 = .int .i64 (k : Int) ∧ c1 ≤ c + k ∧ Vol wr v F1 N I l c1 ∧ Pt.Stp F F1 W wr ∧ ¬ F1 (w.heap.size + 1) ∧ w.heap.size + 2 ≤ wr.heap.size ∧ wr.heap[w.heap.size]? = some (Mk.geomO G B Q) ∧ Hrow wr (w.heap.size + 1) G k H) (fun v15 _ => G - (intOf v15).toNat)
 case atStart => exact hI0
 case round =>
  clear hI0
  obtain ⟨k, F1, c1, hkG, rfl, hc1, hv, hst, hnh, hszr, hx, hr⟩ := hrel
  have c0 := (g3_of hx).c0
  have c1' := (g3_of hx).c1
  have c2 := (g3_of hx).c2
  have hnF : ∀ k, F1 k → k ≠ w.heap.size ∧ k ≠ w.heap.size + 1 := fun k hk => ⟨fun e => (hst.new k hk).elim (fun h => by have := HC.out.2.1 k h; omega) (fun h => by have : W.heap.size ≤ k := h; omega), fun e => hnh (e ▸ hk)⟩
  by_cases hlt : k < G
  ·have hkI : (k : Int) < (G : Int) := by omega
   have hln := hH.len k hlt
   have hsg := Mk.groupA_size (k : Int) (H k) hln
   have hsg0 := Mk.groupA_size 0 (Mk.zers 40) (Mk.zers_len 40)
   have hhd := header_ok hv hg hlt (hH.at_ k hlt) hln (by have := HC.out.2.2.1; omega)
   have HV : Hid (Vol wr v F1 N I l c1 ∧ Pt.Stp F F1 W wr ∧ Hrow wr (w.heap.size + 1) G k H) := ⟨hv, hst, hr⟩
   clear hv hst hr
   go_wp2_with fail
   refine Calls.mono hhd ?_
   rintro e w5 ⟨rfl, F2, hv5, hst5⟩
   dsimp only
   obtain ⟨hv, hst, hr⟩ := HV.out
   have hx5 : w5.heap[w.heap.size]? = some (Mk.geomO G B Q) := (hst5.fr.block _ (by omega) (fun hf => by have := hnF _ hf; omega)).trans hx
   have hr5 : Hrow w5 (w.heap.size + 1) G k H := hr.keep (hst5.fr.block _ (by omega) (fun hf => by have := hnF _ hf; omega))
   have hs5 : w.heap.size + 2 ≤ w5.heap.size := by have := hst5.fr.size; omega
   have hst6 : Pt.Stp F F2 W w5 := stp_trans hst hst5
   have hnF2 : ∀ k, F2 k → k ≠ w.heap.size + 1 := fun k hk e => (hst5.new k hk).elim (fun h => (hnF k h).2 e) (fun h => by have : wr.heap.size ≤ k := h; omega)
   obtain ⟨W6, hW6⟩ : ∃ W6, w5.alloc (Mk.groupO 0 (Mk.zers 40)) = W6 := ⟨_, rfl⟩
   have hb6 : Below w5.heap.size w5 W6 := by rw [← hW6]; exact Mk.grew_alloc _ _
   have hn6 : W6.heap[w5.heap.size]? = some (Mk.groupO 0 (Mk.zers 40)) := by rw [← hW6]; exact at_new rfl
   obtain ⟨W7, hW7⟩ : ∃ W7, W6.setRow w5.heap.size (Mk.groupA k (H k)) = W7 := ⟨_, rfl⟩
   have hn7 : W7.heap[w5.heap.size]? = some (Mk.groupO k (H k)) := by rw [← hW7]; exact setRow_heap _ _ _ _ _ _ hn6
   have hb7 : Below w5.heap.size w5 W7 := by rw [← hW7]; exact below_setRow hb6 (Nat.le_refl _) _
   have hr7 := hr5.keep (hb7.block _ (by omega))
   have hx7 := (hb7.block _ (by omega)).trans hx5
   have hv7 := hv5.later hb7
   have hst7 := stp_grown hst6 hb7
   have hth : W7.there (w.heap.size + 1) (k * 41) (Mk.groupA k (H k)).size := by rw [hsg]; exact hr7.at_ hlt
   dsimp only [Mk.groupO] at hW6
   rw [Mk.zero38] at hW6
   obtain ⟨W8, hW8⟩ : ∃ W8, W7.setCells (w.heap.size + 1) (k * 41) (Mk.groupA k (H k)).toList = W8 := ⟨_, rfl⟩
   have hoth : ∀ q, q ≠ w.heap.size + 1 → W8.heap[q]? = W7.heap[q]? := by rw [← hW8]; exact (heap_setCells _ _ _ _).2.2.2.2
   have hr8 : Hrow W8 (w.heap.size + 1) G (k + 1) H := by rw [← hW8]; exact hr7.put hlt (fun n hn => hH.len n (by omega))
   have hs8 : W8.heap.size = W7.heap.size := by rw [← hW8]; exact (heap_setCells _ _ _ _).1
   have hb8 : Below W.heap.size W7 W8 := by rw [← hW8]; exact below_setCells (Below.refl _ _) _ (by omega) _ _
   have HN : Hid (Vol W8 v F2 N I l (c1 + 1) ∧ W8.heap[w.heap.size]? = some (Mk.geomO G B Q) ∧ Hrow W8 (w.heap.size + 1) G (k + 1) H) := ⟨hv7.else (by omega) (fun q hq => hoth q (hnF2 q hq)), (hoth _ (by omega)).trans hx7, hr8⟩
   clear hst hr hv hv5 hst5 hst6 hv7 hr7 hr5 hr8
   go_wp2_with (first
    | (refine wpList_store_row rfl 64 _ _ rfl w5.heap.size (Mk.groupA k (H k)) rfl rfl 64 _ hn6 (Mk.info38 (k : Int) (H k) hln) (hsg0.trans hsg.symm) (Mk.group_one (k : Int) (H k)) ?_; rw [hW7])
    | (refine wpList_load_row rfl 64 _ rfl w5.heap.size rfl 64 _ (0, 0) _ hn7 Tryz.underlying64 rfl (Mk.info38 (k : Int) (H k) hln) ?_)
    | (refine wpList_store_mid rfl 64 _ _ rfl (w.heap.size + 1) (k * 41) (Mk.groupA k (H k)) rfl rfl hth (Mk.info38 (k : Int) (H k) hln) (Mk.group_one (k : Int) (H k)) ?_; rw [hW8]))
   go_roundw
   case rel =>
    exact ⟨k + 1, F2, c1 + 1, by omega, by go_num, by omega, HN.out.1, stp_low hst7 hb8, fun hf => hnF2 _ hf rfl, by have := hb7.size; omega, HN.out.2.1, HN.out.2.2⟩
   case measure => simp [intOf]; omega
  ·have hkG' : k = G := by omega
   subst hkG'
   have hkI : ¬ ((k : Int) < (k : Int)) := by omega
   go_wp2_with fail
   go_ret2
   refine ⟨w.heap.size + 1, rfl, F1, c1, by omega, hv, stp_after HC.out.1 hst, by omega, hnh, hr⟩
end
end Go.Proofs.YthdlpeejmmobmaaGreat

namespace Go.Proofs.YthdlpeejmmobmaaGreat
open Go.RowKit Go.Maps
set_option maxRecDepth 100000
set_option linter.unusedVariables false
section
variable {w w' : World} {v : Nat} {F : Nat → Prop} {N : Nat} {I : Nat → List Int} {l c G B Q : Nat}
open Mk.Al in
set_option maxHeartbeats 4000000 in
theorem room_ok (h : Vol w v F N I l c) (hg : Geo G B Q N) {H : Nat → List Int} (hH : Hds I G B H) (hc : c + 8 < 4611686018427387904) :
  Calls Tryz.prog 21 #[.pointer (some ⟨v, 0, none⟩), Mk.geomV G B Q] w fun e w' => e = .returned (.tuple #[.int .i64 ((tot H false B Q G : Nat) : Int), .int .i64 ((tot H true B Q G : Nat) : Int), .int .i64 0]) ∧ ∃ F' c', c' ≤ c + 8 ∧ Vol w' v F' N I l c' ∧ Pt.Stp F F' w w' := by
 have hfit := hg.fit
 obtain ⟨W, hW⟩ : ∃ W, w.alloc (Mk.geomO G B Q) = W := ⟨_, rfl⟩
 have hb : Below w.heap.size w W := by rw [← hW]; exact Mk.grew_alloc _ _
 have hx : W.heap[w.heap.size]? = some (Mk.geomO G B Q) := by rw [← hW]; exact at_new rfl
 have hsz : W.heap.size = w.heap.size + 1 := by rw [← hW]; simp
 have c0 := (g3_of hx).c0
 have c1 := (g3_of hx).c1
 have c2 := (g3_of hx).c2
 have hlt := h.lt
 have hv := h.later hb
 have hrf := refusal_ok2 hv hg
 have HC : Hid (Vol W v F N I l c ∧ Below w.heap.size w W ∧ (∀ k, F k → k < w.heap.size) ∧ c + 8 < 4611686018427387904) := ⟨hv, hb, hlt, hc⟩
 clear hv h hb hlt
 go_enter Tryz.func21, Tryz.ntmps21
 go_wp2_with fail
 refine Mk.grew_at hrf ?_
 intro w1 hb1
 have hx1 := (hb1.block _ (Array.getElem?_eq_some_iff.1 hx).1).trans hx
 have c0 := (g3_of hx1).c0
 have c1 := (g3_of hx1).c1
 have c2 := (g3_of hx1).c2
 have hah := allHeaders_ok (HC.out.1.later hb1) hg hH hc
 dsimp only
 go_wp2_with fail
 refine Calls.mono hah ?_
 rintro e w2 ⟨hb, rfl, F2, c', hc', hv2, hst2, hblo, hnF, hrow⟩
 dsimp only
 have hx2 : w2.heap[w.heap.size]? = some (Mk.geomO G B Q) := (hst2.fr.block _ (Array.getElem?_eq_some_iff.1 hx1).1 (fun hf => by have := HC.out.2.2.1 _ hf; omega)).trans hx1
 have c0 := (g3_of hx2).c0
 have c1 := (g3_of hx2).c1
 have c2 := (g3_of hx2).c2
 have hst : Pt.Stp F F2 w w2 := stp_after (HC.out.2.1.trans (hb1.mono HC.out.2.1.size)) hst2
 have hsw := hb1.size
 have HV : Hid (Vol w2 v F2 N I l c' ∧ Pt.Stp F F2 w w2 ∧ Hrow w2 hb G G H) := ⟨hv2, hst, hrow⟩
 have hlt2 : hb < w2.heap.size := by
  have h1 := (hrow.there 0 (by omega)).1
  rw [Option.isSome_iff_exists] at h1
  obtain ⟨v0, h1⟩ := h1
  exact lt_of_cell h1
 clear hah hv2 hst2 hst hrow
 go_wp2_with fail
 have hB8 : ∀ r, eN r B Q ≤ 256 := fun r => (fe_lt hg.may r 0).2.2
 go_loopw [10, 11, 31] (fun v10 v11 v31 wr => ∃ k, k ≤ G ∧ v10 = .int .i64 (tot H false B Q k : Int) ∧ v11 = .int .i64 (tot H true B Q k : Int) ∧ v31 = .int .i64 (k : Int) ∧ Below w2.heap.size w2 wr) (fun _ _ v31 _ => G - (intOf v31).toNat)
 case atStart => exact ⟨0, by omega, rfl, rfl, rfl, Below.refl _ _⟩
 case round =>
  obtain ⟨k, hkG, rfl, rfl, rfl, hbr⟩ := hrel
  have hx3 := (hbr.block _ (Array.getElem?_eq_some_iff.1 hx2).1).trans hx2
  have c0 := (g3_of hx3).c0
  have c1 := (g3_of hx3).c1
  have c2 := (g3_of hx3).c2
  by_cases hlt : k < G
  ·have hkI : (k : Int) < (G : Int) := by omega
   have hln := hH.len k hlt
   have hsg := Mk.groupA_size (k : Int) (H k) hln
   have hsg0 := Mk.groupA_size 0 (Mk.zers 40) (Mk.zers_len 40)
   have hrw := (HV.out.2.2.keep (hbr.block _ hlt2)).row k hlt
   have hinf : (Tryz.prog.info? 64).map (·.size) = some (Mk.groupA k (H k)).toList.length := by rw [Array.length_toList]; exact Mk.info38 (k : Int) (H k) hln
   have hl0 : ∀ w, Calls Tryz.prog 65 #[.int .i64 0, Mk.geomV G B Q, Mk.groupV k (H k)] w fun e w' => e = .returned (.int .i64 (fre H false B Q k : Int)) ∧ Below w.heap.size w w' := fun w => by
    have := left_ok false (hg.inn hlt) (H k) hln (hH.byt k hlt) w
    rw [fre_zc hg.may] at this
    exact this
   have hl1 : ∀ w, Calls Tryz.prog 65 #[.int .i64 1, Mk.geomV G B Q, Mk.groupV k (H k)] w fun e w' => e = .returned (.int .i64 (fre H true B Q k : Int)) ∧ Below w.heap.size w w' := fun w => by
    have := left_ok true (hg.inn hlt) (H k) hln (hH.byt k hlt) w
    rw [fre_zc hg.may] at this
    exact this
   have ht0 := tot_le (H := H) (hB8 false) (k := k)
   have ht1 := tot_le (H := H) (hB8 true) (k := k)
   have ht2 := tot_le (H := H) (hB8 false) (k := k + 1)
   have ht3 := tot_le (H := H) (hB8 true) (k := k + 1)
   have e0 : tot H false B Q (k + 1) = tot H false B Q k + fre H false B Q k := rfl
   have e1 : tot H true B Q (k + 1) = tot H true B Q k + fre H true B Q k := rfl
   obtain ⟨a0, ha0⟩ : ∃ a0, tot H false B Q k = a0 := ⟨_, rfl⟩
   obtain ⟨a1, ha1⟩ : ∃ a1, tot H true B Q k = a1 := ⟨_, rfl⟩
   obtain ⟨f0, hf0⟩ : ∃ f0, fre H false B Q k = f0 := ⟨_, rfl⟩
   obtain ⟨f1, hf1⟩ : ∃ f1, fre H true B Q k = f1 := ⟨_, rfl⟩
   rw [e0] at ht2
   rw [e1] at ht3
   rw [ha0, hf0] at e0 ht2
   rw [ha1, hf1] at e1 ht3
   rw [ha0] at ht0 ⊢
   rw [ha1] at ht1 ⊢
   rw [hf0] at hl0
   rw [hf1] at hl1
   have hs0 : IntKind.i64.wrap ((a0 : Int) + (f0 : Int)) = (a0 : Int) + (f0 : Int) := IntWalk.i64_in _ (by omega)
   have hs1 : IntKind.i64.wrap ((a1 : Int) + (f1 : Int)) = (a1 : Int) + (f1 : Int) := IntWalk.i64_in _ (by omega)
   have HE : Hid (tot H false B Q (k + 1) = a0 + f0 ∧ tot H true B Q (k + 1) = a1 + f1) := ⟨e0, e1⟩
   clear ha0 ha1 hf0 hf1 e0 e1 ht0 ht1 ht2 ht3
   obtain ⟨W6, hW6⟩ : ∃ W6, wr.alloc (Mk.groupO 0 (Mk.zers 40)) = W6 := ⟨_, rfl⟩
   have hb6 : Below wr.heap.size wr W6 := by rw [← hW6]; exact Mk.grew_alloc _ _
   have hn6 : W6.heap[wr.heap.size]? = some (Mk.groupO 0 (Mk.zers 40)) := by rw [← hW6]; exact at_new rfl
   obtain ⟨W7, hW7⟩ : ∃ W7, W6.setRow wr.heap.size (Mk.groupA k (H k)) = W7 := ⟨_, rfl⟩
   have hn7 : W7.heap[wr.heap.size]? = some (Mk.groupO k (H k)) := by rw [← hW7]; exact setRow_heap _ _ _ _ _ _ hn6
   have hb7 : Below wr.heap.size wr W7 := by rw [← hW7]; exact below_setRow hb6 (Nat.le_refl _) _
   have hx7 := (hb7.block _ (Array.getElem?_eq_some_iff.1 hx3).1).trans hx3
   have c0' := (g3_of hx7).c0
   have c1' := (g3_of hx7).c1
   have c2' := (g3_of hx7).c2
   have c0'' := c0
   dsimp only [Mk.groupO] at hW6
   rw [Mk.zero38] at hW6
   go_wp2_with (first
    | (refine wpList_load_mid rfl 64 _ rfl hb (k * 41) rfl _ _ hrw Tryz.underlying64 rfl hinf ?_; rw [Array.toArray_toList])
    | (refine wpList_store_row rfl 64 _ _ rfl wr.heap.size (Mk.groupA k (H k)) rfl rfl 64 _ hn6 (Mk.info38 (k : Int) (H k) hln) (hsg0.trans hsg.symm) (Mk.group_one (k : Int) (H k)) ?_; rw [hW7])
    | (refine wpList_load_row rfl 64 _ rfl wr.heap.size rfl 64 _ (0, 0) _ hn7 Tryz.underlying64 rfl (Mk.info38 (k : Int) (H k) hln) ?_))
   refine Mk.grew_at (hl0 _) ?_
   intro w3 hb3
   have hx8 := (hb3.block _ (Array.getElem?_eq_some_iff.1 hx7).1).trans hx7
   have hn8 := (hb3.block _ (Array.getElem?_eq_some_iff.1 hn7).1).trans hn7
   have c0 := (g3_of hx8).c0
   have c1 := (g3_of hx8).c1
   have c2 := (g3_of hx8).c2
   dsimp only
   go_wp2_with (first
    | (refine wpList_load_row rfl 64 _ rfl wr.heap.size rfl 64 _ (0, 0) _ hn8 Tryz.underlying64 rfl (Mk.info38 (k : Int) (H k) hln) ?_))
   refine Mk.grew_at (hl1 _) ?_
   intro w4 hb4
   dsimp only
   go_wp2_with fail
   go_roundw
   case rel =>
    exact ⟨k + 1, by omega, by rw [HE.out.1]; go_num, by rw [HE.out.2]; go_num, by go_num, hbr.trans (((hb7.mono hbr.size)).trans ((hb3.mono (by have := hb7.size; have := hbr.size; omega)).trans (hb4.mono (by have := hb3.size; have := hb7.size; have := hbr.size; omega))))⟩
   case measure => simp [intOf]; omega
  ·have hkG' : k = G := by omega
   subst hkG'
   have hkI : ¬ ((k : Int) < (k : Int)) := by omega
   go_wp2_with fail
   go_ret3
   exact ⟨rfl, F2, c', hc', HV.out.1.later hbr, stp_grown HV.out.2.1 hbr⟩
end
end Go.Proofs.YthdlpeejmmobmaaGreat

namespace Go.Proofs.YthdlpeejmmobmaaGreat
open Go.RowKit Go.Maps
set_option maxRecDepth 100000
set_option linter.unusedVariables false
def bst (H : Nat → List Int) (r : Bool) (G B Q near : Nat) : Nat → Nat
 | 0 => near
 | k + 1 => if fre H r B Q (bst H r G B Q near k) < fre H r B Q ((near + k) % G) then (near + k) % G else bst H r G B Q near k
theorem bst_lt {H : Nat → List Int} {r : Bool} {G B Q near : Nat} (hn : near < G) : ∀ k, bst H r G B Q near k < G
 | 0 => hn
 | k + 1 => by
  simp only [bst]
  split
  ·exact Nat.mod_lt _ (by omega)
  ·exact bst_lt hn k
def mos (H : Nat → List Int) (r : Bool) (G B Q near : Nat) : Option (Nat × Nat) := (frs H r B Q (bst H r G B Q near G)).map fun i => (bst H r G B Q near G, i)
structure R5 (w wr w2 wx : World) (G B Q n m : Nat) (ys zs : List Int) : Prop where
 g : wx.heap[w.heap.size]? = some (Mk.geomO G B Q)
 n : wx.heap[wr.heap.size]? = some (Mk.groupO n ys)
 m : wx.heap[w2.heap.size]? = some (Mk.groupO m zs)
 b : Below w2.heap.size w2 wx
theorem R5.kept {w wr w2 wx wy : World} {G B Q n m : Nat} {ys zs : List Int} (h : R5 w wr w2 wx G B Q n m ys zs) (hb : Below wx.heap.size wx wy) : R5 w wr w2 wy G B Q n m ys zs :=
 ⟨(hb.block _ (Array.getElem?_eq_some_iff.1 h.g).1).trans h.g, (hb.block _ (Array.getElem?_eq_some_iff.1 h.n).1).trans h.n, (hb.block _ (Array.getElem?_eq_some_iff.1 h.m).1).trans h.m, h.b.trans (hb.mono h.b.size)⟩
theorem row_range {w : World} {b : Nat} {n : Int} {ys : List Int} (h : w.heap[b]? = some (Mk.groupO n ys)) : w.rangeAt b 0 (Mk.groupA n ys).toList := fun j v hv => by
 rw [Nat.zero_add]
 refine cell_of_row _ _ j _ _ _ h |>.trans ?_
 rw [← Array.getElem?_toList]
 exact hv
theorem R5.cells {w wr w2 wx : World} {G B Q n m : Nat} {ys zs : List Int} (h : R5 w wr w2 wx G B Q n m ys zs) :
  (wx.cell? ⟨w.heap.size, 0, none⟩ = some (.int .i64 (G : Int)) ∧ wx.cell? ⟨w.heap.size, 1, none⟩ = some (.int .i64 (B : Int)) ∧ wx.cell? ⟨w.heap.size, 2, none⟩ = some (.int .i64 (Q : Int))) ∧ wx.rangeAt wr.heap.size 0 (Mk.groupA n ys).toList ∧ wx.rangeAt w2.heap.size 0 (Mk.groupA m zs).toList :=
 ⟨⟨(g3_of h.g).c0, (g3_of h.g).c1, (g3_of h.g).c2⟩, row_range h.n, row_range h.m⟩
section
variable {w w' : World} {v : Nat} {F : Nat → Prop} {N : Nat} {I : Nat → List Int} {l c G B Q : Nat}
open Mk.Al in
set_option maxHeartbeats 4000000 in
theorem emptiest_ok (h : Vol w v F N I l c) (hg : Geo G B Q N) {H : Nat → List Int} (hH : Hds I G B H) (r : Bool) {near : Nat} (hn : near < G) (hc : c + 8 < 4611686018427387904) :
  Calls Tryz.prog 72 #[.pointer (some ⟨v, 0, none⟩), Mk.geomV G B Q, .int .i64 (rI r), .int .i64 (near : Int)] w fun e w' => e = .returned (nstV H r (mos H r G B Q near)) ∧ ∃ F' c', c' ≤ c + 8 ∧ Vol w' v F' N I l c' ∧ Pt.Stp F F' w w' := by
 have hfit := hg.fit
 obtain ⟨W, hW⟩ : ∃ W, ((w.alloc (Mk.geomO G B Q)).alloc (spotO 0 (Mk.zers 40) false 0)) = W := ⟨_, rfl⟩
 have hb : Below w.heap.size w W := by rw [← hW]; exact (((Below.refl _ _).alloc (Nat.le_refl _) _).alloc (by simp) _)
 have hx : W.heap[w.heap.size]? = some (Mk.geomO G B Q) := by rw [← hW]; exact at_old (at_new rfl)
 have hs : W.heap[w.heap.size + 1]? = some (spotO 0 (Mk.zers 40) false 0) := by rw [← hW]; exact at_new (by simp)
 have c0 := (g3_of hx).c0
 have c1 := (g3_of hx).c1
 have c2 := (g3_of hx).c2
 have hsz : W.heap.size = w.heap.size + 2 := by rw [← hW]; simp
 have hlt := h.lt
 have hv := h.later hb
 have hah := allHeaders_ok hv hg hH hc
 have hi0 := info138 0 (Mk.zers_len 40) false 0
 have h10 := spot_one 0 (Mk.zers 40) false 0
 dsimp only [spotO] at hW
 rw [zeroSpot] at hW
 have HC : Hid (Vol W v F N I l c ∧ Below w.heap.size w W ∧ (∀ k, F k → k < w.heap.size) ∧ c + 8 < 4611686018427387904) := ⟨hv, hb, hlt, hc⟩
 clear hv h hb hlt
 go_enter Tryz.func72, Tryz.ntmps72
 go_wp2_with fail
 refine Calls.mono hah ?_
 rintro e w2 ⟨hb, rfl, F2, c', hc', hv2, hst2, hblo, hnF, hrow⟩
 dsimp only
 have hx2 : w2.heap[w.heap.size]? = some (Mk.geomO G B Q) := (hst2.fr.block _ (Array.getElem?_eq_some_iff.1 hx).1 (fun hf => by have := HC.out.2.2.1 _ hf; omega)).trans hx
 have hs2 : w2.heap[w.heap.size + 1]? = some (spotO 0 (Mk.zers 40) false 0) := (hst2.fr.block _ (Array.getElem?_eq_some_iff.1 hs).1 (fun hf => by have := HC.out.2.2.1 _ hf; omega)).trans hs
 have c0 := (g3_of hx2).c0
 have c1 := (g3_of hx2).c1
 have c2 := (g3_of hx2).c2
 have hst : Pt.Stp F F2 w w2 := stp_after (HC.out.2.1) hst2
 have hlt2 : hb < w2.heap.size := by
  have h1 := (hrow.there 0 (by omega)).1
  rw [Option.isSome_iff_exists] at h1
  obtain ⟨v0, h1⟩ := h1
  exact lt_of_cell h1
 have hq2 : ∀ q, F2 q → q ≠ w.heap.size + 1 := fun q hq e => (hst2.new q hq).elim (fun h => by have := HC.out.2.2.1 q h; omega) (fun h => by have : W.heap.size ≤ q := h; omega)
 have HV : Hid (Vol w2 v F2 N I l c' ∧ Pt.Stp F F2 w w2 ∧ Hrow w2 hb G G H ∧ ∀ q, F2 q → q ≠ w.heap.size + 1) := ⟨hv2, hst, hrow, hq2⟩
 have hln := hH.len near hn
 have hsg := Mk.groupA_size (near : Int) (H near) hln
 have hsg0 := Mk.groupA_size 0 (Mk.zers 40) (Mk.zers_len 40)
 have hrw := hrow.row near hn
 have hnI : (near : Int) < (G : Int) := by omega
 have hinf : (Tryz.prog.info? 64).map (·.size) = some (Mk.groupA near (H near)).toList.length := by rw [Array.length_toList]; exact Mk.info38 (near : Int) (H near) hln
 obtain ⟨W6, hW6⟩ : ∃ W6, w2.alloc (Mk.groupO 0 (Mk.zers 40)) = W6 := ⟨_, rfl⟩
 have hb6 : Below w2.heap.size w2 W6 := by rw [← hW6]; exact Mk.grew_alloc _ _
 have hn6 : W6.heap[w2.heap.size]? = some (Mk.groupO 0 (Mk.zers 40)) := by rw [← hW6]; exact at_new rfl
 obtain ⟨W7, hW7⟩ : ∃ W7, W6.setRow w2.heap.size (Mk.groupA near (H near)) = W7 := ⟨_, rfl⟩
 have hn7 : W7.heap[w2.heap.size]? = some (Mk.groupO near (H near)) := by rw [← hW7]; exact setRow_heap _ _ _ _ _ _ hn6
 have hb7 : Below w2.heap.size w2 W7 := by rw [← hW7]; exact below_setRow hb6 (Nat.le_refl _) _
 dsimp only [Mk.groupO] at hW6
 rw [Mk.zero38] at hW6
 clear hah hv2 hst2 hst hrow hq2
 go_wp2_with (first
    | (refine wpList_load_mid rfl 64 _ rfl hb (near * 41) rfl _ _ hrw Tryz.underlying64 rfl hinf ?_; rw [Array.toArray_toList])
    | (refine wpList_store_row rfl 64 _ _ rfl w2.heap.size (Mk.groupA near (H near)) rfl rfl 64 _ hn6 (Mk.info38 (near : Int) (H near) hln) (hsg0.trans hsg.symm) (Mk.group_one (near : Int) (H near)) ?_; rw [hW7]))
 have hB8 : ∀ r, eN r B Q ≤ 256 := fun r => (fe_lt hg.may r 0).2.2
 have hI0 : ∃ k, k ≤ G ∧ (.int .i64 0 : Value) = .int .i64 (k : Int) ∧ Below w2.heap.size w2 W7 ∧ W7.heap[w2.heap.size]? = some (Mk.groupO (bst H r G B Q near k) (H (bst H r G B Q near k))) := ⟨0, by omega, rfl, hb7, hn7⟩
 clear hrw hinf hn7 hn6 hW7 hW6 hb6 hb7 hln hsg
 go_loopw [33] (fun v33 wr => ∃ k, k ≤ G ∧ v33 = .int .i64 (k : Int) ∧ Below w2.heap.size w2 wr ∧ wr.heap[w2.heap.size]? = some (Mk.groupO (bst H r G B Q near k) (H (bst H r G B Q near k)))) (fun v33 _ => G - (intOf v33).toNat)
 case atStart => exact hI0
 case round =>
  clear hI0
  obtain ⟨k, hkG, rfl, hbr, hbest⟩ := hrel
  have hx3 := (hbr.block _ (Array.getElem?_eq_some_iff.1 hx2).1).trans hx2
  have hs3 := (hbr.block _ (Array.getElem?_eq_some_iff.1 hs2).1).trans hs2
  have c0 := (g3_of hx3).c0
  have c1 := (g3_of hx3).c1
  have c2 := (g3_of hx3).c2
  by_cases hlt : k < G
  ·have hkI : (k : Int) < (G : Int) := by omega
   have hstep : bst H r G B Q near (k + 1) = if fre H r B Q (bst H r G B Q near k) < fre H r B Q ((near + k) % G) then (near + k) % G else bst H r G B Q near k := rfl
   have hmG := bst_lt (H := H) (r := r) (B := B) (Q := Q) hn k
   obtain ⟨m, hm⟩ : ∃ m, bst H r G B Q near k = m := ⟨_, rfl⟩
   obtain ⟨n, hnn⟩ : ∃ n, (near + k) % G = n := ⟨_, rfl⟩
   have hnG : n < G := by rw [← hnn]; exact Nat.mod_lt _ (by omega)
   have hnI2 : (n : Int) < (G : Int) := by omega
   have hrem : ((near : Int) + (k : Int)).tmod (G : Int) = (n : Int) := by rw [← Int.natCast_add, ← hnn]; rfl
   have hsum : IntKind.i64.wrap ((near : Int) + (k : Int)) = (near : Int) + (k : Int) := IntWalk.i64_in _ (by omega)
   have hwn : wrap64 (n : Int) = (n : Int) := IntWalk.wrap64_in _ ⟨by omega, by omega⟩
   have hGn : ¬ G = 0 := by omega
   rw [hm] at hbest hstep hmG
   rw [hnn] at hstep
   have HS : Hid (bst H r G B Q near (k + 1) = if fre H r B Q m < fre H r B Q n then n else m) := hstep
   clear hstep hm hnn
   have hln := hH.len n hnG
   have hlm := hH.len m hmG
   have hsg := Mk.groupA_size (n : Int) (H n) hln
   have hsm := Mk.groupA_size (m : Int) (H m) hlm
   have hrw := (HV.out.2.2.1.keep (hbr.block _ hlt2)).row n hnG
   have hinf : (Tryz.prog.info? 64).map (·.size) = some (Mk.groupA n (H n)).toList.length := by rw [Array.length_toList]; exact Mk.info38 (n : Int) (H n) hln
   have hinm : (Tryz.prog.info? 64).map (·.size) = some (Mk.groupA m (H m)).toList.length := by rw [Array.length_toList]; exact Mk.info38 (m : Int) (H m) hlm
   have hln' : ∀ w, Calls Tryz.prog 65 #[.int .i64 (rI r), Mk.geomV G B Q, Mk.groupV n (H n)] w fun e w' => e = .returned (.int .i64 (fre H r B Q n : Int)) ∧ Below w.heap.size w w' := fun w => by
    have := left_ok r (hg.inn hnG) (H n) hln (hH.byt n hnG) w
    rw [fre_zc hg.may] at this
    exact this
   have hlm' : ∀ w, Calls Tryz.prog 65 #[.int .i64 (rI r), Mk.geomV G B Q, Mk.groupV m (H m)] w fun e w' => e = .returned (.int .i64 (fre H r B Q m : Int)) ∧ Below w.heap.size w w' := fun w => by
    have := left_ok r (hg.inn hmG) (H m) hlm (hH.byt m hmG) w
    rw [fre_zc hg.may] at this
    exact this
   obtain ⟨fn, hfn⟩ : ∃ fn, fre H r B Q n = fn := ⟨_, rfl⟩
   obtain ⟨fm, hfm⟩ : ∃ fm, fre H r B Q m = fm := ⟨_, rfl⟩
   rw [hfn] at hln'
   rw [hfm] at hlm'
   have HF : Hid (fre H r B Q n = fn ∧ fre H r B Q m = fm) := ⟨hfn, hfm⟩
   clear hfn hfm
   obtain ⟨W6, hW6⟩ : ∃ W6, wr.alloc (Mk.groupO 0 (Mk.zers 40)) = W6 := ⟨_, rfl⟩
   have hb6 : Below wr.heap.size wr W6 := by rw [← hW6]; exact Mk.grew_alloc _ _
   have hn6 : W6.heap[wr.heap.size]? = some (Mk.groupO 0 (Mk.zers 40)) := by rw [← hW6]; exact at_new rfl
   obtain ⟨W7, hW7⟩ : ∃ W7, W6.setRow wr.heap.size (Mk.groupA n (H n)) = W7 := ⟨_, rfl⟩
   have hn7 : W7.heap[wr.heap.size]? = some (Mk.groupO n (H n)) := by rw [← hW7]; exact setRow_heap _ _ _ _ _ _ hn6
   have hb7 : Below wr.heap.size wr W7 := by rw [← hW7]; exact below_setRow hb6 (Nat.le_refl _) _
   have hx7 := (hb7.block _ (Array.getElem?_eq_some_iff.1 hx3).1).trans hx3
   have hm7 := (hb7.block _ (Array.getElem?_eq_some_iff.1 hbest).1).trans hbest
   dsimp only [Mk.groupO] at hW6
   rw [Mk.zero38] at hW6
   go_upto_region 9 with (first
    | (refine wpList_load_mid rfl 64 _ rfl hb (n * 41) rfl _ _ hrw Tryz.underlying64 rfl hinf ?_; rw [Array.toArray_toList])
    | (refine wpList_store_row rfl 64 _ _ rfl wr.heap.size (Mk.groupA n (H n)) rfl rfl 64 _ hn6 (Mk.info38 (n : Int) (H n) hln) (hsg0.trans hsg.symm) (Mk.group_one (n : Int) (H n)) ?_; rw [hW7]))
   try simp only [Act.put]
   go_cut [53] (fun v53 wx => v53 = .bool (decide (fm < fn)) ∧ Below w2.heap.size w2 wx ∧ wx.heap[wr.heap.size]? = some (Mk.groupO n (H n)) ∧ wx.heap[w2.heap.size]? = some (Mk.groupO m (H m)))
   case first =>
    have hR7 : R5 w wr w2 W7.drew G B Q n m (H n) (H m) := ⟨hx7, hn7, hm7, (hbr.trans (hb7.mono hbr.size)).drew⟩
    refine wp_region_held_drew (S := (fun w' => (w'.cell? ⟨w.heap.size, 0, none⟩ = some (.int .i64 (G : Int)) ∧ w'.cell? ⟨w.heap.size, 1, none⟩ = some (.int .i64 (B : Int)) ∧ w'.cell? ⟨w.heap.size, 2, none⟩ = some (.int .i64 (Q : Int))) ∧ w'.rangeAt wr.heap.size 0 (Mk.groupA n (H n)).toList ∧ w'.rangeAt w2.heap.size 0 (Mk.groupA m (H m)).toList)) (by kernel_rfl) hR7.cells (fun hHeld => ?_)
    refine tk 0 ⟨some 45, .move (.tmp 2), 134, "row.go:115", #[], none⟩ ?_ ?_ hHeld ?_
    rotate_left
    ·(intro w hSw; (try dsimp only at hSw); go_simp; try (with_reducible rfl))
    simp only [Act.put, sA, sZ, sS]
    refine tk 1 ⟨some 46, .load 23 (.tmp 5), 23, "row.go:115", #[], none⟩ ?_ ?_ hHeld ?_
    rotate_left
    ·(intro w hSw; (try dsimp only at hSw); go_simp; try (with_reducible rfl))
    simp only [Act.put, sA, sZ, sS]
    refine wpAnyH_take (i := 2) (oi := ⟨some 47, .load 64 (.tmp 14), 64, "row.go:115", #[], none⟩) (v := .agg (Mk.groupA n (H n))) rfl (by kernel_rfl) (by kernel_rfl) (by kernel_rfl) (fun _ _ _ h => h) (yieldsIf_load_mid (by rfl) 64 _ rfl wr.heap.size 0 rfl (Mk.groupA n (H n)).toList _ (fun _ hS => hS.2.1) Tryz.underlying64 rfl hinf) hHeld ?_
    simp only [Act.put, sA, sZ, sS]
    refine tk 4 ⟨some 49, .move (.tmp 2), 134, "row.go:115", #[], none⟩ ?_ ?_ hHeld ?_
    rotate_left
    ·(intro w hSw; (try dsimp only at hSw); go_simp; try (with_reducible rfl))
    simp only [Act.put, sA, sZ, sS]
    refine tk 5 ⟨some 50, .load 23 (.tmp 5), 23, "row.go:115", #[], none⟩ ?_ ?_ hHeld ?_
    rotate_left
    ·(intro w hSw; (try dsimp only at hSw); go_simp; try (with_reducible rfl))
    simp only [Act.put, sA, sZ, sS]
    refine wpAnyH_take (i := 6) (oi := ⟨some 51, .load 64 (.tmp 12), 64, "row.go:115", #[], none⟩) (v := .agg (Mk.groupA m (H m))) rfl (by kernel_rfl) (by kernel_rfl) (by kernel_rfl) (fun _ _ _ h => h) (yieldsIf_load_mid (by rfl) 64 _ rfl w2.heap.size 0 rfl (Mk.groupA m (H m)).toList _ (fun _ hS => hS.2.2) Tryz.underlying64 rfl hinm) hHeld ?_
    simp only [Act.put, sA, sZ, sS]
    refine wpAnyH_ready (rs := [3]) (by kernel_rfl) (by simp) ?_
    refine AllReadyH.cons (o := ⟨some 48, .call { callee := .value (.func 65), args := #[.tmp 45, .tmp 46, .tmp 47], argTypes := #[134, 23, 64] }, 3, "row.go:115", #[⟨0, .data⟩, ⟨1, .data⟩, ⟨2, .data⟩], none⟩) rfl (fun K hK => ?_) AllReadyH.nil
    rw [if_pos (by rfl)]
    go_simp
    refine Mk.grew_at ((hln' _)) ?_
    intro x1 hbx1
    have hRx1 := hR7.kept hbx1
    refine hK.out _ _ hRx1.cells (fun hHeld => ?_)
    clear hK K
    try simp only [Act.put, sA, sZ, sS]
    refine wpAnyH_ready (rs := [7]) (by kernel_rfl) (by simp) ?_
    refine AllReadyH.cons (o := ⟨some 52, .call { callee := .value (.func 65), args := #[.tmp 49, .tmp 50, .tmp 51], argTypes := #[134, 23, 64] }, 3, "row.go:115", #[⟨4, .data⟩, ⟨5, .data⟩, ⟨6, .data⟩, ⟨3, .chain⟩], none⟩) rfl (fun K hK => ?_) AllReadyH.nil
    rw [if_pos (by rfl)]
    go_simp
    refine Mk.grew_at ((hlm' _)) ?_
    intro x2 hbx2
    have hRx2 := hRx1.kept hbx2
    refine hK.out _ _ hRx2.cells (fun hHeld => ?_)
    clear hK K
    try simp only [Act.put, sA, sZ, sS]
    refine tk 8 ⟨some 53, .binOp BinOp.gtr 3 (.tmp 48) (.tmp 52) 3, 4, "row.go:115", #[⟨3, .data⟩, ⟨7, .data⟩], none⟩ ?_ ?_ hHeld ?_
    rotate_left
    ·(intro w hSw; (try dsimp only at hSw); go_simp; try (with_reducible rfl))
    simp only [Act.put, sA, sZ, sS]
    refine wpAnyH_done (by kernel_rfl) ?_ _
    go_wp2_with fail
    go_meet
    exact ⟨rfl, hRx2.b, hRx2.n, hRx2.m⟩
   case rest =>
    obtain ⟨rfl, hbx, hnx, hmx⟩ := hcut
    rename World => wx
    by_cases hcmp : fm < fn
    ·rw [decide_eq_true hcmp]
     obtain ⟨W8, hW8⟩ : ∃ W8, wx.setRow w2.heap.size (Mk.groupA n (H n)) = W8 := ⟨_, rfl⟩
     have hb8 : Below w2.heap.size w2 W8 := by rw [← hW8]; exact below_setRow hbx (Nat.le_refl _) _
     have hm8 : W8.heap[w2.heap.size]? = some (Mk.groupO n (H n)) := by rw [← hW8]; exact setRow_heap _ _ _ _ _ _ hmx
     have HB : Hid (Below w2.heap.size w2 W8) := hb8
     clear hb8
     go_wp2_with (first
      | (refine wpList_load_row rfl 64 _ rfl wr.heap.size rfl 64 _ (0, 0) _ hnx Tryz.underlying64 rfl (Mk.info38 (n : Int) (H n) hln) ?_)
      | (refine wpList_store_row rfl 64 _ _ rfl w2.heap.size (Mk.groupA n (H n)) rfl rfl 64 _ hmx (Mk.info38 (n : Int) (H n) hln) (hsm.trans hsg.symm) (Mk.group_one (n : Int) (H n)) ?_; rw [hW8]))
     go_roundw
     case rel => exact ⟨k + 1, by omega, by go_num, HB.out, by rw [HS.out, HF.out.1, HF.out.2, if_pos hcmp]; exact hm8⟩
     case measure => simp [intOf]; omega
    ·rw [decide_eq_false hcmp]
     go_wp2_with fail
     go_roundw
     case rel => exact ⟨k + 1, by omega, by go_num, hbx, by rw [HS.out, HF.out.1, HF.out.2, if_neg hcmp]; exact hmx⟩
     case measure => simp [intOf]; omega
  ·have hkG' : k = G := by omega
   subst hkG'
   have hkI : ¬ ((k : Int) < (k : Int)) := by omega
   have hmG := bst_lt (H := H) (r := r) (B := B) (Q := Q) hn k
   have ho0 : mos H r k B Q near = (frs H r B Q (bst H r k B Q near k)).map fun i => (bst H r k B Q near k, i) := rfl
   obtain ⟨n, hnn⟩ : ∃ n, bst H r k B Q near k = n := ⟨_, rfl⟩
   rw [hnn] at hbest hmG ho0
   have hln := hH.len n hmG
   have hfo := first_ok r (hg.inn hmG) (H n) hln (hH.byt n hmG)
   change ∀ w, Calls _ _ _ _ fun e w' => ∃ i : Int, e = .returned (.tuple #[.int .i64 i, .bool (frs H r B Q n).isSome]) ∧ (∀ j, frs H r B Q n = some j → _) ∧ _ at hfo
   clear hnn
   go_wp2_with (first | (refine wpList_load_row rfl 64 _ rfl w2.heap.size rfl 64 _ (0, 0) _ hbest Tryz.underlying64 rfl (Mk.info38 (n : Int) (H n) hln) ?_))
   refine Calls.mono (hfo _) ?_
   rintro e w3 ⟨i, rfl, hi, hb3w⟩
   dsimp only
   have hs3' := (hb3w.block _ (Array.getElem?_eq_some_iff.1 hs3).1).trans hs3
   have hbn3 := (hb3w.block _ (Array.getElem?_eq_some_iff.1 hbest).1).trans hbest
   have hsz2 : w.heap.size + 2 ≤ w2.heap.size := by have := (Array.getElem?_eq_some_iff.1 hs2).1; omega
   have hb23 : Below w2.heap.size w2 w3 := hbr.trans (hb3w.mono hbr.size)
   cases ho : frs H r B Q n with
   | none =>
    have ho1 : mos H r k B Q near = none := by rw [ho0, ho]; rfl
    go_wp2_with (first
     | (refine wpList_store_row rfl 138 _ _ rfl (w.heap.size + 1) (spotA 0 (Mk.zers 40) false 0) rfl rfl 138 _ hs3' hi0 rfl h10 ?_))
    skip
    refine bodyPost_ret (v := .tuple #[spotV 0 (Mk.zers 40) false 0, .int .i64 5]) (Mk.results_cell_tmp_row (p := 8) (u := 9) (ty := 138) Tryz.results72 _ _ (w.heap.size + 1) 138 _ (0, 0) _ rfl (setRow_heap _ _ _ _ _ _ hs3') Tryz.underlying138 rfl hi0) rfl ?_
    have hlow : Below w.heap.size w3 (w3.setRow (w.heap.size + 1) (spotA 0 (Mk.zers 40) false 0)) := below_setRow (Below.refl _ _) (by omega) _
    refine ⟨by rw [ho1]; rfl, F2, c', hc', (HV.out.1.later hb23).else hlow.size (fun q hq => setRow_other _ _ _ _ (HV.out.2.2.2 q hq)), stp_low (stp_grown HV.out.2.1 hb23) hlow⟩
   | some j =>
    have ho1 : mos H r k B Q near = some (n, j) := by rw [ho0, ho]; rfl
    have hij := hi j ho
    subst hij
    have hinf := info138 (n : Int) hln r (j : Int)
    have hso := spot_one (n : Int) (H n) r (j : Int)
    have hss : (spotA 0 (Mk.zers 40) false 0).size = (spotA n (H n) r j).size := (spot_size 0 (Mk.zers_len 40) false 0).trans (spot_size (n : Int) hln r (j : Int)).symm
    go_wp2_with (first
     | (refine wpList_load_row rfl 64 _ rfl w2.heap.size rfl 64 _ (0, 0) _ hbn3 Tryz.underlying64 rfl (Mk.info38 (n : Int) (H n) hln) ?_)
     | (refine wpList_built rfl 138 _ rfl _ (Eq.trans (congrArg (Tryz.prog.built 138) (by simp only [Act.eval, Array.toList_map, List.map_cons, List.map_nil]; rfl)) (built_spot (n : Int) hln r (j : Int))) ?_)
     | (refine wpList_store_row rfl 138 _ _ rfl (w.heap.size + 1) (spotA n (H n) r j) rfl rfl 138 _ hs3' hinf hss hso ?_))
    skip
    refine bodyPost_ret (v := .tuple #[spotV n (H n) r j, .int .i64 0]) (Mk.results_cell_tmp_row (p := 8) (u := 9) (ty := 138) Tryz.results72 _ _ (w.heap.size + 1) 138 _ (0, 0) _ rfl (setRow_heap _ _ _ _ _ _ hs3') Tryz.underlying138 rfl hinf) rfl ?_
    have hlow : Below w.heap.size w3 (w3.setRow (w.heap.size + 1) (spotA n (H n) r j)) := below_setRow (Below.refl _ _) (by omega) _
    refine ⟨by rw [ho1]; rfl, F2, c', hc', (HV.out.1.later hb23).else hlow.size (fun q hq => setRow_other _ _ _ _ (HV.out.2.2.2 q hq)), stp_low (stp_grown HV.out.2.1 hb23) hlow⟩
end
end Go.Proofs.YthdlpeejmmobmaaGreat
