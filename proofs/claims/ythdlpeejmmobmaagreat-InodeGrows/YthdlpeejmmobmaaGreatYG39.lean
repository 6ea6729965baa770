/- J8 J9 -/
import Derived.Test.YthdlpeejmmobmaaGreatYG38
import Derived.Maps.AppendAt
import Derived.Test.YthdlpeejmmobmaaGreatYG01

namespace Go.Proofs.YthdlpeejmmobmaaGreat.Mk
open Go.RowKit
set_option maxRecDepth 100000
set_option linter.unusedVariables false
set_option maxHeartbeats 400000 in
theorem encodeFan_at (p : Option Addr) (c : Nat) (zs : List Int) (w : World) (h : II w p 64 zs) (hm : Ads zs) :
  Calls Tryz.prog 343 #[.slice p 64 c] w fun e w' => ∃ g, e = .returned (.tuple #[.slice (some ⟨g, 0, none⟩) 128 128, .int .i64 0]) ∧ BI w' (some ⟨g, 0, none⟩) 128 (fanL zs) ∧ w.heap.size ≤ g ∧ Below w.heap.size w w' := by
 have ha := areAd_ok p 64 c zs w h
 rw [decide_eq_true hm] at ha
 have hv : ∀ j, j < 64 → 0 ≤ zs.getD j 0 ∧ zs.getD j 0 < 256 ^ 2 := fun j _ => by have := ads_at hm j; omega
 have hq : ∀ b o, p = some ⟨b, o, none⟩ → b < w.heap.size := by
  intro b o e
  obtain ⟨b', o', e', hc⟩ := h.cells (by omega)
  rw [e] at e'
  cases e'
  exact lt_of_cell (hc 0 (by omega))
 have HV := (show Hid _ from hv)
 have HQ := (show Hid _ from hq)
 clear hv hq
 go_enter Tryz.func343, Tryz.ntmps343
 go_wp2_with (first
  | (go_at_call 283; refine same_at ha ?_)
  | (go_at_call 156; refine Calls.mono (newPage_ok 128 (by omega) w.heap.size w (Nat.le_refl _)) ?_; rintro e w1 ⟨pb, g, rfl, hp, hb⟩; have h1 := ii_under h hb HQ.out)
  | (go_at_call 159; refine Calls.mono (pnums_ok hp 2 (by omega) (by omega) p 64 c zs h1 HQ.out (by omega) HV.out) ?_; rintro e w2 ⟨rfl, hp2, hb2⟩; have c0 := hp2.c0))
 go_ret2
 exact ⟨g, rfl, hp2.bi, hp2.log, hb.trans hb2⟩
end Go.Proofs.YthdlpeejmmobmaaGreat.Mk
namespace Go.Proofs.YthdlpeejmmobmaaGreat
open Go.RowKit Go.Maps
set_option linter.unusedVariables false
set_option maxRecDepth 100000
def dinX (m ln sz : Int) (val : Nat → Nat) : Obj := Mk.dinO m ln sz (val 0 : Int) (val 1 : Int) (val 2 : Int) (val 3 : Int) (val 4 : Int) (val 5 : Int)
theorem dino_of {w : World} {x : Nat} {m ln sz : Int} {val : Nat → Nat} (h : w.heap[x]? = some (dinX m ln sz val)) : Dino w x val := by
 intro s hs
 rcases (by omega : s = 0 ∨ s = 1 ∨ s = 2 ∨ s = 3 ∨ s = 4 ∨ s = 5) with rfl | rfl | rfl | rfl | rfl | rfl <;> exact cell_of_row _ _ _ _ _ _ h
theorem dinX_set {w : World} {x : Nat} {m ln sz : Int} {val : Nat → Nat} (h : w.heap[x]? = some (dinX m ln sz val)) {s : Nat} (hs : s < 6) (b : Nat) : (w.setCell ⟨x, 3 + s, none⟩ (.int .i64 (b : Int))).heap[x]? = some (dinX m ln sz (updV val s b)) := by
 have := heap_setCell_same w x (3 + s) _ 75 (.int .i64 (b : Int)) h
 rw [this]
 rcases (by omega : s = 0 ∨ s = 1 ∨ s = 2 ∨ s = 3 ∨ s = 4 ∨ s = 5) with rfl | rfl | rfl | rfl | rfl | rfl <;> rfl
def FX (F : Nat → Prop) (x : Nat) (k : Nat) : Prop := F k ∨ k = x
section
variable [Inhabited Past] {w w' : World} {v : Nat} {F : Nat → Prop} {N : Nat} {I : Nat → List Int} {l c G B Q : Nat}
set_option maxHeartbeats 2000000 in
theorem leadF_ok (h : Vol w v F N I l c) {m ln sz : Int} {val : Nat → Nat} {x : Nat} (hx : w.heap[x]? = some (dinX m ln sz val)) (hxF : ¬ F x) {s : Nat} (hs : s < 6) (b i j : Nat) (hi : 1 ≤ i ∧ i ≤ l) (hj : 1 ≤ j ∧ j ≤ l) (hl : l ≤ 10000) :
  Calls Tryz.prog 337 #[.agg #[.pointer (some ⟨x, 3 + s, none⟩)], .pointer (some ⟨v, 0, none⟩), .agg #[.int .i64 (b : Int), .int .i64 (i : Int), .int .i64 (j : Int)]] w fun e w' => ∃ q F' l' zs, e = .returned (.tuple #[.slice q zs.length zs.length, .int .i64 0]) ∧ l ≤ l' ∧ l' ≤ l + 1 ∧ Vol w' v F' N (putS I val s b) l' c ∧ w'.heap[x]? = some (dinX m ln sz (updV val s b)) ∧ ¬ F' x ∧
   Pt.II w' q zs.length zs ∧ zs.all (Pt.kn l') = true ∧ 1 ≤ zs.length ∧ zs.length ≤ 2 ∧ (∀ k, Pt.blkOf q = some k → w.heap.size ≤ k ∧ ¬ F' k) ∧ Pt.Stp (FX F x) (FX F' x) w w' := by
 obtain ⟨W, hW⟩ : ∃ W, (w.alloc (.cells #[.pointer (some ⟨x, 3 + s, none⟩)] 239)).alloc (.cells #[.int .i64 (b : Int), .int .i64 (i : Int), .int .i64 (j : Int)] 242) = W := ⟨_, rfl⟩
 have hb : Below w.heap.size w W := by rw [← hW]; exact ((Below.refl _ _).alloc (Nat.le_refl _) _).alloc (by simp) _
 have hr0 : W.heap[w.heap.size]? = some (.cells #[.pointer (some ⟨x, 3 + s, none⟩)] 239 (0, 0)) := by rw [← hW]; exact at_old (at_new rfl)
 have hr1 : W.heap[w.heap.size + 1]? = some (.cells #[.int .i64 (b : Int), .int .i64 (i : Int), .int .i64 (j : Int)] 242 (0, 0)) := by rw [← hW]; exact at_new (by simp)
 have hsz : W.heap.size = w.heap.size + 2 := by rw [← hW]; simp
 have hxl := (Array.getElem?_eq_some_iff.1 hx).1
 have hxW := (hb.block x hxl).trans hx
 have d0 := cell_of_row _ _ 0 _ _ _ hr0
 have d1 := cell_of_row _ _ 0 _ _ _ hr1
 have dx := dino_of hxW s hs
 have hfz : W.frozen? ⟨x, 3 + s, none⟩ = false := by simp [World.frozen?, hxW, dinX, Mk.dinO]
 obtain ⟨W2, hW2⟩ : ∃ W2, W.setCell ⟨x, 3 + s, none⟩ (.int .i64 (b : Int)) = W2 := ⟨_, rfl⟩
 have ho2 : ∀ k, k ≠ x → W2.heap[k]? = W.heap[k]? := fun k hk => by rw [← hW2]; exact Below.heap_setCell _ _ _ _ hk
 have hx2 : W2.heap[x]? = some (dinX m ln sz (updV val s b)) := by rw [← hW2]; exact dinX_set hxW hs b
 have hsz2 : W2.heap.size = W.heap.size := by rw [← hW2]; simp
 have hr2 := (ho2 _ (by omega)).trans hr1
 have e1 := cell_of_row _ _ 1 _ _ _ hr2
 have e2 := cell_of_row _ _ 2 _ _ _ hr2
 go_enter Tryz.func337, Tryz.ntmps337
 go_wp2_with fail
 go_ret2
 obtain ⟨W3, hW3⟩ : ∃ W3, W2.alloc (Obj.cells #[.int .i64 (i : Int), .int .i64 (j : Int)] 3) = W3 := ⟨_, rfl⟩
 have hz2 : W2.heap.size = w.heap.size + 2 := by omega
 have hn3 : W3.heap[w.heap.size + 2]? = some (.cells #[.int .i64 (i : Int), .int .i64 (j : Int)] 3 (0, 0)) := by rw [← hW3]; exact at_new hz2.symm
 have hb3 : Below W2.heap.size W2 W3 := by rw [← hW3]; exact Mk.grew_alloc _ _
 have hs3 := hb3.size
 rw [hW3]
 have hall : ∀ k, k < w.heap.size → k ≠ x → W3.heap[k]? = w.heap[k]? := fun k hk hkx => (hb3.block k (by omega)).trans ((ho2 k hkx).trans (hb.block k hk))
 have hlt := h.lt
 have hsW : W.setCell ⟨x, 3 + s, none⟩ (.int .i64 (b : Int)) = W2 := hW2
 have hfr2 : Pt.Frame (FX F x) W W2 := by
  rw [← hW2]
  exact (Frame.setCell (X := fun k => k = x) W (p := ⟨x, 3 + s, none⟩) (.int .i64 (b : Int)) rfl).pt fun k hk => .inr hk
 refine ⟨some ⟨w.heap.size + 2, 0, none⟩, F, l, [(i : Int), (j : Int)], rfl, Nat.le_refl _, by omega, ?_, (hb3.block x (by omega)).trans hx2, hxF, ⟨rfl, by simp, fun y hy => ?_, fun _ => ⟨_, 0, rfl, fun k hk => ?_⟩⟩, ?_, by simp, by simp, fun k hk => ?_, ?_⟩
 ·unfold putS
  rw [if_pos hs]
  exact h.else (by omega) (fun k hk => hall k (hlt k hk) (fun e => hxF (e ▸ hk)))
 ·have hlN := hi.2
  simp only [List.mem_cons, List.not_mem_nil, or_false] at hy
  rcases hy with rfl | rfl <;> exact ⟨by omega, by omega⟩
 ·have hk : k < 2 := hk
  rcases (by omega : k = 0 ∨ k = 1) with rfl | rfl
  ·exact cell_of_row _ _ 0 _ _ _ hn3
  ·exact cell_of_row _ _ 1 _ _ _ hn3
 ·simp [Pt.kn]; omega
 ·have : w.heap.size + 2 = k := Option.some.inj hk
  exact ⟨by omega, fun hf => by have := hlt k hf; omega⟩
 ·have a1 : Pt.Stp (FX F x) (FX F x) w W := stp_grown (Pt.Stp.refl _ w) hb
  exact stp_grown (stp_trans a1 ⟨hfr2, fun k hk => .inl hk⟩) hb3
set_option maxHeartbeats 4000000 in
theorem leadL_ok (h : Vol w v F N I l c) {m ln sz : Int} {val : Nat → Nat} {x : Nat} (hx : w.heap[x]? = some (dinX m ln sz val)) (hxF : ¬ F x) {s : Nat} (hs6 : 6 ≤ s) (hs : s < 4230) (hp : val (par s) < N) (b i j : Nat) (hb4 : b ≤ 2047) (hi : 1 ≤ i ∧ i ≤ l) (hj : 1 ≤ j ∧ j ≤ l) (hl : l + 1 ≤ 10000) :
  Calls Tryz.prog 342 #[.agg #[.int .i64 (val (par s) : Int), .int .i64 (plc s : Int)], .pointer (some ⟨v, 0, none⟩), .agg #[.int .i64 (b : Int), .int .i64 (i : Int), .int .i64 (j : Int)]] w fun e w' => ∃ q F' l' zs, e = .returned (.tuple #[.slice q zs.length zs.length, .int .i64 0]) ∧ l ≤ l' ∧ l' ≤ l + 1 ∧ Vol w' v F' N (putS I val s b) l' c ∧ w'.heap[x]? = some (dinX m ln sz (updV val s b)) ∧ ¬ F' x ∧
   Pt.II w' q zs.length zs ∧ zs.all (Pt.kn l') = true ∧ 1 ≤ zs.length ∧ zs.length ≤ 2 ∧ (∀ k, Pt.blkOf q = some k → w.heap.size ≤ k ∧ ¬ F' k) ∧ Pt.Stp (FX F x) (FX F' x) w w' := by
 have hpl := (par_in hs6 hs).2.1
 obtain ⟨P, hP⟩ : ∃ P, plc s = P := ⟨_, rfl⟩
 obtain ⟨kb, hK⟩ : ∃ kb, val (par s) = kb := ⟨_, rfl⟩
 rw [hP, hK]
 rw [hP] at hpl
 rw [hK] at hp
 have hePS : putS I val s b = updI I kb (2 * P) (twoB P b) := by unfold putS; rw [if_neg (by omega), hP, hK]
 have heX : dinX m ln sz (updV val s b) = dinX m ln sz val := by
  unfold dinX
  rw [updV_ne _ _ (by omega), updV_ne _ _ (by omega), updV_ne _ _ (by omega), updV_ne _ _ (by omega), updV_ne _ _ (by omega), updV_ne _ _ (by omega)]
 rw [hePS, heX]
 obtain ⟨A, hA⟩ : ∃ A, 2 * P = A := ⟨_, rfl⟩
 rw [hA]
 obtain ⟨W, hW⟩ : ∃ W, (w.alloc (.cells #[.int .i64 (kb : Int), .int .i64 (P : Int)] 346)).alloc (.cells #[.int .i64 (b : Int), .int .i64 (i : Int), .int .i64 (j : Int)] 242) = W := ⟨_, rfl⟩
 have hb : Below w.heap.size w W := by rw [← hW]; exact ((Below.refl _ _).alloc (Nat.le_refl _) _).alloc (by simp) _
 have hr0 : W.heap[w.heap.size]? = some (.cells #[.int .i64 (kb : Int), .int .i64 (P : Int)] 346 (0, 0)) := by rw [← hW]; exact at_old (at_new rfl)
 have hr1 : W.heap[w.heap.size + 1]? = some (.cells #[.int .i64 (b : Int), .int .i64 (i : Int), .int .i64 (j : Int)] 242 (0, 0)) := by rw [← hW]; exact at_new (by simp)
 have hsz : W.heap.size = w.heap.size + 2 := by rw [← hW]; simp
 have hxl := (Array.getElem?_eq_some_iff.1 hx).1
 have hlt := h.lt
 obtain ⟨i0, hi0, hz0, hz1, hz2⟩ := info_parts Mk.info3
 have d0 := cell_of_row _ _ 0 _ _ _ hr0
 have d1 := cell_of_row _ _ 1 _ _ _ hr0
 have f0 := cell_of_row _ _ 0 _ _ _ hr1
 have f1 := cell_of_row _ _ 1 _ _ _ hr1
 have f2 := cell_of_row _ _ 2 _ _ _ hr1
 have d0' := d0
 have d1' := d1
 have f1' := f1
 have f2' := f2
 have HH : Hid (Vol w v F N I l c ∧ w.heap[x]? = some (dinX m ln sz val) ∧ Below w.heap.size w W) := ⟨h, hx, hb⟩
 clear h hx hK hP hePS heX
 have hPI : (P : Int) < 64 := by omega
 go_enter Tryz.func342, Tryz.ntmps342
 go_wp2_with (first
  | (at_make; (refine wpList_make_full _ rfl _ _ 49 rfl W.heap.size 3 i0 (.int .i64 0) 1 Tryz.underlying49 hi0 hz0 hz1 .i64 .i64 _ _ 64 rfl rfl rfl rfl (by rw [hz2]; omega) (by unfold maxLen; omega) (Nat.le_refl _) ?_; intro w1 hown1 hgrow1; have hb1 := (Below.refl _ W).grown hgrow1 (Nat.le_refl _) (by intro k hk; cases hk); have d0 := Mk.cell_kept d0 hb1; have d1 := Mk.cell_kept d1 hb1; have f0 := Mk.cell_kept f0 hb1; have f1 := Mk.cell_kept f1 hb1; have f2 := Mk.cell_kept f2 hb1; have hrow := Mk.own_row3 hown1; rw [Mk.made_nums 64, hsz] at hrow; have hz := Mk.cell_row hrow P _ (Mk.znum_at 64 P hpl); have hfz : w1.frozen? ⟨w.heap.size + 2, P, none⟩ = false := (by simp [World.frozen?, hrow]))))
 have hsW2 : W.heap.size ≤ w1.heap.size := hb1.size
 have hlt1 := (Array.getElem?_eq_some_iff.1 hrow).1
 obtain ⟨W2, hW2⟩ : ∃ W2, w1.setCell ⟨w.heap.size + 2, P, none⟩ (.int .i64 (b : Int)) = W2 := ⟨_, rfl⟩
 rw [hW2]
 have hrow2 : W2.heap[w.heap.size + 2]? = some (.cells ((Mk.znum 64).toArray.setIfInBounds P (.int .i64 (b : Int))) 3 (0, 0)) := by rw [← hW2]; exact heap_setCell_same w1 (w.heap.size + 2) P _ 3 (.int .i64 (b : Int)) hrow
 have hlow2 : Below W.heap.size w1 W2 := by rw [← hW2]; exact (Below.refl _ _).setCell (p := ⟨w.heap.size + 2, P, none⟩) (by show W.heap.size ≤ w.heap.size + 2; omega) _
 have hii : Mk.II W2 (some ⟨w.heap.size + 2, 0, none⟩) 64 ((Mk.zers 64).set P (b : Int)) := ⟨by rw [List.length_set, Mk.zers_len], by omega, fun _ => ⟨_, 0, rfl, fun k hk => by
  rw [Nat.zero_add, cell_of_row _ _ k _ _ _ hrow2, Array.getElem?_setIfInBounds, List.getD_eq_getElem?_getD, List.getElem?_set]
  have hzs : (Mk.znum 64).toArray.size = 64 := Mk.znum_size 64
  by_cases e : P = k
  ·subst e
   rw [if_pos rfl, if_pos (by omega), if_pos rfl, if_pos (by rw [Mk.zers_len]; omega)]; rfl
  ·rw [if_neg e, if_neg e, Mk.znum_at 64 k hk]
   unfold Mk.zers
   rw [List.getElem?_replicate, if_pos hk]; rfl⟩⟩
 have hen := Mk.encodeFan_at _ 64 _ W2 hii (twoB_ads hb4)
 refine Calls.mono hen ?_
 rintro e w3 ⟨g, rfl, hbq, hgl, hb3⟩
 have hW23 : W2.heap.size = w1.heap.size := by rw [← hW2]; simp
 have hlow3 : Below W.heap.size W w3 := (hb1.trans hlow2).trans (hb3.mono (by omega))
 have d0 := Mk.cell_kept d0' hlow3
 have d1 := Mk.cell_kept d1' hlow3
 have f1 := Mk.cell_kept f1' hlow3
 have f2 := Mk.cell_kept f2' hlow3
 dsimp only
 go_wp2_with fail
 have eA : (P : Int) * 2 = (A : Int) := by omega
 have hA2 : A + 2 ≤ 128 := by omega
 have hA4 : ¬ (A : Int) < 0 := by omega
 rw [eA]
 obtain ⟨A2, hAA⟩ : ∃ A2, A + 2 = A2 := ⟨_, rfl⟩
 have hw2 : IntKind.i64.wrap ((A : Int) + 2) = (A2 : Int) := by
  rw [show (A : Int) + 2 = (A2 : Int) by omega]
  exact Mk.Num.wraps_i64 (A2 : Int) (by omega) (by omega)
 have hc1 : (A2 : Int) ≤ 128 := by omega
 have hc2 : A ≤ A2 := by omega
 have hc3 : A2 - A = 2 := by omega
 have hc4 : ¬ 128 = A := by omega
 obtain ⟨W6, hW6⟩ : ∃ W6, (w3.alloc (Obj.cells #[.int .i64 (i : Int), .int .i64 (j : Int)] 3)).drew = W6 := ⟨_, rfl⟩
 have hb36 : Below w3.heap.size w3 W6 := by rw [← hW6]; exact (Mk.grew_alloc _ _).drew
 have hn6 : W6.heap[w3.heap.size]? = some (.cells #[.int .i64 (i : Int), .int .i64 (j : Int)] 3 (0, 0)) := by rw [← hW6]; exact at_new (w := w3) rfl
 obtain ⟨hv, hxw, hbw⟩ := HH.out
 have hs3 := hlow3.size
 have hbw3 : Below w.heap.size w w3 := hbw.trans (hlow3.mono (by omega))
 have hbw6 : Below w.heap.size w W6 := hbw3.trans (hb36.mono (by omega))
 have hvl := hlt v hv.mem
 have hii6 : Pt.II W6 (some ⟨w3.heap.size, 0, none⟩) 2 [(i : Int), (j : Int)] := ⟨rfl, by omega, fun y hy => by
  simp only [List.mem_cons, List.not_mem_nil, or_false] at hy
  rcases hy with rfl | rfl <;> exact ⟨by omega, by omega⟩, fun _ => ⟨_, 0, rfl, fun k hk => by
  rcases (by omega : k = 0 ∨ k = 1) with rfl | rfl
  ·exact cell_of_row _ _ 0 _ _ _ hn6
  ·exact cell_of_row _ _ 1 _ _ _ hn6⟩⟩
 have hbi6 : BI W6 (some ⟨g, A, none⟩) 2 (twoB P b) := by
  have h1 := ((hbq.kept hb36).drop A (by omega)).take 2 (by omega)
  rw [Nat.zero_add] at h1
  have e : twoB P b = ((Mk.fanL ((Mk.zers 64).set P (b : Int))).drop A).take 2 := by unfold twoB; rw [hA]
  rw [e]
  exact mk_bi h1
 have hch : Calls Tryz.prog 17 #[.pointer (some ⟨v, 0, none⟩), .int .i64 (kb : Int), .int .i64 (A : Int), .slice (some ⟨g, A, none⟩) 2 (128 - A), .slice (some ⟨w3.heap.size, 0, none⟩) 2 2] W6 fun e w' => e = .returned (.tuple #[.int .i64 ((l + 1 : Nat) : Int), .int .i64 0]) ∧ ∃ F2, Vol w' v F2 N (updI I kb A (twoB P b)) (l + 1) c ∧ Pt.Stp F F2 W6 w' :=
  vol_change (hv.later hbw6) hl kb A hp (some ⟨g, A, none⟩) 2 (128 - A) (twoB P b) hbi6 (fun k hk e => by
   have h9 : g = k := Option.some.inj hk
   omega) (by omega) (by omega) (some ⟨w3.heap.size, 0, none⟩) 2 2 [(i : Int), (j : Int)] hii6 (fun k hk e => by
   have h9 : w3.heap.size = k := Option.some.inj hk
   omega) (by simp [Pt.kn]; omega) (by omega)
 have HV : Hid (Vol w v F N I l c ∧ Below w.heap.size w W6 ∧ w.heap[x]? = some (dinX m ln sz val)) := ⟨hv, hbw6, hxw⟩
 have g0 := Mk.cell_kept d0 hb36
 have g1 := Mk.cell_kept f1 hb36
 have g2 := Mk.cell_kept f2 hb36
 have hs6w : w3.heap.size < W6.heap.size := (Array.getElem?_eq_some_iff.1 hn6).1
 clear hv hbw hbw6 hbi6 hii6 hn6 hb36 hbw3 hxw hii
 go_cut [12, 13] (fun v12 v13 wx => v12 = .int .i64 ((l : Int) + 1) ∧ v13 = .int .i64 0 ∧ ∃ F2, Vol wx v F2 N (updI I kb A (twoB P b)) (l + 1) c ∧ Pt.Stp F F2 W6 wx)
 case first =>
  refine wp_region_held_drew (S := (fun w' => (w'.cell? ⟨w.heap.size, 0, none⟩ = some (.int .i64 (kb : Int)) ∧ w'.cell? ⟨w.heap.size + 1, 1, none⟩ = some (.int .i64 (i : Int))) ∧ w'.cell? ⟨w.heap.size + 1, 2, none⟩ = some (.int .i64 (j : Int)))) (by kernel_rfl) ⟨⟨d0, f1⟩, f2⟩ (fun hHeld => ?_)
  refine tk 0 ⟨some 30, .move (.tmp 1), 29, "way.go:69", #[], none⟩ ?_ ?_ hHeld ?_
  rotate_left
  ·(intro w hSw; (try dsimp only at hSw); go_simp; try (with_reducible rfl))
  simp only [Act.put, sA, sZ, sS]
  refine tk 1 ⟨some 31, .fieldAddr 346 (.tmp 3) 0, 0, "way.go:69", #[], none⟩ ?_ ?_ hHeld ?_
  rotate_left
  ·(intro w hSw; (try dsimp only at hSw); go_simp; try (with_reducible rfl))
  simp only [Act.put, sA, sZ, sS]
  refine tk 2 ⟨some 32, .load 3 (.tmp 31), 3, "way.go:69", #[⟨1, .data⟩], none⟩ ?_ ?_ hHeld ?_
  rotate_left
  ·(intro w hSw; (try dsimp only at hSw); go_simp; try (with_reducible rfl))
  simp only [Act.put, sA, sZ, sS]
  refine tk 3 ⟨some 33, .move (.tmp 11), 3, "way.go:69", #[], none⟩ ?_ ?_ hHeld ?_
  rotate_left
  ·(intro w hSw; (try dsimp only at hSw); go_simp; try (with_reducible rfl))
  simp only [Act.put, sA, sZ, sS]
  refine tk 4 ⟨some 34, .move (.tmp 9), 42, "way.go:69", #[], none⟩ ?_ ?_ hHeld ?_
  rotate_left
  ·(intro w hSw; (try dsimp only at hSw); go_simp; try (with_reducible rfl))
  simp only [Act.put, sA, sZ, sS]
  refine tk 5 ⟨some 35, .move (.tmp 11), 3, "way.go:69", #[], none⟩ ?_ ?_ hHeld ?_
  rotate_left
  ·(intro w hSw; (try dsimp only at hSw); go_simp; try (with_reducible rfl))
  simp only [Act.put, sA, sZ, sS]
  refine tk 6 ⟨some 36, .move (.tmp 11), 3, "way.go:69", #[], none⟩ ?_ ?_ hHeld ?_
  rotate_left
  ·(intro w hSw; (try dsimp only at hSw); go_simp; try (with_reducible rfl))
  simp only [Act.put, sA, sZ, sS]
  refine tk 7 ⟨some 37, .binOp BinOp.add 3 (.tmp 36) (.const (.int .i64 2)) 3, 3, "way.go:69", #[⟨6, .data⟩], none⟩ ?_ ?_ hHeld ?_
  rotate_left
  ·(intro w hSw; (try dsimp only at hSw); go_simp; try (with_reducible rfl))
  simp only [Act.put, sA, sZ, sS]
  refine tk 8 ⟨some 38, .slice 42 (.tmp 34) (some (.tmp 35)) (some (.tmp 37)) none, 42, "way.go:69", #[⟨4, .data⟩, ⟨5, .data⟩, ⟨7, .data⟩], none⟩ ?_ ?_ hHeld ?_
  rotate_left
  ·(intro w hSw; (try dsimp only at hSw); go_simp; try (with_reducible rfl))
  simp only [Act.put, sA, sZ, sS]
  refine tk 9 ⟨some 39, .fieldAddr 242 (.tmp 5) 1, 0, "way.go:69", #[], none⟩ ?_ ?_ hHeld ?_
  rotate_left
  ·(intro w hSw; (try dsimp only at hSw); go_simp; try (with_reducible rfl))
  simp only [Act.put, sA, sZ, sS]
  refine tk 10 ⟨some 40, .load 3 (.tmp 39), 3, "way.go:69", #[⟨9, .data⟩], none⟩ ?_ ?_ hHeld ?_
  rotate_left
  ·(intro w hSw; (try dsimp only at hSw); go_simp; try (with_reducible rfl))
  simp only [Act.put, sA, sZ, sS]
  refine tk 11 ⟨some 41, .fieldAddr 242 (.tmp 5) 2, 0, "way.go:69", #[], none⟩ ?_ ?_ hHeld ?_
  rotate_left
  ·(intro w hSw; (try dsimp only at hSw); go_simp; try (with_reducible rfl))
  simp only [Act.put, sA, sZ, sS]
  refine tk 12 ⟨some 42, .load 3 (.tmp 41), 3, "way.go:69", #[⟨11, .data⟩], none⟩ ?_ ?_ hHeld ?_
  rotate_left
  ·(intro w hSw; (try dsimp only at hSw); go_simp; try (with_reducible rfl))
  simp only [Act.put, sA, sZ, sS]
  refine wpAnyH_ready (rs := [13]) (by kernel_rfl) (by simp) ?_
  refine AllReadyH.cons (o := ⟨some 43, .buildSlice 49 2 #[(0, .tmp 40), (1, .tmp 42)], 49, "way.go:69", #[⟨10, .data⟩, ⟨12, .data⟩], none⟩) rfl (fun K hK => ?_) AllReadyH.nil
  rw [if_pos (by rfl)]
  go_simp
  refine hK.out _ _ ⟨⟨g0, g1⟩, g2⟩ (fun hHeld => ?_)
  clear hK K
  try simp only [Act.put, sA, sZ, sS]
  refine wpAnyH_ready (rs := [14]) (by kernel_rfl) (by simp) ?_
  refine AllReadyH.cons (o := ⟨some 44, .call { callee := .value (.func 17), args := #[.tmp 30, .tmp 32, .tmp 33, .tmp 38, .tmp 43], argTypes := #[29, 3, 3, 42, 49] }, 40, "way.go:69", #[⟨0, .data⟩, ⟨2, .data⟩, ⟨3, .data⟩, ⟨8, .data⟩, ⟨13, .data⟩], none⟩) rfl (fun K hK => ?_) AllReadyH.nil
  rw [if_pos (by rfl)]
  go_simp
  refine Calls.mono hch ?_
  rintro e w7 ⟨rfl, F2, hv7, hst7⟩
  dsimp only
  refine hK.out _ _ ⟨⟨(cell_keq (hst7.fr.block _ (by omega) (fun hf => by have := hlt _ hf; omega))).trans g0, (cell_keq (hst7.fr.block _ (by omega) (fun hf => by have := hlt _ hf; omega))).trans g1⟩, (cell_keq (hst7.fr.block _ (by omega) (fun hf => by have := hlt _ hf; omega))).trans g2⟩ (fun hHeld => ?_)
  clear hK K
  try simp only [Act.put, sA, sZ, sS]
  refine tk 15 ⟨some 29, .move (.tmp 44), 40, "way.go:69", #[⟨14, .data⟩], none⟩ ?_ ?_ hHeld ?_
  rotate_left
  ·(intro w hSw; (try dsimp only at hSw); go_simp; try (with_reducible rfl))
  simp only [Act.put, sA, sZ, sS]
  refine tk 16 ⟨some 45, .extract (.tmp 29) 0, 3, "way.go:69", #[⟨15, .data⟩], none⟩ ?_ ?_ hHeld ?_
  rotate_left
  ·(intro w hSw; (try dsimp only at hSw); go_simp; try (with_reducible rfl))
  simp only [Act.put, sA, sZ, sS]
  refine tk 17 ⟨some 46, .extract (.tmp 29) 1, 36, "way.go:69", #[⟨15, .data⟩, ⟨18, .gcOnly .lateStores⟩], none⟩ ?_ ?_ hHeld ?_
  rotate_left
  ·(intro w hSw; (try dsimp only at hSw); go_simp; try (with_reducible rfl))
  simp only [Act.put, sA, sZ, sS]
  refine tk 18 ⟨some 12, .assign (.tmp 45), 3, "way.go:69", #[⟨16, .data⟩, ⟨14, .chain⟩, ⟨0, .phase⟩, ⟨1, .phase⟩, ⟨2, .phase⟩, ⟨3, .phase⟩, ⟨4, .phase⟩, ⟨5, .phase⟩, ⟨6, .phase⟩, ⟨7, .phase⟩, ⟨8, .phase⟩, ⟨9, .phase⟩, ⟨10, .phase⟩, ⟨11, .phase⟩, ⟨12, .phase⟩, ⟨13, .phase⟩, ⟨14, .phase⟩, ⟨15, .phase⟩, ⟨16, .phase⟩, { on := 17, ground := Ground.textOnly Departure.lateStores }], none⟩ ?_ ?_ hHeld ?_
  rotate_left
  ·(intro w hSw; (try dsimp only at hSw); go_simp; try (with_reducible rfl))
  simp only [Act.put, sA, sZ, sS]
  refine tk 19 ⟨some 13, .assign (.tmp 46), 36, "way.go:69", #[⟨17, .data⟩, ⟨18, .chain⟩, ⟨0, .phase⟩, ⟨1, .phase⟩, ⟨2, .phase⟩, ⟨3, .phase⟩, ⟨4, .phase⟩, ⟨5, .phase⟩, ⟨6, .phase⟩, ⟨7, .phase⟩, ⟨8, .phase⟩, ⟨9, .phase⟩, ⟨10, .phase⟩, ⟨11, .phase⟩, ⟨12, .phase⟩, ⟨13, .phase⟩, ⟨14, .phase⟩, ⟨15, .phase⟩, ⟨16, .phase⟩, ⟨17, .phase⟩, ⟨18, .phase⟩], none⟩ ?_ ?_ hHeld ?_
  rotate_left
  ·(intro w hSw; (try dsimp only at hSw); go_simp; try (with_reducible rfl))
  simp only [Act.put, sA, sZ, sS]
  refine wpAnyH_done (by kernel_rfl) ?_ _
  go_wp2_with fail
  go_meet
  exact ⟨by first | rfl | simp, rfl, F2, hv7, hst7⟩
 case rest =>
  obtain ⟨rfl, rfl, F2, hv7, hst7⟩ := hcut
  rename World => wx
  go_wp2_with fail
  go_ret2
  obtain ⟨hv, hbw6, hxw⟩ := HV.out
  obtain ⟨W8, hW8⟩ : ∃ W8, wx.alloc (Obj.cells #[.int .i64 ((l : Int) + 1)] 3) = W8 := ⟨_, rfl⟩
  have hn8 : W8.heap[wx.heap.size]? = some (.cells #[.int .i64 ((l : Int) + 1)] 3 (0, 0)) := by rw [← hW8]; exact at_new rfl
  have hb8 : Below wx.heap.size wx W8 := by rw [← hW8]; exact Mk.grew_alloc _ _
  rw [hW8]
  have hst8 : Pt.Stp F F2 w wx := stp_after hbw6 hst7
  have hx7 := (hst8.fr.block x hxl hxF).trans hxw
  have hxF2 : ¬ F2 x := fun hf => (hst8.new x hf).elim hxF (fun h9 => by have : w.heap.size ≤ x := h9; omega)
  have hsx := hst8.fr.size
  refine ⟨some ⟨wx.heap.size, 0, none⟩, F2, l + 1, [((l : Int) + 1)], rfl, by omega, Nat.le_refl _, hv7.later hb8, (hb8.block x (by omega)).trans hx7, hxF2, ⟨rfl, by simp, fun y hy => ?_, fun _ => ⟨_, 0, rfl, fun k hk => ?_⟩⟩, ?_, by simp, by simp, fun k hk => ?_, ?_⟩
  ·rw [List.mem_singleton] at hy
   rw [hy]; exact ⟨by omega, by omega⟩
  ·obtain rfl : k = 0 := by have hk : k < 1 := hk; omega
   exact cell_of_row _ _ 0 _ _ _ hn8
  ·intro y hy
   rw [List.mem_singleton] at hy
   rw [hy, Pt.kn_true]; omega
  ·have : wx.heap.size = k := Option.some.inj hk
   exact ⟨by omega, fun hf => by have := hv7.lt k hf; omega⟩
  ·have a1 := stp_grown hst8 hb8
   exact ⟨⟨a1.fr.os, a1.fr.tape, a1.fr.output, a1.fr.size, fun k hk hn => a1.fr.block k hk (fun hf => hn (.inl hf))⟩, fun k hk => hk.elim (fun h9 => (a1.new k h9).imp .inl id) (fun h9 => .inl (.inr h9))⟩
end
end Go.Proofs.YthdlpeejmmobmaaGreat

namespace Go.Proofs.YthdlpeejmmobmaaGreat
open Go.RowKit Go.Maps
set_option linter.unusedVariables false
set_option maxRecDepth 100000
structure Nrw (B : Nat) (w : World) (u : Value) (zs : List Int) (F : Nat → Prop) (x : Nat) : Prop where
 row : w.ownsRow B 3 1 u zs.length (zs.map (Value.int .i64))
 off : ∀ k, u.ownBlock = some k → ¬ F k ∧ k ≠ x
theorem nrw_nil (B : Nat) (w : World) (F : Nat → Prop) (x : Nat) : Nrw B w (.slice none 0 0) [] F x := ⟨⟨rfl, .inl ⟨rfl, rfl⟩⟩, fun k hk => by cases hk⟩
theorem Nrw.stp {B : Nat} {w w' : World} {u : Value} {zs : List Int} {F F' : Nat → Prop} {x : Nat} (h : Nrw B w u zs F x) (hst : Pt.Stp (FX F x) (FX F' x) w w') : Nrw B w' u zs F' x :=
 ⟨ownsRow_kept h.row (fun k hk => hst.fr.block k (h.row.lt k hk).2 (fun hf => hf.elim (h.off k hk).1 (h.off k hk).2)), fun k hk => ⟨fun hf => (hst.new k (.inl hf)).elim (fun h9 => h9.elim (h.off k hk).1 (h.off k hk).2) (fun h9 => by have := (h.row.lt k hk).2; have h9 : w.heap.size ≤ k := h9; omega), (h.off k hk).2⟩⟩
theorem stp_fx {F F' : Nat → Prop} {x : Nat} {w w' : World} (h : Pt.Stp F F' w w') : Pt.Stp (FX F x) (FX F' x) w w' :=
 ⟨⟨h.fr.os, h.fr.tape, h.fr.output, h.fr.size, fun k hk hn => h.fr.block k hk (fun hf => hn (.inl hf))⟩, fun k hk => hk.elim (fun h9 => (h.new k h9).imp .inl id) (fun h9 => .inl (.inr h9))⟩
theorem Nrw.other {B : Nat} {w w' : World} {u : Value} {zs : List Int} {F : Nat → Prop} {x : Nat} (h : Nrw B w u zs F x) (hg : w.grownBy w' u.ownBlock) {k : Nat} {cs : Array Value} {t : TypeId} (hk : w.heap[k]? = some (.cells cs t (0, 0))) (ht : t ≠ 3) : w'.heap[k]? = some (.cells cs t (0, 0)) := by
 rw [hg.block k (Array.getElem?_eq_some_iff.1 hk).1, hk]
 intro e
 obtain ⟨cs', h'⟩ := own_ty h.row e.symm
 rw [hk] at h'
 simp only [Option.some.injEq, Obj.cells.injEq] at h'
 exact ht h'.2.1
theorem Nrw.ne {B : Nat} {w : World} {u : Value} {zs : List Int} {F : Nat → Prop} {x : Nat} (h : Nrw B w u zs F x) {k : Nat} {cs : Array Value} {t : TypeId} (hk : w.heap[k]? = some (.cells cs t (0, 0))) (ht : t ≠ 3) : u.ownBlock ≠ some k := by
 intro e
 obtain ⟨cs', h'⟩ := own_ty h.row e
 rw [hk] at h'
 simp only [Option.some.injEq, Obj.cells.injEq] at h'
 exact ht h'.2.1
theorem Nrw.keptIf {B : Nat} {w w' : World} {u : Value} {zs : List Int} {F : Nat → Prop} {x : Nat} (h : Nrw B w u zs F x) (hb : ∀ k, u.ownBlock = some k → w'.heap[k]? = w.heap[k]?) : Nrw B w' u zs F x := ⟨ownsRow_kept h.row hb, h.off⟩
theorem kn_mono {l l' : Nat} (h : l ≤ l') {zs : List Int} (hz : zs.all (Pt.kn l) = true) : zs.all (Pt.kn l') = true := by
 rw [List.all_eq_true] at hz ⊢
 intro z hm
 have := Pt.kn_true.1 (hz z hm)
 exact Pt.kn_true.2 (by omega)
theorem Nrw.vol {B : Nat} {w w' : World} {u : Value} {zs : List Int} {F : Nat → Prop} {x : Nat} (h : Nrw B w u zs F x) (hg : w.grownBy w' u.ownBlock) {k : Nat} (hk : k < w.heap.size) (hF : F k ∨ k = x) : w'.heap[k]? = w.heap[k]? :=
 hg.block k hk (fun e => hF.elim (h.off k e.symm).1 (h.off k e.symm).2)
theorem Nrw.low {B : Nat} {w w' : World} {u : Value} {zs : List Int} {F : Nat → Prop} {x : Nat} (h : Nrw B w u zs F x) (hg : w.grownBy w' u.ownBlock) (hB : B ≤ w.heap.size) : Below B w w' := (Below.refl B w).grown hg hB (fun k hk => (h.row.lt k hk).1)
theorem ii_src {w : World} {q : Option Addr} {n : Nat} {zs : List Int} (h : Pt.II w q n zs) (hn : 0 < n) : ∃ a, q = some a ∧ ∀ j u, (zs.map (Value.int .i64))[j]? = some u → w.cell? (a.add j) = some u := by
 obtain ⟨b, o, rfl, hc⟩ := h.cells hn
 refine ⟨_, rfl, fun j u hu => ?_⟩
 have hl := h.len
 have hj : j < zs.length := by have := (List.getElem?_eq_some_iff.1 hu).1; simpa using this
 rw [List.getElem?_map, List.getElem?_eq_getElem hj] at hu
 have h1 := hc j (by omega)
 rw [List.getD_eq_getElem?_getD, List.getElem?_eq_getElem hj] at h1
 have e : (⟨b, o, .none⟩ : Addr).add j = ⟨b, o + j, .none⟩ := by unfold Addr.add; split <;> simp_all
 rw [e]
 exact h1.trans hu
theorem wpList_nrw {ops : Array Oper} {rest : List Oper} {o : Oper} {a : Act} {w : World} {Q : Exit → Act → World → Prop} (hgd : o.guard = none) (s y : Operand) (ho : o.op = .call { callee := .builtin .append, args := #[s, y], argTypes := #[49, 49] })
  {B : Nat} {u : Value} {zs : List Int} {F : Nat → Prop} {x : Nat} (h : Nrw B w u zs F x) (hs : a.eval s = u) {q : Option Addr} {n c : Nat} {ys : List Int} (hy : a.eval y = .slice q n c) (hii : Pt.II w q n ys) (hn : 0 < n) (hb : zs.length + n ≤ 100000) (hB : B ≤ w.heap.size) (hF : ∀ k, F k → k < w.heap.size) (hx : x < w.heap.size)
  (K : ∀ u' w', Nrw B w' u' (zs ++ ys) F x → w.grownBy w' u.ownBlock → wpList Tryz.prog ops Q rest (a.put o.dst u') w') : wpList Tryz.prog ops Q (o :: rest) a w := by
 obtain ⟨i0, hi, hz0, hz1, hz2⟩ := info_parts Mk.info3
 obtain ⟨ad, rfl, hsrc⟩ := ii_src hii hn
 have hl := hii.len
 refine wpList_append_own_at _ hgd s y 49 ho B 3 i0 (.int .i64 0) 1 8 Tryz.underlying49 hi hz0 hz1 hz2 rfl (by decide) u zs.length (zs.map (Value.int .i64)) hs h.row ad n c (ys.map (Value.int .i64)) hy (by simp [hl]) hsrc (fun v hv => by obtain ⟨z, _, rfl⟩ := List.mem_map.1 hv; rfl) (by unfold maxLen; omega) (by omega) hB ?_
 intro u' w' hown hgr _ hat
 refine K u' w' ⟨by rw [List.length_append, List.map_append, hl]; exact hown, fun k hk => ?_⟩ hgr
 rcases hat with e | e
 ·exact h.off k (e ▸ hk)
 ·rw [e] at hk
  have hk : w.heap.size = k := Option.some.inj hk
  exact ⟨fun hf => by have := hF k hf; omega, by omega⟩
theorem wpList_nrw_nil {ops : Array Oper} {rest : List Oper} {o : Oper} {a : Act} {w : World} {Q : Exit → Act → World → Prop} (hgd : o.guard = none) (s y : Operand) (ho : o.op = .call { callee := .builtin .append, args := #[s, y], argTypes := #[49, 49] })
  {B : Nat} {u : Value} {zs : List Int} {F : Nat → Prop} {x : Nat} (h : Nrw B w u zs F x) (hs : a.eval s = u) {c : Nat} (hy : a.eval y = .slice none 0 c)
  (K : wpList Tryz.prog ops Q rest (a.put o.dst u) w) : wpList Tryz.prog ops Q (o :: rest) a w := by
 have hr := Pt.run_append_none u h.row c o.type
 refine wpList_plain hgd fun K' hK' => ?_
 unfold Oper.wp
 simp [execOp, ho, resolve, invoke, builtin, hs, hy, hr, Result.andThen]
 exact hK' _ _ K
end Go.Proofs.YthdlpeejmmobmaaGreat
