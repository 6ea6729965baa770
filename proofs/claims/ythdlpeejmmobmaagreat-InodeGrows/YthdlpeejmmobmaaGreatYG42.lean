/- J12 -/
import Derived.Test.YthdlpeejmmobmaaGreatYG41

namespace Go.Proofs.YthdlpeejmmobmaaGreat.Mk
open Go.RowKit
set_option maxRecDepth 100000
set_option linter.unusedVariables false
set_option maxRecDepth 10000 in
set_option maxHeartbeats 400000 in
theorem decodeFan_at {xs : List Int} (hA : Ads (fanZ xs)) (p : Option Addr) (c : Nat) (w : World) (h : BI w p 128 xs) :
  Calls Tryz.prog 243 #[.slice p 128 c] w fun e w' => e = .returned (.tuple #[.slice (some ⟨w.heap.size, 0, none⟩) 64 64, .int .i64 0]) ∧ II w' (some ⟨w.heap.size, 0, none⟩) 64 (fanZ xs) ∧ Below w.heap.size w w' ∧ w.heap.size < w'.heap.size := by
 obtain ⟨i0, hi, hz0, hz1, hz2⟩ := info_parts info3
 go_enter Tryz.func243, Tryz.ntmps243
 go_wp2_with (first
  | (at_make; (refine wpList_make_full _ rfl _ _ 49 rfl w.heap.size 3 i0 (.int .i64 0) 1 Tryz.underlying49 hi hz0 hz1 .i64 .i64 _ _ 64 rfl rfl rfl rfl (by rw [hz2]; omega) (by unfold maxLen; omega) (Nat.le_refl _) ?_; intro w1 hown1 hgrow1; have hb1 := (Below.refl _ w).grown hgrow1 (Nat.le_refl _) (by intro k hk; cases hk); have hrow := own_row3 hown1; rw [made_nums 64] at hrow; have hf := filled w w1 xs (h.kept hb1) c hrow hb1; clear hown1 hgrow1 hrow))
  | (go_at_call 226; refine Calls.mono hf ?_; rintro e w2 ⟨rb, rfl, hf2⟩)
  | (go_at_call 235; refine Calls.mono hf2 ?_; rintro e w3 ⟨rfl, hii, hb3⟩; have ha := areAd_ok _ 64 64 _ w3 hii))
 rw [decide_eq_true hA] at ha
 refine same_at ha ?_
 go_wp2_with fail
 go_ret2
 obtain ⟨b9, o9, e9, hc9⟩ := hii.cells (by omega)
 cases e9
 exact ⟨rfl, hii, hb3, lt_of_cell (hc9 0 (by omega))⟩
end Go.Proofs.YthdlpeejmmobmaaGreat.Mk
namespace Go.Proofs.YthdlpeejmmobmaaGreat
open Go.RowKit Go.Maps
set_option linter.unusedVariables false
set_option maxRecDepth 100000
def nlist (L : List Nat) : List Int := L.map (fun b : Nat => (b : Int))
theorem nlist_len (L : List Nat) : (nlist L).length = L.length := by simp [nlist]
def RchR (w : World) (v : Nat) (F : Nat → Prop) (N : Nat) (I : Nat → List Int) (l c k : Nat) (L : List Nat) (e : Ending) (w' : World) : Prop :=
 ∃ (q : Option Addr) (cp : Nat) (F' : Nat → Prop) (c' : Nat), e = .returned (.tuple #[.slice q L.length cp, .int .i64 0]) ∧ Pt.II w' q L.length (nlist L) ∧ (L = [] → q = none) ∧ c' ≤ c + k ∧ Vol w' v F' N I l c' ∧ Pt.Stp F F' w w' ∧ ∀ j, Pt.blkOf q = some j → w.heap.size ≤ j ∧ j < w'.heap.size ∧ ¬ F' j
section
variable {w w' : World} {v : Nat} {F : Nat → Prop} {N : Nat} {I : Nat → List Int} {l c G B Q : Nat}
set_option maxHeartbeats 2000000 in
theorem readFan_at (h : Vol w v F N I l c) (b : Nat) (hb : b < N) (hA : Mk.Ads (Mk.fanZ (I b))) (hc : c < 4611686018427387904) :
  Calls Tryz.prog 161 #[.pointer (some ⟨v, 0, none⟩), .int .i64 (b : Int)] w fun e w' => ∃ g F', e = .returned (.tuple #[.slice (some ⟨g, 0, none⟩) 64 64, .int .i64 0]) ∧ Mk.II w' (some ⟨g, 0, none⟩) 64 (Mk.fanZ (I b)) ∧ Vol w' v F' N I l (c + 1) ∧ Pt.Stp F F' w w' ∧ w.heap.size ≤ g ∧ g < w'.heap.size ∧ ¬ F' g := by
 have hrd := vol_read h b hb hc
 have hsec := (h.sect b).2
 clear h
 go_enter Tryz.func161, Tryz.ntmps161
 go_wp2_with fail
 refine Calls.mono hrd ?_
 rintro e w1 ⟨q, cap, F2, rfl, hO, hq, hv1, hst1⟩
 dsimp only
 go_wp2_with fail
 refine Calls.mono (Mk.decodeFan_at hA _ cap w1 (bi_mk (hO.bi (by omega) hsec))) ?_
 rintro e w2 ⟨rfl, hII, hb2, hlt⟩
 dsimp only
 go_wp2_with fail
 go_ret2
 exact ⟨_, F2, rfl, hII, hv1.later hb2, stp_grown hst1 hb2, hst1.fr.size, hlt, fun hf => by have := hv1.lt _ hf; omega⟩
theorem reach_zero (h : Vol w v F N I l c) (d : Nat) : Calls Tryz.prog 89 #[.pointer (some ⟨v, 0, none⟩), .int .i64 0, .int .i64 (d : Int)] w (RchR w v F N I l c 0 []) := by
 go_enter Tryz.func89, Tryz.ntmps89
 go_wp2_with fail
 go_ret2
 unfold RchR
 exact ⟨none, 0, F, c, rfl, ii_nil w, fun _ => rfl, by omega, h, Pt.Stp.refl F w, fun j hj => by cases hj⟩
theorem one_ii {W : World} {a : Nat} {b : Int} {t : TypeId} (hn : W.heap[a]? = some (.cells #[b |> Value.int .i64] t (0, 0))) (hb : 0 ≤ b ∧ b < 100000) : Pt.II W (some ⟨a, 0, none⟩) 1 [b] :=
 ⟨rfl, by omega, fun y hy => by rw [List.mem_singleton] at hy; rw [hy]; exact ⟨by omega, by omega⟩, fun _ => ⟨_, 0, rfl, fun k hk => by
  obtain rfl : k = 0 := by omega
  exact cell_of_row _ _ 0 _ _ _ hn⟩⟩
theorem reach_leaf (h : Vol w v F N I l c) {b : Nat} (hb0 : b ≠ 0) (hb : b < 100000) : Calls Tryz.prog 89 #[.pointer (some ⟨v, 0, none⟩), .int .i64 (b : Int), .int .i64 0] w (RchR w v F N I l c 0 [b]) := by
 have hbb : ((b : Int) == 0) = false := by rw [beq_eq_false_iff_ne]; omega
 go_enter Tryz.func89, Tryz.ntmps89
 go_wp2_with fail
 go_ret2
 unfold RchR
 have hn : (w.alloc (Obj.cells #[.int .i64 (b : Int)] 3)).heap[w.heap.size]? = some (.cells #[.int .i64 (b : Int)] 3 (0, 0)) := at_new rfl
 refine ⟨some ⟨w.heap.size, 0, none⟩, 1, F, c, rfl, (show Pt.II _ _ 1 [(b : Int)] from one_ii hn ⟨by omega, by omega⟩), (fun h9 => by cases h9), by omega, h.later (Mk.grew_alloc _ _), stp_grown (Pt.Stp.refl F w) (Mk.grew_alloc _ _), fun j hj => ?_⟩
 have e : w.heap.size = j := Option.some.inj hj
 exact ⟨by omega, by simp; omega, fun hf => by have := h.lt j hf; omega⟩
theorem nlist_app (L M : List Nat) : nlist (L ++ M) = nlist L ++ nlist M := by simp [nlist]
def RchL (w w2 : World) (v : Nat) (F : Nat → Prop) (N : Nat) (I : Nat → List Int) (l c kd d s g : Nat) (og : Obj) (val : Nat → Nat) (u iv : Value) (wr : World) : Prop :=
 ∃ (k : Nat) (F2 : Nat → Prop) (c2 : Nat), k ≤ 64 ∧ iv = .int .i64 (k : Int) ∧ Nrw w.heap.size wr u (nlist (val s :: spk (spn val d) s k)) F2 g ∧ Vol wr v F2 N I l c2 ∧ c2 ≤ c + 1 + k * kd ∧ Pt.Stp F F2 w wr ∧ wr.heap[g]? = some og ∧ ¬ F2 g ∧ w2.heap.size ≤ wr.heap.size
set_option maxHeartbeats 8000000 in
theorem reach_step (h : Vol w v F N I l c) {val : Nat → Nat} (hT : Tre (adI I) val) (hR : ∀ i, i < 4230 → val i ≠ 0 → val i < N) {d s kd : Nat} (hd : d ≤ 1) (hs : Dep (d + 1) s) (hv : val s ≠ 0) (hc : c + 1 + 64 * kd + 10 < 4611686018427387904)
  (hrec : ∀ (wx : World) (Fx : Nat → Prop) (cx : Nat), Vol wx v Fx N I l cx → cx + kd + 10 < 4611686018427387904 → ∀ p, p < 64 → Calls Tryz.prog 89 #[.pointer (some ⟨v, 0, none⟩), .int .i64 (val (kid s p) : Int), .int .i64 (d : Int)] wx (RchR wx v Fx N I l cx kd (spn val d (kid s p)))) :
  Calls Tryz.prog 89 #[.pointer (some ⟨v, 0, none⟩), .int .i64 (val s : Int), .int .i64 ((d + 1 : Nat) : Int)] w (RchR w v F N I l c (1 + 64 * kd) (spn val (d + 1) s)) := by
 have hN := h.N1.2
 have hin := hs.inner
 have hA := ads_of_tre hT hR hN hin hv
 have hrf := readFan_at h (val s) (hR s hs.1 hv) hA (by omega)
 have hlen : ∀ k, k ≤ 64 → (spk (spn val d) s k).length ≤ 4160 := fun k hk => by
  rcases (by omega : d = 0 ∨ d = 1) with rfl | rfl
  ·have := spk_len (f := spn val 0) (s := s) (m := 1) (fun k => spn_len0 val _) k; omega
  ·have := spk_len (f := spn val 1) (s := s) (m := 65) (fun k => spn_len1 val _) k; omega
 have hvb : ((val s : Int) == 0) = false := by rw [beq_eq_false_iff_ne]; omega
 obtain ⟨D, hD⟩ : ∃ D : Nat, d + 1 = D := ⟨_, rfl⟩
 have hdb : ((D : Int) == 0) = false := by rw [beq_eq_false_iff_ne]; omega
 have hDd : (D : Int) - 1 = (d : Int) := by omega
 have hel : ∀ k, k < 64 → (Mk.fanZ (I (val s))).getD k 0 = (val (kid s k) : Int) := fun k hk => by rw [fan_adI _ _ hk]; exact hT.live s hin hv k hk
 have hsb : val s < 100000 := by have := hR s hs.1 hv; omega
 have hres : spn val (d + 1) s = val s :: spk (spn val d) s 64 := by
  show (if val s = 0 then [] else _) = _
  rw [if_neg hv]
 have hall : ∀ y, y ∈ spn val (d + 1) s → y < 100000 := fun y hy => by
  obtain ⟨i, hi, h0, rfl⟩ := spn_mem hs hy
  have := hR i hi h0; omega
 rw [hres] at hall ⊢
 rw [hD]
 have hlt := h.lt
 clear hres hv hR hT hA hs h hD
 go_enter Tryz.func89, Tryz.ntmps89
 go_wp2_with fail
 refine Calls.mono hrf ?_
 rintro e w1 ⟨g, F1, rfl, hII, hv1, hst1, hg1, hg2, hg3⟩
 obtain ⟨w2, hw2⟩ : ∃ w2, w1.alloc (Obj.cells #[.int .i64 (val s : Int)] 3) = w2 := ⟨_, rfl⟩
 have hn2 : w2.heap[w1.heap.size]? = some (.cells #[.int .i64 (val s : Int)] 3 (0, 0)) := by rw [← hw2]; exact at_new rfl
 have hb2 : Below w1.heap.size w1 w2 := by rw [← hw2]; exact Mk.grew_alloc _ _
 have hown2 : w2.ownsRow w.heap.size 3 1 (.slice (some ⟨w1.heap.size, 0, none⟩) 1 1) 1 [.int .i64 (val s : Int)] := by
  refine ⟨by simp, .inr ⟨w1.heap.size, 1, #[.int .i64 (val s : Int)], rfl, hst1.fr.size, hn2, by omega, by decide, by simp, by simp⟩⟩
 have hrow0 : Nrw w.heap.size w2 (.slice (some ⟨w1.heap.size, 0, none⟩) 1 1) (nlist (val s :: spk (spn val d) s 0)) F1 g := ⟨hown2, fun k hk => by
  have e : w1.heap.size = k := Option.some.inj hk
  exact ⟨fun hf => by have := hv1.lt k hf; omega, by omega⟩⟩
 obtain ⟨og, hog⟩ : ∃ og, w2.heap[g]? = some og := ⟨_, (Array.getElem?_eq_some_iff.2 ⟨by have := hb2.size; omega, rfl⟩)⟩
 have hII2 := hII.kept hb2
 have hst2 : Pt.Stp F F1 w w2 := stp_grown hst1 hb2
 have hs2 := hb2.size
 have hv2 := hv1.later hb2
 have hI0 : RchL w w2 v F N I l c kd d s g og val (.slice (some ⟨w1.heap.size, 0, none⟩) 1 1) (.int .i64 0) w2 :=
  ⟨0, F1, c + 1, by omega, rfl, hrow0, hv2, by omega, hst2, hog, hg3, Nat.le_refl _⟩
 have HG : Hid (g < w2.heap.size ∧ w.heap.size ≤ g) := ⟨by omega, hg1⟩
 clear hrow0 hst2 hv2 hst1 hv1 hII hb2 hn2 hown2 hg1 hg2 hg3 hrf hs2
 dsimp only
 go_wp2_with fail
 go_loopw [10, 36] (fun u iv wr => RchL w w2 v F N I l c kd d s g og val u iv wr) (fun _ iv _ => 64 - (intOf iv).toNat)
 case atStart => exact hI0
 case round =>
  clear hI0
  obtain ⟨k, F2, c2, hk, rfl, hrow, hv, hc2, hst, hgr, hgF, hszr⟩ := hrel
  by_cases hk64 : k < 64
  ·have hkI : (k : Int) < 64 := by omega
   obtain ⟨b9, o9, e9, hc9⟩ := hII2.cells (by omega)
   cases e9
   have hcell := (cell_keq (hgr.trans hog.symm)).trans (hc9 k hk64)
   rw [hel k hk64, Nat.zero_add] at hcell
   have hk64b : (k + 1) * kd ≤ 64 * kd := Nat.mul_le_mul_right _ (by omega)
   rw [Nat.add_mul, Nat.one_mul] at hk64b
   have hcall := hrec wr F2 c2 hv (by omega) k hk64
   have hlk := hlen k hk
   have hl1 := hlen (k + 1) (by omega)
   have hsp : spk (spn val d) s (k + 1) = spk (spn val d) s k ++ spn val d (kid s k) := rfl
   obtain ⟨L, hL⟩ : ∃ L, spn val d (kid s k) = L := ⟨_, rfl⟩
   rw [hL] at hcall hsp
   rw [hsp, List.length_append] at hl1
   have hnl : (nlist (val s :: spk (spn val d) s k)).length = (spk (spn val d) s k).length + 1 := by rw [nlist_len]; rfl
   have hnew : nlist (val s :: spk (spn val d) s (k + 1)) = nlist (val s :: spk (spn val d) s k) ++ nlist L := by rw [hsp, ← nlist_app]; rfl
   have HN : Hid (nlist (val s :: spk (spn val d) s (k + 1)) = nlist (val s :: spk (spn val d) s k) ++ nlist L) := hnew
   clear hnew hsp hL
   go_wp2_with fail
   refine Calls.mono hcall ?_
   rintro e wb ⟨q3, cp3, F3, c3, rfl, hii3, hnil3, hc3, hv3, hst3, hq3⟩
   have hrow3 := hrow.stp (stp_fx hst3)
   have hsb := hst3.fr.size
   have hgb : wb.heap[g]? = some og := (hst3.fr.block g (by have := HG.out.1; omega) hgF).trans hgr
   have hgF3 : ¬ F3 g := fun hf => (hst3.new g hf).elim hgF (fun h9 => by have h9 : wr.heap.size ≤ g := h9; have := HG.out.1; omega)
   have hst4 := stp_trans hst hst3
   have hsz0 := hst.fr.size
   clear hrow hst3 hcall hst hv
   dsimp only
   cases L with
   | nil =>
    obtain rfl := hnil3 rfl
    go_wp2_with (first | (at_builtin; refine wpList_nrw_nil rfl _ _ rfl hrow3 rfl rfl ?_))
    go_roundw
    case rel =>
     unfold RchL
     refine ⟨k + 1, F3, c3, by omega, by push_cast; rfl, ?_, hv3, by rw [Nat.add_mul]; omega, hst4, hgb, hgF3, by omega⟩
     rw [HN.out]
     have e9 : nlist (val s :: spk (spn val d) s k) ++ nlist [] = nlist (val s :: spk (spn val d) s k) := List.append_nil _
     rw [e9]; exact hrow3
    case measure => simp [intOf]; omega
   | cons y L' =>
    have hL1 : 0 < (y :: L').length := by simp
    obtain ⟨m, hm⟩ : ∃ m, (y :: L').length = m := ⟨_, rfl⟩
    rw [hm] at hii3 hL1 hl1 ⊢
    go_wp2_with (first | (at_builtin; refine wpList_nrw rfl _ _ rfl hrow3 rfl rfl hii3 hL1 (by omega) (by omega) hv3.lt (by have := HG.out.1; omega) ?_; intro u5 w5 hrow5 hg5))
    have hs5 := hg5.size
    go_roundw
    case rel =>
     unfold RchL
     refine ⟨k + 1, F3, c3, by omega, by push_cast; rfl, ?_, hv3.else hg5.size (fun j hj => hrow3.vol hg5 (hv3.lt j hj) (.inl hj)), by rw [Nat.add_mul]; omega, stp_low hst4 (hrow3.low hg5 (by omega)), (hrow3.vol hg5 (by have := HG.out.1; omega) (.inr rfl)).trans hgb, hgF3, by omega⟩
     rw [HN.out]; exact hrow5
    case measure => simp [intOf]; omega
  ·obtain rfl : k = 64 := by omega
   have h64 := hlen 64 (by omega)
   have hrow9 := hrow.row
   rw [nlist_len] at hrow9
   obtain ⟨p9, c9, rfl, hii9, _⟩ := Mk.row_ii hrow9 (by rw [List.length_cons]; omega)
   go_wp2_with fail
   go_ret2
   unfold RchR
   refine ⟨p9, c9, F2, c2, rfl, ⟨hii9.len, hii9.big, fun z hz => ?_, hii9.cells⟩, (fun h9 => by cases h9), by omega, hv, hst, fun j hj => ?_⟩
   ·obtain ⟨y, hy, rfl⟩ := List.mem_map.1 hz
    have := hall y hy
    exact ⟨by omega, by omega⟩
   ·cases p9 with
    | none => cases hj
    | some a =>
     have e9 : a.block = j := Option.some.inj hj
     have h8 := hrow9.lt j (by rw [← e9]; rfl)
     exact ⟨h8.1, h8.2, (hrow.off j (by rw [← e9]; rfl)).1⟩
theorem RchR.mono {k k' : Nat} {L : List Nat} {e : Ending} (hk : k ≤ k') (h : RchR w v F N I l c k L e w') : RchR w v F N I l c k' L e w' := by
 obtain ⟨q, cp, F', c', h1, h2, h3, h4, h5⟩ := h
 exact ⟨q, cp, F', c', h1, h2, h3, by omega, h5⟩
def rdc (d : Nat) : Nat := if d = 0 then 0 else if d = 1 then 1 else 65
theorem reach_ok (h : Vol w v F N I l c) {val : Nat → Nat} (hT : Tre (adI I) val) (hR : ∀ i, i < 4230 → val i ≠ 0 → val i < N) {d s : Nat} (hs : Dep d s) (hc : c + rdc d + 100 < 4611686018427387904) :
  Calls Tryz.prog 89 #[.pointer (some ⟨v, 0, none⟩), .int .i64 (val s : Int), .int .i64 (d : Int)] w (RchR w v F N I l c (rdc d) (spn val d s)) := by
 have hN := h.N1.2
 have zero : ∀ (wx : World) (Fx : Nat → Prop) (cx : Nat), Vol wx v Fx N I l cx → ∀ (d s : Nat), val s = 0 → Calls Tryz.prog 89 #[.pointer (some ⟨v, 0, none⟩), .int .i64 (val s : Int), .int .i64 (d : Int)] wx (RchR wx v Fx N I l cx (rdc d) (spn val d s)) := fun wx Fx cx hx d s h0 => by
  have e : spn val d s = [] := by cases d <;> (unfold spn; rw [if_pos h0])
  rw [e, h0]
  exact (reach_zero hx d).mono fun e w1 h1 => h1.mono (by omega)
 have leaf : ∀ (wx : World) (Fx : Nat → Prop) (cx : Nat), Vol wx v Fx N I l cx → ∀ (s : Nat), s < 4230 → Calls Tryz.prog 89 #[.pointer (some ⟨v, 0, none⟩), .int .i64 (val s : Int), .int .i64 ((0 : Nat) : Int)] wx (RchR wx v Fx N I l cx 0 (spn val 0 s)) := fun wx Fx cx hx s hs4 => by
  by_cases h0 : val s = 0
  ·exact zero wx Fx cx hx 0 s h0
  ·have e : spn val 0 s = [val s] := by unfold spn; rw [if_neg h0]
   rw [e]
   exact reach_leaf hx h0 (by have := hR s hs4 h0; omega)
 have one : ∀ (wx : World) (Fx : Nat → Prop) (cx : Nat), Vol wx v Fx N I l cx → cx + 1 + 10 < 4611686018427387904 → ∀ (s : Nat), Dep 1 s → Calls Tryz.prog 89 #[.pointer (some ⟨v, 0, none⟩), .int .i64 (val s : Int), .int .i64 ((1 : Nat) : Int)] wx (RchR wx v Fx N I l cx 1 (spn val 1 s)) := fun wx Fx cx hx hcx s hs1 => by
  by_cases h0 : val s = 0
  ·exact zero wx Fx cx hx 1 s h0
  ·exact (reach_step (d := 0) (kd := 0) hx hT hR (by omega) hs1 h0 (by omega) (fun wy Fy cy hy _ p hp => leaf wy Fy cy hy _ (hs1.kid hp).1)).mono fun e w1 h1 => h1.mono (by omega)
 rcases (by have := hs.2.2.2; omega : d = 0 ∨ d = 1 ∨ d = 2) with rfl | rfl | rfl
 ·exact leaf w F c h s hs.1
 ·exact one w F c h (by unfold rdc at hc; omega) s hs
 ·by_cases h0 : val s = 0
  ·exact zero w F c h 2 s h0
  ·exact (reach_step (d := 1) (kd := 1) h hT hR (by omega) hs h0 (by unfold rdc at hc; simp at hc; omega) (fun wy Fy cy hy hcy p hp => one wy Fy cy hy (by omega) _ (hs.kid hp))).mono fun e w1 h1 => h1.mono (by unfold rdc; simp)
end
end Go.Proofs.YthdlpeejmmobmaaGreat
