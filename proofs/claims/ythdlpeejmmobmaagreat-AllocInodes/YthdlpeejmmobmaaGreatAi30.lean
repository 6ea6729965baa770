/- C6 C8 -/
import Derived.Test.YthdlpeejmmobmaaGreatAi29

namespace Go.Proofs.YthdlpeejmmobmaaGreat
open Go.RowKit Go.Maps
set_option maxRecDepth 100000
set_option linter.unusedVariables false

/-- Which inode is given. -/
def ido (H : Nat → List Int) (dir : Bool) (G B Q near : Nat) : Option (Nat × Nat) := if dir then mos H true G B Q near else nst H true G B Q near G
theorem ido_some {H : Nat → List Int} {dir : Bool} {G B Q near n i : Nat} (hr : near < G) (h : ido H dir G B Q near = some (n, i)) : n < G ∧ frs H true B Q n = some i := by
  unfold ido at h
  cases dir with
  | false => exact nst_some (by omega) h
  | true =>
    simp only [if_true, mos] at h
    cases ho : frs H true B Q (bst H true G B Q near G) with
    | none => rw [ho] at h; cases h
    | some j => rw [ho] at h; cases h; exact ⟨bst_lt hr G, ho⟩
theorem ido_none {H : Nat → List Int} {dir : Bool} {G B Q near : Nat} (hr : near < G) (h : ido H dir G B Q near = none) : tot H true B Q G = 0 := by
  refine tot_zero.2 fun n hn => ?_
  unfold ido at h
  cases dir with
  | false =>
    have h := nst_none h
    by_cases e : near ≤ n
    · have := h (n - near) (by omega)
      rw [show near + (n - near) = n by omega, Nat.mod_eq_of_lt hn] at this
      exact this
    · have := h (n + G - near) (by omega)
      rw [show near + (n + G - near) = n + G by omega, Nat.add_mod_right, Nat.mod_eq_of_lt hn] at this
      exact this
  | true =>
    simp only [if_true, mos] at h
    have h0 : frs H true B Q (bst H true G B Q near G) = none := by
      cases ho : frs H true B Q (bst H true G B Q near G) with
      | none => rfl
      | some j => rw [ho] at h; cases h
    have h1 := fre_frs.2 h0
    have h2 := bst_all (H := H) (r := true) (B := B) (Q := Q) hr hn
    exact fre_frs.1 (by omega)

theorem ii_nil (w : World) : Pt.II w none 0 [] := ⟨rfl, by omega, fun x hx => (by cases hx), fun h => absurd h (by omega)⟩
section
variable {w w' : World} {v : Nat} {F : Nat → Prop} {N : Nat} {I : Nat → List Int} {l c G B Q : Nat}
open Mk.Al in
set_option maxHeartbeats 4000000 in
theorem inode_ok (h : Vol w v F N I l c) (hg : Geo G B Q N) {H : Nat → List Int} (hH : Hds I G B H) {near : Nat} (hn : near < G) (dir : Bool) (hc : c + 8 < 4611686018427387904) (hl1 : l + 1 ≤ 1000) :
    Calls Tryz.prog 25 #[.pointer (some ⟨v, 0, none⟩), Mk.geomV G B Q, .int .i64 (near : Int), .bool dir] w fun e w' =>
      (∀ n i, ido H dir G B Q near = some (n, i) → e = .returned (.tuple #[.int .i64 ((n * Q + i : Nat) : Int), .int .i64 ((l + 1 : Nat) : Int), .int .i64 0]) ∧ ∃ F' c', c' ≤ c + 8 ∧ Vol w' v F' N (putH I B n (putY true (H n) i true)) (l + 1) c' ∧ Pt.Stp F F' w w') ∧
      (ido H dir G B Q near = none → e = .returned (.tuple #[.int .i64 0, .int .i64 0, .int .i64 5]) ∧ ∃ F' c', c' ≤ c + 8 ∧ Vol w' v F' N I l c' ∧ Pt.Stp F F' w w') := by
  have hfit := hg.fit
  obtain ⟨W, hW⟩ : ∃ W, w.alloc (Mk.geomO G B Q) = W := ⟨_, rfl⟩
  have hb : Below w.heap.size w W := by rw [← hW]; exact Mk.grew_alloc _ _
  have hx : W.heap[w.heap.size]? = some (Mk.geomO G B Q) := by rw [← hW]; exact at_new rfl
  have hsz : W.heap.size = w.heap.size + 1 := by rw [← hW]; simp
  have c0 := (g3_of hx).c0
  have c1 := (g3_of hx).c1
  have c2 := (g3_of hx).c2
  have hlt := h.lt
  have hv := h.later hb
  have hnr := near_ok hv hg hn
  have HV : Hid (Vol W v F N I l c ∧ Below w.heap.size w W ∧ (∀ k, F k → k < w.heap.size)) := ⟨hv, hb, hlt⟩
  clear hv h hb hlt
  go_enter Tryz.func25, Tryz.ntmps25
  go_wp2_with fail
  refine Mk.grew_at hnr ?_
  intro w1 hb1
  have hx1 := (hb1.block _ (Array.getElem?_eq_some_iff.1 hx).1).trans hx
  have c0 := (g3_of hx1).c0
  have c1 := (g3_of hx1).c1
  have c2 := (g3_of hx1).c2
  have hne := nearest_ok (HV.out.1.later hb1) hg hH true hn hc
  have hme := emptiest_ok (HV.out.1.later hb1) hg hH true hn hc
  dsimp only
  cases dir with
  | false =>
    go_wp2_with fail
    refine Calls.mono hne ?_
    rintro e w2 ⟨rfl, F2, c', hc', hv2, hst2⟩
    have hx2 : w2.heap[w.heap.size]? = some (Mk.geomO G B Q) := (hst2.fr.block _ (Array.getElem?_eq_some_iff.1 hx1).1 (fun hf => by have := HV.out.2.2 _ hf; omega)).trans hx1
    have c0 := (g3_of hx2).c0
    have c1 := (g3_of hx2).c1
    have c2 := (g3_of hx2).c2
    have hst : Pt.Stp F F2 w w2 := stp_after (HV.out.2.1.trans (hb1.mono HV.out.2.1.size)) hst2
    have hs2 : w.heap.size + 1 ≤ w2.heap.size := by have := (Array.getElem?_eq_some_iff.1 hx2).1; omega
    obtain ⟨W5, hW5⟩ : ∃ W5, w2.alloc (spotO 0 (Mk.zers 40) false 0) = W5 := ⟨_, rfl⟩
    have hn5 : W5.heap[w2.heap.size]? = some (spotO 0 (Mk.zers 40) false 0) := by rw [← hW5]; exact at_new rfl
    have hb5 : Below w2.heap.size w2 W5 := by rw [← hW5]; exact Mk.grew_alloc _ _
    have hx5 := (hb5.block _ (Array.getElem?_eq_some_iff.1 hx2).1).trans hx2
    dsimp only [spotO] at hW5
    rw [zeroSpot] at hW5
    cases ho : nst H true G B Q near G with
    | none =>
      have hd : ido H false G B Q near = none := ho
      obtain ⟨W6, hW6⟩ : ∃ W6, W5.setRow w2.heap.size (spotA 0 (Mk.zers 40) false 0) = W6 := ⟨_, rfl⟩
      have hb6 : Below w2.heap.size w2 W6 := by rw [← hW6]; exact below_setRow hb5 (Nat.le_refl _) _
      have hi0 := info138 0 (Mk.zers_len 40) false 0
      have h10 := spot_one 0 (Mk.zers 40) false 0
      dsimp only [nstV]
      go_wp2_with (first
        | (refine wpList_store_row rfl 138 _ _ rfl w2.heap.size (spotA 0 (Mk.zers 40) false 0) rfl rfl 138 _ hn5 hi0 rfl h10 ?_; rw [hW6]))
      go_ret3
      exact ⟨rfl, F2, c', hc', hv2.later hb6, stp_grown hst hb6⟩
    | some ni =>
      obtain ⟨n, i⟩ := ni
      have hd : ido H false G B Q near = some (n, i) := ho
      obtain ⟨hnG, hfr⟩ := ido_some hn hd
      obtain ⟨hf1, hf2, hf3⟩ := frs_some hg.may hfr
      have hln := hH.len n hnG
      have hinf := info138 (n : Int) hln true (i : Int)
      have hso := spot_one (n : Int) (H n) true (i : Int)
      have hss : (spotA 0 (Mk.zers 40) false 0).size = (spotA n (H n) true i).size := (spot_size 0 (Mk.zers_len 40) false 0).trans (spot_size (n : Int) hln true (i : Int)).symm
      obtain ⟨W6, hW6⟩ : ∃ W6, W5.setRow w2.heap.size (spotA n (H n) true i) = W6 := ⟨_, rfl⟩
      have hn6 : W6.heap[w2.heap.size]? = some (spotO n (H n) true i) := by rw [← hW6]; exact setRow_heap _ _ _ _ _ _ hn5
      have hb6 : Below w2.heap.size w2 W6 := by rw [← hW6]; exact below_setRow hb5 (Nat.le_refl _) _
      have hx6 := (hb6.block _ (Array.getElem?_eq_some_iff.1 hx2).1).trans hx2
      have c0 := (g3_of hx6).c0
      have c1 := (g3_of hx6).c1
      have c2 := (g3_of hx6).c2
      have hgv := give_ok (hv2.later hb6) hg hnG (hH.at_ n hnG) (hH.len n hnG) (hH.byt n hnG) hl1 true i hf2 none 0 0 [] (ii_nil W6) (fun k hk => by cases hk) rfl (by omega)
      rw [hf3] at hgv
      dsimp only [nstV]
      go_wp2_with (first
        | (refine wpList_store_row rfl 138 _ _ rfl w2.heap.size (spotA n (H n) true i) rfl rfl 138 _ hn5 hinf hss hso ?_; rw [hW6])
        | (refine wpList_load_row rfl 138 _ rfl w2.heap.size rfl 138 _ (0, 0) _ hn6 Tryz.underlying138 rfl hinf ?_))
      refine Calls.mono hgv ?_
      rintro e w3 ⟨rfl, F3, hv3, hst3⟩
      dsimp only
      go_wp2_with fail
      go_ret3
      refine ⟨fun n' i' h => ?_, fun h => by rw [hd] at h; cases h⟩
      rw [hd] at h; cases h
      exact ⟨rfl, F3, c', hc', hv3, stp_trans (stp_grown hst hb6) hst3⟩
  | true =>
    go_wp2_with fail
    refine Calls.mono hme ?_
    rintro e w2 ⟨rfl, F2, c', hc', hv2, hst2⟩
    have hx2 : w2.heap[w.heap.size]? = some (Mk.geomO G B Q) := (hst2.fr.block _ (Array.getElem?_eq_some_iff.1 hx1).1 (fun hf => by have := HV.out.2.2 _ hf; omega)).trans hx1
    have c0 := (g3_of hx2).c0
    have c1 := (g3_of hx2).c1
    have c2 := (g3_of hx2).c2
    have hst : Pt.Stp F F2 w w2 := stp_after (HV.out.2.1.trans (hb1.mono HV.out.2.1.size)) hst2
    have hs2 : w.heap.size + 1 ≤ w2.heap.size := by have := (Array.getElem?_eq_some_iff.1 hx2).1; omega
    obtain ⟨W5, hW5⟩ : ∃ W5, w2.alloc (spotO 0 (Mk.zers 40) false 0) = W5 := ⟨_, rfl⟩
    have hn5 : W5.heap[w2.heap.size]? = some (spotO 0 (Mk.zers 40) false 0) := by rw [← hW5]; exact at_new rfl
    have hb5 : Below w2.heap.size w2 W5 := by rw [← hW5]; exact Mk.grew_alloc _ _
    have hx5 := (hb5.block _ (Array.getElem?_eq_some_iff.1 hx2).1).trans hx2
    dsimp only [spotO] at hW5
    rw [zeroSpot] at hW5
    cases ho : mos H true G B Q near with
    | none =>
      have hd : ido H true G B Q near = none := ho
      obtain ⟨W6, hW6⟩ : ∃ W6, W5.setRow w2.heap.size (spotA 0 (Mk.zers 40) false 0) = W6 := ⟨_, rfl⟩
      have hb6 : Below w2.heap.size w2 W6 := by rw [← hW6]; exact below_setRow hb5 (Nat.le_refl _) _
      have hi0 := info138 0 (Mk.zers_len 40) false 0
      have h10 := spot_one 0 (Mk.zers 40) false 0
      dsimp only [nstV]
      go_wp2_with (first
        | (refine wpList_store_row rfl 138 _ _ rfl w2.heap.size (spotA 0 (Mk.zers 40) false 0) rfl rfl 138 _ hn5 hi0 rfl h10 ?_; rw [hW6]))
      go_ret3
      exact ⟨rfl, F2, c', hc', hv2.later hb6, stp_grown hst hb6⟩
    | some ni =>
      obtain ⟨n, i⟩ := ni
      have hd : ido H true G B Q near = some (n, i) := ho
      obtain ⟨hnG, hfr⟩ := ido_some hn hd
      obtain ⟨hf1, hf2, hf3⟩ := frs_some hg.may hfr
      have hln := hH.len n hnG
      have hinf := info138 (n : Int) hln true (i : Int)
      have hso := spot_one (n : Int) (H n) true (i : Int)
      have hss : (spotA 0 (Mk.zers 40) false 0).size = (spotA n (H n) true i).size := (spot_size 0 (Mk.zers_len 40) false 0).trans (spot_size (n : Int) hln true (i : Int)).symm
      obtain ⟨W6, hW6⟩ : ∃ W6, W5.setRow w2.heap.size (spotA n (H n) true i) = W6 := ⟨_, rfl⟩
      have hn6 : W6.heap[w2.heap.size]? = some (spotO n (H n) true i) := by rw [← hW6]; exact setRow_heap _ _ _ _ _ _ hn5
      have hb6 : Below w2.heap.size w2 W6 := by rw [← hW6]; exact below_setRow hb5 (Nat.le_refl _) _
      have hx6 := (hb6.block _ (Array.getElem?_eq_some_iff.1 hx2).1).trans hx2
      have c0 := (g3_of hx6).c0
      have c1 := (g3_of hx6).c1
      have c2 := (g3_of hx6).c2
      have hgv := give_ok (hv2.later hb6) hg hnG (hH.at_ n hnG) (hH.len n hnG) (hH.byt n hnG) hl1 true i hf2 none 0 0 [] (ii_nil W6) (fun k hk => by cases hk) rfl (by omega)
      rw [hf3] at hgv
      dsimp only [nstV]
      go_wp2_with (first
        | (refine wpList_store_row rfl 138 _ _ rfl w2.heap.size (spotA n (H n) true i) rfl rfl 138 _ hn5 hinf hss hso ?_; rw [hW6])
        | (refine wpList_load_row rfl 138 _ rfl w2.heap.size rfl 138 _ (0, 0) _ hn6 Tryz.underlying138 rfl hinf ?_))
      refine Calls.mono hgv ?_
      rintro e w3 ⟨rfl, F3, hv3, hst3⟩
      dsimp only
      go_wp2_with fail
      go_ret3
      refine ⟨fun n' i' h => ?_, fun h => by rw [hd] at h; cases h⟩
      rw [hd] at h; cases h
      exact ⟨rfl, F3, c', hc', hv3, stp_trans (stp_grown hst hb6) hst3⟩
end
end Go.Proofs.YthdlpeejmmobmaaGreat

namespace Go.Proofs.YthdlpeejmmobmaaGreat
open Go.RowKit Go.Maps
open Mk.Al (putY rowOf fN eN lo zc)
set_option maxRecDepth 100000
set_option linter.unusedVariables false

theorem row_hdY (Q n : Nat) : rowOf true (Mk.hdY Q n) = Mk.hdI n := by
  have h := Mk.hdI_len n
  simp [rowOf, Mk.Al.rAt, Mk.Al.rLen, Mk.hdY, h]
theorem on_first : ∀ j : Fin 64, Mk.Bit.on [7, 0, 0, 0, 0, 0, 0, 0] j.val = decide (j.val < 3) := by decide +kernel
theorem on_none : ∀ j : Fin 64, Mk.Bit.on [0, 0, 0, 0, 0, 0, 0, 0] j.val = false := by decide +kernel
theorem zn_none (f : Nat) : ∀ k, zn (fun _ => false) f k = k
  | 0 => rfl
  | k + 1 => by simp only [zn, zn_none f k]; rfl
theorem zn_three : ∀ k, zn (fun j => decide (j < 3)) 2 (k + 1) = k
  | 0 => rfl
  | k + 1 => by
    have h := zn_three k
    show zn _ 2 (k + 1) + (if decide (2 + (k + 1) < 3) = true then 0 else 1) = k + 1
    rw [h, if_neg (by simp; omega)]
theorem tot_new {B Q : Nat} (hQ : 4 ≤ Q) (h64 : Q ≤ 64) : ∀ k, tot (Mk.hdY Q) true B Q (k + 1) = Q * (k + 1) - 3
  | 0 => by
    show 0 + fre (Mk.hdY Q) true B Q 0 = _
    unfold fre
    rw [row_hdY]
    have e : Mk.hdI 0 = [7, 0, 0, 0, 0, 0, 0, 0] := Mk.fb_seven
    rw [e]
    show 0 + zn _ 2 (Q - 2) = _
    rw [zn_congr (q := fun j => decide (j < 3)) (fun j h1 h2 => on_first ⟨j, by omega⟩), show Q - 2 = (Q - 3) + 1 by omega, zn_three]
    omega
  | k + 1 => by
    have h := tot_new (B := B) hQ h64 k
    show tot _ _ _ _ (k + 1) + fre _ _ _ _ (k + 1) = _
    rw [h]
    have e : fre (Mk.hdY Q) true B Q (k + 1) = Q := by
      unfold fre
      rw [row_hdY]
      have e : Mk.hdI (k + 1) = [0, 0, 0, 0, 0, 0, 0, 0] := rfl
      rw [e]
      show zn _ 0 (Q - 0) = _
      rw [zn_congr (q := fun _ => false) (fun j h1 h2 => on_none ⟨j, by omega⟩), zn_none]
      omega
    rw [e, Nat.mul_add Q (k + 1) 1]
    have : Q * 1 ≤ Q * (k + 1) := Nat.mul_le_mul_left _ (by omega)
    omega
/-- The numbers of the inodes that are given, or never will be. -/
def Gvn (H : Nat → List Int) (G Q : Nat) (S : Nat → Bool) : Prop := ∀ x, S x = true → ∃ n i, n < G ∧ i < Q ∧ x = n * Q + i ∧ Mk.Bit.on (rowOf true (H n)) i = true
theorem gvn_new {G Q : Nat} (hG : 0 < G) (hQ : 4 ≤ Q) : Gvn (Mk.hdY Q) G Q (upd (upd (upd (fun _ => false) 0 true) 1 true) 2 true) := by
  have e : rowOf true (Mk.hdY Q 0) = [7, 0, 0, 0, 0, 0, 0, 0] := by rw [row_hdY]; exact Mk.fb_seven
  intro x hx
  have hx3 : x < 3 := by
    unfold upd at hx
    split at hx
    · omega
    · split at hx
      · omega
      · split at hx
        · omega
        · cases hx
  exact ⟨0, x, hG, by omega, by omega, by rw [e, on_first ⟨x, by omega⟩]; exact decide_eq_true hx3⟩
theorem row_upd {H : Nat → List Int} {n i k : Nat} (r : Bool) (hl : (H n).length = 40) : rowOf r (updH H n (putY r (H n) i true) k) = if k = n then Mk.Bit.put (rowOf r (H n)) i true else rowOf r (H k) := by
  unfold updH
  by_cases e : k = n
  · rw [if_pos e, if_pos e]; exact Mk.Al.row_put r hl i true
  · rw [if_neg e, if_neg e]
theorem gvn_give {H : Nat → List Int} {G B Q n i : Nat} {S : Nat → Bool} (hm : Mk.Gm.May (G : Int) B Q) (hl : (H n).length = 40) (hy : Mk.Num.Byt (H n)) (hn : n < G) (h : frs H true B Q n = some i) (hS : Gvn H G Q S) :
    S (n * Q + i) = false ∧ Gvn (updH H n (putY true (H n) i true)) G Q (upd S (n * Q + i) true) := by
  obtain ⟨h1, h2, h3⟩ := frs_some hm h
  have hfe := Mk.Al.fe_lt hm true n
  have hiQ : i < Q := h2
  have hi : i / 8 < (rowOf true (H n)).length := by rw [Mk.Al.row_len true hl]; omega
  have hby := Mk.Al.row_byt true hy
  refine ⟨?_, ?_⟩
  · cases hx : S (n * Q + i) with
    | false => rfl
    | true =>
      obtain ⟨m, j, hm', hj, he, hon⟩ := hS _ hx
      have e1 : n = m := by
        have h5 : (n * Q + i) / Q = n := by rw [Nat.add_comm, Nat.add_mul_div_right _ _ (by omega), Nat.div_eq_of_lt hiQ]; omega
        have h6 : (m * Q + j) / Q = m := by rw [Nat.add_comm, Nat.add_mul_div_right _ _ (by omega), Nat.div_eq_of_lt hj]; omega
        rw [← h5, he, h6]
      subst e1
      have e2 : i = j := by omega
      subst e2
      rw [h3] at hon
      cases hon
  · intro x hx
    unfold upd at hx
    by_cases e : x = n * Q + i
    · exact ⟨n, i, hn, hiQ, e, by rw [row_upd true hl, if_pos rfl, Mk.Bit.put_on hby hi]⟩
    · rw [if_neg e] at hx
      obtain ⟨m, j, hm', hj, he, hon⟩ := hS _ hx
      refine ⟨m, j, hm', hj, he, ?_⟩
      rw [row_upd true hl]
      by_cases e2 : m = n
      · subst e2
        rw [if_pos rfl, Mk.Bit.put_other hby hi true (fun e3 => e (by rw [he, e3]))]
        exact hon
      · rw [if_neg e2]; exact hon
end Go.Proofs.YthdlpeejmmobmaaGreat
