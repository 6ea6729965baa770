/- B1 -/
import Derived.Test.YthdlpeejmmobmaaGreatAn40

/- A block given near. -/
namespace Go.Proofs.YthdlpeejmmobmaaGreat
open Go.RowKit Go.Maps
open Mk.Al (putY)
set_option linter.unusedVariables false
set_option maxRecDepth 100000

/-- A block asked for. -/
def Blk4 (w4 w5 : World) (v : Nat) (F3 : Nat → Prop) (N : Nat) (I1 : Nat → List Int) (H : Nat → List Int) (l c g b i n : Nat) (v12 v13 v10 : Value) : Prop :=
 ∃ F4 c4, c4 ≤ c + 8 ∧ Pt.Stp F3 F4 w4 w5 ∧ ((∃ n' i', nst H false g b i n g = some (n', i') ∧ v12 = .int .i64 ((n' * b + i' : Nat) : Int) ∧ v13 = .int .i64 ((l + 1 : Nat) : Int) ∧ v10 = .int .i64 0 ∧ Vol w5 v F4 N (putH I1 b n' (putY false (H n') i' true)) (l + 1) c4) ∨
  (nst H false g b i n g = none ∧ v12 = .int .i64 0 ∧ v13 = .int .i64 0 ∧ v10 = .int .i64 5 ∧ Vol w5 v F4 N I1 l c4))
theorem Blk4.stp {w4 w5 : World} {v : Nat} {F3 : Nat → Prop} {N : Nat} {I1 : Nat → List Int} {H : Nat → List Int} {l c g b i n : Nat} {v12 v13 v10 : Value} (h : Blk4 w4 w5 v F3 N I1 H l c g b i n v12 v13 v10) : Pt.Frame F3 w4 w5 := by
 obtain ⟨_, _, _, h, _⟩ := h
 exact h.fr
theorem Blk4.undrew {w4 w5 : World} {v : Nat} {F3 : Nat → Prop} {N : Nat} {I1 : Nat → List Int} {H : Nat → List Int} {l c g b i n : Nat} {v12 v13 v10 : Value} (h : Blk4 w4.drew w5 v F3 N I1 H l c g b i n v12 v13 v10) : Blk4 w4 w5 v F3 N I1 H l c g b i n v12 v13 v10 := by
 obtain ⟨F4, c4, hc, hst, hr⟩ := h
 exact ⟨F4, c4, hc, stp_after (Below.refl _ _).drew hst, hr⟩
theorem blk_of {w4 w5 : World} {v : Nat} {F3 : Nat → Prop} {N : Nat} {I1 : Nat → List Int} {H : Nat → List Int} {l c g b i n : Nat} {e : Ending}
  (h : (∀ n' i', nst H false g b i n g = some (n', i') → e = .returned (.tuple #[.int .i64 ((n' * b + i' : Nat) : Int), .int .i64 ((l + 1 : Nat) : Int), .int .i64 0]) ∧ ∃ F' c', c' ≤ c + 8 ∧ Vol w5 v F' N (putH I1 b n' (putY false (H n') i' true)) (l + 1) c' ∧ Pt.Stp F3 F' w4 w5) ∧
   (nst H false g b i n g = none → e = .returned (.tuple #[.int .i64 0, .int .i64 0, .int .i64 5]) ∧ ∃ F' c', c' ≤ c + 8 ∧ Vol w5 v F' N I1 l c' ∧ Pt.Stp F3 F' w4 w5)) :
  ∃ a1 a2 a3, e = .returned (.tuple #[a1, a2, a3]) ∧ Blk4 w4 w5 v F3 N I1 H l c g b i n a1 a2 a3 := by
 cases ho : nst H false g b i n g with
 | none =>
  obtain ⟨rfl, F', c', hc, hv, hs⟩ := h.2 ho
  exact ⟨_, _, _, rfl, F', c', hc, hs, .inr ⟨ho, rfl, rfl, rfl, hv⟩⟩
 | some x =>
  obtain ⟨n', i'⟩ := x
  obtain ⟨rfl, F', c', hc, hv, hs⟩ := h.1 n' i' ho
  exact ⟨_, _, _, rfl, F', c', hc, hs, .inl ⟨n', i', ho, rfl, rfl, rfl, hv⟩⟩
/-- A geometry and a pair. -/
structure R4 (wx : World) (x p v : Nat) (g b i : Nat) (pd px py : Value) : Prop where
 g : wx.heap[x]? = some (Mk.geomO g b i)
 p : wx.heap[p]? = some (.cells #[pd, .pointer (some ⟨v, 0, none⟩), px, py] 33 (0, 0))
theorem R4.lt {wx : World} {x p v g b i : Nat} {pd px py : Value} (h : R4 wx x p v g b i pd px py) : x < wx.heap.size ∧ p < wx.heap.size := ⟨(Array.getElem?_eq_some_iff.1 h.g).1, (Array.getElem?_eq_some_iff.1 h.p).1⟩
theorem R4.keptIf {wx wy : World} {x p v g b i : Nat} {pd px py : Value} (h : R4 wx x p v g b i pd px py) (h1 : wy.heap[x]? = wx.heap[x]?) (h2 : wy.heap[p]? = wx.heap[p]?) : R4 wy x p v g b i pd px py := ⟨h1.trans h.g, h2.trans h.p⟩
theorem R4.kept {wx wy : World} {x p v g b i : Nat} {pd px py : Value} (h : R4 wx x p v g b i pd px py) (hb : Below wx.heap.size wx wy) : R4 wy x p v g b i pd px py := h.keptIf (hb.block _ h.lt.1) (hb.block _ h.lt.2)
theorem R4.cells {wx : World} {x p v g b i : Nat} {pd px py : Value} (h : R4 wx x p v g b i pd px py) : wx.cell? ⟨x, 0, none⟩ = some (.int .i64 (g : Int)) ∧ wx.cell? ⟨x, 1, none⟩ = some (.int .i64 (b : Int)) ∧ wx.cell? ⟨x, 2, none⟩ = some (.int .i64 (i : Int)) ∧ wx.cell? ⟨p, 1, none⟩ = some (.pointer (some ⟨v, 0, none⟩)) := ⟨(g3_of h.g).c0, (g3_of h.g).c1, (g3_of h.g).c2, cell_of_row _ _ 1 _ 33 _ h.p⟩
/-- A header read in a round. -/
def Rn4 (W2 wx : World) (x p v : Nat) (F : Nat → Prop) (N : Nat) (I : Nat → List Int) (l c g b i : Nat) (n : Nat) (ys : List Int) (pd px py v13 v14 : Value) : Prop :=
 ∃ hb F2, v13 = .pointer (some ⟨hb, 0, none⟩) ∧ v14 = .int .i64 0 ∧ wx.heap[hb]? = some (Mk.groupO n ys) ∧ ¬ F2 hb ∧ Vol wx v F2 N I l c ∧ Pt.Stp F F2 W2 wx ∧ R4 wx x p v g b i pd px py

theorem near_mod (z : Int) {g : Nat} (hg : 0 < g) (h8 : g ≤ 8) : ∃ n : Nat, (IntKind.u64.wrap z).tmod (g : Int) = (n : Int) ∧ n < g ∧ wrap64 (n : Int) = (n : Int) := by
 have h0 : 0 ≤ IntKind.u64.wrap z := by rw [IntKind.wrap_u64]; omega
 have h1 : (IntKind.u64.wrap z).tmod (g : Int) = (IntKind.u64.wrap z) % (g : Int) := Int.tmod_eq_emod_of_nonneg h0
 have h2 := Int.emod_nonneg (IntKind.u64.wrap z) (show (g : Int) ≠ 0 by omega)
 have h3 := Int.emod_lt_of_pos (IntKind.u64.wrap z) (show (0 : Int) < g by omega)
 generalize (IntKind.u64.wrap z) % (g : Int) = x at *
 refine ⟨x.toNat, ?_, ?_, IntWalk.wrap64_in _ ⟨by omega, by omega⟩⟩
 ·rw [h1]; omega
 ·omega

set_option maxHeartbeats 4000000 in
theorem allocNear_walk (G B Q : Int) (w : World) (q : Option Addr) (m d : Nat) (zs : List Int) (hz : Pt.II w q m zs) : Calls Tryz.prog 6 #[Mk.geomV G B Q, .slice q m d] w fun e w' => e = .returned (.bool true) ∧ Below w.heap.size w w' := by
 obtain ⟨W, hW⟩ : ∃ W, w.alloc (Mk.geomO G B Q) = W := ⟨_, rfl⟩
 have hb : Below w.heap.size w W := by rw [← hW]; exact Mk.grew_alloc _ _
 have hx : W.heap[w.heap.size]? = some (Mk.geomO G B Q) := by rw [← hW]; exact at_new rfl
 have hsz : W.heap.size = w.heap.size + 1 := by rw [← hW]; simp
 have c0 := (g3_of hx).c0
 have c1 := (g3_of hx).c1
 have c2 := (g3_of hx).c2
 have hfr := fun w => fresh_ok G B Q w
 have hzW := hz.kept hb
 go_enter Tryz.func6, Tryz.ntmps6
 go_wp2_with fail
 refine Calls.mono (hfr _) ?_
 rintro e w1 ⟨g, b, i, hm, hfp⟩
 obtain ⟨p, v, F, pd, px, py, rfl, hpr, hv, hF, hplo, hb1⟩ := fr_vol hfp
 have hg := geo_of hm
 have hH := hds_new hm
 have hfit := hg.fit
 have hx1 := (hb1.block _ (Array.getElem?_eq_some_iff.1 hx).1).trans hx
 obtain ⟨W2, hW2⟩ : ∃ W2, w1.setRow w.heap.size #[.int .i64 (g : Int), .int .i64 (b : Int), .int .i64 (i : Int)] = W2 := ⟨_, rfl⟩
 have hx2 : W2.heap[w.heap.size]? = some (Mk.geomO g b i) := by rw [← hW2]; exact setRow_heap _ _ _ _ _ _ hx1
 have hs1 := hb1.size
 have hb2 : Below w.heap.size w W2 := by rw [← hW2]; exact below_setRow (hb.trans (hb1.mono (by omega))) (Nat.le_refl _) _
 have ho2 : ∀ k, W.heap.size ≤ k → W2.heap[k]? = w1.heap[k]? := fun k hk => by rw [← hW2]; exact setRow_other _ _ _ _ (by omega)
 have hsz2 : W2.heap.size = w1.heap.size := by rw [← hW2]; simp [World.setRow]
 have hv2 : Vol W2 v F (g * b) (nimg g b i) 0 0 := hv.else (by omega) fun k hk => ho2 k (hF k hk).1
 have hp2 := (ho2 p hplo).trans hpr
 have hz2 : Pt.II W2 q m zs := hz.kept hb2
 have c0 := (g3_of hx2).c0
 have c1 := (g3_of hx2).c1
 have c2 := (g3_of hx2).c2
 have HC : Hid (Pt.II w q m zs ∧ Below w.heap.size w W2 ∧ W2.heap[p]? = some (.cells #[pd, .pointer (some ⟨v, 0, none⟩), px, py] 33 (0, 0)) ∧ w.heap.size + 1 ≤ p ∧ (∀ k, F k → w.heap.size + 1 ≤ k ∧ k ≠ p)) := ⟨hz, hb2, hp2, by omega, fun k hk => ⟨by have := (hF k hk).1; omega, (hF k hk).2⟩⟩
 have HV : Hid (Vol W2 v F (g * b) (nimg g b i) 0 0) := hv2
 have hml := hz.len
 have hmb := hz.big
 have h1c : (#[.int .i64 (g : Int), .int .i64 (b : Int), .int .i64 (i : Int)] : Array Value).all (·.oneCell') = true := by simp [Value.oneCell']
 clear hfp hv hF hb1 hpr hb hzW hfr hW hs1 hb2 ho2 hv2 hp2 hz2 hz
 dsimp only
 go_wp2_with (first
  | (refine wpList_store_row rfl 23 _ _ rfl w.heap.size #[.int .i64 (g : Int), .int .i64 (b : Int), .int .i64 (i : Int)] rfl rfl 23 _ hx1 Mk.info23 rfl h1c ?_; rw [hW2]))
 go_loopw [30] (fun v30 wr => ∃ (j : Nat) (H : Nat → List Int) (F1 : Nat → Prop) (I1 : Nat → List Int) (ca : Nat), j ≤ m ∧ v30 = .int .i64 (j : Int) ∧ j ≤ 41 ∧ ca ≤ 5000 * j ∧ Vol wr v F1 (g * b) I1 j ca ∧ Hds I1 g b H ∧ Pt.Stp F F1 W2 wr) (fun v30 _ => m - (intOf v30).toNat)
 case atStart => exact ⟨0, _, F, _, 0, by omega, rfl, by omega, by omega, HV.out, hH, Pt.Stp.refl _ _⟩
 case round =>
  obtain ⟨j, H, F1, I1, ca, hjm, rfl, hj41, hca, hv, hH1, hst⟩ := hrel
  have hgN : 0 < g := by omega
  have hoff : ∀ k, k < W2.heap.size → (k = w.heap.size ∨ k = p ∨ k < w.heap.size) → wr.heap[k]? = W2.heap[k]? := fun k hk h9 => hst.fr.block k hk (fun hF => by have := HC.out.2.2.2.2 k hF; omega)
  have hx3 : wr.heap[w.heap.size]? = some (Mk.geomO g b i) := (hoff _ (Array.getElem?_eq_some_iff.1 hx2).1 (.inl rfl)).trans hx2
  have hp3 := (hoff p (Array.getElem?_eq_some_iff.1 HC.out.2.2.1).1 (.inr (.inl rfl))).trans HC.out.2.2.1
  have c0' := (g3_of hx3).c0
  have c1' := (g3_of hx3).c1
  have c2' := (g3_of hx3).c2
  have k1' : wr.cell? ⟨p, 1, none⟩ = some (.pointer (some ⟨v, 0, none⟩)) := cell_of_row _ _ 1 _ 33 _ hp3
  by_cases hlt : j < m
  ·have hjI : (j : Int) < (m : Int) := by omega
   obtain ⟨qb, qo, rfl, hcl⟩ := HC.out.1.cells (by omega)
   obtain ⟨z, hzz⟩ : ∃ z, zs.getD j 0 = z := ⟨_, rfl⟩
   have hzj : wr.cell? ⟨qb, qo + j, none⟩ = some (.int .i64 z) := by
    rw [← hzz]
    have h1 := hcl j hlt
    have h2 := lt_of_cell h1
    have h3 := (HC.out.2.1.cell (p := ⟨qb, qo + j, none⟩) h2).trans h1
    rw [← h3]
    have h4 : wr.heap[qb]? = W2.heap[qb]? := hoff qb (by have := HC.out.2.1.size; have h5 : qb < w.heap.size := h2; omega) (.inr (.inr h2))
    unfold World.cell?
    simp only [h4]
   by_cases hj40 : (j : Int) > 40
   ·go_wp2_with fail
    go_ret
    exact ⟨rfl, HC.out.2.1.trans (hst.fr.below (by have := HC.out.2.1.size; omega) (fun k hk => by have := HC.out.2.2.2.2 k hk; omega))⟩
   ·obtain ⟨n, hnn, hnG, hwn⟩ := near_mod z hgN (show g ≤ 8 by omega)
    have HN : Hid ((IntKind.u64.wrap z).tmod (g : Int) = (n : Int) ∧ wrap64 (n : Int) = (n : Int)) := ⟨hnn, hwn⟩
    clear hnn hwn
    go_upto_region 9 with fail
    rw [HN.out.1, HN.out.2]
    have hR : R4 wr w.heap.size p v g b i pd px py := ⟨hx3, hp3⟩
    have hnF : ¬ F1 w.heap.size ∧ ¬ F1 p := ⟨fun hF => by rcases hst.new _ hF with h9 | h9; (have := HC.out.2.2.2.2 _ h9; omega); (have := (Array.getElem?_eq_some_iff.1 hx2).1; omega), fun hF => by rcases hst.new _ hF with h9 | h9; (exact (HC.out.2.2.2.2 _ h9).2 rfl); (have := (Array.getElem?_eq_some_iff.1 HC.out.2.2.1).1; omega)⟩
    have hhd := fun (w4 : World) (hb4 : Below wr.heap.size wr w4) => header_ok (hv.later hb4) hg hnG (hH1.at_ n hnG) (hH1.len n hnG) (by omega)
    have hln := hH1.len n hnG
    have hsg := Mk.groupA_size (n : Int) (H n) hln
    have hsg0 := Mk.groupA_size 0 (Mk.zers 40) (Mk.zers_len 40)
    go_cut [9, 10] (fun v13 v14 wx => Rn4 W2 wx w.heap.size p v F (g * b) I1 j (ca + 1) g b i n (H n) pd px py v13 v14)
    case first =>
     refine wp_region_held_drew (S := (fun w' => w'.cell? ⟨w.heap.size, 0, none⟩ = some (.int .i64 (g : Int)) ∧ w'.cell? ⟨w.heap.size, 1, none⟩ = some (.int .i64 (b : Int)) ∧ w'.cell? ⟨w.heap.size, 2, none⟩ = some (.int .i64 (i : Int)) ∧ w'.cell? ⟨p, 1, none⟩ = some (.pointer (some ⟨v, 0, none⟩)))) (by kernel_rfl) hR.cells (fun hHeld => ?_)
     refine wpAnyH_take (i := 0) (oi := { dst := some 45, op := Op.move (Operand.tmp 5), type := 24, pos := "law.go:193", after := #[], guard := none }) (v := ?_) rfl (by kernel_rfl) (by kernel_rfl) (by kernel_rfl) (fun _ _ _ h => h) (Or.inl ⟨by rfl, ?_⟩) hHeld ?_; rotate_left
     ·(intro w hSw; (try dsimp only at hSw); go_simp; try (with_reducible rfl))
     simp only [Act.put, List.setIfInBounds_toArray, List.set_cons_zero, List.set_cons_succ]
     refine wpAnyH_take (i := 1) (oi := { dst := some 46, op := Op.nilCheck (Operand.tmp 45), type := 0, pos := "law.go:193", after := #[{ on := 0, ground := Ground.data }], guard := none }) (v := ?_) rfl (by kernel_rfl) (by kernel_rfl) (by kernel_rfl) (fun _ _ _ h => h) (Or.inl ⟨by rfl, ?_⟩) hHeld ?_; rotate_left
     ·(intro w hSw; (try dsimp only at hSw); go_simp; try (with_reducible rfl))
     simp only [Act.put, List.setIfInBounds_toArray, List.set_cons_zero, List.set_cons_succ]
     refine wpAnyH_take (i := 2) (oi := { dst := some 47, op := Op.fieldAddr 33 (Operand.tmp 46) 1, type := 0, pos := "law.go:193", after := #[{ on := 1, ground := Ground.data }], guard := none }) (v := ?_) rfl (by kernel_rfl) (by kernel_rfl) (by kernel_rfl) (fun _ _ _ h => h) (Or.inl ⟨by rfl, ?_⟩) hHeld ?_; rotate_left
     ·(intro w hSw; (try dsimp only at hSw); go_simp; try (with_reducible rfl))
     simp only [Act.put, List.setIfInBounds_toArray, List.set_cons_zero, List.set_cons_succ]
     refine wpAnyH_take (i := 3) (oi := { dst := some 48, op := Op.load 29 (Operand.tmp 47), type := 29, pos := "law.go:193", after := #[{ on := 2, ground := Ground.data }], guard := none }) (v := ?_) rfl (by kernel_rfl) (by kernel_rfl) (by kernel_rfl) (fun _ _ _ h => h) (Or.inl ⟨by rfl, ?_⟩) hHeld ?_; rotate_left
     ·(intro w hSw; (try dsimp only at hSw); go_simp; try (with_reducible rfl))
     simp only [Act.put, List.setIfInBounds_toArray, List.set_cons_zero, List.set_cons_succ]
     refine wpAnyH_take (i := 4) (oi := { dst := some 49, op := Op.load 23 (Operand.tmp 2), type := 23, pos := "law.go:193", after := #[], guard := none }) (v := ?_) rfl (by kernel_rfl) (by kernel_rfl) (by kernel_rfl) (fun _ _ _ h => h) (Or.inl ⟨by rfl, ?_⟩) hHeld ?_; rotate_left
     ·(intro w hSw; (try dsimp only at hSw); go_simp; try (with_reducible rfl))
     simp only [Act.put, List.setIfInBounds_toArray, List.set_cons_zero, List.set_cons_succ]
     refine wpAnyH_take (i := 5) (oi := { dst := some 50, op := Op.move (Operand.tmp 8), type := 3, pos := "law.go:193", after := #[], guard := none }) (v := ?_) rfl (by kernel_rfl) (by kernel_rfl) (by kernel_rfl) (fun _ _ _ h => h) (Or.inl ⟨by rfl, ?_⟩) hHeld ?_; rotate_left
     ·(intro w hSw; (try dsimp only at hSw); go_simp; try (with_reducible rfl))
     simp only [Act.put, List.setIfInBounds_toArray, List.set_cons_zero, List.set_cons_succ]
     refine wpAnyH_ready (rs := [6, 10]) (by kernel_rfl) (by simp) ?_
     refine AllReadyH.cons (o := { dst := some 51, op := Op.call { callee := Callee.value (Operand.func 26), args := #[Operand.tmp 48, Operand.tmp 49, Operand.tmp 50], argTypes := #[29, 23, 3] }, type := 65, pos := "law.go:193", after := #[{ on := 3, ground := Ground.data }, { on := 4, ground := Ground.data }, { on := 5, ground := Ground.data }], guard := none }) rfl (fun K hK => ?_) ?_
     ·rw [if_pos (by rfl)]
      go_simp
      refine Calls.mono (hhd _ (Below.refl _ _).drew) ?_
      rintro e w5 ⟨rfl, F2, hv5, hst5⟩
      dsimp only
      have hR5 : R4 w5 w.heap.size p v g b i pd px py := hR.keptIf (hst5.fr.block _ hR.lt.1 hnF.1) (hst5.fr.block _ hR.lt.2 hnF.2)
      refine hK.out _ _ hR5.cells (fun hHeld => ?_)
      clear hK K
      try simp only [Act.put, List.setIfInBounds_toArray, List.set_cons_zero, List.set_cons_succ]
      refine wpAnyH_take (i := 7) (oi := { dst := some 44, op := Op.move (Operand.tmp 51), type := 65, pos := "law.go:193", after := #[{ on := 6, ground := Ground.data }], guard := none }) (v := ?_) rfl (by kernel_rfl) (by kernel_rfl) (by kernel_rfl) (fun _ _ _ h => h) (Or.inl ⟨by rfl, ?_⟩) hHeld ?_; rotate_left
      ·(intro w hSw; (try dsimp only at hSw); go_simp; try (with_reducible rfl))
      simp only [Act.put, List.setIfInBounds_toArray, List.set_cons_zero, List.set_cons_succ]
      refine wpAnyH_take (i := 8) (oi := { dst := some 52, op := Op.extract (Operand.tmp 44) 0, type := 64, pos := "law.go:193", after := #[{ on := 7, ground := Ground.data }], guard := none }) (v := ?_) rfl (by kernel_rfl) (by kernel_rfl) (by kernel_rfl) (fun _ _ _ h => h) (Or.inl ⟨by rfl, ?_⟩) hHeld ?_; rotate_left
      ·(intro w hSw; (try dsimp only at hSw); go_simp; try (with_reducible rfl))
      simp only [Act.put, List.setIfInBounds_toArray, List.set_cons_zero, List.set_cons_succ]
      refine wpAnyH_take (i := 9) (oi := { dst := some 53, op := Op.extract (Operand.tmp 44) 1, type := 36, pos := "law.go:193", after := #[{ on := 7, ground := Ground.data }, { on := 11, ground := Ground.gcOnly Departure.lateStores }], guard := none }) (v := ?_) rfl (by kernel_rfl) (by kernel_rfl) (by kernel_rfl) (fun _ _ _ h => h) (Or.inl ⟨by rfl, ?_⟩) hHeld ?_; rotate_left
      ·(intro w hSw; (try dsimp only at hSw); go_simp; try (with_reducible rfl))
      simp only [Act.put, List.setIfInBounds_toArray, List.set_cons_zero, List.set_cons_succ]
      refine wpAnyH_ready (rs := [10]) (by kernel_rfl) (by simp) ?_
      refine AllReadyH.cons (o := { dst := some 9, op := Op.alloc 64, type := 0, pos := "law.go:193", after := #[], guard := none }) rfl (fun K hK => ?_) AllReadyH.nil
      rw [if_pos (by rfl)]
      go_simp
      obtain ⟨W6, hW6⟩ : ∃ W6, w5.alloc (Mk.groupO 0 (Mk.zers 40)) = W6 := ⟨_, rfl⟩
      have hb6 : Below w5.heap.size w5 W6 := by rw [← hW6]; exact Mk.grew_alloc _ _
      have hn6 : W6.heap[w5.heap.size]? = some (Mk.groupO 0 (Mk.zers 40)) := by rw [← hW6]; exact at_new rfl
      have hR6 := hR5.kept hb6
      have hR7 : R4 (W6.setRow w5.heap.size (Mk.groupA n (H n))) w.heap.size p v g b i pd px py := hR6.keptIf (setRow_other _ _ _ _ (by have := hR5.lt; omega)) (setRow_other _ _ _ _ (by have := hR5.lt; omega))
      dsimp only [Mk.groupO] at hW6
      rw [Mk.zero38] at hW6
      rw [hW6]
      refine hK.out _ _ hR6.cells (fun hHeld => ?_)
      clear hK K
      try simp only [Act.put, List.setIfInBounds_toArray, List.set_cons_zero, List.set_cons_succ]
      refine wpAnyH_ready (rs := [11]) (by kernel_rfl) (by simp) ?_
      refine AllReadyH.cons (o := { dst := none, op := Op.store 64 (Operand.tmp 9) (Operand.tmp 52), type := 0, pos := "law.go:193", after := #[{ on := 10, ground := Ground.data }, { on := 8, ground := Ground.data }, { on := 6, ground := Ground.chain }, { on := 0, ground := Ground.phase }, { on := 1, ground := Ground.phase }, { on := 2, ground := Ground.phase }, { on := 3, ground := Ground.phase }, { on := 4, ground := Ground.phase }, { on := 5, ground := Ground.phase }, { on := 6, ground := Ground.phase }, { on := 7, ground := Ground.phase }, { on := 8, ground := Ground.phase }, { on := 9, ground := Ground.textOnly Departure.lateStores }, { on := 10, ground := Ground.phase }], guard := none }) rfl (fun K hK => ?_) AllReadyH.nil
      rw [if_pos (by rfl)]
      refine wp_store_row 64 _ _ rfl w5.heap.size (Mk.groupA n (H n)) rfl rfl 64 _ hn6 (Mk.info38 (n : Int) (H n) hln) (hsg0.trans hsg.symm) (Mk.group_one (n : Int) (H n)) ?_
      refine hK.out _ _ hR7.cells (fun hHeld => ?_)
      clear hK K
      simp only [Act.put]
      refine wpAnyH_take (i := 12) (oi := { dst := some 10, op := Op.assign (Operand.tmp 53), type := 36, pos := "law.go:193", after := #[{ on := 9, ground := Ground.data }, { on := 11, ground := Ground.chain }, { on := 0, ground := Ground.phase }, { on := 1, ground := Ground.phase }, { on := 2, ground := Ground.phase }, { on := 3, ground := Ground.phase }, { on := 4, ground := Ground.phase }, { on := 5, ground := Ground.phase }, { on := 6, ground := Ground.phase }, { on := 7, ground := Ground.phase }, { on := 8, ground := Ground.phase }, { on := 9, ground := Ground.phase }, { on := 10, ground := Ground.phase }, { on := 11, ground := Ground.phase }], guard := none }) (v := ?_) rfl (by kernel_rfl) (by kernel_rfl) (by kernel_rfl) (fun _ _ _ h => h) (Or.inl ⟨by rfl, ?_⟩) hHeld ?_; rotate_left
      ·(intro w hSw; (try dsimp only at hSw); go_simp; try (with_reducible rfl))
      simp only [Act.put, List.setIfInBounds_toArray, List.set_cons_zero, List.set_cons_succ]
      refine wpAnyH_done (by kernel_rfl) ?_ _
      go_wp2_with fail
      go_meet
      have hbA : Below w5.heap.size w5 (W6.setRow w5.heap.size (Mk.groupA n (H n))) := below_setRow hb6 (Nat.le_refl _) _
      exact ⟨_, F2, rfl, rfl, setRow_heap _ _ _ _ _ _ hn6, fun hf => by have := hv5.lt _ hf; omega, hv5.later hbA, stp_grown (stp_trans (stp_grown hst (Below.refl _ _).drew) hst5) hbA, hR7⟩
     refine AllReadyH.cons (o := { dst := some 9, op := Op.alloc 64, type := 0, pos := "law.go:193", after := #[], guard := none }) rfl (fun K hK => ?_) AllReadyH.nil
     rw [if_pos (by rfl)]
     go_simp
     obtain ⟨W6, hW6⟩ : ∃ W6, wr.alloc (Mk.groupO 0 (Mk.zers 40)) = W6 := ⟨_, rfl⟩
     have hb6 : Below wr.heap.size wr W6 := by rw [← hW6]; exact Mk.grew_alloc _ _
     have hn6 : W6.heap[wr.heap.size]? = some (Mk.groupO 0 (Mk.zers 40)) := by rw [← hW6]; exact at_new rfl
     have hz6 : W6.heap.size = wr.heap.size + 1 := by rw [← hW6]; simp
     have hR6 := hR.kept hb6
     dsimp only [Mk.groupO] at hW6
     rw [Mk.zero38] at hW6
     rw [hW6]
     refine hK.out _ _ hR6.cells (fun hHeld => ?_)
     clear hK K
     try simp only [Act.put, List.setIfInBounds_toArray, List.set_cons_zero, List.set_cons_succ]
     refine wpAnyH_ready (rs := [6]) (by kernel_rfl) (by simp) ?_
     refine AllReadyH.cons (o := { dst := some 51, op := Op.call { callee := Callee.value (Operand.func 26), args := #[Operand.tmp 48, Operand.tmp 49, Operand.tmp 50], argTypes := #[29, 23, 3] }, type := 65, pos := "law.go:193", after := #[{ on := 3, ground := Ground.data }, { on := 4, ground := Ground.data }, { on := 5, ground := Ground.data }], guard := none }) rfl (fun K hK => ?_) AllReadyH.nil
     rw [if_pos (by rfl)]
     go_simp
     refine Calls.mono (hhd _ hb6.drew) ?_
     rintro e w5 ⟨rfl, F2, hv5, hst5⟩
     dsimp only
     have hR5 : R4 w5 w.heap.size p v g b i pd px py := hR6.keptIf (hst5.fr.block _ hR6.lt.1 hnF.1) (hst5.fr.block _ hR6.lt.2 hnF.2)
     have hn5 : w5.heap[wr.heap.size]? = some (Mk.groupO 0 (Mk.zers 40)) := (hst5.fr.block _ (show wr.heap.size < W6.heap.size by omega) (fun hf => by have := hv.lt _ hf; omega)).trans hn6
     have hR7 : R4 (w5.setRow wr.heap.size (Mk.groupA n (H n))) w.heap.size p v g b i pd px py := hR5.keptIf (setRow_other _ _ _ _ (by have := hR.lt; omega)) (setRow_other _ _ _ _ (by have := hR.lt; omega))
     refine hK.out _ _ hR5.cells (fun hHeld => ?_)
     clear hK K
     try simp only [Act.put, List.setIfInBounds_toArray, List.set_cons_zero, List.set_cons_succ]
     refine wpAnyH_take (i := 7) (oi := { dst := some 44, op := Op.move (Operand.tmp 51), type := 65, pos := "law.go:193", after := #[{ on := 6, ground := Ground.data }], guard := none }) (v := ?_) rfl (by kernel_rfl) (by kernel_rfl) (by kernel_rfl) (fun _ _ _ h => h) (Or.inl ⟨by rfl, ?_⟩) hHeld ?_; rotate_left
     ·(intro w hSw; (try dsimp only at hSw); go_simp; try (with_reducible rfl))
     simp only [Act.put, List.setIfInBounds_toArray, List.set_cons_zero, List.set_cons_succ]
     refine wpAnyH_take (i := 8) (oi := { dst := some 52, op := Op.extract (Operand.tmp 44) 0, type := 64, pos := "law.go:193", after := #[{ on := 7, ground := Ground.data }], guard := none }) (v := ?_) rfl (by kernel_rfl) (by kernel_rfl) (by kernel_rfl) (fun _ _ _ h => h) (Or.inl ⟨by rfl, ?_⟩) hHeld ?_; rotate_left
     ·(intro w hSw; (try dsimp only at hSw); go_simp; try (with_reducible rfl))
     simp only [Act.put, List.setIfInBounds_toArray, List.set_cons_zero, List.set_cons_succ]
     refine wpAnyH_take (i := 9) (oi := { dst := some 53, op := Op.extract (Operand.tmp 44) 1, type := 36, pos := "law.go:193", after := #[{ on := 7, ground := Ground.data }, { on := 11, ground := Ground.gcOnly Departure.lateStores }], guard := none }) (v := ?_) rfl (by kernel_rfl) (by kernel_rfl) (by kernel_rfl) (fun _ _ _ h => h) (Or.inl ⟨by rfl, ?_⟩) hHeld ?_; rotate_left
     ·(intro w hSw; (try dsimp only at hSw); go_simp; try (with_reducible rfl))
     simp only [Act.put, List.setIfInBounds_toArray, List.set_cons_zero, List.set_cons_succ]
     refine wpAnyH_ready (rs := [11]) (by kernel_rfl) (by simp) ?_
     refine AllReadyH.cons (o := { dst := none, op := Op.store 64 (Operand.tmp 9) (Operand.tmp 52), type := 0, pos := "law.go:193", after := #[{ on := 10, ground := Ground.data }, { on := 8, ground := Ground.data }, { on := 6, ground := Ground.chain }, { on := 0, ground := Ground.phase }, { on := 1, ground := Ground.phase }, { on := 2, ground := Ground.phase }, { on := 3, ground := Ground.phase }, { on := 4, ground := Ground.phase }, { on := 5, ground := Ground.phase }, { on := 6, ground := Ground.phase }, { on := 7, ground := Ground.phase }, { on := 8, ground := Ground.phase }, { on := 9, ground := Ground.textOnly Departure.lateStores }, { on := 10, ground := Ground.phase }], guard := none }) rfl (fun K hK => ?_) AllReadyH.nil
     rw [if_pos (by rfl)]
     refine wp_store_row 64 _ _ rfl wr.heap.size (Mk.groupA n (H n)) rfl rfl 64 _ hn5 (Mk.info38 (n : Int) (H n) hln) (hsg0.trans hsg.symm) (Mk.group_one (n : Int) (H n)) ?_
     refine hK.out _ _ hR7.cells (fun hHeld => ?_)
     clear hK K
     simp only [Act.put]
     refine wpAnyH_take (i := 12) (oi := { dst := some 10, op := Op.assign (Operand.tmp 53), type := 36, pos := "law.go:193", after := #[{ on := 9, ground := Ground.data }, { on := 11, ground := Ground.chain }, { on := 0, ground := Ground.phase }, { on := 1, ground := Ground.phase }, { on := 2, ground := Ground.phase }, { on := 3, ground := Ground.phase }, { on := 4, ground := Ground.phase }, { on := 5, ground := Ground.phase }, { on := 6, ground := Ground.phase }, { on := 7, ground := Ground.phase }, { on := 8, ground := Ground.phase }, { on := 9, ground := Ground.phase }, { on := 10, ground := Ground.phase }, { on := 11, ground := Ground.phase }], guard := none }) (v := ?_) rfl (by kernel_rfl) (by kernel_rfl) (by kernel_rfl) (fun _ _ _ h => h) (Or.inl ⟨by rfl, ?_⟩) hHeld ?_; rotate_left
     ·(intro w hSw; (try dsimp only at hSw); go_simp; try (with_reducible rfl))
     simp only [Act.put, List.setIfInBounds_toArray, List.set_cons_zero, List.set_cons_succ]
     refine wpAnyH_done (by kernel_rfl) ?_ _
     go_wp2_with fail
     go_meet
     exact ⟨_, F2, rfl, rfl, setRow_heap _ _ _ _ _ _ hn5, fun hf => (by rcases hst5.new _ hf with h9 | h9; (have := hv.lt _ h9; omega); (have : W6.heap.size ≤ wr.heap.size := h9; omega)), hv5.else (below_setRow (Below.refl _ _) (Nat.zero_le _) _).size (fun k hk => setRow_other _ _ _ _ (by rcases hst5.new k hk with h9 | h9; (have := hv.lt k h9; omega); (have : W6.heap.size ≤ k := h9; omega))), stp_low (stp_trans hst (stp_after hb6.drew hst5)) (below_setRow (Below.refl _ _) (by have := hst.fr.size; omega) _), hR7⟩
    case rest =>
     obtain ⟨hb, F2, rfl, rfl, hbn, hbF, hv2, hst2, hR2⟩ := hcut
     rename World => wx
     have hpF2 : ¬ F2 p ∧ ¬ F2 w.heap.size := ⟨fun hF => by rcases hst2.new _ hF with h9 | h9; (exact (HC.out.2.2.2.2 _ h9).2 rfl); (have := (Array.getElem?_eq_some_iff.1 HC.out.2.2.1).1; omega), fun hF => by rcases hst2.new _ hF with h9 | h9; (have := HC.out.2.2.2.2 _ h9; omega); (have := (Array.getElem?_eq_some_iff.1 hx2).1; omega)⟩
     have hnow := pnow_ok hv2 hR2.p hpF2.1 (by omega)
     have HH : Hid (Vol wx v F2 (g * b) I1 j (ca + 1) ∧ Pt.Stp F F2 W2 wx ∧ ¬ F2 hb ∧ wx.heap[hb]? = some (Mk.groupO n (H n)) ∧ R4 wx w.heap.size p v g b i pd px py) := ⟨hv2, hst2, hbF, hbn, hR2⟩
     clear hv2 hst2 hbF hbn hv hst hhd hoff hnF hR
     go_wp2_with fail
     refine Calls.mono hnow ?_
     rintro e w4 ⟨u1, vs1, F3, rfl, hP1, hv3, hst3, hoff3⟩
     have hR3 : R4 w4 w.heap.size p v g b i pd px py := hR2.keptIf (hst3.fr.block _ hR2.lt.1 hpF2.2) (hst3.fr.block _ hR2.lt.2 hpF2.1)
     dsimp only
     go_upto_region 13 with fail
     have hbk := fun (w' : World) (hb' : Below w4.heap.size w4 w') => block_ok (hv3.later hb') hg hH1 hnG (by omega) (by omega) none 0 0 [] ⟨rfl, by omega, by simp, by omega⟩ (by intro k hk; cases hk) rfl (by omega)
     have hnF3 : ¬ F3 w.heap.size ∧ ¬ F3 p := ⟨fun hF => by rcases hst3.new _ hF with h9 | h9; (exact hpF2.2 h9); (have := hR2.lt; omega), fun hF => by rcases hst3.new _ hF with h9 | h9; (exact hpF2.1 h9); (have := hR2.lt; omega)⟩
     go_cut [12, 13, 10] (fun v12 v13 v10 w5 => Blk4 w4 w5 v F3 (g * b) I1 H j (ca + 1 + g * b) g b i n v12 v13 v10)
     case first =>
      refine wp_region_held_drew (S := (fun w' => w'.cell? ⟨w.heap.size, 0, none⟩ = some (.int .i64 (g : Int)) ∧ w'.cell? ⟨w.heap.size, 1, none⟩ = some (.int .i64 (b : Int)) ∧ w'.cell? ⟨w.heap.size, 2, none⟩ = some (.int .i64 (i : Int)) ∧ w'.cell? ⟨p, 1, none⟩ = some (.pointer (some ⟨v, 0, none⟩)))) (by kernel_rfl) hR3.cells (fun hHeld => ?_)
      refine wpAnyH_take (i := 0) (oi := { dst := some 59, op := Op.move (Operand.tmp 5), type := 24, pos := "law.go:198", after := #[], guard := none }) (v := ?_) rfl (by kernel_rfl) (by kernel_rfl) (by kernel_rfl) (fun _ _ _ h => h) (Or.inl ⟨by rfl, ?_⟩) hHeld ?_; rotate_left
      ·(intro w hSw; (try dsimp only at hSw); go_simp; try (with_reducible rfl))
      simp only [Act.put, List.setIfInBounds_toArray, List.set_cons_zero, List.set_cons_succ]
      refine wpAnyH_take (i := 1) (oi := { dst := some 60, op := Op.nilCheck (Operand.tmp 59), type := 0, pos := "law.go:198", after := #[{ on := 0, ground := Ground.data }], guard := none }) (v := ?_) rfl (by kernel_rfl) (by kernel_rfl) (by kernel_rfl) (fun _ _ _ h => h) (Or.inl ⟨by rfl, ?_⟩) hHeld ?_; rotate_left
      ·(intro w hSw; (try dsimp only at hSw); go_simp; try (with_reducible rfl))
      simp only [Act.put, List.setIfInBounds_toArray, List.set_cons_zero, List.set_cons_succ]
      refine wpAnyH_take (i := 2) (oi := { dst := some 61, op := Op.fieldAddr 33 (Operand.tmp 60) 1, type := 0, pos := "law.go:198", after := #[{ on := 1, ground := Ground.data }], guard := none }) (v := ?_) rfl (by kernel_rfl) (by kernel_rfl) (by kernel_rfl) (fun _ _ _ h => h) (Or.inl ⟨by rfl, ?_⟩) hHeld ?_; rotate_left
      ·(intro w hSw; (try dsimp only at hSw); go_simp; try (with_reducible rfl))
      simp only [Act.put, List.setIfInBounds_toArray, List.set_cons_zero, List.set_cons_succ]
      refine wpAnyH_take (i := 3) (oi := { dst := some 62, op := Op.load 29 (Operand.tmp 61), type := 29, pos := "law.go:198", after := #[{ on := 2, ground := Ground.data }], guard := none }) (v := ?_) rfl (by kernel_rfl) (by kernel_rfl) (by kernel_rfl) (fun _ _ _ h => h) (Or.inl ⟨by rfl, ?_⟩) hHeld ?_; rotate_left
      ·(intro w hSw; (try dsimp only at hSw); go_simp; try (with_reducible rfl))
      simp only [Act.put, List.setIfInBounds_toArray, List.set_cons_zero, List.set_cons_succ]
      refine wpAnyH_take (i := 4) (oi := { dst := some 63, op := Op.load 23 (Operand.tmp 2), type := 23, pos := "law.go:198", after := #[], guard := none }) (v := ?_) rfl (by kernel_rfl) (by kernel_rfl) (by kernel_rfl) (fun _ _ _ h => h) (Or.inl ⟨by rfl, ?_⟩) hHeld ?_; rotate_left
      ·(intro w hSw; (try dsimp only at hSw); go_simp; try (with_reducible rfl))
      simp only [Act.put, List.setIfInBounds_toArray, List.set_cons_zero, List.set_cons_succ]
      refine wpAnyH_take (i := 5) (oi := { dst := some 64, op := Op.move (Operand.tmp 8), type := 3, pos := "law.go:198", after := #[], guard := none }) (v := ?_) rfl (by kernel_rfl) (by kernel_rfl) (by kernel_rfl) (fun _ _ _ h => h) (Or.inl ⟨by rfl, ?_⟩) hHeld ?_; rotate_left
      ·(intro w hSw; (try dsimp only at hSw); go_simp; try (with_reducible rfl))
      simp only [Act.put, List.setIfInBounds_toArray, List.set_cons_zero, List.set_cons_succ]
      refine wpAnyH_ready (rs := [6]) (by kernel_rfl) (by simp) ?_
      refine AllReadyH.cons (o := { dst := some 65, op := Op.call { callee := Callee.value (Operand.func 22), args := #[Operand.tmp 62, Operand.tmp 63, Operand.tmp 64, Operand.const (Value.slice none 0 0)], argTypes := #[29, 23, 3, 49] }, type := 52, pos := "law.go:198", after := #[{ on := 3, ground := Ground.data }, { on := 4, ground := Ground.data }, { on := 5, ground := Ground.data }], guard := none }) rfl (fun K hK => ?_) AllReadyH.nil
      rw [if_pos (by rfl)]
      go_simp
      refine Calls.mono (hbk _ (Below.refl _ _).drew) ?_
      rintro e w5 hpost
      have key : ∃ a1 a2 a3, e = .returned (.tuple #[a1, a2, a3]) ∧ Blk4 w4.drew w5 v F3 (g * b) I1 H j (ca + 1 + g * b) g b i n a1 a2 a3 := blk_of hpost
      obtain ⟨a1, a2, a3, rfl, hB⟩ := key
      dsimp only
      have hst5 := hB.stp
      have hR5 : R4 w5 w.heap.size p v g b i pd px py := hR3.keptIf (hst5.block _ hR3.lt.1 hnF3.1) (hst5.block _ hR3.lt.2 hnF3.2)
      refine hK.out _ _ hR5.cells (fun hHeld => ?_)
      clear hK K
      try simp only [Act.put, List.setIfInBounds_toArray, List.set_cons_zero, List.set_cons_succ]
      refine wpAnyH_take (i := 7) (oi := { dst := some 58, op := Op.move (Operand.tmp 65), type := 52, pos := "law.go:198", after := #[{ on := 6, ground := Ground.data }], guard := none }) (v := ?_) rfl (by kernel_rfl) (by kernel_rfl) (by kernel_rfl) (fun _ _ _ h => h) (Or.inl ⟨by rfl, ?_⟩) hHeld ?_; rotate_left
      ·(intro w hSw; (try dsimp only at hSw); go_simp; try (with_reducible rfl))
      simp only [Act.put, List.setIfInBounds_toArray, List.set_cons_zero, List.set_cons_succ]
      refine wpAnyH_take (i := 8) (oi := { dst := some 66, op := Op.extract (Operand.tmp 58) 0, type := 3, pos := "law.go:198", after := #[{ on := 7, ground := Ground.data }], guard := none }) (v := ?_) rfl (by kernel_rfl) (by kernel_rfl) (by kernel_rfl) (fun _ _ _ h => h) (Or.inl ⟨by rfl, ?_⟩) hHeld ?_; rotate_left
      ·(intro w hSw; (try dsimp only at hSw); go_simp; try (with_reducible rfl))
      simp only [Act.put, List.setIfInBounds_toArray, List.set_cons_zero, List.set_cons_succ]
      refine wpAnyH_take (i := 9) (oi := { dst := some 67, op := Op.extract (Operand.tmp 58) 1, type := 3, pos := "law.go:198", after := #[{ on := 7, ground := Ground.data }, { on := 11, ground := Ground.gcOnly Departure.lateStores }], guard := none }) (v := ?_) rfl (by kernel_rfl) (by kernel_rfl) (by kernel_rfl) (fun _ _ _ h => h) (Or.inl ⟨by rfl, ?_⟩) hHeld ?_; rotate_left
      ·(intro w hSw; (try dsimp only at hSw); go_simp; try (with_reducible rfl))
      simp only [Act.put, List.setIfInBounds_toArray, List.set_cons_zero, List.set_cons_succ]
      refine wpAnyH_take (i := 10) (oi := { dst := some 68, op := Op.extract (Operand.tmp 58) 2, type := 36, pos := "law.go:198", after := #[{ on := 7, ground := Ground.data }, { on := 12, ground := Ground.gcOnly Departure.lateStores }], guard := none }) (v := ?_) rfl (by kernel_rfl) (by kernel_rfl) (by kernel_rfl) (fun _ _ _ h => h) (Or.inl ⟨by rfl, ?_⟩) hHeld ?_; rotate_left
      ·(intro w hSw; (try dsimp only at hSw); go_simp; try (with_reducible rfl))
      simp only [Act.put, List.setIfInBounds_toArray, List.set_cons_zero, List.set_cons_succ]
      refine wpAnyH_take (i := 11) (oi := { dst := some 12, op := Op.assign (Operand.tmp 66), type := 3, pos := "law.go:198", after := #[{ on := 8, ground := Ground.data }, { on := 6, ground := Ground.chain }, { on := 0, ground := Ground.phase }, { on := 1, ground := Ground.phase }, { on := 2, ground := Ground.phase }, { on := 3, ground := Ground.phase }, { on := 4, ground := Ground.phase }, { on := 5, ground := Ground.phase }, { on := 6, ground := Ground.phase }, { on := 7, ground := Ground.phase }, { on := 8, ground := Ground.phase }, { on := 9, ground := Ground.textOnly Departure.lateStores }, { on := 10, ground := Ground.textOnly Departure.lateStores }], guard := none }) (v := ?_) rfl (by kernel_rfl) (by kernel_rfl) (by kernel_rfl) (fun _ _ _ h => h) (Or.inl ⟨by rfl, ?_⟩) hHeld ?_; rotate_left
      ·(intro w hSw; (try dsimp only at hSw); go_simp; try (with_reducible rfl))
      simp only [Act.put, List.setIfInBounds_toArray, List.set_cons_zero, List.set_cons_succ]
      refine wpAnyH_take (i := 12) (oi := { dst := some 13, op := Op.assign (Operand.tmp 67), type := 3, pos := "law.go:198", after := #[{ on := 9, ground := Ground.data }, { on := 11, ground := Ground.chain }, { on := 0, ground := Ground.phase }, { on := 1, ground := Ground.phase }, { on := 2, ground := Ground.phase }, { on := 3, ground := Ground.phase }, { on := 4, ground := Ground.phase }, { on := 5, ground := Ground.phase }, { on := 6, ground := Ground.phase }, { on := 7, ground := Ground.phase }, { on := 8, ground := Ground.phase }, { on := 9, ground := Ground.phase }, { on := 10, ground := Ground.textOnly Departure.lateStores }, { on := 11, ground := Ground.phase }], guard := none }) (v := ?_) rfl (by kernel_rfl) (by kernel_rfl) (by kernel_rfl) (fun _ _ _ h => h) (Or.inl ⟨by rfl, ?_⟩) hHeld ?_; rotate_left
      ·(intro w hSw; (try dsimp only at hSw); go_simp; try (with_reducible rfl))
      simp only [Act.put, List.setIfInBounds_toArray, List.set_cons_zero, List.set_cons_succ]
      refine wpAnyH_take (i := 13) (oi := { dst := some 10, op := Op.assign (Operand.tmp 68), type := 36, pos := "law.go:198", after := #[{ on := 10, ground := Ground.data }, { on := 12, ground := Ground.chain }, { on := 0, ground := Ground.phase }, { on := 1, ground := Ground.phase }, { on := 2, ground := Ground.phase }, { on := 3, ground := Ground.phase }, { on := 4, ground := Ground.phase }, { on := 5, ground := Ground.phase }, { on := 6, ground := Ground.phase }, { on := 7, ground := Ground.phase }, { on := 8, ground := Ground.phase }, { on := 9, ground := Ground.phase }, { on := 10, ground := Ground.phase }, { on := 11, ground := Ground.phase }, { on := 12, ground := Ground.phase }], guard := none }) (v := ?_) rfl (by kernel_rfl) (by kernel_rfl) (by kernel_rfl) (fun _ _ _ h => h) (Or.inl ⟨by rfl, ?_⟩) hHeld ?_; rotate_left
      ·(intro w hSw; (try dsimp only at hSw); go_simp; try (with_reducible rfl))
      simp only [Act.put, List.setIfInBounds_toArray, List.set_cons_zero, List.set_cons_succ]
      refine wpAnyH_done (by kernel_rfl) ?_ _
      go_wp2_with fail
      go_meet
      exact hB.undrew
     case rest =>
      obtain ⟨F4, c4, hc4, hst4, hB⟩ := hcut
      rename World => w5
      have hstA : Pt.Stp F F4 W2 w5 := stp_trans (stp_trans HH.out.2.1 hst3) hst4
      have hbA : Below w.heap.size w w5 := HC.out.2.1.trans (hstA.fr.below (by have := HC.out.2.1.size; omega) (fun k hk => by have := HC.out.2.2.2.2 k hk; omega))
      have hR5 : R4 w5 w.heap.size p v g b i pd px py := hR3.keptIf (hst4.fr.block _ hR3.lt.1 hnF3.1) (hst4.fr.block _ hR3.lt.2 hnF3.2)
      rcases hB with ⟨n', i', ho, rfl, rfl, rfl, hv5⟩ | ⟨ho, rfl, rfl, rfl, hv5⟩
      ·have hpF4 : ¬ F4 p := fun hF => by rcases hst4.new _ hF with h9 | h9; (exact hnF3.2 h9); (have := hR3.lt; omega)
       have hnow5 := pnow_ok hv5 hR5.p hpF4 (by omega)
       have H5 : Hid (Vol w5 v F4 (g * b) (putH I1 b n' (putY false (H n') i' true)) (j + 1) c4 ∧ Pt.Stp F3 F4 w4 w5 ∧ PI wx.heap.size w4 u1 (g * b) vs1 (imgL I1 (g * b)) ∧ Vol w4 v F3 (g * b) I1 j (ca + 1 + g * b) ∧ Pt.Stp F2 F3 wx w4 ∧ (∀ k, pif u1 vs1 k → ¬ F3 k) ∧ Pt.Stp F F4 W2 w5) := ⟨hv5, hst4, hP1, hv3, hst3, hoff3, hstA⟩
       clear hv5 hst4 hP1 hv3 hst3 hoff3 hstA hbk
       go_wp2_with fail
       refine Calls.mono hnow5 ?_
       rintro e w6 ⟨u2, vs2, F5, rfl, hP2, hv6, hst6, hoff6⟩
       have hR6 : R4 w6 w.heap.size p v g b i pd px py := hR5.keptIf (hst6.fr.block _ hR5.lt.1 (fun hF => by rcases H5.out.2.1.new _ hF with h9 | h9; (exact hnF3.1 h9); (have := hR3.lt; omega))) (hst6.fr.block _ hR5.lt.2 hpF4)
       have hoff4 : ∀ k, pif u1 vs1 k → ¬ F4 k := fun k hk hF => by
        rcases H5.out.2.1.new _ hF with h9 | h9
        ·exact H5.out.2.2.2.2.2.1 k hk h9
        ·have := (H5.out.2.2.1.flt hk).2
         omega
       have hP6 : PI wx.heap.size w6 u1 (g * b) vs1 (imgL I1 (g * b)) := (H5.out.2.2.1.keepF fun k hk => H5.out.2.1.fr.block k (H5.out.2.2.1.flt hk).2 (H5.out.2.2.2.2.2.1 k hk)).keepF fun k hk => hst6.fr.block k (Nat.lt_of_lt_of_le (H5.out.2.2.1.flt hk).2 H5.out.2.1.fr.size) (hoff4 k hk)
       have hN1 := hv6.N1
       obtain ⟨ga, oa, da, rfl, him1⟩ := hP6.img hN1 H5.out.2.2.2.1.sect
       obtain ⟨gb, ob, db, rfl, him2⟩ := hP2.img hN1 H5.out.1.sect
       have h1F := dfI_put hg hH1 H5.out.2.2.2.1.sect (nst_some hgN ho).1 (frs_some hg.may (nst_some hgN ho).2).2.1 (frs_some hg.may (nst_some hgN ho).2).2.2
       generalize hJ : putH I1 b n' (putY false (H n') i' true) = J at *
       have hb6 : w6.heap[hb]? = some (Mk.groupO n (H n)) := by
        have k1 := HH.out
        have hl := (Array.getElem?_eq_some_iff.1 k1.2.2.2.1).1
        have n3 : ¬ F3 hb := fun hF => by rcases H5.out.2.2.2.2.1.new _ hF with h9 | h9; (exact k1.2.2.1 h9); omega
        have hl4 := Nat.lt_of_lt_of_le hl H5.out.2.2.2.2.1.fr.size
        have n4 : ¬ F4 hb := fun hF => by rcases H5.out.2.1.new _ hF with h9 | h9; (exact n3 h9); omega
        exact (hst6.fr.block _ (Nat.lt_of_lt_of_le hl4 H5.out.2.1.fr.size) n4).trans ((H5.out.2.1.fr.block _ hl4 n3).trans ((H5.out.2.2.2.2.1.fr.block _ hl k1.2.2.1).trans k1.2.2.2.1))
       have H6 : Hid (IMG w6 ga oa (g * b) I1 ∧ IMG w6 gb ob (g * b) J ∧ w6.heap[hb]? = some (Mk.groupO n (H n)) ∧ R4 w6 w.heap.size p v g b i pd px py ∧ Vol w6 v F5 (g * b) J (j + 1) (c4 + g * b) ∧ Pt.Stp F F5 W2 w6 ∧ dfI J I1 (g * b) = 1) := ⟨him1, him2, hb6, hR6, hv6, stp_trans H5.out.2.2.2.2.2.2 hst6, h1F⟩
       clear him1 him2 hb6 hv6 hst6 h1F hP6 hP2 hoff6 hoff4
       dsimp only
       go_wp2_with fail
       go_loopw [15, 77] (fun v15 v77 wy => ∃ k : Nat, k ≤ g * b ∧ v15 = .int .i64 (dfI J I1 k : Int) ∧ v77 = .int .i64 (k : Int) ∧ Below w6.heap.size w6 wy) (fun _ v77 _ => g * b - (intOf v77).toNat)
       case atStart => exact ⟨0, by omega, rfl, rfl, Below.refl _ _⟩
       case round =>
        obtain ⟨k, hkN, rfl, rfl, hby⟩ := hrel
        by_cases hltk : k < g * b
        ·have hkI : (k : Int) < ((g * b : Nat) : Int) := by omega
         obtain ⟨qb2, qo2, d2, hc2, hd2⟩ := (H6.out.2.1.kept hby).row k hltk
         go_wp2_with fail
         go_loopw [15, 85] (fun v15 v85 wz => ∃ y : Nat, y ≤ 128 ∧ v15 = .int .i64 ((dfI J I1 k + df (J k) (I1 k) y : Nat) : Int) ∧ v85 = .int .i64 (y : Int) ∧ Below w6.heap.size w6 wz) (fun _ v85 _ => 128 - (intOf v85).toNat)
         case atStart => exact ⟨0, by omega, rfl, rfl, hby⟩
         case round =>
          obtain ⟨y, hy128, rfl, rfl, hbz⟩ := hrel
          by_cases hlty : y < 128
          ·have hyI : (y : Int) < 128 := by omega
           obtain ⟨qc2, qp2, d3, hc3, hd3⟩ := (H6.out.2.1.kept hbz).row k hltk
           obtain ⟨qc1, qp1, d1, hc1, hd1⟩ := (H6.out.1.kept hbz).row k hltk
           have hdf : df (J k) (I1 k) (y + 1) = df (J k) (I1 k) y + if (J k).getD y 0 = (I1 k).getD y 0 then 0 else 1 := rfl
           have hle := dfI_le J I1 k
           have hle2 := df_le (J k) (I1 k) y
           have hd2 := hd3 y hlty
           have hd1 := hd1 y hlty
           obtain ⟨xa, hxa⟩ : ∃ xa, (J k).getD y 0 = xa := ⟨_, rfl⟩
           obtain ⟨xb, hxb⟩ : ∃ xb, (I1 k).getD y 0 = xb := ⟨_, rfl⟩
           rw [hxa] at hd2 hdf
           rw [hxb] at hd1 hdf
           have HD : Hid (df (J k) (I1 k) (y + 1) = df (J k) (I1 k) y + if xa = xb then 0 else 1) := hdf
           clear hdf hxa hxb hd3
           go_upto_region 24 with fail
           by_cases hxy : xa = xb
           ·subst hxy
            refine wp_region_held_drew (S := (fun w' => w'.cell? ⟨gb, ob + k, none⟩ = some (.slice (some ⟨qc2, qp2, none⟩) 128 d3) ∧ w'.cell? ⟨qc2, qp2 + y, none⟩ = some (.int .u8 xa) ∧ w'.cell? ⟨ga, oa + k, none⟩ = some (.slice (some ⟨qc1, qp1, none⟩) 128 d1) ∧ w'.cell? ⟨qc1, qp1 + y, none⟩ = some (.int .u8 xa))) (by kernel_rfl) ⟨hc3, hd2, hc1, hd1⟩ (fun hHeld => ?_)
            refine wpAnyH_take (i := 0) (oi := { dst := some 88, op := Op.move (Operand.tmp 14), type := 67, pos := "law.go:206", after := #[], guard := none }) (v := ?_) rfl (by kernel_rfl) (by kernel_rfl) (by kernel_rfl) (fun _ _ _ h => h) (Or.inl ⟨by rfl, ?_⟩) hHeld ?_; rotate_left
            ·(intro w hSw; (try dsimp only at hSw); go_simp; try (with_reducible rfl))
            simp only [Act.put, List.setIfInBounds_toArray, List.set_cons_zero, List.set_cons_succ]
            refine wpAnyH_take (i := 1) (oi := { dst := some 89, op := Op.move (Operand.tmp 16), type := 3, pos := "law.go:206", after := #[], guard := none }) (v := ?_) rfl (by kernel_rfl) (by kernel_rfl) (by kernel_rfl) (fun _ _ _ h => h) (Or.inl ⟨by rfl, ?_⟩) hHeld ?_; rotate_left
            ·(intro w hSw; (try dsimp only at hSw); go_simp; try (with_reducible rfl))
            simp only [Act.put, List.setIfInBounds_toArray, List.set_cons_zero, List.set_cons_succ]
            refine wpAnyH_take (i := 2) (oi := { dst := some 90, op := Op.indexAddr 67 (Operand.tmp 88) (Operand.tmp 89), type := 0, pos := "law.go:206", after := #[{ on := 0, ground := Ground.data }, { on := 1, ground := Ground.data }], guard := none }) (v := ?_) rfl (by kernel_rfl) (by kernel_rfl) (by kernel_rfl) (fun _ _ _ h => h) (Or.inl ⟨by rfl, ?_⟩) hHeld ?_; rotate_left
            ·(intro w hSw; (try dsimp only at hSw); go_simp; try (with_reducible rfl))
            simp only [Act.put, List.setIfInBounds_toArray, List.set_cons_zero, List.set_cons_succ]
            refine wpAnyH_take (i := 3) (oi := { dst := some 91, op := Op.load 42 (Operand.tmp 90), type := 42, pos := "law.go:206", after := #[{ on := 2, ground := Ground.data }], guard := none }) (v := ?_) rfl (by kernel_rfl) (by kernel_rfl) (by kernel_rfl) (fun _ _ _ h => h) (Or.inl ⟨by rfl, ?_⟩) hHeld ?_; rotate_left
            ·(intro w hSw; (try dsimp only at hSw); go_simp; try (with_reducible rfl))
            simp only [Act.put, List.setIfInBounds_toArray, List.set_cons_zero, List.set_cons_succ]
            refine wpAnyH_take (i := 4) (oi := { dst := some 92, op := Op.move (Operand.tmp 17), type := 3, pos := "law.go:206", after := #[], guard := none }) (v := ?_) rfl (by kernel_rfl) (by kernel_rfl) (by kernel_rfl) (fun _ _ _ h => h) (Or.inl ⟨by rfl, ?_⟩) hHeld ?_; rotate_left
            ·(intro w hSw; (try dsimp only at hSw); go_simp; try (with_reducible rfl))
            simp only [Act.put, List.setIfInBounds_toArray, List.set_cons_zero, List.set_cons_succ]
            refine wpAnyH_take (i := 5) (oi := { dst := some 93, op := Op.indexAddr 42 (Operand.tmp 91) (Operand.tmp 92), type := 0, pos := "law.go:206", after := #[{ on := 3, ground := Ground.data }, { on := 4, ground := Ground.data }], guard := none }) (v := ?_) rfl (by kernel_rfl) (by kernel_rfl) (by kernel_rfl) (fun _ _ _ h => h) (Or.inl ⟨by rfl, ?_⟩) hHeld ?_; rotate_left
            ·(intro w hSw; (try dsimp only at hSw); go_simp; try (with_reducible rfl))
            simp only [Act.put, List.setIfInBounds_toArray, List.set_cons_zero, List.set_cons_succ]
            refine wpAnyH_take (i := 6) (oi := { dst := some 94, op := Op.load 5 (Operand.tmp 93), type := 5, pos := "law.go:206", after := #[{ on := 5, ground := Ground.data }], guard := none }) (v := ?_) rfl (by kernel_rfl) (by kernel_rfl) (by kernel_rfl) (fun _ _ _ h => h) (Or.inl ⟨by rfl, ?_⟩) hHeld ?_; rotate_left
            ·(intro w hSw; (try dsimp only at hSw); go_simp; try (with_reducible rfl))
            simp only [Act.put, List.setIfInBounds_toArray, List.set_cons_zero, List.set_cons_succ]
            refine wpAnyH_take (i := 7) (oi := { dst := some 95, op := Op.move (Operand.tmp 11), type := 67, pos := "law.go:206", after := #[], guard := none }) (v := ?_) rfl (by kernel_rfl) (by kernel_rfl) (by kernel_rfl) (fun _ _ _ h => h) (Or.inl ⟨by rfl, ?_⟩) hHeld ?_; rotate_left
            ·(intro w hSw; (try dsimp only at hSw); go_simp; try (with_reducible rfl))
            simp only [Act.put, List.setIfInBounds_toArray, List.set_cons_zero, List.set_cons_succ]
            refine wpAnyH_take (i := 8) (oi := { dst := some 96, op := Op.move (Operand.tmp 16), type := 3, pos := "law.go:206", after := #[], guard := none }) (v := ?_) rfl (by kernel_rfl) (by kernel_rfl) (by kernel_rfl) (fun _ _ _ h => h) (Or.inl ⟨by rfl, ?_⟩) hHeld ?_; rotate_left
            ·(intro w hSw; (try dsimp only at hSw); go_simp; try (with_reducible rfl))
            simp only [Act.put, List.setIfInBounds_toArray, List.set_cons_zero, List.set_cons_succ]
            refine wpAnyH_take (i := 9) (oi := { dst := some 97, op := Op.indexAddr 67 (Operand.tmp 95) (Operand.tmp 96), type := 0, pos := "law.go:206", after := #[{ on := 7, ground := Ground.data }, { on := 8, ground := Ground.data }], guard := none }) (v := ?_) rfl (by kernel_rfl) (by kernel_rfl) (by kernel_rfl) (fun _ _ _ h => h) (Or.inl ⟨by rfl, ?_⟩) hHeld ?_; rotate_left
            ·(intro w hSw; (try dsimp only at hSw); go_simp; try (with_reducible rfl))
            simp only [Act.put, List.setIfInBounds_toArray, List.set_cons_zero, List.set_cons_succ]
            refine wpAnyH_take (i := 10) (oi := { dst := some 98, op := Op.load 42 (Operand.tmp 97), type := 42, pos := "law.go:206", after := #[{ on := 9, ground := Ground.data }], guard := none }) (v := ?_) rfl (by kernel_rfl) (by kernel_rfl) (by kernel_rfl) (fun _ _ _ h => h) (Or.inl ⟨by rfl, ?_⟩) hHeld ?_; rotate_left
            ·(intro w hSw; (try dsimp only at hSw); go_simp; try (with_reducible rfl))
            simp only [Act.put, List.setIfInBounds_toArray, List.set_cons_zero, List.set_cons_succ]
            refine wpAnyH_take (i := 11) (oi := { dst := some 99, op := Op.move (Operand.tmp 17), type := 3, pos := "law.go:206", after := #[], guard := none }) (v := ?_) rfl (by kernel_rfl) (by kernel_rfl) (by kernel_rfl) (fun _ _ _ h => h) (Or.inl ⟨by rfl, ?_⟩) hHeld ?_; rotate_left
            ·(intro w hSw; (try dsimp only at hSw); go_simp; try (with_reducible rfl))
            simp only [Act.put, List.setIfInBounds_toArray, List.set_cons_zero, List.set_cons_succ]
            refine wpAnyH_take (i := 12) (oi := { dst := some 100, op := Op.indexAddr 42 (Operand.tmp 98) (Operand.tmp 99), type := 0, pos := "law.go:206", after := #[{ on := 10, ground := Ground.data }, { on := 11, ground := Ground.data }], guard := none }) (v := ?_) rfl (by kernel_rfl) (by kernel_rfl) (by kernel_rfl) (fun _ _ _ h => h) (Or.inl ⟨by rfl, ?_⟩) hHeld ?_; rotate_left
            ·(intro w hSw; (try dsimp only at hSw); go_simp; try (with_reducible rfl))
            simp only [Act.put, List.setIfInBounds_toArray, List.set_cons_zero, List.set_cons_succ]
            refine wpAnyH_take (i := 13) (oi := { dst := some 101, op := Op.load 5 (Operand.tmp 100), type := 5, pos := "law.go:206", after := #[{ on := 12, ground := Ground.data }], guard := none }) (v := ?_) rfl (by kernel_rfl) (by kernel_rfl) (by kernel_rfl) (fun _ _ _ h => h) (Or.inl ⟨by rfl, ?_⟩) hHeld ?_; rotate_left
            ·(intro w hSw; (try dsimp only at hSw); go_simp; try (with_reducible rfl))
            simp only [Act.put, List.setIfInBounds_toArray, List.set_cons_zero, List.set_cons_succ]
            refine wpAnyH_take (i := 14) (oi := { dst := some 102, op := Op.binOp BinOp.neq 5 (Operand.tmp 94) (Operand.tmp 101) 5, type := 4, pos := "law.go:206", after := #[{ on := 6, ground := Ground.data }, { on := 13, ground := Ground.data }], guard := none }) (v := ?_) rfl (by kernel_rfl) (by kernel_rfl) (by kernel_rfl) (fun _ _ _ h => h) (Or.inl ⟨by rfl, ?_⟩) hHeld ?_; rotate_left
            ·(intro w hSw; (try dsimp only at hSw); go_simp; try (with_reducible rfl))
            simp only [Act.put, List.setIfInBounds_toArray, List.set_cons_zero, List.set_cons_succ]
            refine wpAnyH_done (by kernel_rfl) ?_ _
            go_wp2_with fail
            go_roundw
            case rel => exact ⟨y + 1, by omega, by rw [HD.out, if_pos rfl];  go_num, by go_num, hbz.trans ((Below.refl _ _).drew.mono hbz.size)⟩
            case measure => simp [intOf]; omega
           ·refine wp_region_held_drew (S := (fun w' => w'.cell? ⟨gb, ob + k, none⟩ = some (.slice (some ⟨qc2, qp2, none⟩) 128 d3) ∧ w'.cell? ⟨qc2, qp2 + y, none⟩ = some (.int .u8 xa) ∧ w'.cell? ⟨ga, oa + k, none⟩ = some (.slice (some ⟨qc1, qp1, none⟩) 128 d1) ∧ w'.cell? ⟨qc1, qp1 + y, none⟩ = some (.int .u8 xb))) (by kernel_rfl) ⟨hc3, hd2, hc1, hd1⟩ (fun hHeld => ?_)
            refine wpAnyH_take (i := 0) (oi := { dst := some 88, op := Op.move (Operand.tmp 14), type := 67, pos := "law.go:206", after := #[], guard := none }) (v := ?_) rfl (by kernel_rfl) (by kernel_rfl) (by kernel_rfl) (fun _ _ _ h => h) (Or.inl ⟨by rfl, ?_⟩) hHeld ?_; rotate_left
            ·(intro w hSw; (try dsimp only at hSw); go_simp; try (with_reducible rfl))
            simp only [Act.put, List.setIfInBounds_toArray, List.set_cons_zero, List.set_cons_succ]
            refine wpAnyH_take (i := 1) (oi := { dst := some 89, op := Op.move (Operand.tmp 16), type := 3, pos := "law.go:206", after := #[], guard := none }) (v := ?_) rfl (by kernel_rfl) (by kernel_rfl) (by kernel_rfl) (fun _ _ _ h => h) (Or.inl ⟨by rfl, ?_⟩) hHeld ?_; rotate_left
            ·(intro w hSw; (try dsimp only at hSw); go_simp; try (with_reducible rfl))
            simp only [Act.put, List.setIfInBounds_toArray, List.set_cons_zero, List.set_cons_succ]
            refine wpAnyH_take (i := 2) (oi := { dst := some 90, op := Op.indexAddr 67 (Operand.tmp 88) (Operand.tmp 89), type := 0, pos := "law.go:206", after := #[{ on := 0, ground := Ground.data }, { on := 1, ground := Ground.data }], guard := none }) (v := ?_) rfl (by kernel_rfl) (by kernel_rfl) (by kernel_rfl) (fun _ _ _ h => h) (Or.inl ⟨by rfl, ?_⟩) hHeld ?_; rotate_left
            ·(intro w hSw; (try dsimp only at hSw); go_simp; try (with_reducible rfl))
            simp only [Act.put, List.setIfInBounds_toArray, List.set_cons_zero, List.set_cons_succ]
            refine wpAnyH_take (i := 3) (oi := { dst := some 91, op := Op.load 42 (Operand.tmp 90), type := 42, pos := "law.go:206", after := #[{ on := 2, ground := Ground.data }], guard := none }) (v := ?_) rfl (by kernel_rfl) (by kernel_rfl) (by kernel_rfl) (fun _ _ _ h => h) (Or.inl ⟨by rfl, ?_⟩) hHeld ?_; rotate_left
            ·(intro w hSw; (try dsimp only at hSw); go_simp; try (with_reducible rfl))
            simp only [Act.put, List.setIfInBounds_toArray, List.set_cons_zero, List.set_cons_succ]
            refine wpAnyH_take (i := 4) (oi := { dst := some 92, op := Op.move (Operand.tmp 17), type := 3, pos := "law.go:206", after := #[], guard := none }) (v := ?_) rfl (by kernel_rfl) (by kernel_rfl) (by kernel_rfl) (fun _ _ _ h => h) (Or.inl ⟨by rfl, ?_⟩) hHeld ?_; rotate_left
            ·(intro w hSw; (try dsimp only at hSw); go_simp; try (with_reducible rfl))
            simp only [Act.put, List.setIfInBounds_toArray, List.set_cons_zero, List.set_cons_succ]
            refine wpAnyH_take (i := 5) (oi := { dst := some 93, op := Op.indexAddr 42 (Operand.tmp 91) (Operand.tmp 92), type := 0, pos := "law.go:206", after := #[{ on := 3, ground := Ground.data }, { on := 4, ground := Ground.data }], guard := none }) (v := ?_) rfl (by kernel_rfl) (by kernel_rfl) (by kernel_rfl) (fun _ _ _ h => h) (Or.inl ⟨by rfl, ?_⟩) hHeld ?_; rotate_left
            ·(intro w hSw; (try dsimp only at hSw); go_simp; try (with_reducible rfl))
            simp only [Act.put, List.setIfInBounds_toArray, List.set_cons_zero, List.set_cons_succ]
            refine wpAnyH_take (i := 6) (oi := { dst := some 94, op := Op.load 5 (Operand.tmp 93), type := 5, pos := "law.go:206", after := #[{ on := 5, ground := Ground.data }], guard := none }) (v := ?_) rfl (by kernel_rfl) (by kernel_rfl) (by kernel_rfl) (fun _ _ _ h => h) (Or.inl ⟨by rfl, ?_⟩) hHeld ?_; rotate_left
            ·(intro w hSw; (try dsimp only at hSw); go_simp; try (with_reducible rfl))
            simp only [Act.put, List.setIfInBounds_toArray, List.set_cons_zero, List.set_cons_succ]
            refine wpAnyH_take (i := 7) (oi := { dst := some 95, op := Op.move (Operand.tmp 11), type := 67, pos := "law.go:206", after := #[], guard := none }) (v := ?_) rfl (by kernel_rfl) (by kernel_rfl) (by kernel_rfl) (fun _ _ _ h => h) (Or.inl ⟨by rfl, ?_⟩) hHeld ?_; rotate_left
            ·(intro w hSw; (try dsimp only at hSw); go_simp; try (with_reducible rfl))
            simp only [Act.put, List.setIfInBounds_toArray, List.set_cons_zero, List.set_cons_succ]
            refine wpAnyH_take (i := 8) (oi := { dst := some 96, op := Op.move (Operand.tmp 16), type := 3, pos := "law.go:206", after := #[], guard := none }) (v := ?_) rfl (by kernel_rfl) (by kernel_rfl) (by kernel_rfl) (fun _ _ _ h => h) (Or.inl ⟨by rfl, ?_⟩) hHeld ?_; rotate_left
            ·(intro w hSw; (try dsimp only at hSw); go_simp; try (with_reducible rfl))
            simp only [Act.put, List.setIfInBounds_toArray, List.set_cons_zero, List.set_cons_succ]
            refine wpAnyH_take (i := 9) (oi := { dst := some 97, op := Op.indexAddr 67 (Operand.tmp 95) (Operand.tmp 96), type := 0, pos := "law.go:206", after := #[{ on := 7, ground := Ground.data }, { on := 8, ground := Ground.data }], guard := none }) (v := ?_) rfl (by kernel_rfl) (by kernel_rfl) (by kernel_rfl) (fun _ _ _ h => h) (Or.inl ⟨by rfl, ?_⟩) hHeld ?_; rotate_left
            ·(intro w hSw; (try dsimp only at hSw); go_simp; try (with_reducible rfl))
            simp only [Act.put, List.setIfInBounds_toArray, List.set_cons_zero, List.set_cons_succ]
            refine wpAnyH_take (i := 10) (oi := { dst := some 98, op := Op.load 42 (Operand.tmp 97), type := 42, pos := "law.go:206", after := #[{ on := 9, ground := Ground.data }], guard := none }) (v := ?_) rfl (by kernel_rfl) (by kernel_rfl) (by kernel_rfl) (fun _ _ _ h => h) (Or.inl ⟨by rfl, ?_⟩) hHeld ?_; rotate_left
            ·(intro w hSw; (try dsimp only at hSw); go_simp; try (with_reducible rfl))
            simp only [Act.put, List.setIfInBounds_toArray, List.set_cons_zero, List.set_cons_succ]
            refine wpAnyH_take (i := 11) (oi := { dst := some 99, op := Op.move (Operand.tmp 17), type := 3, pos := "law.go:206", after := #[], guard := none }) (v := ?_) rfl (by kernel_rfl) (by kernel_rfl) (by kernel_rfl) (fun _ _ _ h => h) (Or.inl ⟨by rfl, ?_⟩) hHeld ?_; rotate_left
            ·(intro w hSw; (try dsimp only at hSw); go_simp; try (with_reducible rfl))
            simp only [Act.put, List.setIfInBounds_toArray, List.set_cons_zero, List.set_cons_succ]
            refine wpAnyH_take (i := 12) (oi := { dst := some 100, op := Op.indexAddr 42 (Operand.tmp 98) (Operand.tmp 99), type := 0, pos := "law.go:206", after := #[{ on := 10, ground := Ground.data }, { on := 11, ground := Ground.data }], guard := none }) (v := ?_) rfl (by kernel_rfl) (by kernel_rfl) (by kernel_rfl) (fun _ _ _ h => h) (Or.inl ⟨by rfl, ?_⟩) hHeld ?_; rotate_left
            ·(intro w hSw; (try dsimp only at hSw); go_simp; try (with_reducible rfl))
            simp only [Act.put, List.setIfInBounds_toArray, List.set_cons_zero, List.set_cons_succ]
            refine wpAnyH_take (i := 13) (oi := { dst := some 101, op := Op.load 5 (Operand.tmp 100), type := 5, pos := "law.go:206", after := #[{ on := 12, ground := Ground.data }], guard := none }) (v := ?_) rfl (by kernel_rfl) (by kernel_rfl) (by kernel_rfl) (fun _ _ _ h => h) (Or.inl ⟨by rfl, ?_⟩) hHeld ?_; rotate_left
            ·(intro w hSw; (try dsimp only at hSw); go_simp; try (with_reducible rfl))
            simp only [Act.put, List.setIfInBounds_toArray, List.set_cons_zero, List.set_cons_succ]
            refine wpAnyH_take (i := 14) (oi := { dst := some 102, op := Op.binOp BinOp.neq 5 (Operand.tmp 94) (Operand.tmp 101) 5, type := 4, pos := "law.go:206", after := #[{ on := 6, ground := Ground.data }, { on := 13, ground := Ground.data }], guard := none }) (v := ?_) rfl (by kernel_rfl) (by kernel_rfl) (by kernel_rfl) (fun _ _ _ h => h) (Or.inl ⟨by rfl, ?_⟩) hHeld ?_; rotate_left
            ·(intro w hSw; (try dsimp only at hSw); go_simp; try (with_reducible rfl))
            simp only [Act.put, List.setIfInBounds_toArray, List.set_cons_zero, List.set_cons_succ]
            refine wpAnyH_done (by kernel_rfl) ?_ _
            go_wp2_with fail
            go_roundw
            case rel => exact ⟨y + 1, by omega, by rw [HD.out, if_neg hxy];  go_num, by go_num, hbz.trans ((Below.refl _ _).drew.mono hbz.size)⟩
            case measure => simp [intOf]; omega
          ·obtain rfl : y = 128 := by omega
           have hyI : ¬ ((128 : Int) < 128) := by omega
           go_wp2_with fail
           go_roundw
           case rel => exact ⟨k + 1, by omega, rfl, by go_num, hbz⟩
           case measure => simp [intOf]; omega
        ·obtain rfl : k = g * b := by omega
         have hkI : ¬ (((g * b : Nat) : Int) < ((g * b : Nat) : Int)) := by omega
         have hR7 := (H6.out.2.2.2.1.kept hby).cells
         obtain ⟨r0, r1, r2, r3⟩ := hR7
         go_wp2_with fail
         have hf0b : 2 + i / 4 ≤ b := by omega
         go_loopw [18, 19] (fun v18 v19 wz => ∃ k : Nat, 2 + i / 4 + k ≤ b ∧ v18 = .bool (Mk.Al.lo (Mk.Al.rowOf false (H n)) (2 + i / 4) k).isNone ∧ v19 = .int .i64 ((2 + i / 4 + k : Nat) : Int) ∧ Below w6.heap.size w6 wz) (fun _ v19 _ => b - (intOf v19).toNat)
         case atStart => exact ⟨0, by omega, rfl, by go_num, hby⟩
         case round =>
          obtain ⟨k, hkb, rfl, rfl, hbz⟩ := hrel
          obtain ⟨f, hf⟩ : ∃ f, 2 + i / 4 + k = f := ⟨_, rfl⟩
          rw [hf] at hkb ⊢
          obtain ⟨t0, t1, t2, t3⟩ := (H6.out.2.2.2.1.kept hbz).cells
          by_cases hltf : f < b
          ·have hfI : (f : Int) < (b : Int) := by omega
           have hb7 := (hbz.block _ (Array.getElem?_eq_some_iff.1 H6.out.2.2.1).1).trans H6.out.2.2.1
           have hq8 : (f : Int).tdiv 8 = ((f / 8 : Nat) : Int) := by rw [Int.tdiv_eq_ediv_of_nonneg (by omega)]; omega
           have hr8 : (f : Int).tmod 8 = ((f % 8 : Nat) : Int) := by rw [Int.tmod_eq_emod_of_nonneg (by omega)]; omega
           have hf8 : f / 8 < 32 := by omega
           have hbt := on_shift (hH1.len n hnG) (hH1.byt n hnG) hf8
           have hst1 := lo_none_step (Mk.Al.rowOf false (H n)) (2 + i / 4) k
           rw [hf] at hst1
           have hcb : wr.cell? ⟨hb, 9 + f / 8, none⟩ = some (.int .u8 ((H n).getD (8 + f / 8) 0)) := by
            have h1 := Mk.groupA_succ (n : Int) (H n) (8 + f / 8) (by rw [hH1.len n hnG]; omega)
            rw [show 8 + f / 8 + 1 = 9 + f / 8 by omega] at h1
            exact (cell_of_row _ _ (9 + f / 8) _ _ _ hb7).trans h1
           obtain ⟨xx, hxx⟩ : ∃ xx, (H n).getD (8 + f / 8) 0 = xx := ⟨_, rfl⟩
           rw [hxx] at hbt hcb
           clear hxx hb7
           have HS : Hid ((Mk.Al.lo (Mk.Al.rowOf false (H n)) (2 + i / 4) (k + 1)).isNone = ((Mk.Al.lo (Mk.Al.rowOf false (H n)) (2 + i / 4) k).isNone && Mk.Bit.on (Mk.Al.rowOf false (H n)) f)) := hst1
           clear hst1
           cases ho2 : Mk.Bit.on (Mk.Al.rowOf false (H n)) f with
           | true =>
            rw [ho2] at hbt
            go_wp2_with fail
            go_roundw
            case rel => exact ⟨k + 1, by omega, by rw [HS.out, ho2, Bool.and_true], by rw [← hf]; go_num, hbz⟩
            case measure => simp [intOf]; omega
           | false =>
            rw [ho2] at hbt
            go_wp2_with fail
            go_roundw
            case rel => exact ⟨k + 1, by omega, by rw [HS.out, ho2, Bool.and_false], by rw [← hf]; go_num, hbz⟩
            case measure => simp [intOf]; omega
          ·have hfI : ¬ ((f : Int) < (b : Int)) := by omega
           have hkk : k = b - (2 + i / 4) := by omega
           have hfirst := nst_first hnG ho
           have hfe : frs H false b i n = Mk.Al.lo (Mk.Al.rowOf false (H n)) (2 + i / 4) (b - (2 + i / 4)) := rfl
           rw [hfe, ← hkk] at hfirst
           rw [H6.out.2.2.2.2.2.2]
           have hi'b : i' < b := (frs_some hg.may (nst_some hgN ho).2).2.1
           have hn'g : n' < g := (nst_some hgN ho).1
           have hdv0 : ((n' : Int) * (b : Int) + (i' : Int)).tdiv (b : Int) = (n' : Int) := by
            rw [Int.tdiv_eq_ediv_of_nonneg (by exact_mod_cast Nat.zero_le (n' * b + i'))]
            have h9 : (n' * b + i') / b = n' := by rw [Nat.add_comm, Nat.add_mul_div_right _ _ (by omega), Nat.div_eq_of_lt hi'b]; omega
            exact_mod_cast h9
           have hdv : wrap64 (((n' : Int) * (b : Int) + (i' : Int)).tdiv (b : Int)) = (n' : Int) := by
            rw [hdv0]
            exact IntWalk.wrap64_in _ ⟨by omega, by omega⟩
           clear hdv0
           have HE : Hid (Below w6.heap.size w6 wr) := hbz
           by_cases hnn : n' = n
           ·have hno : (Mk.Al.lo (Mk.Al.rowOf false (H n)) (2 + i / 4) k).isNone = false := by
             rw [decide_eq_true hnn] at hfirst
             cases hq : Mk.Al.lo (Mk.Al.rowOf false (H n)) (2 + i / 4) k with
             | none => rw [hq] at hfirst; cases hfirst
             | some _ => rfl
            rw [hno]
            subst hnn
            have hnI : ((n' : Int) == (n' : Int)) = true := by simp
            clear hno hfirst hfe
            go_wp2_with fail
            go_roundw
            case rel => exact ⟨j + 1, updH H n' (putY false (H n') i' true), F5, J, c4 + g * b, by omega, by go_num, by omega, by omega, H6.out.2.2.2.2.1.later HE.out, by rw [← hJ]; exact hds_put hH1 (by omega) n' (Mk.Al.putY_len false (hH1.len n' hn'g) i' true) (Mk.Al.putY_byt false (hH1.byt n' hn'g) i' true), stp_grown H6.out.2.2.2.2.2.1 HE.out⟩
            case measure => simp [intOf]; omega
           ·have hno : (Mk.Al.lo (Mk.Al.rowOf false (H n)) (2 + i / 4) k).isNone = true := by
             rw [decide_eq_false hnn] at hfirst
             cases hq : Mk.Al.lo (Mk.Al.rowOf false (H n)) (2 + i / 4) k with
             | none => rfl
             | some _ => rw [hq] at hfirst; cases hfirst
            rw [hno]
            have hnI : ((n' : Int) == (n : Int)) = false := by
             rw [beq_eq_false_iff_ne]
             exact fun e => hnn (by exact_mod_cast e)
            clear hno hfirst hfe
            go_wp2_with fail
            go_roundw
            case rel => exact ⟨j + 1, updH H n' (putY false (H n') i' true), F5, J, c4 + g * b, by omega, by go_num, by omega, by omega, H6.out.2.2.2.2.1.later HE.out, by rw [← hJ]; exact hds_put hH1 (by omega) n' (Mk.Al.putY_len false (hH1.len n' hn'g) i' true) (Mk.Al.putY_byt false (hH1.byt n' hn'g) i' true), stp_grown H6.out.2.2.2.2.2.1 HE.out⟩
            case measure => simp [intOf]; omega
      ·go_wp2_with fail
       go_ret
       exact ⟨rfl, hbA⟩
  ·have hjI : ¬ ((j : Int) < (m : Int)) := by omega
   go_wp2_with fail
   go_ret
   exact ⟨rfl, HC.out.2.1.trans (hst.fr.below (by have := HC.out.2.1.size; omega) (fun k hk => by have := HC.out.2.2.2.2 k hk; omega))⟩
end Go.Proofs.YthdlpeejmmobmaaGreat
