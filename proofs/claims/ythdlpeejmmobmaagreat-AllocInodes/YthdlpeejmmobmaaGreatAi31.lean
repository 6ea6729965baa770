/- C9 -/
import Derived.Test.YthdlpeejmmobmaaGreatAi28
import Derived.Test.YthdlpeejmmobmaaGreatAi30

namespace Go.Proofs.YthdlpeejmmobmaaGreat
open Go.RowKit Go.Maps
open Mk.Al (putY)
set_option linter.unusedVariables false
set_option maxRecDepth 100000

theorem wpList_ins_nset (w : World) {ops : Array Oper} {rest : List Oper} {o : Oper} {a : Act} {Q : Exit → Act → World → Prop}
    (hg : o.guard = none) (m x v : Operand) (hop : o.op = Op.insert 48 m x v) {mb n : Nat} {S : Nat → Bool} (h : NSet w mb n S) (hn : n < 100000) (b : Nat) (hb : b < 9223372036854775808)
    (hm : a.eval m = .map (some mb)) (hx : a.eval x = .int .i64 (b : Int)) (hv : a.eval v = .bool true)
    (hK : ∀ w', NSet w' mb (if S b then n else n + 1) (upd S b true) → w.grownBy w' (some mb) → wpList Tryz.prog ops Q rest (a.put o.dst undef) w') :
    wpList Tryz.prog ops Q (o :: rest) a w := by
  refine wpList_plain hg fun K' hK' => ?_
  obtain ⟨w', hrun, r1, r2⟩ := h.add hn b hb
  unfold Oper.wp
  simp [execOp, hop, hm, hx, hv, hrun, Result.andThen]
  exact hK' _ _ (hK w' r1 r2)
theorem below_grown {B b : Nat} {w w' : World} (h : w.grownBy w' (some b)) (hb : b < w.heap.size) (hB : B ≤ b) : Below B w w' :=
  ⟨h.os, h.tape, h.output, h.size, fun k hk => h.block k (by omega) (fun e => by cases e; omega)⟩

theorem gi_bd {g i T : Nat} (hT : g * i = T) (h1 : 1 ≤ g) (h2 : g ≤ 8) (h3 : 4 ≤ i) (h4 : i ≤ 64) : 4 ≤ T ∧ T ≤ 512 := by
  have a := Nat.mul_le_mul h1 h3
  have b := Nat.mul_le_mul h2 h4
  omega
theorem gi_wrap {g i T : Nat} (hT : g * i = T) (h : T ≤ 512) : wrap64 ((g : Int) * (i : Int)) = (T : Int) := by
  have e : (g : Int) * (i : Int) = (T : Int) := by rw [← hT]; push_cast; rfl
  rw [e]
  exact IntWalk.wrap64_in _ ⟨by omega, by omega⟩
theorem gi_tot {g i T b : Nat} (hT : g * i = T) (h1 : 1 ≤ g) (h3 : 4 ≤ i) (h4 : i ≤ 64) : tot (Mk.hdY i) true b i g + 3 + 0 = T := by
  obtain ⟨g', rfl⟩ : ∃ g', g = g' + 1 := ⟨g - 1, by omega⟩
  have a := Nat.mul_le_mul h1 h3
  rw [tot_new h3 h4, Nat.mul_comm, hT]
  omega

/-- An inode asked for. -/
def Ino4 (w4 w5 : World) (v : Nat) (F3 : Nat → Prop) (N : Nat) (I1 : Nat → List Int) (H : Nat → List Int) (l c g b i n : Nat) (dir : Bool) (v13 v10 : Value) : Prop :=
  ∃ F4 c4, c4 ≤ c + 8 ∧ Pt.Stp F3 F4 w4 w5 ∧ ((∃ n' i', ido H dir g b i n = some (n', i') ∧ v13 = .int .i64 ((n' * i + i' : Nat) : Int) ∧ v10 = .int .i64 0 ∧ Vol w5 v F4 N (putH I1 b n' (putY true (H n') i' true)) (l + 1) c4) ∨
    (ido H dir g b i n = none ∧ v13 = .int .i64 0 ∧ v10 = .int .i64 5 ∧ Vol w5 v F4 N I1 l c4))
theorem Ino4.stp {w4 w5 : World} {v : Nat} {F3 : Nat → Prop} {N : Nat} {I1 : Nat → List Int} {H : Nat → List Int} {l c g b i n : Nat} {dir : Bool} {v13 v10 : Value} (h : Ino4 w4 w5 v F3 N I1 H l c g b i n dir v13 v10) : Pt.Frame F3 w4 w5 := by
  obtain ⟨_, _, _, h, _⟩ := h
  exact h.fr
theorem Ino4.undrew {w4 w5 : World} {v : Nat} {F3 : Nat → Prop} {N : Nat} {I1 : Nat → List Int} {H : Nat → List Int} {l c g b i n : Nat} {dir : Bool} {v13 v10 : Value} (h : Ino4 w4.drew w5 v F3 N I1 H l c g b i n dir v13 v10) : Ino4 w4 w5 v F3 N I1 H l c g b i n dir v13 v10 := by
  obtain ⟨F4, c4, hc, hst, hr⟩ := h
  exact ⟨F4, c4, hc, stp_after (Below.refl _ _).drew hst, hr⟩
theorem ino_of {w4 w5 : World} {v : Nat} {F3 : Nat → Prop} {N : Nat} {I1 : Nat → List Int} {H : Nat → List Int} {l c g b i n : Nat} {dir : Bool} {e : Ending}
    (h : (∀ n' i', ido H dir g b i n = some (n', i') → e = .returned (.tuple #[.int .i64 ((n' * i + i' : Nat) : Int), .int .i64 ((l + 1 : Nat) : Int), .int .i64 0]) ∧ ∃ F' c', c' ≤ c + 8 ∧ Vol w5 v F' N (putH I1 b n' (putY true (H n') i' true)) (l + 1) c' ∧ Pt.Stp F3 F' w4 w5) ∧
      (ido H dir g b i n = none → e = .returned (.tuple #[.int .i64 0, .int .i64 0, .int .i64 5]) ∧ ∃ F' c', c' ≤ c + 8 ∧ Vol w5 v F' N I1 l c' ∧ Pt.Stp F3 F' w4 w5)) :
    ∃ a1 a2 a3, e = .returned (.tuple #[a1, a2, a3]) ∧ Ino4 w4 w5 v F3 N I1 H l c g b i n dir a1 a3 := by
  cases ho : ido H dir g b i n with
  | none =>
    obtain ⟨rfl, F', c', hc, hv, hs⟩ := h.2 ho
    exact ⟨_, _, _, rfl, F', c', hc, hs, .inr ⟨ho, rfl, rfl, hv⟩⟩
  | some x =>
    obtain ⟨n', i'⟩ := x
    obtain ⟨rfl, F', c', hc, hv, hs⟩ := h.1 n' i' ho
    exact ⟨_, _, _, rfl, F', c', hc, hs, .inl ⟨n', i', ho, rfl, rfl, hv⟩⟩

set_option maxHeartbeats 4000000 in
theorem allocInodes_walk (G B Q near : Int) (dir : Bool) (w : World) : Calls Tryz.prog 5 #[Mk.geomV G B Q, .int .i64 near, .bool dir] w fun e w' => e = .returned (.bool true) ∧ Below w.heap.size w w' := by
  obtain ⟨W, hW⟩ : ∃ W, w.alloc (Mk.geomO G B Q) = W := ⟨_, rfl⟩
  have hb : Below w.heap.size w W := by rw [← hW]; exact Mk.grew_alloc _ _
  have hx : W.heap[w.heap.size]? = some (Mk.geomO G B Q) := by rw [← hW]; exact at_new rfl
  have hsz : W.heap.size = w.heap.size + 1 := by rw [← hW]; simp
  have c0 := (g3_of hx).c0
  have c1 := (g3_of hx).c1
  have c2 := (g3_of hx).c2
  have hfr := fun w => fresh_ok G B Q w
  go_enter Tryz.func5, Tryz.ntmps5
  go_wp2_with fail
  refine Calls.mono (hfr _) ?_
  rintro e w1 ⟨g, b, i, hm, hfp⟩
  obtain ⟨p, v, F, pd, px, py, rfl, hpr, hv, hF, hplo, hb1⟩ := fr_vol hfp
  have hg := geo_of hm
  have hH := hds_new hm
  have hfit := hg.fit
  have hx1 := (hb1.block _ (Array.getElem?_eq_some_iff.1 hx).1).trans hx
  obtain ⟨W2, hW2⟩ : ∃ W2, w1.setRow w.heap.size #[.int .i64 (g : Int), .int .i64 (b : Int), .int .i64 (i : Int)] = W2 := ⟨_, rfl⟩
  have hx2 : W2.heap[w.heap.size]? = some (Mk.geomO g b i) := by rw [← hW2]; exact setRow_heap _ _ _ _ _ _ hx1
  have hs1 := hb1.size
  have hb2 : Below w.heap.size w W2 := by rw [← hW2]; exact below_setRow (hb.trans (hb1.mono (by omega))) (Nat.le_refl _) _
  have ho2 : ∀ k, W.heap.size ≤ k → W2.heap[k]? = w1.heap[k]? := fun k hk => by rw [← hW2]; exact setRow_other _ _ _ _ (by omega)
  have hsz2 : W2.heap.size = w1.heap.size := by rw [← hW2]; simp [World.setRow]
  have hv2 : Vol W2 v F (g * b) (nimg g b i) 0 0 := hv.else (by omega) fun k hk => ho2 k (hF k hk).1
  have hp2 := (ho2 p hplo).trans hpr
  have c0 := (g3_of hx2).c0
  have c1 := (g3_of hx2).c1
  have c2 := (g3_of hx2).c2
  have HC : Hid (Below w.heap.size w W2 ∧ W2.heap[p]? = some (.cells #[pd, .pointer (some ⟨v, 0, none⟩), px, py] 33 (0, 0)) ∧ w.heap.size + 1 ≤ p ∧ (∀ k, F k → w.heap.size + 1 ≤ k ∧ k ≠ p)) := ⟨hb2, hp2, by omega, fun k hk => ⟨by have := (hF k hk).1; omega, (hF k hk).2⟩⟩
  have HV : Hid (Vol W2 v F (g * b) (nimg g b i) 0 0) := hv2
  have h1c : (#[.int .i64 (g : Int), .int .i64 (b : Int), .int .i64 (i : Int)] : Array Value).all (·.oneCell') = true := by simp [Value.oneCell']
  have hgn : ¬ ((g : Int) = 0) := by omega
  have hmm := @run_makeMap Tryz.prog
  obtain ⟨n, hnn, hnG, hwn⟩ := near_mod near (show 0 < g by omega) (show g ≤ 8 by omega)
  have HN : Hid ((IntKind.u64.wrap near).tmod (g : Int) = (n : Int) ∧ wrap64 (n : Int) = (n : Int)) := ⟨hnn, hwn⟩
  clear hnn hwn
  have hm0 : NSet (W2.alloc (.map #[] 0)) w1.heap.size 0 (fun _ => false) := by rw [← hsz2]; exact nset_made W2
  clear hfp hv hF hb1 hpr hb hfr hW hs1 hb2 ho2 hv2 hp2
  dsimp only
  go_upto_region 5 with (first | (refine wpList_store_row rfl 23 _ _ rfl w.heap.size #[.int .i64 (g : Int), .int .i64 (b : Int), .int .i64 (i : Int)] rfl rfl 23 _ hx1 Mk.info23 rfl h1c ?_; rw [hW2]))
  rw [HN.out.1, HN.out.2]
  clear hgn
  go_wp2_with (first
    | (refine wpList_ins_nset _ rfl _ _ _ rfl hm0 (by decide) 0 (by decide) rfl rfl rfl ?_; intro w3 hm1 hg1; replace hm1 : NSet w3 w1.heap.size 1 _ := hm1; clear hm0)
    | (refine wpList_ins_nset _ rfl _ _ _ rfl hm1 (by decide) 1 (by decide) rfl rfl rfl ?_; intro w4 hm2 hg2; replace hm2 : NSet w4 w1.heap.size 2 _ := hm2; clear hm1)
    | (refine wpList_ins_nset _ rfl _ _ _ rfl hm2 (by decide) 2 (by decide) rfl rfl rfl ?_; intro w5 hm3 hg3; replace hm3 : NSet w5 w1.heap.size 3 _ := hm3; clear hm2; have hbm := ((Mk.grew_alloc W2 (.map #[] 0)).trans (below_grown hg1 (by simp; omega) (by omega))).trans ((below_grown hg2 (by have := hg1.size; simp at this; omega) (by omega)).trans (below_grown hg3 (by have := hg1.size; have := hg2.size; simp at *; omega) (by omega))); have hx5 := (hbm.block _ (Array.getElem?_eq_some_iff.1 hx2).1).trans hx2; have c0 := (g3_of hx5).c0; have c1 := (g3_of hx5).c1; have c2 := (g3_of hx5).c2; clear hg1 hg2 hg3))
  obtain ⟨T, hT⟩ : ∃ T, g * i = T := ⟨_, rfl⟩
  have hTb : 4 ≤ T ∧ T ≤ 512 := gi_bd hT hfit.1.1 hfit.1.2 hfit.2.2.1.1 hfit.2.2.1.2
  have hwT := gi_wrap hT hTb.2
  rw [hwT]
  have htn := gi_tot (b := b) hT hfit.1.1 hfit.2.2.1.1 hfit.2.2.1.2
  have hgv0 := gvn_new (G := g) (Q := i) hfit.1.1 hfit.2.2.1.1
  have hmbW : w1.heap.size = W2.heap.size := hsz2.symm
  obtain ⟨mb, hmb⟩ : ∃ mb, w1.heap.size = mb := ⟨_, rfl⟩
  rw [hmb] at hm3 hmbW ⊢
  have HT : Hid (g * i = T ∧ wrap64 ((g : Int) * (i : Int)) = (T : Int)) := ⟨hT, hwT⟩
  have hv5 := HV.out.later hbm
  have HW : Hid (mb = W2.heap.size) := hmbW
  have hnF0 : ¬ F mb := fun hf => by have := HV.out.lt _ hf; omega
  have hI0 : ∃ (t : Nat) (H : Nat → List Int) (F1 : Nat → Prop) (I1 : Nat → List Int) (ca : Nat) (S : Nat → Bool), (.int .i64 0 : Value) = .int .i64 (t : Int) ∧ tot H true b i g + 3 + t = T ∧ ca ≤ 32 * t ∧ Vol w5 v F1 (g * b) I1 t ca ∧ Hds I1 g b H ∧ Pt.Stp F F1 W2 w5 ∧ ¬ F1 mb ∧ mb < w5.heap.size ∧ NSet w5 mb (3 + t) S ∧ Gvn H g i S := ⟨0, _, F, _, 0, _, rfl, htn, by omega, hv5, hH, Pt.stp_below hbm, hnF0, hm3.lt, hm3, hgv0⟩
  clear hT hwT htn hgv0 hv5 hm3 hnF0 hsz2 hW2 hmm hsz hmb hmbW
  go_loopw [37] (fun v37 wr => ∃ (t : Nat) (H : Nat → List Int) (F1 : Nat → Prop) (I1 : Nat → List Int) (ca : Nat) (S : Nat → Bool), v37 = .int .i64 (t : Int) ∧ tot H true b i g + 3 + t = T ∧ ca ≤ 32 * t ∧ Vol wr v F1 (g * b) I1 t ca ∧ Hds I1 g b H ∧ Pt.Stp F F1 W2 wr ∧ ¬ F1 mb ∧ mb < wr.heap.size ∧ NSet wr mb (3 + t) S ∧ Gvn H g i S) (fun v37 _ => T - (intOf v37).toNat)
  case atStart => exact hI0
  case round =>
    clear hI0
    obtain ⟨t, H, F1, I1, ca, S, rfl, htot, hca, hv, hH1, hst, hnmb, hmbr, hms, hgvn⟩ := hrel
    have hgN : 0 < g := by omega
    have htT : (t : Int) < (T : Int) := by omega
    have hoff : ∀ k, k < W2.heap.size → (k = w.heap.size ∨ k = p ∨ k < w.heap.size) → wr.heap[k]? = W2.heap[k]? := fun k hk h9 => hst.fr.block k hk (fun hF => by have := HC.out.2.2.2 k hF; omega)
    have hx3 : wr.heap[w.heap.size]? = some (Mk.geomO g b i) := (hoff _ (Array.getElem?_eq_some_iff.1 hx2).1 (.inl rfl)).trans hx2
    have hp3 := (hoff p (Array.getElem?_eq_some_iff.1 HC.out.2.1).1 (.inr (.inl rfl))).trans HC.out.2.1
    have hR : R4 wr w.heap.size p v g b i pd px py := ⟨hx3, hp3⟩
    have hnF : ¬ F1 w.heap.size ∧ ¬ F1 p := ⟨fun hF => by rcases hst.new _ hF with h9 | h9; (have := HC.out.2.2.2 _ h9; omega); (have := (Array.getElem?_eq_some_iff.1 hx2).1; omega), fun hF => by rcases hst.new _ hF with h9 | h9; (have := HC.out.2.2.2 _ h9; omega); (have := (Array.getElem?_eq_some_iff.1 HC.out.2.1).1; omega)⟩
    have c0' := (g3_of hx3).c0
    have c1' := (g3_of hx3).c1
    have c2' := (g3_of hx3).c2
    go_upto_region 8 with fail
    have hrm := fun (w4 : World) (hb4 : Below wr.heap.size wr w4) => room_ok (hv.later hb4) hg hH1 (by omega)
    go_cut [10, 11, 12] (fun v10 v11 v12 wx => v11 = .int .i64 ((tot H true b i g : Nat) : Int) ∧ v12 = .int .i64 0 ∧ ∃ F2 c2, c2 ≤ ca + 8 ∧ Vol wx v F2 (g * b) I1 t c2 ∧ Pt.Stp F1 F2 wr wx)
    case first =>
      refine wp_region_held_drew (S := (fun w' => w'.cell? ⟨w.heap.size, 0, none⟩ = some (.int .i64 (g : Int)) ∧ w'.cell? ⟨w.heap.size, 1, none⟩ = some (.int .i64 (b : Int)) ∧ w'.cell? ⟨w.heap.size, 2, none⟩ = some (.int .i64 (i : Int)) ∧ w'.cell? ⟨p, 1, none⟩ = some (.pointer (some ⟨v, 0, none⟩)))) (by kernel_rfl) hR.cells (fun hHeld => ?_)
      refine wpAnyH_take (i := 0) (oi := { dst := some 40, op := Op.move (Operand.tmp 7), type := 24, pos := "law.go:141", after := #[], guard := none }) (v := ?_) rfl (by kernel_rfl) (by kernel_rfl) (by kernel_rfl) (fun _ _ _ h => h) (Or.inl ⟨by rfl, ?_⟩) hHeld ?_
      rotate_left
      · (intro w hSw; (try dsimp only at hSw); go_simp; try (with_reducible rfl))
      simp only [Act.put, List.setIfInBounds_toArray, List.set_cons_zero, List.set_cons_succ]
      refine wpAnyH_take (i := 1) (oi := { dst := some 41, op := Op.nilCheck (Operand.tmp 40), type := 0, pos := "law.go:141", after := #[{ on := 0, ground := Ground.data }], guard := none }) (v := ?_) rfl (by kernel_rfl) (by kernel_rfl) (by kernel_rfl) (fun _ _ _ h => h) (Or.inl ⟨by rfl, ?_⟩) hHeld ?_
      rotate_left
      · (intro w hSw; (try dsimp only at hSw); go_simp; try (with_reducible rfl))
      simp only [Act.put, List.setIfInBounds_toArray, List.set_cons_zero, List.set_cons_succ]
      refine wpAnyH_take (i := 2) (oi := { dst := some 42, op := Op.fieldAddr 33 (Operand.tmp 41) 1, type := 0, pos := "law.go:141", after := #[{ on := 1, ground := Ground.data }], guard := none }) (v := ?_) rfl (by kernel_rfl) (by kernel_rfl) (by kernel_rfl) (fun _ _ _ h => h) (Or.inl ⟨by rfl, ?_⟩) hHeld ?_
      rotate_left
      · (intro w hSw; (try dsimp only at hSw); go_simp; try (with_reducible rfl))
      simp only [Act.put, List.setIfInBounds_toArray, List.set_cons_zero, List.set_cons_succ]
      refine wpAnyH_take (i := 3) (oi := { dst := some 43, op := Op.load 29 (Operand.tmp 42), type := 29, pos := "law.go:141", after := #[{ on := 2, ground := Ground.data }], guard := none }) (v := ?_) rfl (by kernel_rfl) (by kernel_rfl) (by kernel_rfl) (fun _ _ _ h => h) (Or.inl ⟨by rfl, ?_⟩) hHeld ?_
      rotate_left
      · (intro w hSw; (try dsimp only at hSw); go_simp; try (with_reducible rfl))
      simp only [Act.put, List.setIfInBounds_toArray, List.set_cons_zero, List.set_cons_succ]
      refine wpAnyH_take (i := 4) (oi := { dst := some 44, op := Op.load 23 (Operand.tmp 3), type := 23, pos := "law.go:141", after := #[], guard := none }) (v := ?_) rfl (by kernel_rfl) (by kernel_rfl) (by kernel_rfl) (fun _ _ _ h => h) (Or.inl ⟨by rfl, ?_⟩) hHeld ?_
      rotate_left
      · (intro w hSw; (try dsimp only at hSw); go_simp; try (with_reducible rfl))
      simp only [Act.put, List.setIfInBounds_toArray, List.set_cons_zero, List.set_cons_succ]
      refine wpAnyH_ready (rs := [5]) (by kernel_rfl) (by simp) ?_
      refine AllReadyH.cons (o := { dst := some 45, op := Op.call { callee := Callee.value (Operand.func 21), args := #[Operand.tmp 43, Operand.tmp 44], argTypes := #[29, 23] }, type := 52, pos := "law.go:141", after := #[{ on := 3, ground := Ground.data }, { on := 4, ground := Ground.data }], guard := none }) rfl (fun K hK => ?_) AllReadyH.nil
      rw [if_pos (by rfl)]
      go_simp
      refine Calls.mono (hrm _ (Below.refl _ _).drew) ?_
      rintro e w5 ⟨rfl, F2, c2, hc2, hv5, hst5⟩
      dsimp only
      have hR5 : R4 w5 w.heap.size p v g b i pd px py := hR.keptIf (hst5.fr.block _ hR.lt.1 hnF.1) (hst5.fr.block _ hR.lt.2 hnF.2)
      refine hK.out _ _ hR5.cells (fun hHeld => ?_)
      clear hK K
      try simp only [Act.put, List.setIfInBounds_toArray, List.set_cons_zero, List.set_cons_succ]
      refine wpAnyH_take (i := 6) (oi := { dst := some 39, op := Op.move (Operand.tmp 45), type := 52, pos := "law.go:141", after := #[{ on := 5, ground := Ground.data }], guard := none }) (v := ?_) rfl (by kernel_rfl) (by kernel_rfl) (by kernel_rfl) (fun _ _ _ h => h) (Or.inl ⟨by rfl, ?_⟩) hHeld ?_
      rotate_left
      · (intro w hSw; (try dsimp only at hSw); go_simp; try (with_reducible rfl))
      simp only [Act.put, List.setIfInBounds_toArray, List.set_cons_zero, List.set_cons_succ]
      refine wpAnyH_take (i := 7) (oi := { dst := some 46, op := Op.extract (Operand.tmp 39) 0, type := 3, pos := "law.go:141", after := #[{ on := 6, ground := Ground.data }], guard := none }) (v := ?_) rfl (by kernel_rfl) (by kernel_rfl) (by kernel_rfl) (fun _ _ _ h => h) (Or.inl ⟨by rfl, ?_⟩) hHeld ?_
      rotate_left
      · (intro w hSw; (try dsimp only at hSw); go_simp; try (with_reducible rfl))
      simp only [Act.put, List.setIfInBounds_toArray, List.set_cons_zero, List.set_cons_succ]
      refine wpAnyH_take (i := 8) (oi := { dst := some 47, op := Op.extract (Operand.tmp 39) 1, type := 3, pos := "law.go:141", after := #[{ on := 6, ground := Ground.data }, { on := 10, ground := Ground.gcOnly Departure.lateStores }], guard := none }) (v := ?_) rfl (by kernel_rfl) (by kernel_rfl) (by kernel_rfl) (fun _ _ _ h => h) (Or.inl ⟨by rfl, ?_⟩) hHeld ?_
      rotate_left
      · (intro w hSw; (try dsimp only at hSw); go_simp; try (with_reducible rfl))
      simp only [Act.put, List.setIfInBounds_toArray, List.set_cons_zero, List.set_cons_succ]
      refine wpAnyH_take (i := 9) (oi := { dst := some 48, op := Op.extract (Operand.tmp 39) 2, type := 36, pos := "law.go:141", after := #[{ on := 6, ground := Ground.data }, { on := 11, ground := Ground.gcOnly Departure.lateStores }], guard := none }) (v := ?_) rfl (by kernel_rfl) (by kernel_rfl) (by kernel_rfl) (fun _ _ _ h => h) (Or.inl ⟨by rfl, ?_⟩) hHeld ?_
      rotate_left
      · (intro w hSw; (try dsimp only at hSw); go_simp; try (with_reducible rfl))
      simp only [Act.put, List.setIfInBounds_toArray, List.set_cons_zero, List.set_cons_succ]
      refine wpAnyH_take (i := 10) (oi := { dst := some 10, op := Op.assign (Operand.tmp 46), type := 3, pos := "law.go:141", after := #[{ on := 7, ground := Ground.data }, { on := 5, ground := Ground.chain }, { on := 0, ground := Ground.phase }, { on := 1, ground := Ground.phase }, { on := 2, ground := Ground.phase }, { on := 3, ground := Ground.phase }, { on := 4, ground := Ground.phase }, { on := 5, ground := Ground.phase }, { on := 6, ground := Ground.phase }, { on := 7, ground := Ground.phase }, { on := 8, ground := Ground.textOnly Departure.lateStores }, { on := 9, ground := Ground.textOnly Departure.lateStores }], guard := none }) (v := ?_) rfl (by kernel_rfl) (by kernel_rfl) (by kernel_rfl) (fun _ _ _ h => h) (Or.inl ⟨by rfl, ?_⟩) hHeld ?_
      rotate_left
      · (intro w hSw; (try dsimp only at hSw); go_simp; try (with_reducible rfl))
      simp only [Act.put, List.setIfInBounds_toArray, List.set_cons_zero, List.set_cons_succ]
      refine wpAnyH_take (i := 11) (oi := { dst := some 11, op := Op.assign (Operand.tmp 47), type := 3, pos := "law.go:141", after := #[{ on := 8, ground := Ground.data }, { on := 10, ground := Ground.chain }, { on := 0, ground := Ground.phase }, { on := 1, ground := Ground.phase }, { on := 2, ground := Ground.phase }, { on := 3, ground := Ground.phase }, { on := 4, ground := Ground.phase }, { on := 5, ground := Ground.phase }, { on := 6, ground := Ground.phase }, { on := 7, ground := Ground.phase }, { on := 8, ground := Ground.phase }, { on := 9, ground := Ground.textOnly Departure.lateStores }, { on := 10, ground := Ground.phase }], guard := none }) (v := ?_) rfl (by kernel_rfl) (by kernel_rfl) (by kernel_rfl) (fun _ _ _ h => h) (Or.inl ⟨by rfl, ?_⟩) hHeld ?_
      rotate_left
      · (intro w hSw; (try dsimp only at hSw); go_simp; try (with_reducible rfl))
      simp only [Act.put, List.setIfInBounds_toArray, List.set_cons_zero, List.set_cons_succ]
      refine wpAnyH_take (i := 12) (oi := { dst := some 12, op := Op.assign (Operand.tmp 48), type := 36, pos := "law.go:141", after := #[{ on := 9, ground := Ground.data }, { on := 11, ground := Ground.chain }, { on := 0, ground := Ground.phase }, { on := 1, ground := Ground.phase }, { on := 2, ground := Ground.phase }, { on := 3, ground := Ground.phase }, { on := 4, ground := Ground.phase }, { on := 5, ground := Ground.phase }, { on := 6, ground := Ground.phase }, { on := 7, ground := Ground.phase }, { on := 8, ground := Ground.phase }, { on := 9, ground := Ground.phase }, { on := 10, ground := Ground.phase }, { on := 11, ground := Ground.phase }], guard := none }) (v := ?_) rfl (by kernel_rfl) (by kernel_rfl) (by kernel_rfl) (fun _ _ _ h => h) (Or.inl ⟨by rfl, ?_⟩) hHeld ?_
      rotate_left
      · (intro w hSw; (try dsimp only at hSw); go_simp; try (with_reducible rfl))
      simp only [Act.put, List.setIfInBounds_toArray, List.set_cons_zero, List.set_cons_succ]
      refine wpAnyH_done (by kernel_rfl) ?_ _
      go_wp2_with fail
      go_meet
      exact ⟨rfl, rfl, F2, c2, hc2, hv5, stp_after (Below.refl _ _).drew hst5⟩
    case rest =>
      obtain ⟨rfl, rfl, F2, c2, hc2, hv2, hst2⟩ := hcut
      rename World => w4
      have hR4 : R4 w4 w.heap.size p v g b i pd px py := hR.keptIf (hst2.fr.block _ hR.lt.1 hnF.1) (hst2.fr.block _ hR.lt.2 hnF.2)
      have hnF2 : ¬ F2 w.heap.size ∧ ¬ F2 p := ⟨fun hF => by rcases hst2.new _ hF with h9 | h9; (exact hnF.1 h9); (have := hR.lt.1; omega), fun hF => by rcases hst2.new _ hF with h9 | h9; (exact hnF.2 h9); (have := hR.lt.2; omega)⟩
      have hnmb2 : ¬ F2 mb := fun hF => by rcases hst2.new _ hF with h9 | h9; (exact hnmb h9); (omega)
      have hms4 := hms.kept (hst2.fr.block _ hmbr hnmb)
      have hmb4 : mb < w4.heap.size := hms4.lt
      have hstA : Pt.Stp F F2 W2 w4 := stp_trans hst hst2
      obtain ⟨r0, r1, r2, r3⟩ := hR4.cells
      have hin := fun (w5 : World) (hb4 : Below w4.heap.size w4 w5) => inode_ok (hv2.later hb4) hg hH1 hnG dir (by omega) (show t + 1 ≤ 1000 by omega)
      have HM : Hid (Vol wr v F1 (g * b) I1 t ca ∧ Pt.Stp F F1 W2 wr ∧ NSet wr mb (3 + t) S ∧ Below W2.heap.size W2 w5) := ⟨hv, hst, hms, hbm⟩
      clear hv hst hms hrm hbm hoff hx3 hp3 hst2
      go_upto_region 11 with fail
      go_cut [12, 13, 14] (fun v12 v13 v14 wx => Ino4 w4 wx v F2 (g * b) I1 H t c2 g b i n dir v13 v12)
      case first =>
        refine wp_region_held_drew (S := (fun w' => w'.cell? ⟨w.heap.size, 0, none⟩ = some (.int .i64 (g : Int)) ∧ w'.cell? ⟨w.heap.size, 1, none⟩ = some (.int .i64 (b : Int)) ∧ w'.cell? ⟨w.heap.size, 2, none⟩ = some (.int .i64 (i : Int)) ∧ w'.cell? ⟨p, 1, none⟩ = some (.pointer (some ⟨v, 0, none⟩)))) (by kernel_rfl) hR4.cells (fun hHeld => ?_)
        refine wpAnyH_take (i := 0) (oi := { dst := some 52, op := Op.move (Operand.tmp 7), type := 24, pos := "law.go:145", after := #[], guard := none }) (v := ?_) rfl (by kernel_rfl) (by kernel_rfl) (by kernel_rfl) (fun _ _ _ h => h) (Or.inl ⟨by rfl, ?_⟩) hHeld ?_
        rotate_left
        · (intro w hSw; (try dsimp only at hSw); go_simp; try (with_reducible rfl))
        simp only [Act.put, List.setIfInBounds_toArray, List.set_cons_zero, List.set_cons_succ]
        refine wpAnyH_take (i := 1) (oi := { dst := some 53, op := Op.nilCheck (Operand.tmp 52), type := 0, pos := "law.go:145", after := #[{ on := 0, ground := Ground.data }], guard := none }) (v := ?_) rfl (by kernel_rfl) (by kernel_rfl) (by kernel_rfl) (fun _ _ _ h => h) (Or.inl ⟨by rfl, ?_⟩) hHeld ?_
        rotate_left
        · (intro w hSw; (try dsimp only at hSw); go_simp; try (with_reducible rfl))
        simp only [Act.put, List.setIfInBounds_toArray, List.set_cons_zero, List.set_cons_succ]
        refine wpAnyH_take (i := 2) (oi := { dst := some 54, op := Op.fieldAddr 33 (Operand.tmp 53) 1, type := 0, pos := "law.go:145", after := #[{ on := 1, ground := Ground.data }], guard := none }) (v := ?_) rfl (by kernel_rfl) (by kernel_rfl) (by kernel_rfl) (fun _ _ _ h => h) (Or.inl ⟨by rfl, ?_⟩) hHeld ?_
        rotate_left
        · (intro w hSw; (try dsimp only at hSw); go_simp; try (with_reducible rfl))
        simp only [Act.put, List.setIfInBounds_toArray, List.set_cons_zero, List.set_cons_succ]
        refine wpAnyH_take (i := 3) (oi := { dst := some 55, op := Op.load 29 (Operand.tmp 54), type := 29, pos := "law.go:145", after := #[{ on := 2, ground := Ground.data }], guard := none }) (v := ?_) rfl (by kernel_rfl) (by kernel_rfl) (by kernel_rfl) (fun _ _ _ h => h) (Or.inl ⟨by rfl, ?_⟩) hHeld ?_
        rotate_left
        · (intro w hSw; (try dsimp only at hSw); go_simp; try (with_reducible rfl))
        simp only [Act.put, List.setIfInBounds_toArray, List.set_cons_zero, List.set_cons_succ]
        refine wpAnyH_take (i := 4) (oi := { dst := some 56, op := Op.load 23 (Operand.tmp 3), type := 23, pos := "law.go:145", after := #[], guard := none }) (v := ?_) rfl (by kernel_rfl) (by kernel_rfl) (by kernel_rfl) (fun _ _ _ h => h) (Or.inl ⟨by rfl, ?_⟩) hHeld ?_
        rotate_left
        · (intro w hSw; (try dsimp only at hSw); go_simp; try (with_reducible rfl))
        simp only [Act.put, List.setIfInBounds_toArray, List.set_cons_zero, List.set_cons_succ]
        refine wpAnyH_take (i := 5) (oi := { dst := some 57, op := Op.move (Operand.tmp 1), type := 3, pos := "law.go:145", after := #[], guard := none }) (v := ?_) rfl (by kernel_rfl) (by kernel_rfl) (by kernel_rfl) (fun _ _ _ h => h) (Or.inl ⟨by rfl, ?_⟩) hHeld ?_
        rotate_left
        · (intro w hSw; (try dsimp only at hSw); go_simp; try (with_reducible rfl))
        simp only [Act.put, List.setIfInBounds_toArray, List.set_cons_zero, List.set_cons_succ]
        refine wpAnyH_take (i := 6) (oi := { dst := some 58, op := Op.move (Operand.tmp 2), type := 4, pos := "law.go:145", after := #[], guard := none }) (v := ?_) rfl (by kernel_rfl) (by kernel_rfl) (by kernel_rfl) (fun _ _ _ h => h) (Or.inl ⟨by rfl, ?_⟩) hHeld ?_
        rotate_left
        · (intro w hSw; (try dsimp only at hSw); go_simp; try (with_reducible rfl))
        simp only [Act.put, List.setIfInBounds_toArray, List.set_cons_zero, List.set_cons_succ]
        refine wpAnyH_ready (rs := [7]) (by kernel_rfl) (by simp) ?_
        refine AllReadyH.cons (o := { dst := some 59, op := Op.call { callee := Callee.value (Operand.func 25), args := #[Operand.tmp 55, Operand.tmp 56, Operand.tmp 57, Operand.tmp 58], argTypes := #[29, 23, 3, 4] }, type := 52, pos := "law.go:145", after := #[{ on := 3, ground := Ground.data }, { on := 4, ground := Ground.data }, { on := 5, ground := Ground.data }, { on := 6, ground := Ground.data }], guard := none }) rfl (fun K hK => ?_) AllReadyH.nil
        rw [if_pos (by rfl)]
        go_simp
        refine Calls.mono (hin _ (Below.refl _ _).drew) ?_
        rintro e w5 hpost
        obtain ⟨a1, a2, a3, rfl, hB⟩ := ino_of hpost
        dsimp only
        have hst5 := hB.stp
        have hR5 : R4 w5 w.heap.size p v g b i pd px py := hR4.keptIf (hst5.block _ hR4.lt.1 hnF2.1) (hst5.block _ hR4.lt.2 hnF2.2)
        refine hK.out _ _ hR5.cells (fun hHeld => ?_)
        clear hK K
        try simp only [Act.put, List.setIfInBounds_toArray, List.set_cons_zero, List.set_cons_succ]
        refine wpAnyH_take (i := 8) (oi := { dst := some 51, op := Op.move (Operand.tmp 59), type := 52, pos := "law.go:145", after := #[{ on := 7, ground := Ground.data }], guard := none }) (v := ?_) rfl (by kernel_rfl) (by kernel_rfl) (by kernel_rfl) (fun _ _ _ h => h) (Or.inl ⟨by rfl, ?_⟩) hHeld ?_
        rotate_left
        · (intro w hSw; (try dsimp only at hSw); go_simp; try (with_reducible rfl))
        simp only [Act.put, List.setIfInBounds_toArray, List.set_cons_zero, List.set_cons_succ]
        refine wpAnyH_take (i := 9) (oi := { dst := some 60, op := Op.extract (Operand.tmp 51) 0, type := 3, pos := "law.go:145", after := #[{ on := 8, ground := Ground.data }], guard := none }) (v := ?_) rfl (by kernel_rfl) (by kernel_rfl) (by kernel_rfl) (fun _ _ _ h => h) (Or.inl ⟨by rfl, ?_⟩) hHeld ?_
        rotate_left
        · (intro w hSw; (try dsimp only at hSw); go_simp; try (with_reducible rfl))
        simp only [Act.put, List.setIfInBounds_toArray, List.set_cons_zero, List.set_cons_succ]
        refine wpAnyH_take (i := 10) (oi := { dst := some 61, op := Op.extract (Operand.tmp 51) 1, type := 3, pos := "law.go:145", after := #[{ on := 8, ground := Ground.data }, { on := 12, ground := Ground.gcOnly Departure.lateStores }], guard := none }) (v := ?_) rfl (by kernel_rfl) (by kernel_rfl) (by kernel_rfl) (fun _ _ _ h => h) (Or.inl ⟨by rfl, ?_⟩) hHeld ?_
        rotate_left
        · (intro w hSw; (try dsimp only at hSw); go_simp; try (with_reducible rfl))
        simp only [Act.put, List.setIfInBounds_toArray, List.set_cons_zero, List.set_cons_succ]
        refine wpAnyH_take (i := 11) (oi := { dst := some 62, op := Op.extract (Operand.tmp 51) 2, type := 36, pos := "law.go:145", after := #[{ on := 8, ground := Ground.data }, { on := 13, ground := Ground.gcOnly Departure.lateStores }], guard := none }) (v := ?_) rfl (by kernel_rfl) (by kernel_rfl) (by kernel_rfl) (fun _ _ _ h => h) (Or.inl ⟨by rfl, ?_⟩) hHeld ?_
        rotate_left
        · (intro w hSw; (try dsimp only at hSw); go_simp; try (with_reducible rfl))
        simp only [Act.put, List.setIfInBounds_toArray, List.set_cons_zero, List.set_cons_succ]
        refine wpAnyH_take (i := 12) (oi := { dst := some 13, op := Op.assign (Operand.tmp 60), type := 3, pos := "law.go:145", after := #[{ on := 9, ground := Ground.data }, { on := 7, ground := Ground.chain }, { on := 0, ground := Ground.phase }, { on := 1, ground := Ground.phase }, { on := 2, ground := Ground.phase }, { on := 3, ground := Ground.phase }, { on := 4, ground := Ground.phase }, { on := 5, ground := Ground.phase }, { on := 6, ground := Ground.phase }, { on := 7, ground := Ground.phase }, { on := 8, ground := Ground.phase }, { on := 9, ground := Ground.phase }, { on := 10, ground := Ground.textOnly Departure.lateStores }, { on := 11, ground := Ground.textOnly Departure.lateStores }], guard := none }) (v := ?_) rfl (by kernel_rfl) (by kernel_rfl) (by kernel_rfl) (fun _ _ _ h => h) (Or.inl ⟨by rfl, ?_⟩) hHeld ?_
        rotate_left
        · (intro w hSw; (try dsimp only at hSw); go_simp; try (with_reducible rfl))
        simp only [Act.put, List.setIfInBounds_toArray, List.set_cons_zero, List.set_cons_succ]
        refine wpAnyH_take (i := 13) (oi := { dst := some 14, op := Op.assign (Operand.tmp 61), type := 3, pos := "law.go:145", after := #[{ on := 10, ground := Ground.data }, { on := 12, ground := Ground.chain }, { on := 0, ground := Ground.phase }, { on := 1, ground := Ground.phase }, { on := 2, ground := Ground.phase }, { on := 3, ground := Ground.phase }, { on := 4, ground := Ground.phase }, { on := 5, ground := Ground.phase }, { on := 6, ground := Ground.phase }, { on := 7, ground := Ground.phase }, { on := 8, ground := Ground.phase }, { on := 9, ground := Ground.phase }, { on := 10, ground := Ground.phase }, { on := 11, ground := Ground.textOnly Departure.lateStores }, { on := 12, ground := Ground.phase }], guard := none }) (v := ?_) rfl (by kernel_rfl) (by kernel_rfl) (by kernel_rfl) (fun _ _ _ h => h) (Or.inl ⟨by rfl, ?_⟩) hHeld ?_
        rotate_left
        · (intro w hSw; (try dsimp only at hSw); go_simp; try (with_reducible rfl))
        simp only [Act.put, List.setIfInBounds_toArray, List.set_cons_zero, List.set_cons_succ]
        refine wpAnyH_take (i := 14) (oi := { dst := some 12, op := Op.assign (Operand.tmp 62), type := 36, pos := "law.go:145", after := #[{ on := 11, ground := Ground.data }, { on := 13, ground := Ground.chain }, { on := 0, ground := Ground.phase }, { on := 1, ground := Ground.phase }, { on := 2, ground := Ground.phase }, { on := 3, ground := Ground.phase }, { on := 4, ground := Ground.phase }, { on := 5, ground := Ground.phase }, { on := 6, ground := Ground.phase }, { on := 7, ground := Ground.phase }, { on := 8, ground := Ground.phase }, { on := 9, ground := Ground.phase }, { on := 10, ground := Ground.phase }, { on := 11, ground := Ground.phase }, { on := 12, ground := Ground.phase }, { on := 13, ground := Ground.phase }], guard := none }) (v := ?_) rfl (by kernel_rfl) (by kernel_rfl) (by kernel_rfl) (fun _ _ _ h => h) (Or.inl ⟨by rfl, ?_⟩) hHeld ?_
        rotate_left
        · (intro w hSw; (try dsimp only at hSw); go_simp; try (with_reducible rfl))
        simp only [Act.put, List.setIfInBounds_toArray, List.set_cons_zero, List.set_cons_succ]
        refine wpAnyH_done (by kernel_rfl) ?_ _
        go_wp2_with fail
        go_meet
        exact hB.undrew
      case rest =>
        obtain ⟨F4, c4, hc4, hst4, hB⟩ := hcut
        rename World => w5
        have hms5 := hms4.kept (hst4.fr.block _ hmb4 hnmb2)
        have hnmb4 : ¬ F4 mb := fun hF => by rcases hst4.new _ hF with h9 | h9; (exact hnmb2 h9); (omega)
        have hR5 : R4 w5 w.heap.size p v g b i pd px py := hR4.keptIf (hst4.fr.block _ hR4.lt.1 hnF2.1) (hst4.fr.block _ hR4.lt.2 hnF2.2)
        have hstB : Pt.Stp F F4 W2 w5 := stp_trans hstA hst4
        obtain ⟨q0, q1, q2, q3⟩ := hR5.cells
        rcases hB with ⟨n', i', ho, rfl, rfl, hv5⟩ | ⟨ho, rfl, rfl, hv5⟩
        · obtain ⟨hnG', hfr'⟩ := ido_some hnG ho
          have hgg := gvn_give hm (hH1.len n' hnG') (hH1.byt n' hnG') hnG' hfr' hgvn
          have htg := tot_give hm (hH1.len n' hnG') (hH1.byt n' hnG') true hnG' hfr'
          have hfb := (frs_some hg.may hfr').2.1
          have hkb : n' * i + i' < 9223372036854775808 := by
            have h1 : n' * i ≤ 8 * 64 := Nat.mul_le_mul (by omega) (by omega)
            have h2 : i' < i := hfb
            omega
          have hH5 : Hds (putH I1 b n' (putY true (H n') i' true)) g b (updH H n' (putY true (H n') i' true)) := hds_put hH1 (by omega) n' (Mk.Al.putY_len true (hH1.len n' hnG') i' true) (Mk.Al.putY_byt true (hH1.byt n' hnG') i' true)
          obtain ⟨X, hX⟩ : ∃ X, n' * i + i' = X := ⟨_, rfl⟩
          rw [hX] at hkb hgg ⊢
          have hlk := hms5.look X hkb
          rw [hgg.1] at hlk
          have HV5 : Hid (Vol w5 v F4 (g * b) (putH I1 b n' (putY true (H n') i' true)) (t + 1) c4 ∧ Pt.Stp F F4 W2 w5 ∧ NSet w5 mb (3 + t) S ∧ Hds (putH I1 b n' (putY true (H n') i' true)) g b (updH H n' (putY true (H n') i' true)) ∧ S X = false ∧ Gvn (updH H n' (putY true (H n') i' true)) g i (upd S X true)) := ⟨hv5, hstB, hms5, hH5, hgg.1, hgg.2⟩
          have ht1 : 3 + t < 100000 := by omega
          clear hv5 hstB hgg hH5 hst4
          go_wp2_with (first | (refine wpList_add_nset _ rfl _ _ _ rfl hms5 ht1 X hkb rfl rfl rfl ?_; intro w6 hms6 hg6))
          go_roundw
          case rel =>
            obtain ⟨hv5, hstB, hms5, hH5, hsf, hgv⟩ := HV5.out
            rw [if_neg (by rw [hsf]; simp)] at hms6
            refine ⟨t + 1, updH H n' (putY true (H n') i' true), F4, putH I1 b n' (putY true (H n') i' true), c4, upd S X true, by go_num, by omega, by omega, hv5.else hg6.size (fun q hq => hg6.block q (hv5.lt q hq) (fun e => by cases e; exact hnmb4 hq)), hH5, stp_low hstB (below_grown hg6 hms5.lt (by rw [HW.out]; exact Nat.le_refl _)), hnmb4, hms6.lt, hms6, hgv⟩
          case measure => simp [intOf]; omega
        · have h0 := ido_none hnG ho
          rw [h0] at htot ⊢
          have htT3 : 3 + t = T := by omega
          have hlen := fun ty => hms5.len ty
          rw [htT3] at hlen
          obtain ⟨_, hwT⟩ := HT.out
          clear hv5 hst4 htT htot htT3
          go_wp2_with fail
          go_ret
          exact ⟨rfl, HC.out.1.trans (hstB.fr.below (by have := HC.out.1.size; omega) (fun k hk => by have := HC.out.2.2.2 k hk; omega))⟩
end Go.Proofs.YthdlpeejmmobmaaGreat
