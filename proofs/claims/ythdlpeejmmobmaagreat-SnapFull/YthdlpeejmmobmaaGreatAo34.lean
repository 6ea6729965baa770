/- CB -/
import Derived.Test.YthdlpeejmmobmaaGreatAo31
import Derived.Test.YthdlpeejmmobmaaGreatAo32
import Derived.Test.YthdlpeejmmobmaaGreatAo33

namespace Go.Proofs.YthdlpeejmmobmaaGreat
open Go.RowKit Go.Maps
open Mk.Al (putY rowOf fN eN)
set_option linter.unusedVariables false
set_option maxRecDepth 100000

/-- The cells of a call. -/
def doA (a c : Int) (x y : Value) : Array Value := #[.int .i64 a, .int .i64 c, x, y]
/-- A list of calls in memory: of each its two numbers, and two cells more. -/
structure Dol (w : World) (p : Option Addr) (n : Nat) (D : Nat → Int × Int × Value × Value) : Prop where
  big : n ≤ 140737488355328
  cells : 0 < n → ∃ b o, p = some ⟨b, o, none⟩ ∧ ∀ i, i < n → w.rangeAt b (o + i * 4) (doA (D i).1 (D i).2.1 (D i).2.2.1 (D i).2.2.2).toList ∧ (D i).2.2.1.oneCell' = true ∧ (D i).2.2.2.oneCell' = true
theorem below_grown {B b : Nat} {w w' : World} (h : w.grownBy w' (some b)) (hb : b < w.heap.size) (hB : B ≤ b) : Below B w w' :=
  ⟨h.os, h.tape, h.output, h.size, fun k hk => h.block k (by omega) (fun e => by cases e; omega)⟩

theorem wrap_pred {a : Nat} (h : a ≤ 100000) : IntKind.i64.wrap (((a + 1 : Nat) : Int) - 1) = (a : Int) := by rw [show ((a + 1 : Nat) : Int) - 1 = (a : Int) by omega]; exact IntWalk.i64_in _ (by omega)
theorem nst_zero {H : Nat → List Int} {r : Bool} {G B Q near : Nat} (hr : near < G) (h : nst H r G B Q near G = none) : tot H r B Q G = 0 := by
  refine tot_zero.2 fun n hn => ?_
  have h := nst_none h
  by_cases e : near ≤ n
  · have := h (n - near) (by omega)
    rw [show near + (n - near) = n by omega, Nat.mod_eq_of_lt hn] at this
    exact this
  · have := h (n + G - near) (by omega)
    rw [show near + (n + G - near) = n + G by omega, Nat.add_mod_right, Nat.mod_eq_of_lt hn] at this
    exact this
/-- A block asked for. -/
def BlkO (w4 w5 : World) (v : Nat) (F3 : Nat → Prop) (N : Nat) (I1 : Nat → List Int) (H : Nat → List Int) (l c g b i n : Nat) (v12 v10 : Value) : Prop :=
  ∃ F4 c4, c4 ≤ c + 8 ∧ Pt.Stp F3 F4 w4 w5 ∧ ((∃ n' i', nst H false g b i n g = some (n', i') ∧ v12 = .int .i64 ((n' * b + i' : Nat) : Int) ∧ v10 = .int .i64 0 ∧ Vol w5 v F4 N (putH I1 b n' (putY false (H n') i' true)) (l + 1) c4) ∨
    (nst H false g b i n g = none ∧ v12 = .int .i64 0 ∧ v10 = .int .i64 5 ∧ Vol w5 v F4 N I1 l c4))
theorem BlkO.stp {w4 w5 : World} {v : Nat} {F3 : Nat → Prop} {N : Nat} {I1 : Nat → List Int} {H : Nat → List Int} {l c g b i n : Nat} {v12 v10 : Value} (h : BlkO w4 w5 v F3 N I1 H l c g b i n v12 v10) : Pt.Frame F3 w4 w5 := by
  obtain ⟨_, _, _, h, _⟩ := h
  exact h.fr
theorem BlkO.undrew {w4 w5 : World} {v : Nat} {F3 : Nat → Prop} {N : Nat} {I1 : Nat → List Int} {H : Nat → List Int} {l c g b i n : Nat} {v12 v10 : Value} (h : BlkO w4.drew w5 v F3 N I1 H l c g b i n v12 v10) : BlkO w4 w5 v F3 N I1 H l c g b i n v12 v10 := by
  obtain ⟨F4, c4, hc, hst, hr⟩ := h
  exact ⟨F4, c4, hc, stp_after (Below.refl _ _).drew hst, hr⟩
theorem blkO_of {w4 w5 : World} {v : Nat} {F3 : Nat → Prop} {N : Nat} {I1 : Nat → List Int} {H : Nat → List Int} {l c g b i n : Nat} {e : Ending}
    (h : (∀ n' i', nst H false g b i n g = some (n', i') → e = .returned (.tuple #[.int .i64 ((n' * b + i' : Nat) : Int), .int .i64 ((l + 1 : Nat) : Int), .int .i64 0]) ∧ ∃ F' c', c' ≤ c + 8 ∧ Vol w5 v F' N (putH I1 b n' (putY false (H n') i' true)) (l + 1) c' ∧ Pt.Stp F3 F' w4 w5) ∧
      (nst H false g b i n g = none → e = .returned (.tuple #[.int .i64 0, .int .i64 0, .int .i64 5]) ∧ ∃ F' c', c' ≤ c + 8 ∧ Vol w5 v F' N I1 l c' ∧ Pt.Stp F3 F' w4 w5)) :
    ∃ a1 a2 a3, e = .returned (.tuple #[a1, a2, a3]) ∧ BlkO w4 w5 v F3 N I1 H l c g b i n a1 a3 := by
  cases ho : nst H false g b i n g with
  | none =>
    obtain ⟨rfl, F', c', hc, hv, hs⟩ := h.2 ho
    exact ⟨_, _, _, rfl, F', c', hc, hs, .inr ⟨ho, rfl, rfl, hv⟩⟩
  | some x =>
    obtain ⟨n', i'⟩ := x
    obtain ⟨rfl, F', c', hc, hv, hs⟩ := h.1 n' i' ho
    exact ⟨_, _, _, rfl, F', c', hc, hs, .inl ⟨n', i', ho, rfl, rfl, hv⟩⟩
/-- What stands behind a call: the geometry, the pair and the map lie apart from the volume. -/
structure Apt (wx : World) (x p mb v : Nat) (F : Nat → Prop) (g b i n0 : Nat) (S : Nat → Bool) (pd px py : Value) : Prop where
  r : R4 wx x p v g b i pd px py
  x : ¬ F x
  p : ¬ F p
  m : ¬ F mb
  s : NSet wx mb n0 S
theorem Apt.go {wx wy : World} {x p mb v : Nat} {F F' : Nat → Prop} {g b i n0 : Nat} {S : Nat → Bool} {pd px py : Value} (h : Apt wx x p mb v F g b i n0 S pd px py) (hs : Pt.Stp F F' wx wy) : Apt wy x p mb v F' g b i n0 S pd px py :=
  ⟨h.r.keptIf (hs.fr.block _ h.r.lt.1 h.x) (hs.fr.block _ h.r.lt.2 h.p), fun hF => (hs.new _ hF).elim h.x (fun h9 => by have : wx.heap.size ≤ x := h9; have := h.r.lt.1; omega), fun hF => (hs.new _ hF).elim h.p (fun h9 => by have : wx.heap.size ≤ p := h9; have := h.r.lt.2; omega), fun hF => (hs.new _ hF).elim h.m (fun h9 => by have : wx.heap.size ≤ mb := h9; have := h.s.lt; omega), h.s.kept (hs.fr.block _ h.s.lt h.m)⟩
theorem Apt.kept {wx wy : World} {x p mb v : Nat} {F : Nat → Prop} {g b i n0 : Nat} {S : Nat → Bool} {pd px py : Value} (h : Apt wx x p mb v F g b i n0 S pd px py) (hs : Pt.Frame F wx wy) : R4 wy x p v g b i pd px py := h.r.keptIf (hs.block _ h.r.lt.1 h.x) (hs.block _ h.r.lt.2 h.p)

theorem info51d {a c : Int} {x y : Value} : (Tryz.prog.info? 51).map (·.size) = some (doA a c x y).toList.length := by kernel_rfl
theorem info51e {a c : Int} {x y : Value} : (Tryz.prog.info? 51).map (·.size) = some (doA a c x y).size := by kernel_rfl
set_option maxHeartbeats 4000000 in
theorem allocOnce_walk (G B Q : Int) (w : World) (q : Option Addr) (m d : Nat) (D : Nat → Int × Int × Value × Value) (hz : Dol w q m D) : Calls Tryz.prog 4 #[Mk.geomV G B Q, .slice q m d] w fun e w' => e = .returned (.bool true) ∧ Below w.heap.size w w' := by
  obtain ⟨W, hW⟩ : ∃ W, w.alloc (Mk.geomO G B Q) = W := ⟨_, rfl⟩
  have hb : Below w.heap.size w W := by rw [← hW]; exact Mk.grew_alloc _ _
  have hx : W.heap[w.heap.size]? = some (Mk.geomO G B Q) := by rw [← hW]; exact at_new rfl
  have hsz : W.heap.size = w.heap.size + 1 := by rw [← hW]; simp
  have c0 := (g3_of hx).c0
  have c1 := (g3_of hx).c1
  have c2 := (g3_of hx).c2
  have hfr := fun w => fresh_ok G B Q w
  go_enter Tryz.func4, Tryz.ntmps4
  go_wp2_with fail
  refine Calls.mono (hfr _) ?_
  rintro e w1 ⟨g, b, i, hm, hfp⟩
  obtain ⟨p, v, F, pd, px, py, rfl, hpr, hv, hF, hplo, hb1⟩ := fr_vol hfp
  have hg := geo_of hm
  have hH := hds_new hm
  have hfit := hg.fit
  have hx1 := (hb1.block _ (Array.getElem?_eq_some_iff.1 hx).1).trans hx
  obtain ⟨W2, hW2⟩ : ∃ W2, w1.setRow w.heap.size #[.int .i64 (g : Int), .int .i64 (b : Int), .int .i64 (i : Int)] = W2 := ⟨_, rfl⟩
  have hx2 : W2.heap[w.heap.size]? = some (Mk.geomO g b i) := by rw [← hW2]; exact setRow_heap _ _ _ _ _ _ hx1
  have hs1 := hb1.size
  have hb2 : Below w.heap.size w W2 := by rw [← hW2]; exact below_setRow (hb.trans (hb1.mono (by omega))) (Nat.le_refl _) _
  have ho2 : ∀ k, W.heap.size ≤ k → W2.heap[k]? = w1.heap[k]? := fun k hk => by rw [← hW2]; exact setRow_other _ _ _ _ (by omega)
  have hsz2 : W2.heap.size = w1.heap.size := by rw [← hW2]; simp [World.setRow]
  have hv2 : Vol W2 v F (g * b) (nimg g b i) 0 0 := hv.else (by omega) fun k hk => ho2 k (hF k hk).1
  have hp2 := (ho2 p hplo).trans hpr
  have c0 := (g3_of hx2).c0
  have c1 := (g3_of hx2).c1
  have c2 := (g3_of hx2).c2
  have HC : Hid (Below w.heap.size w W2 ∧ W2.heap[p]? = some (.cells #[pd, .pointer (some ⟨v, 0, none⟩), px, py] 33 (0, 0)) ∧ w.heap.size + 1 ≤ p ∧ (∀ k, F k → w.heap.size + 1 ≤ k ∧ k ≠ p) ∧ Dol w q m D) := ⟨hb2, hp2, by omega, fun k hk => ⟨by have := (hF k hk).1; omega, (hF k hk).2⟩, hz⟩
  have h1c : (#[.int .i64 (g : Int), .int .i64 (b : Int), .int .i64 (i : Int)] : Array Value).all (·.oneCell') = true := by simp [Value.oneCell']
  have hmm := @run_makeMap Tryz.prog
  obtain ⟨W5, hW5⟩ : ∃ W5, W2.alloc (.map #[] 0) = W5 := ⟨_, rfl⟩
  have hm0 : NSet W5 w1.heap.size 0 (fun _ => false) := by rw [← hW5, ← hsz2]; exact nset_made W2
  have hb5 : Below W2.heap.size W2 W5 := by rw [← hW5]; exact Mk.grew_alloc _ _
  obtain ⟨mb, hmb⟩ : ∃ mb, w1.heap.size = mb := ⟨_, rfl⟩
  have hmbig := hz.big
  have hx5 := (hb5.block _ (Array.getElem?_eq_some_iff.1 hx2).1).trans hx2
  have hnF0 : ¬ F mb := fun hf => by have := hv2.lt _ hf; omega
  have hst0 : Pt.Stp F F W2 W5 := Pt.stp_below hb5
  have hI0 : ∃ (j : Nat) (H : Nat → List Int) (F1 : Nat → Prop) (I1 : Nat → List Int) (la ca n : Nat) (S : Nat → Bool), j ≤ m ∧ (.int .i64 0 : Value) = .int .i64 (j : Int) ∧ j ≤ 61 ∧ la ≤ j ∧ ca ≤ 5000 * j ∧ n ≤ j ∧ Vol W5 v F1 (g * b) I1 la ca ∧ Hds I1 g b H ∧ Pt.Stp F F1 W2 W5 ∧ ¬ F1 mb ∧ NSet W5 mb n S ∧ Gvb H g b i S := ⟨0, _, F, _, 0, 0, 0, _, by omega, rfl, by omega, by omega, by omega, by omega, hv2.later hb5, hH, hst0, hnF0, hmb ▸ hm0, gvb_new⟩
  have HW : Hid (mb = W2.heap.size) := by rw [hsz2]; exact hmb.symm
  clear hfp hv hF hb1 hpr hb hfr hW hs1 hb2 ho2 hv2 hp2 hz hnF0 hst0 hm0 hb5
  dsimp only
  go_wp2_with (first
    | (refine wpList_store_row rfl 23 _ _ rfl w.heap.size #[.int .i64 (g : Int), .int .i64 (b : Int), .int .i64 (i : Int)] rfl rfl 23 _ hx1 Mk.info23 rfl h1c ?_; rw [hW2]))
  skip
  clear hmm hsz hsz2 hmb hW5 hW2
  go_loopw [38] (fun v38 wr => ∃ (j : Nat) (H : Nat → List Int) (F1 : Nat → Prop) (I1 : Nat → List Int) (la ca n : Nat) (S : Nat → Bool), j ≤ m ∧ v38 = .int .i64 (j : Int) ∧ j ≤ 61 ∧ la ≤ j ∧ ca ≤ 5000 * j ∧ n ≤ j ∧ Vol wr v F1 (g * b) I1 la ca ∧ Hds I1 g b H ∧ Pt.Stp F F1 W2 wr ∧ ¬ F1 mb ∧ NSet wr mb n S ∧ Gvb H g b i S) (fun v38 _ => m - (intOf v38).toNat)
  case atStart => exact hI0
  case round =>
    clear hI0
    obtain ⟨j, H, F1, I1, la, ca, n0, S, hjm, rfl, hj61, hla, hca, hn0, hv, hH1, hst, hnmb, hms, hgvb⟩ := hrel
    have hmbr := hms.lt
    have hgN : 0 < g := by omega
    have hoff : ∀ k, k < W2.heap.size → (k = w.heap.size ∨ k = p ∨ k < w.heap.size) → wr.heap[k]? = W2.heap[k]? := fun k hk h9 => hst.fr.block k hk (fun hF => by have := HC.out.2.2.2.1 k hF; omega)
    have hx3 : wr.heap[w.heap.size]? = some (Mk.geomO g b i) := (hoff _ (Array.getElem?_eq_some_iff.1 hx2).1 (.inl rfl)).trans hx2
    have hp3 := (hoff p (Array.getElem?_eq_some_iff.1 HC.out.2.1).1 (.inr (.inl rfl))).trans HC.out.2.1
    have hR : R4 wr w.heap.size p v g b i pd px py := ⟨hx3, hp3⟩
    have hnF : ¬ F1 w.heap.size ∧ ¬ F1 p := ⟨fun hF => by rcases hst.new _ hF with h9 | h9; (have := HC.out.2.2.2.1 _ h9; omega); (have := (Array.getElem?_eq_some_iff.1 hx2).1; omega), fun hF => by rcases hst.new _ hF with h9 | h9; (have := HC.out.2.2.2.1 _ h9; omega); (have := (Array.getElem?_eq_some_iff.1 HC.out.2.1).1; omega)⟩
    have hbend : ∀ (wy : World) (F9 : Nat → Prop), Pt.Stp F F9 W2 wy → Below w.heap.size w wy := fun wy F9 h9 => HC.out.1.trans (h9.fr.below (by have := HC.out.1.size; omega) (fun k hk => by have := HC.out.2.2.2.1 k hk; omega))
    by_cases hlt : j < m
    · have hjI : (j : Int) < (m : Int) := by omega
      obtain ⟨qb, qo, rfl, hcl⟩ := HC.out.2.2.2.2.cells (by omega)
      obtain ⟨hrg, ho1, ho2⟩ := hcl j hlt
      obtain ⟨⟨da, dc, dx, dy⟩, hD⟩ : ∃ z, D j = z := ⟨_, rfl⟩
      rw [hD] at hrg ho1 ho2
      dsimp only at hrg ho1 ho2
      have hrgr : wr.rangeAt qb (qo + j * 4) (doA da dc dx dy).toList := by
        intro u x hu
        have h1 := hrg u x hu
        have h2 := lt_of_cell h1
        have h3 := (HC.out.1.cell (p := ⟨qb, qo + j * 4 + u, none⟩) h2).trans h1
        rw [← h3]
        have h4 : wr.heap[qb]? = W2.heap[qb]? := hoff qb (by have := HC.out.1.size; have h5 : qb < w.heap.size := h2; omega) (.inr (.inr h2))
        unfold World.cell?
        simp only [h4]
      have hone : (doA da dc dx dy).all (·.oneCell') = true := by simp [doA, Value.oneCell'] at *; exact ⟨ho1, ho2⟩
      obtain ⟨W6, hW6⟩ : ∃ W6, wr.alloc (.cells #[.int .i64 0, .int .i64 0, .bool false, .slice none 0 0] 51) = W6 := ⟨_, rfl⟩
      have hb6 : Below wr.heap.size wr W6 := by rw [← hW6]; exact Mk.grew_alloc _ _
      have hn6 : W6.heap[wr.heap.size]? = some (.cells #[.int .i64 0, .int .i64 0, .bool false, .slice none 0 0] 51 (0, 0)) := by rw [← hW6]; exact at_new rfl
      obtain ⟨wk, hwk⟩ : ∃ wk, W6.setRow wr.heap.size (doA da dc dx dy) = wk := ⟨_, rfl⟩
      have hnk : wk.heap[wr.heap.size]? = some (.cells (doA da dc dx dy) 51 (0, 0)) := by rw [← hwk]; exact setRow_heap _ _ _ _ _ _ hn6
      have hbk : Below wr.heap.size wr wk := by rw [← hwk]; exact below_setRow hb6 (Nat.le_refl _) _
      have hRk : R4 wk w.heap.size p v g b i pd px py := hR.kept hbk
      have hvk := hv.later hbk
      have hstk := stp_grown hst hbk
      have hmsk := hms.kept (hbk.block _ hmbr)
      obtain ⟨kb, hkb⟩ : ∃ kb, wr.heap.size = kb := ⟨_, rfl⟩
      rw [hkb] at hn6 hwk hnk
      have hkF : ¬ F1 kb := fun hf => by have := hv.lt _ hf; omega
      have hkl : kb < wk.heap.size := (Array.getElem?_eq_some_iff.1 hnk).1
      have hmbk : mb < wk.heap.size := hmsk.lt
      have hW6' : wr.alloc (Obj.cells #[.int .i64 0, .int .i64 0, .bool false, .slice none 0 0] 51) = W6 := hW6
      go_upto_region 8 with (first
        | (refine wpList_load_mid rfl 51 _ rfl qb (qo + j * 4) rfl _ _ hrgr Tryz.underlying51 rfl info51d ?_; rw [Array.toArray_toList])
        | (refine wpList_store_row rfl 51 _ _ rfl kb (doA da dc dx dy) rfl rfl 51 _ hn6 info51e rfl hone ?_; rw [hwk]))
      try simp only [Act.put]
      obtain ⟨r0, r1, r2, r3⟩ := hRk.cells
      have hk0 : wk.cell? ⟨kb, 0, none⟩ = some (.int .i64 da) := cell_of_row _ _ 0 _ _ _ hnk
      have hk1 : wk.cell? ⟨kb, 1, none⟩ = some (.int .i64 dc) := cell_of_row _ _ 1 _ _ _ hnk
      by_cases hj60 : (j : Int) > 60
      · go_wp2_with fail
        go_ret
        exact ⟨rfl, hbend _ _ hstk⟩
      · have hrm := fun (w4 : World) (hb4 : Below wk.heap.size wk w4) => room_ok (hvk.later hb4) hg hH1 (by omega)
        clear hv hst hms hrg hrgr hbk hb6 hn6 hwk hW6 hW6' hR hx3 hp3 hoff hk0 hk1
        go_upto_region 9 with fail
        go_cut [10, 11, 12] (fun v10 v11 v12 wx => v10 = .int .i64 ((tot H false b i g : Nat) : Int) ∧ v11 = .int .i64 ((tot H true b i g : Nat) : Int) ∧ v12 = .int .i64 0 ∧ ∃ F2 c2, c2 ≤ ca + 8 ∧ Vol wx v F2 (g * b) I1 la c2 ∧ Pt.Stp F1 F2 wk wx)
        case first =>
          refine wp_region_held_drew (S := (fun w' => w'.cell? ⟨w.heap.size, 0, none⟩ = some (.int .i64 (g : Int)) ∧ w'.cell? ⟨w.heap.size, 1, none⟩ = some (.int .i64 (b : Int)) ∧ w'.cell? ⟨w.heap.size, 2, none⟩ = some (.int .i64 (i : Int)) ∧ w'.cell? ⟨p, 1, none⟩ = some (.pointer (some ⟨v, 0, none⟩)))) (by kernel_rfl) hRk.cells (fun hHeld => ?_)
          refine wpAnyH_take (i := 0) (oi := { dst := some 46, op := Op.move (Operand.tmp 5), type := 24, pos := "law.go:91", after := #[], guard := none }) (v := ?_) rfl (by kernel_rfl) (by kernel_rfl) (by kernel_rfl) (fun _ _ _ h => h) (Or.inl ⟨by rfl, ?_⟩) hHeld ?_
          rotate_left
          · (intro w hSw; (try dsimp only at hSw); go_simp; try (with_reducible rfl))
          simp only [Act.put, List.setIfInBounds_toArray, List.set_cons_zero, List.set_cons_succ]
          refine wpAnyH_take (i := 1) (oi := { dst := some 47, op := Op.nilCheck (Operand.tmp 46), type := 0, pos := "law.go:91", after := #[{ on := 0, ground := Ground.data }], guard := none }) (v := ?_) rfl (by kernel_rfl) (by kernel_rfl) (by kernel_rfl) (fun _ _ _ h => h) (Or.inl ⟨by rfl, ?_⟩) hHeld ?_
          rotate_left
          · (intro w hSw; (try dsimp only at hSw); go_simp; try (with_reducible rfl))
          simp only [Act.put, List.setIfInBounds_toArray, List.set_cons_zero, List.set_cons_succ]
          refine wpAnyH_take (i := 2) (oi := { dst := some 48, op := Op.fieldAddr 33 (Operand.tmp 47) 1, type := 0, pos := "law.go:91", after := #[{ on := 1, ground := Ground.data }], guard := none }) (v := ?_) rfl (by kernel_rfl) (by kernel_rfl) (by kernel_rfl) (fun _ _ _ h => h) (Or.inl ⟨by rfl, ?_⟩) hHeld ?_
          rotate_left
          · (intro w hSw; (try dsimp only at hSw); go_simp; try (with_reducible rfl))
          simp only [Act.put, List.setIfInBounds_toArray, List.set_cons_zero, List.set_cons_succ]
          refine wpAnyH_take (i := 3) (oi := { dst := some 49, op := Op.load 29 (Operand.tmp 48), type := 29, pos := "law.go:91", after := #[{ on := 2, ground := Ground.data }], guard := none }) (v := ?_) rfl (by kernel_rfl) (by kernel_rfl) (by kernel_rfl) (fun _ _ _ h => h) (Or.inl ⟨by rfl, ?_⟩) hHeld ?_
          rotate_left
          · (intro w hSw; (try dsimp only at hSw); go_simp; try (with_reducible rfl))
          simp only [Act.put, List.setIfInBounds_toArray, List.set_cons_zero, List.set_cons_succ]
          refine wpAnyH_take (i := 4) (oi := { dst := some 50, op := Op.load 23 (Operand.tmp 2), type := 23, pos := "law.go:91", after := #[], guard := none }) (v := ?_) rfl (by kernel_rfl) (by kernel_rfl) (by kernel_rfl) (fun _ _ _ h => h) (Or.inl ⟨by rfl, ?_⟩) hHeld ?_
          rotate_left
          · (intro w hSw; (try dsimp only at hSw); go_simp; try (with_reducible rfl))
          simp only [Act.put, List.setIfInBounds_toArray, List.set_cons_zero, List.set_cons_succ]
          refine wpAnyH_ready (rs := [5]) (by kernel_rfl) (by simp) ?_
          refine AllReadyH.cons (o := { dst := some 51, op := Op.call { callee := Callee.value (Operand.func 21), args := #[Operand.tmp 49, Operand.tmp 50], argTypes := #[29, 23] }, type := 52, pos := "law.go:91", after := #[{ on := 3, ground := Ground.data }, { on := 4, ground := Ground.data }], guard := none }) rfl (fun K hK => ?_) AllReadyH.nil
          rw [if_pos (by rfl)]
          go_simp
          refine Calls.mono (hrm _ (Below.refl _ _).drew) ?_
          rintro e w5 ⟨rfl, F2, c2, hc2, hv5, hst5⟩
          dsimp only
          have hR5 : R4 w5 w.heap.size p v g b i pd px py := hRk.keptIf (hst5.fr.block _ hRk.lt.1 hnF.1) (hst5.fr.block _ hRk.lt.2 hnF.2)
          refine hK.out _ _ hR5.cells (fun hHeld => ?_)
          clear hK K
          try simp only [Act.put, List.setIfInBounds_toArray, List.set_cons_zero, List.set_cons_succ]
          refine wpAnyH_take (i := 6) (oi := { dst := some 45, op := Op.move (Operand.tmp 51), type := 52, pos := "law.go:91", after := #[{ on := 5, ground := Ground.data }], guard := none }) (v := ?_) rfl (by kernel_rfl) (by kernel_rfl) (by kernel_rfl) (fun _ _ _ h => h) (Or.inl ⟨by rfl, ?_⟩) hHeld ?_
          rotate_left
          · (intro w hSw; (try dsimp only at hSw); go_simp; try (with_reducible rfl))
          simp only [Act.put, List.setIfInBounds_toArray, List.set_cons_zero, List.set_cons_succ]
          refine wpAnyH_take (i := 7) (oi := { dst := some 52, op := Op.extract (Operand.tmp 45) 0, type := 3, pos := "law.go:91", after := #[{ on := 6, ground := Ground.data }], guard := none }) (v := ?_) rfl (by kernel_rfl) (by kernel_rfl) (by kernel_rfl) (fun _ _ _ h => h) (Or.inl ⟨by rfl, ?_⟩) hHeld ?_
          rotate_left
          · (intro w hSw; (try dsimp only at hSw); go_simp; try (with_reducible rfl))
          simp only [Act.put, List.setIfInBounds_toArray, List.set_cons_zero, List.set_cons_succ]
          refine wpAnyH_take (i := 8) (oi := { dst := some 53, op := Op.extract (Operand.tmp 45) 1, type := 3, pos := "law.go:91", after := #[{ on := 6, ground := Ground.data }, { on := 10, ground := Ground.gcOnly Departure.lateStores }], guard := none }) (v := ?_) rfl (by kernel_rfl) (by kernel_rfl) (by kernel_rfl) (fun _ _ _ h => h) (Or.inl ⟨by rfl, ?_⟩) hHeld ?_
          rotate_left
          · (intro w hSw; (try dsimp only at hSw); go_simp; try (with_reducible rfl))
          simp only [Act.put, List.setIfInBounds_toArray, List.set_cons_zero, List.set_cons_succ]
          refine wpAnyH_take (i := 9) (oi := { dst := some 54, op := Op.extract (Operand.tmp 45) 2, type := 36, pos := "law.go:91", after := #[{ on := 6, ground := Ground.data }, { on := 11, ground := Ground.gcOnly Departure.lateStores }], guard := none }) (v := ?_) rfl (by kernel_rfl) (by kernel_rfl) (by kernel_rfl) (fun _ _ _ h => h) (Or.inl ⟨by rfl, ?_⟩) hHeld ?_
          rotate_left
          · (intro w hSw; (try dsimp only at hSw); go_simp; try (with_reducible rfl))
          simp only [Act.put, List.setIfInBounds_toArray, List.set_cons_zero, List.set_cons_succ]
          refine wpAnyH_take (i := 10) (oi := { dst := some 10, op := Op.assign (Operand.tmp 52), type := 3, pos := "law.go:91", after := #[{ on := 7, ground := Ground.data }, { on := 5, ground := Ground.chain }, { on := 0, ground := Ground.phase }, { on := 1, ground := Ground.phase }, { on := 2, ground := Ground.phase }, { on := 3, ground := Ground.phase }, { on := 4, ground := Ground.phase }, { on := 5, ground := Ground.phase }, { on := 6, ground := Ground.phase }, { on := 7, ground := Ground.phase }, { on := 8, ground := Ground.textOnly Departure.lateStores }, { on := 9, ground := Ground.textOnly Departure.lateStores }], guard := none }) (v := ?_) rfl (by kernel_rfl) (by kernel_rfl) (by kernel_rfl) (fun _ _ _ h => h) (Or.inl ⟨by rfl, ?_⟩) hHeld ?_
          rotate_left
          · (intro w hSw; (try dsimp only at hSw); go_simp; try (with_reducible rfl))
          simp only [Act.put, List.setIfInBounds_toArray, List.set_cons_zero, List.set_cons_succ]
          refine wpAnyH_take (i := 11) (oi := { dst := some 11, op := Op.assign (Operand.tmp 53), type := 3, pos := "law.go:91", after := #[{ on := 8, ground := Ground.data }, { on := 10, ground := Ground.chain }, { on := 0, ground := Ground.phase }, { on := 1, ground := Ground.phase }, { on := 2, ground := Ground.phase }, { on := 3, ground := Ground.phase }, { on := 4, ground := Ground.phase }, { on := 5, ground := Ground.phase }, { on := 6, ground := Ground.phase }, { on := 7, ground := Ground.phase }, { on := 8, ground := Ground.phase }, { on := 9, ground := Ground.textOnly Departure.lateStores }, { on := 10, ground := Ground.phase }], guard := none }) (v := ?_) rfl (by kernel_rfl) (by kernel_rfl) (by kernel_rfl) (fun _ _ _ h => h) (Or.inl ⟨by rfl, ?_⟩) hHeld ?_
          rotate_left
          · (intro w hSw; (try dsimp only at hSw); go_simp; try (with_reducible rfl))
          simp only [Act.put, List.setIfInBounds_toArray, List.set_cons_zero, List.set_cons_succ]
          refine wpAnyH_take (i := 12) (oi := { dst := some 12, op := Op.assign (Operand.tmp 54), type := 36, pos := "law.go:91", after := #[{ on := 9, ground := Ground.data }, { on := 11, ground := Ground.chain }, { on := 0, ground := Ground.phase }, { on := 1, ground := Ground.phase }, { on := 2, ground := Ground.phase }, { on := 3, ground := Ground.phase }, { on := 4, ground := Ground.phase }, { on := 5, ground := Ground.phase }, { on := 6, ground := Ground.phase }, { on := 7, ground := Ground.phase }, { on := 8, ground := Ground.phase }, { on := 9, ground := Ground.phase }, { on := 10, ground := Ground.phase }, { on := 11, ground := Ground.phase }], guard := none }) (v := ?_) rfl (by kernel_rfl) (by kernel_rfl) (by kernel_rfl) (fun _ _ _ h => h) (Or.inl ⟨by rfl, ?_⟩) hHeld ?_
          rotate_left
          · (intro w hSw; (try dsimp only at hSw); go_simp; try (with_reducible rfl))
          simp only [Act.put, List.setIfInBounds_toArray, List.set_cons_zero, List.set_cons_succ]
          refine wpAnyH_done (by kernel_rfl) ?_ _
          go_wp2_with fail
          go_meet
          exact ⟨rfl, rfl, rfl, F2, c2, hc2, hv5, stp_after (Below.refl _ _).drew hst5⟩
        case rest =>
          obtain ⟨rfl, rfl, rfl, F2, c2, hc2, hv2, hst2⟩ := hcut
          rename World => w4
          have hR4 : R4 w4 w.heap.size p v g b i pd px py := hRk.keptIf (hst2.fr.block _ hRk.lt.1 hnF.1) (hst2.fr.block _ hRk.lt.2 hnF.2)
          have hnF2 : ¬ F2 w.heap.size ∧ ¬ F2 p := ⟨fun hF => by rcases hst2.new _ hF with h9 | h9; (exact hnF.1 h9); (have := hRk.lt.1; omega), fun hF => by rcases hst2.new _ hF with h9 | h9; (exact hnF.2 h9); (have := hRk.lt.2; omega)⟩
          have hnmb2 : ¬ F2 mb := fun hF => by rcases hst2.new _ hF with h9 | h9; (exact hnmb h9); (omega)
          have hms4 := hmsk.kept (hst2.fr.block _ hmbk hnmb)
          have hnk4 := (hst2.fr.block _ hkl hkF).trans hnk
          have hmb4 : mb < w4.heap.size := hms4.lt
          have hstA : Pt.Stp F F2 W2 w4 := stp_trans hstk hst2
          obtain ⟨r0, r1, r2, r3⟩ := hR4.cells
          have hk0 : w4.cell? ⟨kb, 0, none⟩ = some (.int .i64 da) := cell_of_row _ _ 0 _ _ _ hnk4
          have hk1 : w4.cell? ⟨kb, 1, none⟩ = some (.int .i64 dc) := cell_of_row _ _ 1 _ _ _ hnk4
          obtain ⟨n, hnn, hnG, hwn⟩ := near_mod dc hgN (show g ≤ 8 by omega)
          have HN : Hid ((IntKind.u64.wrap dc).tmod (g : Int) = (n : Int) ∧ wrap64 (n : Int) = (n : Int)) := ⟨hnn, hwn⟩
          have hgn : ¬ ((g : Int) = 0) := by omega
          have HH : Hid (Vol w4 v F2 (g * b) I1 la c2 ∧ Pt.Stp F F2 W2 w4 ∧ NSet w4 mb n0 S) := ⟨hv2, hstA, hms4⟩
          clear hnn hwn hvk hstk hmsk hnk hst2 hrm hRk
          go_upto_region 13 with fail
          rw [HN.out.1, HN.out.2]
          clear hgn
          by_cases hop : da.tmod 2 = 0
          · have hA4 : Apt w4 w.heap.size p mb v F2 g b i n0 S pd px py := ⟨hR4, hnF2.1, hnF2.2, hnmb2, hms4⟩
            have hbl := fun (w5 : World) (hb4 : Below w4.heap.size w4 w5) => block_ok (hv2.later hb4) hg hH1 hnG (by omega) (show la + 1 ≤ 1000 by omega) none 0 0 [] (ii_nil w5) (fun k hk => by cases hk) rfl (by omega)
            clear hv2 hstA hms4 hR4 hnF2 hnmb2 hk1
            go_upto_region 14 with fail
            go_cut [14, 15, 16] (fun v14 v15 v16 wx => BlkO w4 wx v F2 (g * b) I1 H la c2 g b i n v14 v16)
            case first =>
              refine wp_region_held_drew (S := (fun w' => w'.cell? ⟨w.heap.size, 0, none⟩ = some (.int .i64 (g : Int)) ∧ w'.cell? ⟨w.heap.size, 1, none⟩ = some (.int .i64 (b : Int)) ∧ w'.cell? ⟨w.heap.size, 2, none⟩ = some (.int .i64 (i : Int)) ∧ w'.cell? ⟨p, 1, none⟩ = some (.pointer (some ⟨v, 0, none⟩)))) (by kernel_rfl) hA4.r.cells (fun hHeld => ?_)
              refine wpAnyH_take (i := 0) (oi := { dst := some 70, op := Op.move (Operand.tmp 5), type := 24, pos := "law.go:97", after := #[], guard := none }) (v := ?_) rfl (by kernel_rfl) (by kernel_rfl) (by kernel_rfl) (fun _ _ _ h => h) (Or.inl ⟨by rfl, ?_⟩) hHeld ?_
              rotate_left
              · (intro w hSw; (try dsimp only at hSw); go_simp; try (with_reducible rfl))
              simp only [Act.put, List.setIfInBounds_toArray, List.set_cons_zero, List.set_cons_succ]
              refine wpAnyH_take (i := 1) (oi := { dst := some 71, op := Op.nilCheck (Operand.tmp 70), type := 0, pos := "law.go:97", after := #[{ on := 0, ground := Ground.data }], guard := none }) (v := ?_) rfl (by kernel_rfl) (by kernel_rfl) (by kernel_rfl) (fun _ _ _ h => h) (Or.inl ⟨by rfl, ?_⟩) hHeld ?_
              rotate_left
              · (intro w hSw; (try dsimp only at hSw); go_simp; try (with_reducible rfl))
              simp only [Act.put, List.setIfInBounds_toArray, List.set_cons_zero, List.set_cons_succ]
              refine wpAnyH_take (i := 2) (oi := { dst := some 72, op := Op.fieldAddr 33 (Operand.tmp 71) 1, type := 0, pos := "law.go:97", after := #[{ on := 1, ground := Ground.data }], guard := none }) (v := ?_) rfl (by kernel_rfl) (by kernel_rfl) (by kernel_rfl) (fun _ _ _ h => h) (Or.inl ⟨by rfl, ?_⟩) hHeld ?_
              rotate_left
              · (intro w hSw; (try dsimp only at hSw); go_simp; try (with_reducible rfl))
              simp only [Act.put, List.setIfInBounds_toArray, List.set_cons_zero, List.set_cons_succ]
              refine wpAnyH_take (i := 3) (oi := { dst := some 73, op := Op.load 29 (Operand.tmp 72), type := 29, pos := "law.go:97", after := #[{ on := 2, ground := Ground.data }], guard := none }) (v := ?_) rfl (by kernel_rfl) (by kernel_rfl) (by kernel_rfl) (fun _ _ _ h => h) (Or.inl ⟨by rfl, ?_⟩) hHeld ?_
              rotate_left
              · (intro w hSw; (try dsimp only at hSw); go_simp; try (with_reducible rfl))
              simp only [Act.put, List.setIfInBounds_toArray, List.set_cons_zero, List.set_cons_succ]
              refine wpAnyH_take (i := 4) (oi := { dst := some 74, op := Op.load 23 (Operand.tmp 2), type := 23, pos := "law.go:97", after := #[], guard := none }) (v := ?_) rfl (by kernel_rfl) (by kernel_rfl) (by kernel_rfl) (fun _ _ _ h => h) (Or.inl ⟨by rfl, ?_⟩) hHeld ?_
              rotate_left
              · (intro w hSw; (try dsimp only at hSw); go_simp; try (with_reducible rfl))
              simp only [Act.put, List.setIfInBounds_toArray, List.set_cons_zero, List.set_cons_succ]
              refine wpAnyH_take (i := 5) (oi := { dst := some 75, op := Op.move (Operand.tmp 13), type := 3, pos := "law.go:97", after := #[], guard := none }) (v := ?_) rfl (by kernel_rfl) (by kernel_rfl) (by kernel_rfl) (fun _ _ _ h => h) (Or.inl ⟨by rfl, ?_⟩) hHeld ?_
              rotate_left
              · (intro w hSw; (try dsimp only at hSw); go_simp; try (with_reducible rfl))
              simp only [Act.put, List.setIfInBounds_toArray, List.set_cons_zero, List.set_cons_succ]
              refine wpAnyH_ready (rs := [6]) (by kernel_rfl) (by simp) ?_
              refine AllReadyH.cons (o := { dst := some 76, op := Op.call { callee := Callee.value (Operand.func 22), args := #[Operand.tmp 73, Operand.tmp 74, Operand.tmp 75, Operand.const (Value.slice none 0 0)], argTypes := #[29, 23, 3, 49] }, type := 52, pos := "law.go:97", after := #[{ on := 3, ground := Ground.data }, { on := 4, ground := Ground.data }, { on := 5, ground := Ground.data }], guard := none }) rfl (fun K hK => ?_) AllReadyH.nil
              rw [if_pos (by rfl)]
              go_simp
              refine Calls.mono (hbl _ (Below.refl _ _).drew) ?_
              rintro e w5 hpost
              obtain ⟨a1, a2, a3, rfl, hB⟩ := blkO_of hpost
              dsimp only
              have hR5 := hA4.kept (hB.undrew.stp)
              refine hK.out _ _ hR5.cells (fun hHeld => ?_)
              clear hK K
              try simp only [Act.put, List.setIfInBounds_toArray, List.set_cons_zero, List.set_cons_succ]
              refine wpAnyH_take (i := 7) (oi := { dst := some 69, op := Op.move (Operand.tmp 76), type := 52, pos := "law.go:97", after := #[{ on := 6, ground := Ground.data }], guard := none }) (v := ?_) rfl (by kernel_rfl) (by kernel_rfl) (by kernel_rfl) (fun _ _ _ h => h) (Or.inl ⟨by rfl, ?_⟩) hHeld ?_
              rotate_left
              · (intro w hSw; (try dsimp only at hSw); go_simp; try (with_reducible rfl))
              simp only [Act.put, List.setIfInBounds_toArray, List.set_cons_zero, List.set_cons_succ]
              refine wpAnyH_take (i := 8) (oi := { dst := some 77, op := Op.extract (Operand.tmp 69) 0, type := 3, pos := "law.go:97", after := #[{ on := 7, ground := Ground.data }], guard := none }) (v := ?_) rfl (by kernel_rfl) (by kernel_rfl) (by kernel_rfl) (fun _ _ _ h => h) (Or.inl ⟨by rfl, ?_⟩) hHeld ?_
              rotate_left
              · (intro w hSw; (try dsimp only at hSw); go_simp; try (with_reducible rfl))
              simp only [Act.put, List.setIfInBounds_toArray, List.set_cons_zero, List.set_cons_succ]
              refine wpAnyH_take (i := 9) (oi := { dst := some 78, op := Op.extract (Operand.tmp 69) 1, type := 3, pos := "law.go:97", after := #[{ on := 7, ground := Ground.data }, { on := 11, ground := Ground.gcOnly Departure.lateStores }], guard := none }) (v := ?_) rfl (by kernel_rfl) (by kernel_rfl) (by kernel_rfl) (fun _ _ _ h => h) (Or.inl ⟨by rfl, ?_⟩) hHeld ?_
              rotate_left
              · (intro w hSw; (try dsimp only at hSw); go_simp; try (with_reducible rfl))
              simp only [Act.put, List.setIfInBounds_toArray, List.set_cons_zero, List.set_cons_succ]
              refine wpAnyH_take (i := 10) (oi := { dst := some 79, op := Op.extract (Operand.tmp 69) 2, type := 36, pos := "law.go:97", after := #[{ on := 7, ground := Ground.data }, { on := 12, ground := Ground.gcOnly Departure.lateStores }], guard := none }) (v := ?_) rfl (by kernel_rfl) (by kernel_rfl) (by kernel_rfl) (fun _ _ _ h => h) (Or.inl ⟨by rfl, ?_⟩) hHeld ?_
              rotate_left
              · (intro w hSw; (try dsimp only at hSw); go_simp; try (with_reducible rfl))
              simp only [Act.put, List.setIfInBounds_toArray, List.set_cons_zero, List.set_cons_succ]
              refine wpAnyH_take (i := 11) (oi := { dst := some 14, op := Op.assign (Operand.tmp 77), type := 3, pos := "law.go:97", after := #[{ on := 8, ground := Ground.data }, { on := 6, ground := Ground.chain }, { on := 0, ground := Ground.phase }, { on := 1, ground := Ground.phase }, { on := 2, ground := Ground.phase }, { on := 3, ground := Ground.phase }, { on := 4, ground := Ground.phase }, { on := 5, ground := Ground.phase }, { on := 6, ground := Ground.phase }, { on := 7, ground := Ground.phase }, { on := 8, ground := Ground.phase }, { on := 9, ground := Ground.textOnly Departure.lateStores }, { on := 10, ground := Ground.textOnly Departure.lateStores }], guard := none }) (v := ?_) rfl (by kernel_rfl) (by kernel_rfl) (by kernel_rfl) (fun _ _ _ h => h) (Or.inl ⟨by rfl, ?_⟩) hHeld ?_
              rotate_left
              · (intro w hSw; (try dsimp only at hSw); go_simp; try (with_reducible rfl))
              simp only [Act.put, List.setIfInBounds_toArray, List.set_cons_zero, List.set_cons_succ]
              refine wpAnyH_take (i := 12) (oi := { dst := some 15, op := Op.assign (Operand.tmp 78), type := 3, pos := "law.go:97", after := #[{ on := 9, ground := Ground.data }, { on := 11, ground := Ground.chain }, { on := 0, ground := Ground.phase }, { on := 1, ground := Ground.phase }, { on := 2, ground := Ground.phase }, { on := 3, ground := Ground.phase }, { on := 4, ground := Ground.phase }, { on := 5, ground := Ground.phase }, { on := 6, ground := Ground.phase }, { on := 7, ground := Ground.phase }, { on := 8, ground := Ground.phase }, { on := 9, ground := Ground.phase }, { on := 10, ground := Ground.textOnly Departure.lateStores }, { on := 11, ground := Ground.phase }], guard := none }) (v := ?_) rfl (by kernel_rfl) (by kernel_rfl) (by kernel_rfl) (fun _ _ _ h => h) (Or.inl ⟨by rfl, ?_⟩) hHeld ?_
              rotate_left
              · (intro w hSw; (try dsimp only at hSw); go_simp; try (with_reducible rfl))
              simp only [Act.put, List.setIfInBounds_toArray, List.set_cons_zero, List.set_cons_succ]
              refine wpAnyH_take (i := 13) (oi := { dst := some 16, op := Op.assign (Operand.tmp 79), type := 36, pos := "law.go:97", after := #[{ on := 10, ground := Ground.data }, { on := 12, ground := Ground.chain }, { on := 0, ground := Ground.phase }, { on := 1, ground := Ground.phase }, { on := 2, ground := Ground.phase }, { on := 3, ground := Ground.phase }, { on := 4, ground := Ground.phase }, { on := 5, ground := Ground.phase }, { on := 6, ground := Ground.phase }, { on := 7, ground := Ground.phase }, { on := 8, ground := Ground.phase }, { on := 9, ground := Ground.phase }, { on := 10, ground := Ground.phase }, { on := 11, ground := Ground.phase }, { on := 12, ground := Ground.phase }], guard := none }) (v := ?_) rfl (by kernel_rfl) (by kernel_rfl) (by kernel_rfl) (fun _ _ _ h => h) (Or.inl ⟨by rfl, ?_⟩) hHeld ?_
              rotate_left
              · (intro w hSw; (try dsimp only at hSw); go_simp; try (with_reducible rfl))
              simp only [Act.put, List.setIfInBounds_toArray, List.set_cons_zero, List.set_cons_succ]
              refine wpAnyH_done (by kernel_rfl) ?_ _
              go_wp2_with fail
              go_meet
              exact hB.undrew
            case rest =>
              obtain ⟨F4, c4, hc4, hst4, hB⟩ := hcut
              rename World => w5
              have hA5 := hA4.go hst4
              obtain ⟨_, hstA, _⟩ := HH.out
              have hstB : Pt.Stp F F4 W2 w5 := stp_trans hstA hst4
              obtain ⟨r0, r1, r2, r3⟩ := hA5.r.cells
              rcases hB with ⟨n', i', ho, rfl, rfl, hv5⟩ | ⟨ho, rfl, rfl, hv5⟩
              · obtain ⟨hnG', hfr'⟩ := nst_some hgN ho
                have hln := hH1.len n' hnG'
                have hly := hH1.byt n' hnG'
                obtain ⟨hSX, hgv', hXN, hXd, hXon⟩ := gvb_give hm hln hly hnG' hfr' hgvb
                have htg := tot_give hm hln hly false hnG' hfr'
                have hte := tot_else (G := g) (B := b) (Q := i) (n := n') (i := i') (H := H) hln false true
                have hH5 : Hds (putH I1 b n' (putY false (H n') i' true)) g b (updH H n' (putY false (H n') i' true)) := hds_put hH1 (by omega) n' (Mk.Al.putY_len false hln i' true) (Mk.Al.putY_byt false hly i' true)
                obtain ⟨J, hJ⟩ : ∃ J, putH I1 b n' (putY false (H n') i' true) = J := ⟨_, rfl⟩
                obtain ⟨K, hK2⟩ : ∃ K, updH H n' (putY false (H n') i' true) = K := ⟨_, rfl⟩
                obtain ⟨X, hX⟩ : ∃ X, n' * b + i' = X := ⟨_, rfl⟩
                rw [hJ, hK2] at hH5
                rw [hJ] at hv5
                rw [hK2] at hgv' hXon htg hte
                rw [hX] at hSX hgv' hXN hXd hXon ⊢
                have hkb9 : X < 9223372036854775808 := by omega
                have hlk := hA5.s.look X hkb9
                rw [hSX] at hlk
                obtain ⟨a9, ha9⟩ : ∃ a9, tot K false b i g = a9 := ⟨_, rfl⟩
                obtain ⟨e9, he9⟩ : ∃ e9, tot K true b i g = e9 := ⟨_, rfl⟩
                have ha9b : a9 ≤ 256 * g := by rw [← ha9]; exact tot_le ((Mk.Al.fe_lt hg.may false 0).2.2)
                have ha8 : tot H false b i g = a9 + 1 := by omega
                have he8 : tot H true b i g = e9 := by rw [← he9]; exact hte.symm
                rw [ha8, he8]
                have hhb := fun (w6 : World) (hb4 : Below w5.heap.size w5 w6) => hasBlock_ok (hv5.later hb4) hg hH5 hXN hXd (by omega)
                rw [hXon] at hhb
                have hne : ¬ (((a9 + 1 : Nat) : Int) = 0) := by omega
                clear hJ hK2 hX htg hte ha8 he8 hst4 hbl hXon
                have HV5 : Hid (Vol w5 v F4 (g * b) J (la + 1) c4 ∧ Pt.Stp F F4 W2 w5) := ⟨hv5, hstB⟩
                clear hv5 hstB
                go_upto_region 18 with fail
                go_cut [16, 17] (fun v16 v17 wx => v16 = .int .i64 0 ∧ v17 = .bool true ∧ ∃ F6, Vol wx v F6 (g * b) J (la + 1) (c4 + 1) ∧ Pt.Stp F4 F6 w5 wx)
                case first =>
                  refine wp_region_held_drew (S := (fun w' => w'.cell? ⟨w.heap.size, 0, none⟩ = some (.int .i64 (g : Int)) ∧ w'.cell? ⟨w.heap.size, 1, none⟩ = some (.int .i64 (b : Int)) ∧ w'.cell? ⟨w.heap.size, 2, none⟩ = some (.int .i64 (i : Int)) ∧ w'.cell? ⟨p, 1, none⟩ = some (.pointer (some ⟨v, 0, none⟩)))) (by kernel_rfl) hA5.r.cells (fun hHeld => ?_)
                  refine wpAnyH_take (i := 0) (oi := { dst := some 97, op := Op.move (Operand.tmp 5), type := 24, pos := "law.go:104", after := #[], guard := none }) (v := ?_) rfl (by kernel_rfl) (by kernel_rfl) (by kernel_rfl) (fun _ _ _ h => h) (Or.inl ⟨by rfl, ?_⟩) hHeld ?_
                  rotate_left
                  · (intro w hSw; (try dsimp only at hSw); go_simp; try (with_reducible rfl))
                  simp only [Act.put, List.setIfInBounds_toArray, List.set_cons_zero, List.set_cons_succ]
                  refine wpAnyH_take (i := 1) (oi := { dst := some 98, op := Op.nilCheck (Operand.tmp 97), type := 0, pos := "law.go:104", after := #[{ on := 0, ground := Ground.data }], guard := none }) (v := ?_) rfl (by kernel_rfl) (by kernel_rfl) (by kernel_rfl) (fun _ _ _ h => h) (Or.inl ⟨by rfl, ?_⟩) hHeld ?_
                  rotate_left
                  · (intro w hSw; (try dsimp only at hSw); go_simp; try (with_reducible rfl))
                  simp only [Act.put, List.setIfInBounds_toArray, List.set_cons_zero, List.set_cons_succ]
                  refine wpAnyH_take (i := 2) (oi := { dst := some 99, op := Op.fieldAddr 33 (Operand.tmp 98) 1, type := 0, pos := "law.go:104", after := #[{ on := 1, ground := Ground.data }], guard := none }) (v := ?_) rfl (by kernel_rfl) (by kernel_rfl) (by kernel_rfl) (fun _ _ _ h => h) (Or.inl ⟨by rfl, ?_⟩) hHeld ?_
                  rotate_left
                  · (intro w hSw; (try dsimp only at hSw); go_simp; try (with_reducible rfl))
                  simp only [Act.put, List.setIfInBounds_toArray, List.set_cons_zero, List.set_cons_succ]
                  refine wpAnyH_take (i := 3) (oi := { dst := some 100, op := Op.load 29 (Operand.tmp 99), type := 29, pos := "law.go:104", after := #[{ on := 2, ground := Ground.data }], guard := none }) (v := ?_) rfl (by kernel_rfl) (by kernel_rfl) (by kernel_rfl) (fun _ _ _ h => h) (Or.inl ⟨by rfl, ?_⟩) hHeld ?_
                  rotate_left
                  · (intro w hSw; (try dsimp only at hSw); go_simp; try (with_reducible rfl))
                  simp only [Act.put, List.setIfInBounds_toArray, List.set_cons_zero, List.set_cons_succ]
                  refine wpAnyH_take (i := 4) (oi := { dst := some 101, op := Op.load 23 (Operand.tmp 2), type := 23, pos := "law.go:104", after := #[], guard := none }) (v := ?_) rfl (by kernel_rfl) (by kernel_rfl) (by kernel_rfl) (fun _ _ _ h => h) (Or.inl ⟨by rfl, ?_⟩) hHeld ?_
                  rotate_left
                  · (intro w hSw; (try dsimp only at hSw); go_simp; try (with_reducible rfl))
                  simp only [Act.put, List.setIfInBounds_toArray, List.set_cons_zero, List.set_cons_succ]
                  refine wpAnyH_take (i := 5) (oi := { dst := some 102, op := Op.move (Operand.tmp 14), type := 3, pos := "law.go:104", after := #[], guard := none }) (v := ?_) rfl (by kernel_rfl) (by kernel_rfl) (by kernel_rfl) (fun _ _ _ h => h) (Or.inl ⟨by rfl, ?_⟩) hHeld ?_
                  rotate_left
                  · (intro w hSw; (try dsimp only at hSw); go_simp; try (with_reducible rfl))
                  simp only [Act.put, List.setIfInBounds_toArray, List.set_cons_zero, List.set_cons_succ]
                  refine wpAnyH_ready (rs := [6]) (by kernel_rfl) (by simp) ?_
                  refine AllReadyH.cons (o := { dst := some 103, op := Op.call { callee := Callee.value (Operand.func 23), args := #[Operand.tmp 100, Operand.tmp 101, Operand.tmp 102], argTypes := #[29, 23, 3] }, type := 55, pos := "law.go:104", after := #[{ on := 3, ground := Ground.data }, { on := 4, ground := Ground.data }, { on := 5, ground := Ground.data }], guard := none }) rfl (fun K hK => ?_) AllReadyH.nil
                  rw [if_pos (by rfl)]
                  go_simp
                  refine Calls.mono (hhb _ (Below.refl _ _).drew) ?_
                  rintro e w6 ⟨rfl, F6, hv6, hst6⟩
                  dsimp only
                  have hst6 := stp_after (Below.refl _ _).drew hst6
                  have hR5 := hA5.kept hst6.fr
                  refine hK.out _ _ hR5.cells (fun hHeld => ?_)
                  clear hK K
                  try simp only [Act.put, List.setIfInBounds_toArray, List.set_cons_zero, List.set_cons_succ]
                  refine wpAnyH_take (i := 7) (oi := { dst := some 96, op := Op.move (Operand.tmp 103), type := 55, pos := "law.go:104", after := #[{ on := 6, ground := Ground.data }], guard := none }) (v := ?_) rfl (by kernel_rfl) (by kernel_rfl) (by kernel_rfl) (fun _ _ _ h => h) (Or.inl ⟨by rfl, ?_⟩) hHeld ?_
                  rotate_left
                  · (intro w hSw; (try dsimp only at hSw); go_simp; try (with_reducible rfl))
                  simp only [Act.put, List.setIfInBounds_toArray, List.set_cons_zero, List.set_cons_succ]
                  refine wpAnyH_take (i := 8) (oi := { dst := some 104, op := Op.extract (Operand.tmp 96) 0, type := 4, pos := "law.go:104", after := #[{ on := 7, ground := Ground.data }], guard := none }) (v := ?_) rfl (by kernel_rfl) (by kernel_rfl) (by kernel_rfl) (fun _ _ _ h => h) (Or.inl ⟨by rfl, ?_⟩) hHeld ?_
                  rotate_left
                  · (intro w hSw; (try dsimp only at hSw); go_simp; try (with_reducible rfl))
                  simp only [Act.put, List.setIfInBounds_toArray, List.set_cons_zero, List.set_cons_succ]
                  refine wpAnyH_take (i := 9) (oi := { dst := some 105, op := Op.extract (Operand.tmp 96) 1, type := 36, pos := "law.go:104", after := #[{ on := 7, ground := Ground.data }, { on := 10, ground := Ground.gcOnly Departure.lateStores }], guard := none }) (v := ?_) rfl (by kernel_rfl) (by kernel_rfl) (by kernel_rfl) (fun _ _ _ h => h) (Or.inl ⟨by rfl, ?_⟩) hHeld ?_
                  rotate_left
                  · (intro w hSw; (try dsimp only at hSw); go_simp; try (with_reducible rfl))
                  simp only [Act.put, List.setIfInBounds_toArray, List.set_cons_zero, List.set_cons_succ]
                  refine wpAnyH_take (i := 10) (oi := { dst := some 17, op := Op.assign (Operand.tmp 104), type := 4, pos := "law.go:104", after := #[{ on := 8, ground := Ground.data }, { on := 6, ground := Ground.chain }, { on := 0, ground := Ground.phase }, { on := 1, ground := Ground.phase }, { on := 2, ground := Ground.phase }, { on := 3, ground := Ground.phase }, { on := 4, ground := Ground.phase }, { on := 5, ground := Ground.phase }, { on := 6, ground := Ground.phase }, { on := 7, ground := Ground.phase }, { on := 8, ground := Ground.phase }, { on := 9, ground := Ground.textOnly Departure.lateStores }], guard := none }) (v := ?_) rfl (by kernel_rfl) (by kernel_rfl) (by kernel_rfl) (fun _ _ _ h => h) (Or.inl ⟨by rfl, ?_⟩) hHeld ?_
                  rotate_left
                  · (intro w hSw; (try dsimp only at hSw); go_simp; try (with_reducible rfl))
                  simp only [Act.put, List.setIfInBounds_toArray, List.set_cons_zero, List.set_cons_succ]
                  refine wpAnyH_take (i := 11) (oi := { dst := some 16, op := Op.assign (Operand.tmp 105), type := 36, pos := "law.go:104", after := #[{ on := 9, ground := Ground.data }, { on := 10, ground := Ground.chain }, { on := 0, ground := Ground.phase }, { on := 1, ground := Ground.phase }, { on := 2, ground := Ground.phase }, { on := 3, ground := Ground.phase }, { on := 4, ground := Ground.phase }, { on := 5, ground := Ground.phase }, { on := 6, ground := Ground.phase }, { on := 7, ground := Ground.phase }, { on := 8, ground := Ground.phase }, { on := 9, ground := Ground.phase }, { on := 10, ground := Ground.phase }], guard := none }) (v := ?_) rfl (by kernel_rfl) (by kernel_rfl) (by kernel_rfl) (fun _ _ _ h => h) (Or.inl ⟨by rfl, ?_⟩) hHeld ?_
                  rotate_left
                  · (intro w hSw; (try dsimp only at hSw); go_simp; try (with_reducible rfl))
                  simp only [Act.put, List.setIfInBounds_toArray, List.set_cons_zero, List.set_cons_succ]
                  refine wpAnyH_done (by kernel_rfl) ?_ _
                  go_wp2_with fail
                  go_meet
                  exact ⟨rfl, rfl, F6, hv6, hst6⟩
                case rest =>
                  obtain ⟨rfl, rfl, F6, hv6, hst6⟩ := hcut
                  rename World => w6
                  have hA6 := hA5.go hst6
                  have hrm6 := fun (w7 : World) (hb4 : Below w6.heap.size w6 w7) => room_ok (hv6.later hb4) hg hH5 (by omega)
                  rw [ha9, he9] at hrm6
                  obtain ⟨q0, q1, q2, q3⟩ := hA6.r.cells
                  have HV6 : Hid (Vol w6 v F6 (g * b) J (la + 1) (c4 + 1) ∧ Pt.Stp F F6 W2 w6) := ⟨hv6, stp_trans HV5.out.2 hst6⟩
                  clear hv6 hst6
                  go_upto_region 19 with fail
                  go_cut [18, 19, 20] (fun v18 v19 v20 wx => v18 = .int .i64 ((a9 : Nat) : Int) ∧ v19 = .int .i64 ((e9 : Nat) : Int) ∧ v20 = .int .i64 0 ∧ ∃ F7 c7, c7 ≤ c4 + 1 + 8 ∧ Vol wx v F7 (g * b) J (la + 1) c7 ∧ Pt.Stp F6 F7 w6 wx)
                  case first =>
                    refine wp_region_held_drew (S := (fun w' => w'.cell? ⟨w.heap.size, 0, none⟩ = some (.int .i64 (g : Int)) ∧ w'.cell? ⟨w.heap.size, 1, none⟩ = some (.int .i64 (b : Int)) ∧ w'.cell? ⟨w.heap.size, 2, none⟩ = some (.int .i64 (i : Int)) ∧ w'.cell? ⟨p, 1, none⟩ = some (.pointer (some ⟨v, 0, none⟩)))) (by kernel_rfl) hA6.r.cells (fun hHeld => ?_)
                    refine wpAnyH_take (i := 0) (oi := { dst := some 107, op := Op.move (Operand.tmp 5), type := 24, pos := "law.go:105", after := #[], guard := none }) (v := ?_) rfl (by kernel_rfl) (by kernel_rfl) (by kernel_rfl) (fun _ _ _ h => h) (Or.inl ⟨by rfl, ?_⟩) hHeld ?_
                    rotate_left
                    · (intro w hSw; (try dsimp only at hSw); go_simp; try (with_reducible rfl))
                    simp only [Act.put, List.setIfInBounds_toArray, List.set_cons_zero, List.set_cons_succ]
                    refine wpAnyH_take (i := 1) (oi := { dst := some 108, op := Op.nilCheck (Operand.tmp 107), type := 0, pos := "law.go:105", after := #[{ on := 0, ground := Ground.data }], guard := none }) (v := ?_) rfl (by kernel_rfl) (by kernel_rfl) (by kernel_rfl) (fun _ _ _ h => h) (Or.inl ⟨by rfl, ?_⟩) hHeld ?_
                    rotate_left
                    · (intro w hSw; (try dsimp only at hSw); go_simp; try (with_reducible rfl))
                    simp only [Act.put, List.setIfInBounds_toArray, List.set_cons_zero, List.set_cons_succ]
                    refine wpAnyH_take (i := 2) (oi := { dst := some 109, op := Op.fieldAddr 33 (Operand.tmp 108) 1, type := 0, pos := "law.go:105", after := #[{ on := 1, ground := Ground.data }], guard := none }) (v := ?_) rfl (by kernel_rfl) (by kernel_rfl) (by kernel_rfl) (fun _ _ _ h => h) (Or.inl ⟨by rfl, ?_⟩) hHeld ?_
                    rotate_left
                    · (intro w hSw; (try dsimp only at hSw); go_simp; try (with_reducible rfl))
                    simp only [Act.put, List.setIfInBounds_toArray, List.set_cons_zero, List.set_cons_succ]
                    refine wpAnyH_take (i := 3) (oi := { dst := some 110, op := Op.load 29 (Operand.tmp 109), type := 29, pos := "law.go:105", after := #[{ on := 2, ground := Ground.data }], guard := none }) (v := ?_) rfl (by kernel_rfl) (by kernel_rfl) (by kernel_rfl) (fun _ _ _ h => h) (Or.inl ⟨by rfl, ?_⟩) hHeld ?_
                    rotate_left
                    · (intro w hSw; (try dsimp only at hSw); go_simp; try (with_reducible rfl))
                    simp only [Act.put, List.setIfInBounds_toArray, List.set_cons_zero, List.set_cons_succ]
                    refine wpAnyH_take (i := 4) (oi := { dst := some 111, op := Op.load 23 (Operand.tmp 2), type := 23, pos := "law.go:105", after := #[], guard := none }) (v := ?_) rfl (by kernel_rfl) (by kernel_rfl) (by kernel_rfl) (fun _ _ _ h => h) (Or.inl ⟨by rfl, ?_⟩) hHeld ?_
                    rotate_left
                    · (intro w hSw; (try dsimp only at hSw); go_simp; try (with_reducible rfl))
                    simp only [Act.put, List.setIfInBounds_toArray, List.set_cons_zero, List.set_cons_succ]
                    refine wpAnyH_ready (rs := [5]) (by kernel_rfl) (by simp) ?_
                    refine AllReadyH.cons (o := { dst := some 112, op := Op.call { callee := Callee.value (Operand.func 21), args := #[Operand.tmp 110, Operand.tmp 111], argTypes := #[29, 23] }, type := 52, pos := "law.go:105", after := #[{ on := 3, ground := Ground.data }, { on := 4, ground := Ground.data }], guard := none }) rfl (fun K hK => ?_) AllReadyH.nil
                    rw [if_pos (by rfl)]
                    go_simp
                    refine Calls.mono (hrm6 _ (Below.refl _ _).drew) ?_
                    rintro e w7 ⟨rfl, F7, c7, hc7, hv7, hst7⟩
                    dsimp only
                    have hst7 := stp_after (Below.refl _ _).drew hst7
                    have hR5 := hA6.kept hst7.fr
                    refine hK.out _ _ hR5.cells (fun hHeld => ?_)
                    clear hK K
                    try simp only [Act.put, List.setIfInBounds_toArray, List.set_cons_zero, List.set_cons_succ]
                    refine wpAnyH_take (i := 6) (oi := { dst := some 106, op := Op.move (Operand.tmp 112), type := 52, pos := "law.go:105", after := #[{ on := 5, ground := Ground.data }], guard := none }) (v := ?_) rfl (by kernel_rfl) (by kernel_rfl) (by kernel_rfl) (fun _ _ _ h => h) (Or.inl ⟨by rfl, ?_⟩) hHeld ?_
                    rotate_left
                    · (intro w hSw; (try dsimp only at hSw); go_simp; try (with_reducible rfl))
                    simp only [Act.put, List.setIfInBounds_toArray, List.set_cons_zero, List.set_cons_succ]
                    refine wpAnyH_take (i := 7) (oi := { dst := some 113, op := Op.extract (Operand.tmp 106) 0, type := 3, pos := "law.go:105", after := #[{ on := 6, ground := Ground.data }], guard := none }) (v := ?_) rfl (by kernel_rfl) (by kernel_rfl) (by kernel_rfl) (fun _ _ _ h => h) (Or.inl ⟨by rfl, ?_⟩) hHeld ?_
                    rotate_left
                    · (intro w hSw; (try dsimp only at hSw); go_simp; try (with_reducible rfl))
                    simp only [Act.put, List.setIfInBounds_toArray, List.set_cons_zero, List.set_cons_succ]
                    refine wpAnyH_take (i := 8) (oi := { dst := some 114, op := Op.extract (Operand.tmp 106) 1, type := 3, pos := "law.go:105", after := #[{ on := 6, ground := Ground.data }, { on := 10, ground := Ground.gcOnly Departure.lateStores }], guard := none }) (v := ?_) rfl (by kernel_rfl) (by kernel_rfl) (by kernel_rfl) (fun _ _ _ h => h) (Or.inl ⟨by rfl, ?_⟩) hHeld ?_
                    rotate_left
                    · (intro w hSw; (try dsimp only at hSw); go_simp; try (with_reducible rfl))
                    simp only [Act.put, List.setIfInBounds_toArray, List.set_cons_zero, List.set_cons_succ]
                    refine wpAnyH_take (i := 9) (oi := { dst := some 115, op := Op.extract (Operand.tmp 106) 2, type := 36, pos := "law.go:105", after := #[{ on := 6, ground := Ground.data }, { on := 11, ground := Ground.gcOnly Departure.lateStores }], guard := none }) (v := ?_) rfl (by kernel_rfl) (by kernel_rfl) (by kernel_rfl) (fun _ _ _ h => h) (Or.inl ⟨by rfl, ?_⟩) hHeld ?_
                    rotate_left
                    · (intro w hSw; (try dsimp only at hSw); go_simp; try (with_reducible rfl))
                    simp only [Act.put, List.setIfInBounds_toArray, List.set_cons_zero, List.set_cons_succ]
                    refine wpAnyH_take (i := 10) (oi := { dst := some 18, op := Op.assign (Operand.tmp 113), type := 3, pos := "law.go:105", after := #[{ on := 7, ground := Ground.data }, { on := 5, ground := Ground.chain }, { on := 0, ground := Ground.phase }, { on := 1, ground := Ground.phase }, { on := 2, ground := Ground.phase }, { on := 3, ground := Ground.phase }, { on := 4, ground := Ground.phase }, { on := 5, ground := Ground.phase }, { on := 6, ground := Ground.phase }, { on := 7, ground := Ground.phase }, { on := 8, ground := Ground.textOnly Departure.lateStores }, { on := 9, ground := Ground.textOnly Departure.lateStores }], guard := none }) (v := ?_) rfl (by kernel_rfl) (by kernel_rfl) (by kernel_rfl) (fun _ _ _ h => h) (Or.inl ⟨by rfl, ?_⟩) hHeld ?_
                    rotate_left
                    · (intro w hSw; (try dsimp only at hSw); go_simp; try (with_reducible rfl))
                    simp only [Act.put, List.setIfInBounds_toArray, List.set_cons_zero, List.set_cons_succ]
                    refine wpAnyH_take (i := 11) (oi := { dst := some 19, op := Op.assign (Operand.tmp 114), type := 3, pos := "law.go:105", after := #[{ on := 8, ground := Ground.data }, { on := 10, ground := Ground.chain }, { on := 0, ground := Ground.phase }, { on := 1, ground := Ground.phase }, { on := 2, ground := Ground.phase }, { on := 3, ground := Ground.phase }, { on := 4, ground := Ground.phase }, { on := 5, ground := Ground.phase }, { on := 6, ground := Ground.phase }, { on := 7, ground := Ground.phase }, { on := 8, ground := Ground.phase }, { on := 9, ground := Ground.textOnly Departure.lateStores }, { on := 10, ground := Ground.phase }], guard := none }) (v := ?_) rfl (by kernel_rfl) (by kernel_rfl) (by kernel_rfl) (fun _ _ _ h => h) (Or.inl ⟨by rfl, ?_⟩) hHeld ?_
                    rotate_left
                    · (intro w hSw; (try dsimp only at hSw); go_simp; try (with_reducible rfl))
                    simp only [Act.put, List.setIfInBounds_toArray, List.set_cons_zero, List.set_cons_succ]
                    refine wpAnyH_take (i := 12) (oi := { dst := some 20, op := Op.assign (Operand.tmp 115), type := 36, pos := "law.go:105", after := #[{ on := 9, ground := Ground.data }, { on := 11, ground := Ground.chain }, { on := 0, ground := Ground.phase }, { on := 1, ground := Ground.phase }, { on := 2, ground := Ground.phase }, { on := 3, ground := Ground.phase }, { on := 4, ground := Ground.phase }, { on := 5, ground := Ground.phase }, { on := 6, ground := Ground.phase }, { on := 7, ground := Ground.phase }, { on := 8, ground := Ground.phase }, { on := 9, ground := Ground.phase }, { on := 10, ground := Ground.phase }, { on := 11, ground := Ground.phase }], guard := none }) (v := ?_) rfl (by kernel_rfl) (by kernel_rfl) (by kernel_rfl) (fun _ _ _ h => h) (Or.inl ⟨by rfl, ?_⟩) hHeld ?_
                    rotate_left
                    · (intro w hSw; (try dsimp only at hSw); go_simp; try (with_reducible rfl))
                    simp only [Act.put, List.setIfInBounds_toArray, List.set_cons_zero, List.set_cons_succ]
                    refine wpAnyH_done (by kernel_rfl) ?_ _
                    go_wp2_with fail
                    go_meet
                    exact ⟨rfl, rfl, rfl, F7, c7, hc7, hv7, hst7⟩
                  case rest =>
                    obtain ⟨rfl, rfl, rfl, F7, c7, hc7, hv7, hst7⟩ := hcut
                    rename World => w7
                    have hA7 := hA6.go hst7
                    have hst8 : Pt.Stp F F7 W2 w7 := stp_trans HV6.out.2 hst7
                    have hsub := wrap_pred (show a9 ≤ 100000 by omega)
                    have HV7 : Hid (Vol w7 v F7 (g * b) J (la + 1) c7 ∧ Pt.Stp F F7 W2 w7) := ⟨hv7, hst8⟩
                    have hms7 := hA7.s
                    have hn1 : n0 < 100000 := by omega
                    have hng : ¬ (((a9 + 1 : Nat) : Int) = 0) := by omega
                    clear hv7 hst7 hst8
                    go_wp2_with (first | (refine wpList_add_nset _ rfl _ _ _ rfl hms7 hn1 X hkb9 rfl rfl rfl ?_; intro w8 hms8 hg8))
                    go_roundw
                    case rel =>
                      obtain ⟨hv7, hst8⟩ := HV7.out
                      rw [if_neg (by rw [hSX]; simp)] at hms8
                      refine ⟨j + 1, K, F7, J, la + 1, c7, n0 + 1, upd S X true, by omega, by go_num, by omega, by omega, by omega, by omega, hv7.else hg8.size (fun q hq => hg8.block q (hv7.lt q hq) (fun e => by cases e; exact hA7.m hq)), hH5, stp_low hst8 (below_grown hg8 hms7.lt (by rw [HW.out]; exact Nat.le_refl _)), hA7.m, hms8, hgv'⟩
                    case measure => simp [intOf]; omega
              · have h0 := nst_zero hnG ho
                rw [h0]
                have hlk := hA5.s.look 0 (by decide)
                clear hst4 hbl
                go_wp2_with fail
                go_roundw
                case rel => exact ⟨j + 1, H, F4, I1, la, c4, n0, S, by omega, by go_num, by omega, by omega, by omega, by omega, hv5, hH1, hstB, hA5.m, hA5.s, hgvb⟩
                case measure => simp [intOf]; omega
          · go_wp2_with fail
            refine Calls.mono HH.out.1.has.blocks ?_
            rintro e w5 ⟨rfl, rfl⟩
            dsimp only
            obtain ⟨NB, hNB⟩ : ∃ NB, g * b = NB := ⟨_, rfl⟩
            rw [hNB]
            have hNb : NB ≤ 2048 := by rw [← hNB]; exact hfit.2.2.2.2.2
            have HB : Hid (g * b = NB) := hNB
            clear hNB
            go_wp2_with fail
            have hA4 : Apt w5 w.heap.size p mb v F2 g b i n0 S pd px py := ⟨hR4, hnF2.1, hnF2.2, hnmb2, hms4⟩
            clear hv2 hstA hms4 hR4 hnF2 hnmb2 hk0 hk1 hnk4 r0 r1 r2 r3
            go_loopw [21, 144] (fun v21 v144 wz => ∃ k, k ≤ NB ∧ v144 = .int .i64 (k : Int) ∧ v21 = .int .i64 (lstI (lst S k)) ∧ Below w5.heap.size w5 wz) (fun _ v144 _ => NB - (intOf v144).toNat)
            case atStart => exact ⟨0, by omega, rfl, rfl, Below.refl _ _⟩
            case round =>
              obtain ⟨k, hkN, rfl, rfl, hbz⟩ := hrel
              rename World => wz
              have hA5 := hA4.go (Pt.stp_below hbz)
              have hstep : lst S (k + 1) = match lst S k with | some x => some x | none => if S k then some k else none := rfl
              by_cases hltk : k < NB
              · have hkI : (k : Int) < (NB : Int) := by omega
                have hlk := hA5.s.look k (by omega)
                cases hs : S k with
                | false =>
                  rw [hs] at hlk
                  cases ho : lst S k with
                  | none =>
                    rw [ho, hs] at hstep
                    dsimp only [lstI]
                    go_wp2_with fail
                    go_roundw
                    case rel => exact ⟨k + 1, by omega, by go_num, by first | (rw [hstep]; done) | (rw [hstep]; rfl), hbz⟩
                    case measure => simp [intOf]; omega
                  | some x =>
                    rw [ho] at hstep
                    dsimp only [lstI]
                    have hx0 : ¬ ((x : Int) < 0) := by omega
                    go_wp2_with fail
                    go_roundw
                    case rel => exact ⟨k + 1, by omega, by go_num, by first | (rw [hstep]; done) | (rw [hstep]; rfl), hbz⟩
                    case measure => simp [intOf]; omega
                | true =>
                  rw [hs] at hlk
                  cases ho : lst S k with
                  | none =>
                    rw [ho, hs] at hstep
                    dsimp only [lstI]
                    go_wp2_with fail
                    go_roundw
                    case rel => exact ⟨k + 1, by omega, by go_num, by first | (rw [hstep]; done) | (rw [hstep]; rfl), hbz⟩
                    case measure => simp [intOf]; omega
                  | some x =>
                    rw [ho] at hstep
                    dsimp only [lstI]
                    have hx0 : ¬ ((x : Int) < 0) := by omega
                    go_wp2_with fail
                    go_roundw
                    case rel => exact ⟨k + 1, by omega, by go_num, by first | (rw [hstep]; done) | (rw [hstep]; rfl), hbz⟩
                    case measure => simp [intOf]; omega
              · have hkI : ¬ ((k : Int) < (NB : Int)) := by omega
                have hkk : k = NB := by omega
                subst hkk
                clear hstep
                obtain ⟨hv5, hst5, hms5⟩ := HH.out
                cases ho : lst S k with
                | none =>
                  dsimp only [lstI]
                  have hvz := hv5.later hbz
                  have hstz := stp_grown hst5 hbz
                  clear hv5 hst5 hms5
                  go_wp2_with fail
                  go_roundw
                  case rel => exact ⟨j + 1, H, F2, I1, la, c2, n0, S, by omega, by go_num, by omega, by omega, by omega, by omega, hvz, hH1, hstz, hA5.m, hA5.s, hgvb⟩
                  case measure => simp [intOf]; omega
                | some x =>
                  dsimp only [lstI]
                  obtain ⟨hxk, hxS⟩ := lst_some ho
                  have hx0 : ¬ ((x : Int) < 0) := by omega
                  obtain ⟨hxN, hxd, hxon⟩ := hgvb x hxS
                  obtain ⟨r0, r1, r2, r3⟩ := hA5.r.cells
                  have hvz := hv5.later hbz
                  have hstz := stp_grown hst5 hbz
                  have hng := div_lt_G hg hxN
                  have hln := hH1.len (x / b) hng
                  have hly := hH1.byt (x / b) hng
                  obtain ⟨hgv', hoff2⟩ := gvb_take hm hln hly hxS hgvb
                  have hH5 : Hds (putH I1 b (x / b) (putY false (H (x / b)) (x % b) false)) g b (updH H (x / b) (putY false (H (x / b)) (x % b) false)) := hds_put hH1 (by omega) (x / b) (Mk.Al.putY_len false hln (x % b) false) (Mk.Al.putY_byt false hly (x % b) false)
                  have hf1 := fun (w6 : World) (hb4 : Below wz.heap.size wz w6) => freeBlock_ok (hvz.later hb4) hg hH1 hxN hxd (by omega) (show la + 1 ≤ 1000 by omega) none 0 0 [] (ii_nil w6) (fun k hk => by cases hk) rfl (by omega)
                  obtain ⟨J, hJ⟩ : ∃ J, putH I1 b (x / b) (putY false (H (x / b)) (x % b) false) = J := ⟨_, rfl⟩
                  obtain ⟨K, hK2⟩ : ∃ K, updH H (x / b) (putY false (H (x / b)) (x % b) false) = K := ⟨_, rfl⟩
                  rw [hJ, hK2] at hH5
                  rw [hJ] at hf1
                  rw [hK2] at hgv' hoff2
                  have HF : Hid (Vol wz v F2 (g * b) I1 la c2 ∧ Pt.Stp F F2 W2 wz) := ⟨hvz, hstz⟩
                  clear hv5 hst5 hms5 hvz hstz hJ hK2
                  go_upto_region 31 with fail
                  go_cut [23, 24] (fun v23 v24 wx => v24 = .int .i64 0 ∧ ∃ F6, Vol wx v F6 (g * b) J (la + 1) (c2 + 1) ∧ Pt.Stp F2 F6 wz wx)
                  case first =>
                    refine wp_region_held_drew (S := (fun w' => w'.cell? ⟨w.heap.size, 0, none⟩ = some (.int .i64 (g : Int)) ∧ w'.cell? ⟨w.heap.size, 1, none⟩ = some (.int .i64 (b : Int)) ∧ w'.cell? ⟨w.heap.size, 2, none⟩ = some (.int .i64 (i : Int)) ∧ w'.cell? ⟨p, 1, none⟩ = some (.pointer (some ⟨v, 0, none⟩)))) (by kernel_rfl) hA5.r.cells (fun hHeld => ?_)
                    refine wpAnyH_take (i := 0) (oi := { dst := some 159, op := Op.move (Operand.tmp 5), type := 24, pos := "law.go:121", after := #[], guard := none }) (v := ?_) rfl (by kernel_rfl) (by kernel_rfl) (by kernel_rfl) (fun _ _ _ h => h) (Or.inl ⟨by rfl, ?_⟩) hHeld ?_
                    rotate_left
                    · (intro w hSw; (try dsimp only at hSw); go_simp; try (with_reducible rfl))
                    simp only [Act.put, List.setIfInBounds_toArray, List.set_cons_zero, List.set_cons_succ]
                    refine wpAnyH_take (i := 1) (oi := { dst := some 160, op := Op.nilCheck (Operand.tmp 159), type := 0, pos := "law.go:121", after := #[{ on := 0, ground := Ground.data }], guard := none }) (v := ?_) rfl (by kernel_rfl) (by kernel_rfl) (by kernel_rfl) (fun _ _ _ h => h) (Or.inl ⟨by rfl, ?_⟩) hHeld ?_
                    rotate_left
                    · (intro w hSw; (try dsimp only at hSw); go_simp; try (with_reducible rfl))
                    simp only [Act.put, List.setIfInBounds_toArray, List.set_cons_zero, List.set_cons_succ]
                    refine wpAnyH_take (i := 2) (oi := { dst := some 161, op := Op.fieldAddr 33 (Operand.tmp 160) 1, type := 0, pos := "law.go:121", after := #[{ on := 1, ground := Ground.data }], guard := none }) (v := ?_) rfl (by kernel_rfl) (by kernel_rfl) (by kernel_rfl) (fun _ _ _ h => h) (Or.inl ⟨by rfl, ?_⟩) hHeld ?_
                    rotate_left
                    · (intro w hSw; (try dsimp only at hSw); go_simp; try (with_reducible rfl))
                    simp only [Act.put, List.setIfInBounds_toArray, List.set_cons_zero, List.set_cons_succ]
                    refine wpAnyH_take (i := 3) (oi := { dst := some 162, op := Op.load 29 (Operand.tmp 161), type := 29, pos := "law.go:121", after := #[{ on := 2, ground := Ground.data }], guard := none }) (v := ?_) rfl (by kernel_rfl) (by kernel_rfl) (by kernel_rfl) (fun _ _ _ h => h) (Or.inl ⟨by rfl, ?_⟩) hHeld ?_
                    rotate_left
                    · (intro w hSw; (try dsimp only at hSw); go_simp; try (with_reducible rfl))
                    simp only [Act.put, List.setIfInBounds_toArray, List.set_cons_zero, List.set_cons_succ]
                    refine wpAnyH_take (i := 4) (oi := { dst := some 163, op := Op.load 23 (Operand.tmp 2), type := 23, pos := "law.go:121", after := #[], guard := none }) (v := ?_) rfl (by kernel_rfl) (by kernel_rfl) (by kernel_rfl) (fun _ _ _ h => h) (Or.inl ⟨by rfl, ?_⟩) hHeld ?_
                    rotate_left
                    · (intro w hSw; (try dsimp only at hSw); go_simp; try (with_reducible rfl))
                    simp only [Act.put, List.setIfInBounds_toArray, List.set_cons_zero, List.set_cons_succ]
                    refine wpAnyH_take (i := 5) (oi := { dst := some 164, op := Op.move (Operand.tmp 21), type := 3, pos := "law.go:121", after := #[], guard := none }) (v := ?_) rfl (by kernel_rfl) (by kernel_rfl) (by kernel_rfl) (fun _ _ _ h => h) (Or.inl ⟨by rfl, ?_⟩) hHeld ?_
                    rotate_left
                    · (intro w hSw; (try dsimp only at hSw); go_simp; try (with_reducible rfl))
                    simp only [Act.put, List.setIfInBounds_toArray, List.set_cons_zero, List.set_cons_succ]
                    refine wpAnyH_ready (rs := [6]) (by kernel_rfl) (by simp) ?_
                    refine AllReadyH.cons (o := { dst := some 165, op := Op.call { callee := Callee.value (Operand.func 24), args := #[Operand.tmp 162, Operand.tmp 163, Operand.tmp 164, Operand.const (Value.slice none 0 0)], argTypes := #[29, 23, 3, 49] }, type := 40, pos := "law.go:121", after := #[{ on := 3, ground := Ground.data }, { on := 4, ground := Ground.data }, { on := 5, ground := Ground.data }], guard := none }) rfl (fun K hK => ?_) AllReadyH.nil
                    rw [if_pos (by rfl)]
                    go_simp
                    refine Calls.mono (hf1 _ (Below.refl _ _).drew) ?_
                    rintro e w6 ⟨hy, _⟩
                    obtain ⟨rfl, F6, hv6, hst6⟩ := hy hxon
                    dsimp only
                    have hst6 := stp_after (Below.refl _ _).drew hst6
                    have hR5 := hA5.kept hst6.fr
                    refine hK.out _ _ hR5.cells (fun hHeld => ?_)
                    clear hK K
                    try simp only [Act.put, List.setIfInBounds_toArray, List.set_cons_zero, List.set_cons_succ]
                    refine wpAnyH_take (i := 7) (oi := { dst := some 158, op := Op.move (Operand.tmp 165), type := 40, pos := "law.go:121", after := #[{ on := 6, ground := Ground.data }], guard := none }) (v := ?_) rfl (by kernel_rfl) (by kernel_rfl) (by kernel_rfl) (fun _ _ _ h => h) (Or.inl ⟨by rfl, ?_⟩) hHeld ?_
                    rotate_left
                    · (intro w hSw; (try dsimp only at hSw); go_simp; try (with_reducible rfl))
                    simp only [Act.put, List.setIfInBounds_toArray, List.set_cons_zero, List.set_cons_succ]
                    refine wpAnyH_take (i := 8) (oi := { dst := some 166, op := Op.extract (Operand.tmp 158) 0, type := 3, pos := "law.go:121", after := #[{ on := 7, ground := Ground.data }], guard := none }) (v := ?_) rfl (by kernel_rfl) (by kernel_rfl) (by kernel_rfl) (fun _ _ _ h => h) (Or.inl ⟨by rfl, ?_⟩) hHeld ?_
                    rotate_left
                    · (intro w hSw; (try dsimp only at hSw); go_simp; try (with_reducible rfl))
                    simp only [Act.put, List.setIfInBounds_toArray, List.set_cons_zero, List.set_cons_succ]
                    refine wpAnyH_take (i := 9) (oi := { dst := some 167, op := Op.extract (Operand.tmp 158) 1, type := 36, pos := "law.go:121", after := #[{ on := 7, ground := Ground.data }, { on := 10, ground := Ground.gcOnly Departure.lateStores }], guard := none }) (v := ?_) rfl (by kernel_rfl) (by kernel_rfl) (by kernel_rfl) (fun _ _ _ h => h) (Or.inl ⟨by rfl, ?_⟩) hHeld ?_
                    rotate_left
                    · (intro w hSw; (try dsimp only at hSw); go_simp; try (with_reducible rfl))
                    simp only [Act.put, List.setIfInBounds_toArray, List.set_cons_zero, List.set_cons_succ]
                    refine wpAnyH_take (i := 10) (oi := { dst := some 23, op := Op.assign (Operand.tmp 166), type := 3, pos := "law.go:121", after := #[{ on := 8, ground := Ground.data }, { on := 6, ground := Ground.chain }, { on := 0, ground := Ground.phase }, { on := 1, ground := Ground.phase }, { on := 2, ground := Ground.phase }, { on := 3, ground := Ground.phase }, { on := 4, ground := Ground.phase }, { on := 5, ground := Ground.phase }, { on := 6, ground := Ground.phase }, { on := 7, ground := Ground.phase }, { on := 8, ground := Ground.phase }, { on := 9, ground := Ground.textOnly Departure.lateStores }], guard := none }) (v := ?_) rfl (by kernel_rfl) (by kernel_rfl) (by kernel_rfl) (fun _ _ _ h => h) (Or.inl ⟨by rfl, ?_⟩) hHeld ?_
                    rotate_left
                    · (intro w hSw; (try dsimp only at hSw); go_simp; try (with_reducible rfl))
                    simp only [Act.put, List.setIfInBounds_toArray, List.set_cons_zero, List.set_cons_succ]
                    refine wpAnyH_take (i := 11) (oi := { dst := some 24, op := Op.assign (Operand.tmp 167), type := 36, pos := "law.go:121", after := #[{ on := 9, ground := Ground.data }, { on := 10, ground := Ground.chain }, { on := 0, ground := Ground.phase }, { on := 1, ground := Ground.phase }, { on := 2, ground := Ground.phase }, { on := 3, ground := Ground.phase }, { on := 4, ground := Ground.phase }, { on := 5, ground := Ground.phase }, { on := 6, ground := Ground.phase }, { on := 7, ground := Ground.phase }, { on := 8, ground := Ground.phase }, { on := 9, ground := Ground.phase }, { on := 10, ground := Ground.phase }], guard := none }) (v := ?_) rfl (by kernel_rfl) (by kernel_rfl) (by kernel_rfl) (fun _ _ _ h => h) (Or.inl ⟨by rfl, ?_⟩) hHeld ?_
                    rotate_left
                    · (intro w hSw; (try dsimp only at hSw); go_simp; try (with_reducible rfl))
                    simp only [Act.put, List.setIfInBounds_toArray, List.set_cons_zero, List.set_cons_succ]
                    refine wpAnyH_done (by kernel_rfl) ?_ _
                    go_wp2_with fail
                    go_meet
                    exact ⟨rfl, F6, hv6, hst6⟩
                  case rest =>
                    obtain ⟨rfl, F6, hv6, hst6⟩ := hcut
                    rename World => w6
                    have hA6 := hA5.go hst6
                    have hf2 := fun (w7 : World) (hb4 : Below w6.heap.size w6 w7) => freeBlock_ok (hv6.later hb4) hg hH5 hxN hxd (by omega) (show la + 1 + 1 ≤ 1000 by omega) none 0 0 [] (ii_nil w7) (fun k hk => by cases hk) rfl (by omega)
                    obtain ⟨q0, q1, q2, q3⟩ := hA6.r.cells
                    have hst7 : Pt.Stp F F6 W2 w6 := stp_trans HF.out.2 hst6
                    have HG : Hid (Vol w6 v F6 (g * b) J (la + 1) (c2 + 1) ∧ Pt.Stp F F6 W2 w6) := ⟨hv6, hst7⟩
                    clear hv6 hst6 hst7 hf1
                    go_upto_region 34 with fail
                    go_cut [25, 26] (fun v25 v26 wx => v26 = .int .i64 110 ∧ ∃ F7, Vol wx v F7 (g * b) J (la + 1) (c2 + 1 + 1) ∧ Pt.Stp F6 F7 w6 wx)
                    case first =>
                      refine wp_region_held_drew (S := (fun w' => w'.cell? ⟨w.heap.size, 0, none⟩ = some (.int .i64 (g : Int)) ∧ w'.cell? ⟨w.heap.size, 1, none⟩ = some (.int .i64 (b : Int)) ∧ w'.cell? ⟨w.heap.size, 2, none⟩ = some (.int .i64 (i : Int)) ∧ w'.cell? ⟨p, 1, none⟩ = some (.pointer (some ⟨v, 0, none⟩)))) (by kernel_rfl) hA6.r.cells (fun hHeld => ?_)
                      refine wpAnyH_take (i := 0) (oi := { dst := some 171, op := Op.move (Operand.tmp 5), type := 24, pos := "law.go:124", after := #[], guard := none }) (v := ?_) rfl (by kernel_rfl) (by kernel_rfl) (by kernel_rfl) (fun _ _ _ h => h) (Or.inl ⟨by rfl, ?_⟩) hHeld ?_
                      rotate_left
                      · (intro w hSw; (try dsimp only at hSw); go_simp; try (with_reducible rfl))
                      simp only [Act.put, List.setIfInBounds_toArray, List.set_cons_zero, List.set_cons_succ]
                      refine wpAnyH_take (i := 1) (oi := { dst := some 172, op := Op.nilCheck (Operand.tmp 171), type := 0, pos := "law.go:124", after := #[{ on := 0, ground := Ground.data }], guard := none }) (v := ?_) rfl (by kernel_rfl) (by kernel_rfl) (by kernel_rfl) (fun _ _ _ h => h) (Or.inl ⟨by rfl, ?_⟩) hHeld ?_
                      rotate_left
                      · (intro w hSw; (try dsimp only at hSw); go_simp; try (with_reducible rfl))
                      simp only [Act.put, List.setIfInBounds_toArray, List.set_cons_zero, List.set_cons_succ]
                      refine wpAnyH_take (i := 2) (oi := { dst := some 173, op := Op.fieldAddr 33 (Operand.tmp 172) 1, type := 0, pos := "law.go:124", after := #[{ on := 1, ground := Ground.data }], guard := none }) (v := ?_) rfl (by kernel_rfl) (by kernel_rfl) (by kernel_rfl) (fun _ _ _ h => h) (Or.inl ⟨by rfl, ?_⟩) hHeld ?_
                      rotate_left
                      · (intro w hSw; (try dsimp only at hSw); go_simp; try (with_reducible rfl))
                      simp only [Act.put, List.setIfInBounds_toArray, List.set_cons_zero, List.set_cons_succ]
                      refine wpAnyH_take (i := 3) (oi := { dst := some 174, op := Op.load 29 (Operand.tmp 173), type := 29, pos := "law.go:124", after := #[{ on := 2, ground := Ground.data }], guard := none }) (v := ?_) rfl (by kernel_rfl) (by kernel_rfl) (by kernel_rfl) (fun _ _ _ h => h) (Or.inl ⟨by rfl, ?_⟩) hHeld ?_
                      rotate_left
                      · (intro w hSw; (try dsimp only at hSw); go_simp; try (with_reducible rfl))
                      simp only [Act.put, List.setIfInBounds_toArray, List.set_cons_zero, List.set_cons_succ]
                      refine wpAnyH_take (i := 4) (oi := { dst := some 175, op := Op.load 23 (Operand.tmp 2), type := 23, pos := "law.go:124", after := #[], guard := none }) (v := ?_) rfl (by kernel_rfl) (by kernel_rfl) (by kernel_rfl) (fun _ _ _ h => h) (Or.inl ⟨by rfl, ?_⟩) hHeld ?_
                      rotate_left
                      · (intro w hSw; (try dsimp only at hSw); go_simp; try (with_reducible rfl))
                      simp only [Act.put, List.setIfInBounds_toArray, List.set_cons_zero, List.set_cons_succ]
                      refine wpAnyH_take (i := 5) (oi := { dst := some 176, op := Op.move (Operand.tmp 21), type := 3, pos := "law.go:124", after := #[], guard := none }) (v := ?_) rfl (by kernel_rfl) (by kernel_rfl) (by kernel_rfl) (fun _ _ _ h => h) (Or.inl ⟨by rfl, ?_⟩) hHeld ?_
                      rotate_left
                      · (intro w hSw; (try dsimp only at hSw); go_simp; try (with_reducible rfl))
                      simp only [Act.put, List.setIfInBounds_toArray, List.set_cons_zero, List.set_cons_succ]
                      refine wpAnyH_ready (rs := [6]) (by kernel_rfl) (by simp) ?_
                      refine AllReadyH.cons (o := { dst := some 177, op := Op.call { callee := Callee.value (Operand.func 24), args := #[Operand.tmp 174, Operand.tmp 175, Operand.tmp 176, Operand.const (Value.slice none 0 0)], argTypes := #[29, 23, 3, 49] }, type := 40, pos := "law.go:124", after := #[{ on := 3, ground := Ground.data }, { on := 4, ground := Ground.data }, { on := 5, ground := Ground.data }], guard := none }) rfl (fun K hK => ?_) AllReadyH.nil
                      rw [if_pos (by rfl)]
                      go_simp
                      refine Calls.mono (hf2 _ (Below.refl _ _).drew) ?_
                      rintro e w7 ⟨_, hy⟩
                      obtain ⟨rfl, F7, hv7, hst7⟩ := hy hoff2
                      dsimp only
                      have hst7 := stp_after (Below.refl _ _).drew hst7
                      have hR5 := hA6.kept hst7.fr
                      refine hK.out _ _ hR5.cells (fun hHeld => ?_)
                      clear hK K
                      try simp only [Act.put, List.setIfInBounds_toArray, List.set_cons_zero, List.set_cons_succ]
                      refine wpAnyH_take (i := 7) (oi := { dst := some 170, op := Op.move (Operand.tmp 177), type := 40, pos := "law.go:124", after := #[{ on := 6, ground := Ground.data }], guard := none }) (v := ?_) rfl (by kernel_rfl) (by kernel_rfl) (by kernel_rfl) (fun _ _ _ h => h) (Or.inl ⟨by rfl, ?_⟩) hHeld ?_
                      rotate_left
                      · (intro w hSw; (try dsimp only at hSw); go_simp; try (with_reducible rfl))
                      simp only [Act.put, List.setIfInBounds_toArray, List.set_cons_zero, List.set_cons_succ]
                      refine wpAnyH_take (i := 8) (oi := { dst := some 178, op := Op.extract (Operand.tmp 170) 0, type := 3, pos := "law.go:124", after := #[{ on := 7, ground := Ground.data }], guard := none }) (v := ?_) rfl (by kernel_rfl) (by kernel_rfl) (by kernel_rfl) (fun _ _ _ h => h) (Or.inl ⟨by rfl, ?_⟩) hHeld ?_
                      rotate_left
                      · (intro w hSw; (try dsimp only at hSw); go_simp; try (with_reducible rfl))
                      simp only [Act.put, List.setIfInBounds_toArray, List.set_cons_zero, List.set_cons_succ]
                      refine wpAnyH_take (i := 9) (oi := { dst := some 179, op := Op.extract (Operand.tmp 170) 1, type := 36, pos := "law.go:124", after := #[{ on := 7, ground := Ground.data }, { on := 10, ground := Ground.gcOnly Departure.lateStores }], guard := none }) (v := ?_) rfl (by kernel_rfl) (by kernel_rfl) (by kernel_rfl) (fun _ _ _ h => h) (Or.inl ⟨by rfl, ?_⟩) hHeld ?_
                      rotate_left
                      · (intro w hSw; (try dsimp only at hSw); go_simp; try (with_reducible rfl))
                      simp only [Act.put, List.setIfInBounds_toArray, List.set_cons_zero, List.set_cons_succ]
                      refine wpAnyH_take (i := 10) (oi := { dst := some 25, op := Op.assign (Operand.tmp 178), type := 3, pos := "law.go:124", after := #[{ on := 8, ground := Ground.data }, { on := 6, ground := Ground.chain }, { on := 0, ground := Ground.phase }, { on := 1, ground := Ground.phase }, { on := 2, ground := Ground.phase }, { on := 3, ground := Ground.phase }, { on := 4, ground := Ground.phase }, { on := 5, ground := Ground.phase }, { on := 6, ground := Ground.phase }, { on := 7, ground := Ground.phase }, { on := 8, ground := Ground.phase }, { on := 9, ground := Ground.textOnly Departure.lateStores }], guard := none }) (v := ?_) rfl (by kernel_rfl) (by kernel_rfl) (by kernel_rfl) (fun _ _ _ h => h) (Or.inl ⟨by rfl, ?_⟩) hHeld ?_
                      rotate_left
                      · (intro w hSw; (try dsimp only at hSw); go_simp; try (with_reducible rfl))
                      simp only [Act.put, List.setIfInBounds_toArray, List.set_cons_zero, List.set_cons_succ]
                      refine wpAnyH_take (i := 11) (oi := { dst := some 26, op := Op.assign (Operand.tmp 179), type := 36, pos := "law.go:124", after := #[{ on := 9, ground := Ground.data }, { on := 10, ground := Ground.chain }, { on := 0, ground := Ground.phase }, { on := 1, ground := Ground.phase }, { on := 2, ground := Ground.phase }, { on := 3, ground := Ground.phase }, { on := 4, ground := Ground.phase }, { on := 5, ground := Ground.phase }, { on := 6, ground := Ground.phase }, { on := 7, ground := Ground.phase }, { on := 8, ground := Ground.phase }, { on := 9, ground := Ground.phase }, { on := 10, ground := Ground.phase }], guard := none }) (v := ?_) rfl (by kernel_rfl) (by kernel_rfl) (by kernel_rfl) (fun _ _ _ h => h) (Or.inl ⟨by rfl, ?_⟩) hHeld ?_
                      rotate_left
                      · (intro w hSw; (try dsimp only at hSw); go_simp; try (with_reducible rfl))
                      simp only [Act.put, List.setIfInBounds_toArray, List.set_cons_zero, List.set_cons_succ]
                      refine wpAnyH_done (by kernel_rfl) ?_ _
                      go_wp2_with fail
                      go_meet
                      exact ⟨rfl, F7, hv7, hst7⟩
                    case rest =>
                      obtain ⟨rfl, F7, hv7, hst7⟩ := hcut
                      rename World => w7
                      have hA7 := hA6.go hst7
                      have hst8 : Pt.Stp F F7 W2 w7 := stp_trans HG.out.2 hst7
                      have HI : Hid (Vol w7 v F7 (g * b) J (la + 1) (c2 + 1 + 1) ∧ Pt.Stp F F7 W2 w7) := ⟨hv7, hst8⟩
                      have hms7 := hA7.s
                      have hkb9 : x < 9223372036854775808 := by omega
                      clear hv7 hst7 hst8 hf2
                      go_wp2_with (first | (refine wpList_del_nset _ rfl _ _ rfl hms7 x hkb9 rfl rfl ?_; intro w8 n8 hn8 hms8 hg8))
                      go_roundw
                      case rel =>
                        obtain ⟨hv7, hst8⟩ := HI.out
                        refine ⟨j + 1, K, F7, J, la + 1, c2 + 1 + 1, n8, upd S x false, by omega, by go_num, by omega, by omega, by omega, by omega, hv7.else hg8.size (fun q hq => hg8.block q (hv7.lt q hq) (fun e => by cases e; exact hA7.m hq)), hH5, stp_low hst8 (below_grown hg8 hms7.lt (by rw [HW.out]; exact Nat.le_refl _)), hA7.m, hms8, hgv'⟩
                      case measure => simp [intOf]; omega
    · have hjI : ¬ ((j : Int) < (m : Int)) := by omega
      go_wp2_with fail
      go_ret
      exact ⟨rfl, hbend _ _ hst⟩
end Go.Proofs.YthdlpeejmmobmaaGreat
