/- SF -/
import Derived.Test.YthdlpeejmmobmaaGreatAf01
import Derived.WalkKit
import Derived.WalkSpells
import Derived.WalkLawsBesides
import Derived.BigQuiet
import Derived.Deep.QuietTactic
import Derived.Laws.CopyOwn
import Derived.Lib.Bytes
import Derived.Defers
import Derived.Recover
import Derived.Lib.BufferWrite
import Derived.Lib.SlBuf
import Derived.Deep.RegionHeld3
import Derived.Deep.MidRow
import Derived.Deep.WholeRow
import Derived.Maps.OwnSet
import Derived.Maps.Views
import Derived.Maps.OwnOps
import Derived.Conc.MuLone
import Derived.KernelRfl
import Derived.Laws.Tables
import Derived.Deep.RegionLaw
import Derived.Deep.AppendLies
import Derived.Shelf.SlIterI.Stops
import Derived.RangeFuncNested
import Derived.RangeFuncBound
import Derived.RangeFuncCalls
import Derived.RangeFuncLeaves
import Derived.RangeFuncBox
import Derived.Shelf.Abstract
import Derived.Shelf.RegionOpen
import Derived.OwnWalkIn
import Derived.TacticsInMore
import Derived.LoopNIn
import Derived.LoopIn
import Derived.Sort.WalkA
import Derived.Sort.LotA
import Derived.Deep.DeepCutAuto
import Derived.Laws.EntriesVeiled
import Derived.Maps.AppendAt
import Derived.RangeFuncRecord
import Derived.Shelf.Small.Bits
import Derived.Shelf.Small.Wraps
import Derived.Shelf.Strconv.Itoa0
import Derived.Shelf.Sort.Plain
import Derived.Shelf.Bits.Mul64
import Derived.Shelf.Slices.Turned
import Derived.Shelf.Slices.Equal
import Derived.Ground.Names2Prog
import Derived.Shelf.Slices.Clone
import Derived.Shelf.Slices.CompactI
import Derived.Shelf.Slices.SearchI
import Derived.Shelf.Slices.Cells
import Derived.Shelf.Slices.In.SortNone
import Derived.Shelf.Slices.Empties2
import Derived.Shelf.Bytes.SlSearch0
import Derived.Ground.SlbCloneProg
import Derived.Shelf.Bytes.SlClone
import Derived.Ground.SlgnProg
import Derived.Shelf.SlicesE.Clone
import Derived.Shelf.Bytes.SlEqualAll
import Derived.Shelf.Bytes.Small
import Derived.Laws.CopyRow
import Derived.OneCell
import Derived.Maps.RangeWalk
import Derived.Deep.AppendSrc
import Derived.Laws.IdiomRangeMap
import Derived.Lib.AppendZerosOnto
import Derived.Laws.ResultCell
import Derived.DeepKeys2
import Derived.Deep.CutBlock
import Derived.WalkMore
import Derived.Deep.LoopGhost
import Derived.Deep.Slices
import Derived.Deep.Grids
import Derived.ProofKit
import Derived.OpenShut
import Derived.ShutString
import Derived.ChangeOld
import Derived.SizedLaws
import Derived.Lib.SmallJoins

namespace Go.Proofs.YthdlpeejmmobmaaGreat
open Go.RowKit Go.Maps
set_option linter.unusedVariables false
set_option maxRecDepth 100000

theorem blk_mod (z : Int) {g : Nat} (hg : 0 < g) (h8 : g ≤ 2048) : ∃ n : Nat, (IntKind.u64.wrap z).tmod (g : Int) = (n : Int) ∧ n < g ∧ wrap64 (n : Int) = (n : Int) := by
  have h0 : 0 ≤ IntKind.u64.wrap z := by rw [IntKind.wrap_u64]; omega
  have h1 : (IntKind.u64.wrap z).tmod (g : Int) = (IntKind.u64.wrap z) % (g : Int) := Int.tmod_eq_emod_of_nonneg h0
  have h2 := Int.emod_nonneg (IntKind.u64.wrap z) (show (g : Int) ≠ 0 by omega)
  have h3 := Int.emod_lt_of_pos (IntKind.u64.wrap z) (show (0 : Int) < g by omega)
  generalize (IntKind.u64.wrap z) % (g : Int) = x at *
  refine ⟨x.toNat, ?_, ?_, IntWalk.wrap64_in _ ⟨by omega, by omega⟩⟩
  · rw [h1]; omega
  · omega

theorem nil_ii (w : World) : Pt.II w none 0 [] := ⟨rfl, by omega, fun x hx => (by cases hx), fun h => absurd h (by omega)⟩
theorem byte_bi {w : World} {k : Nat} {y : Int} (h : w.heap[k]? = some (.cells #[.int .u8 y] 5 (0, 0))) (hy : 0 ≤ y ∧ y < 256) : BI w (some ⟨k, 0, none⟩) 1 [y] :=
  ⟨rfl, by omega, fun i => by cases i with
    | zero => exact hy
    | succ i => simp, fun _ => ⟨k, 0, rfl, fun i hi => by
    obtain rfl : i = 0 := by omega
    exact cell_of_row _ _ 0 _ _ _ h⟩⟩
theorem may_zero (n : Nat) : Pt.mayAt (n : Int) ((0 : Nat) : Int) 1 := by unfold Pt.mayAt; omega
theorem now_changedV {T T' : Vs} {b o : Nat} {xs zs : List Int} (h : ChangedV T T' b o xs zs) : nowOf T' = updI (nowOf T) b o xs :=
  now_changed (T' := { T' with C := T.C }) ⟨h.ex, h.last, h.S, rfl, h.Y, h.x, h.N⟩
set_option maxHeartbeats 4000000 in
theorem snapFull_walk (G B Q bb xx : Int) (w : World) : Calls Tryz.prog 3 #[Mk.geomV G B Q, .int .i64 bb, .int .i64 xx] w fun e w' => e = .returned (.bool true) ∧ Below w.heap.size w w' := by
  obtain ⟨W, hW⟩ : ∃ W, w.alloc (Mk.geomO G B Q) = W := ⟨_, rfl⟩
  have hb : Below w.heap.size w W := by rw [← hW]; exact Mk.grew_alloc _ _
  have hx : W.heap[w.heap.size]? = some (Mk.geomO G B Q) := by rw [← hW]; exact at_new rfl
  have hsz : W.heap.size = w.heap.size + 1 := by rw [← hW]; simp
  have c0 := (g3_of hx).c0
  have c1 := (g3_of hx).c1
  have c2 := (g3_of hx).c2
  have hfr := fun w => fresh_ok G B Q w
  go_enter Tryz.func3, Tryz.ntmps3
  go_wp2_with fail
  refine Calls.mono (hfr _) ?_
  rintro e w1 ⟨g, b, i, hm, hfp⟩
  obtain ⟨p, v, F, pd, px, py, rfl, hpr, hv, hF, hplo, hb1⟩ := fr_vol hfp
  have hg := geo_of hm
  have hfit := hg.fit
  have hx1 := (hb1.block _ (Array.getElem?_eq_some_iff.1 hx).1).trans hx
  obtain ⟨W2, hW2⟩ : ∃ W2, w1.setRow w.heap.size #[.int .i64 (g : Int), .int .i64 (b : Int), .int .i64 (i : Int)] = W2 := ⟨_, rfl⟩
  have hx2 : W2.heap[w.heap.size]? = some (Mk.geomO g b i) := by rw [← hW2]; exact setRow_heap _ _ _ _ _ _ hx1
  have hs1 := hb1.size
  have hb2 : Below w.heap.size w W2 := by rw [← hW2]; exact below_setRow (hb.trans (hb1.mono (by omega))) (Nat.le_refl _) _
  have ho2 : ∀ k, W.heap.size ≤ k → W2.heap[k]? = w1.heap[k]? := fun k hk => by rw [← hW2]; exact setRow_other _ _ _ _ (by omega)
  have hsz2 : W2.heap.size = w1.heap.size := by rw [← hW2]; simp [World.setRow]
  have hv2 : Vol W2 v F (g * b) (nimg g b i) 0 0 := hv.else (by omega) fun k hk => ho2 k (hF k hk).1
  have hp2 := (ho2 p hplo).trans hpr
  have c0 := (g3_of hx2).c0
  have c1 := (g3_of hx2).c1
  have c2 := (g3_of hx2).c2
  have k1 : W2.cell? ⟨p, 1, none⟩ = some (.pointer (some ⟨v, 0, none⟩)) := cell_of_row _ _ 1 _ 33 _ hp2
  have HC : Hid (Below w.heap.size w W2 ∧ W2.heap[p]? = some (.cells #[pd, .pointer (some ⟨v, 0, none⟩), px, py] 33 (0, 0)) ∧ w.heap.size + 1 ≤ p ∧ (∀ k, F k → w.heap.size + 1 ≤ k ∧ k ≠ p)) := ⟨hb2, hp2, by omega, fun k hk => ⟨by have := (hF k hk).1; omega, (hF k hk).2⟩⟩
  have h1c : (#[.int .i64 (g : Int), .int .i64 (b : Int), .int .i64 (i : Int)] : Array Value).all (·.oneCell') = true := by simp [Value.oneCell']
  have hbl := fun (w4 : World) (hb4 : Below W2.heap.size W2 w4) => vol_blocks (hv2.later hb4)
  have HV : Hid (Vol W2 v F (g * b) (nimg g b i) 0 0) := hv2
  clear hfp hv hF hb1 hpr hb hfr hW hs1 hb2 ho2 hv2 hp2
  dsimp only
  go_wp2_with (first
    | (refine wpList_store_row rfl 23 _ _ rfl w.heap.size #[.int .i64 (g : Int), .int .i64 (b : Int), .int .i64 (i : Int)] rfl rfl 23 _ hx1 Mk.info23 rfl h1c ?_; rw [hW2]))
  refine Calls.mono (hbl _ (Below.refl _ _)) ?_
  rintro e w3 ⟨rfl, rfl⟩
  dsimp only
  obtain ⟨NB, hNB⟩ : ∃ NB, g * b = NB := ⟨_, rfl⟩
  rw [hNB] at hg hbl HV ⊢
  have hNb : NB ≤ 2048 := hg.fit.2.2.2.2.2
  have hN0 : 0 < NB := by have := hg.hd (n := 0) (k := 0) (by omega) (by omega); omega
  obtain ⟨n, hnn, hnG, hwn⟩ := blk_mod bb hN0 hNb
  have HN : Hid ((IntKind.u64.wrap bb).tmod (NB : Int) = (n : Int) ∧ wrap64 (n : Int) = (n : Int)) := ⟨hnn, hwn⟩
  have hgn : ¬ ((NB : Int) = 0) := by omega
  clear hnn hwn hW2
  go_upto_region 5 with fail
  rw [HN.out.1, HN.out.2]
  obtain ⟨B0, A, T, hvi, hAv, hFp, hTN, hTx, hTY, hTI, hTl, hTP, hTc⟩ := HV.out.ex
  subst hAv
  subst hFp
  have hp3 := HC.out.2.1
  have hR : R4 w3 w.heap.size p A.v g b i pd px py := ⟨hx2, hp3⟩
  have hnF : ¬ fp A T w.heap.size ∧ ¬ fp A T p := ⟨fun hF => by have := HC.out.2.2.2 _ hF; omega, fun hF => (HC.out.2.2.2 _ hF).2 rfl⟩
  have htk := fun (w4 : World) (hb4 : Below w3.heap.size w3 w4) => take_ok (hvi.later hb4) hTx ((HV.out.later hb4).has) hg
  have HT : Hid (VI 0 B0 w3 A T ∧ T.S.N = NB ∧ T.x = none ∧ T.last = 0 ∧ T.P.length = 0 ∧ T.C.hi + T.C.mi = 0) := ⟨hvi, hTN, hTx, hTl, hTP, hTc⟩
  clear hgn hbl hvi hTN hTx hTY hTI hTl hTP hTc
  go_cut [9, 10] (fun v9 v10 wx => v10 = .int .i64 0 ∧ ∃ s V, v9 = .pointer (some ⟨s, 0, none⟩) ∧ SRow wx s A.v g b i ∧ VI 0 B0 wx A { T with x := some ⟨V.x, 0, none⟩ } ∧ VW wx A { T with x := some ⟨V.x, 0, none⟩ } V ∧ V.K = (fun _ => none) ∧ V.room = 0 ∧ w3.heap.size ≤ V.x ∧ w3.heap.size ≤ V.m ∧ w3.heap.size ≤ s ∧ s ≠ V.x ∧ s ≠ V.m ∧ Pt.Stp (fp A T) (fp A T) w3 wx)
  case first =>
    refine wp_region_held_drew (S := (fun w' => w'.cell? ⟨w.heap.size, 0, none⟩ = some (.int .i64 (g : Int)) ∧ w'.cell? ⟨w.heap.size, 1, none⟩ = some (.int .i64 (b : Int)) ∧ w'.cell? ⟨w.heap.size, 2, none⟩ = some (.int .i64 (i : Int)) ∧ w'.cell? ⟨p, 1, none⟩ = some (.pointer (some ⟨A.v, 0, none⟩)))) (by kernel_rfl) hR.cells (fun hHeld => ?_)
    refine wpAnyH_take (i := 0) (oi := { dst := some 34, op := Op.move (Operand.tmp 7), type := 24, pos := "law.go:142", after := #[], guard := none }) (v := ?_) rfl (by kernel_rfl) (by kernel_rfl) (by kernel_rfl) (fun _ _ _ h => h) (Or.inl ⟨by rfl, ?_⟩) hHeld ?_
    rotate_left
    · (intro w hSw; (try dsimp only at hSw); go_simp; try (with_reducible rfl))
    simp only [Act.put, List.setIfInBounds_toArray, List.set_cons_zero, List.set_cons_succ]
    refine wpAnyH_take (i := 1) (oi := { dst := some 35, op := Op.nilCheck (Operand.tmp 34), type := 0, pos := "law.go:142", after := #[{ on := 0, ground := Ground.data }], guard := none }) (v := ?_) rfl (by kernel_rfl) (by kernel_rfl) (by kernel_rfl) (fun _ _ _ h => h) (Or.inl ⟨by rfl, ?_⟩) hHeld ?_
    rotate_left
    · (intro w hSw; (try dsimp only at hSw); go_simp; try (with_reducible rfl))
    simp only [Act.put, List.setIfInBounds_toArray, List.set_cons_zero, List.set_cons_succ]
    refine wpAnyH_take (i := 2) (oi := { dst := some 36, op := Op.fieldAddr 33 (Operand.tmp 35) 1, type := 0, pos := "law.go:142", after := #[{ on := 1, ground := Ground.data }], guard := none }) (v := ?_) rfl (by kernel_rfl) (by kernel_rfl) (by kernel_rfl) (fun _ _ _ h => h) (Or.inl ⟨by rfl, ?_⟩) hHeld ?_
    rotate_left
    · (intro w hSw; (try dsimp only at hSw); go_simp; try (with_reducible rfl))
    simp only [Act.put, List.setIfInBounds_toArray, List.set_cons_zero, List.set_cons_succ]
    refine wpAnyH_take (i := 3) (oi := { dst := some 37, op := Op.load 29 (Operand.tmp 36), type := 29, pos := "law.go:142", after := #[{ on := 2, ground := Ground.data }], guard := none }) (v := ?_) rfl (by kernel_rfl) (by kernel_rfl) (by kernel_rfl) (fun _ _ _ h => h) (Or.inl ⟨by rfl, ?_⟩) hHeld ?_
    rotate_left
    · (intro w hSw; (try dsimp only at hSw); go_simp; try (with_reducible rfl))
    simp only [Act.put, List.setIfInBounds_toArray, List.set_cons_zero, List.set_cons_succ]
    refine wpAnyH_take (i := 4) (oi := { dst := some 38, op := Op.load 23 (Operand.tmp 3), type := 23, pos := "law.go:142", after := #[], guard := none }) (v := ?_) rfl (by kernel_rfl) (by kernel_rfl) (by kernel_rfl) (fun _ _ _ h => h) (Or.inl ⟨by rfl, ?_⟩) hHeld ?_
    rotate_left
    · (intro w hSw; (try dsimp only at hSw); go_simp; try (with_reducible rfl))
    simp only [Act.put, List.setIfInBounds_toArray, List.set_cons_zero, List.set_cons_succ]
    refine wpAnyH_ready (rs := [5]) (by kernel_rfl) (by simp) ?_
    refine AllReadyH.cons (o := { dst := some 39, op := Op.call { callee := Callee.value (Operand.func 14), args := #[Operand.tmp 37, Operand.tmp 38, Operand.const (Value.int IntKind.i64 1), Operand.const (Value.int IntKind.i64 0)], argTypes := #[29, 23, 3, 3] }, type := 37, pos := "law.go:142", after := #[{ on := 3, ground := Ground.data }, { on := 4, ground := Ground.data }], guard := none }) rfl (fun K hK => ?_) AllReadyH.nil
    rw [if_pos (by rfl)]
    go_simp
    refine Calls.mono (htk _ (Below.refl _ _).drew) ?_
    rintro e w5 ⟨s, rfl, hs, V, hvi, hV, hVK, hr0, hxl, hml, hsl, hsx, hsm, hst⟩
    dsimp only
    have hR5 : R4 w5 w.heap.size p A.v g b i pd px py := hR.keptIf (hst.fr.block _ hR.lt.1 hnF.1) (hst.fr.block _ hR.lt.2 hnF.2)
    refine hK.out _ _ hR5.cells (fun hHeld => ?_)
    clear hK K
    try simp only [Act.put, List.setIfInBounds_toArray, List.set_cons_zero, List.set_cons_succ]
    refine wpAnyH_take (i := 6) (oi := { dst := some 33, op := Op.move (Operand.tmp 39), type := 37, pos := "law.go:142", after := #[{ on := 5, ground := Ground.data }], guard := none }) (v := ?_) rfl (by kernel_rfl) (by kernel_rfl) (by kernel_rfl) (fun _ _ _ h => h) (Or.inl ⟨by rfl, ?_⟩) hHeld ?_
    rotate_left
    · (intro w hSw; (try dsimp only at hSw); go_simp; try (with_reducible rfl))
    simp only [Act.put, List.setIfInBounds_toArray, List.set_cons_zero, List.set_cons_succ]
    refine wpAnyH_take (i := 7) (oi := { dst := some 40, op := Op.extract (Operand.tmp 33) 0, type := 35, pos := "law.go:142", after := #[{ on := 6, ground := Ground.data }], guard := none }) (v := ?_) rfl (by kernel_rfl) (by kernel_rfl) (by kernel_rfl) (fun _ _ _ h => h) (Or.inl ⟨by rfl, ?_⟩) hHeld ?_
    rotate_left
    · (intro w hSw; (try dsimp only at hSw); go_simp; try (with_reducible rfl))
    simp only [Act.put, List.setIfInBounds_toArray, List.set_cons_zero, List.set_cons_succ]
    refine wpAnyH_take (i := 8) (oi := { dst := some 41, op := Op.extract (Operand.tmp 33) 1, type := 36, pos := "law.go:142", after := #[{ on := 6, ground := Ground.data }, { on := 9, ground := Ground.gcOnly Departure.lateStores }], guard := none }) (v := ?_) rfl (by kernel_rfl) (by kernel_rfl) (by kernel_rfl) (fun _ _ _ h => h) (Or.inl ⟨by rfl, ?_⟩) hHeld ?_
    rotate_left
    · (intro w hSw; (try dsimp only at hSw); go_simp; try (with_reducible rfl))
    simp only [Act.put, List.setIfInBounds_toArray, List.set_cons_zero, List.set_cons_succ]
    refine wpAnyH_take (i := 9) (oi := { dst := some 9, op := Op.assign (Operand.tmp 40), type := 35, pos := "law.go:142", after := #[{ on := 7, ground := Ground.data }, { on := 5, ground := Ground.chain }, { on := 0, ground := Ground.phase }, { on := 1, ground := Ground.phase }, { on := 2, ground := Ground.phase }, { on := 3, ground := Ground.phase }, { on := 4, ground := Ground.phase }, { on := 5, ground := Ground.phase }, { on := 6, ground := Ground.phase }, { on := 7, ground := Ground.phase }, { on := 8, ground := Ground.textOnly Departure.lateStores }], guard := none }) (v := ?_) rfl (by kernel_rfl) (by kernel_rfl) (by kernel_rfl) (fun _ _ _ h => h) (Or.inl ⟨by rfl, ?_⟩) hHeld ?_
    rotate_left
    · (intro w hSw; (try dsimp only at hSw); go_simp; try (with_reducible rfl))
    simp only [Act.put, List.setIfInBounds_toArray, List.set_cons_zero, List.set_cons_succ]
    refine wpAnyH_take (i := 10) (oi := { dst := some 10, op := Op.assign (Operand.tmp 41), type := 36, pos := "law.go:142", after := #[{ on := 8, ground := Ground.data }, { on := 9, ground := Ground.chain }, { on := 0, ground := Ground.phase }, { on := 1, ground := Ground.phase }, { on := 2, ground := Ground.phase }, { on := 3, ground := Ground.phase }, { on := 4, ground := Ground.phase }, { on := 5, ground := Ground.phase }, { on := 6, ground := Ground.phase }, { on := 7, ground := Ground.phase }, { on := 8, ground := Ground.phase }, { on := 9, ground := Ground.phase }], guard := none }) (v := ?_) rfl (by kernel_rfl) (by kernel_rfl) (by kernel_rfl) (fun _ _ _ h => h) (Or.inl ⟨by rfl, ?_⟩) hHeld ?_
    rotate_left
    · (intro w hSw; (try dsimp only at hSw); go_simp; try (with_reducible rfl))
    simp only [Act.put, List.setIfInBounds_toArray, List.set_cons_zero, List.set_cons_succ]
    refine wpAnyH_done (by kernel_rfl) ?_ _
    go_wp2_with fail
    go_meet
    exact ⟨rfl, s, V, rfl, hs, hvi, hV, hVK, hr0, hxl, hml, hsl, hsx, hsm, stp_after (Below.refl _ _).drew hst⟩
  case rest =>
    obtain ⟨rfl, s, V, rfl, hs, hvi, hV, hK, hr0, hxl, hml, hsl, hsx, hsm, hst⟩ := hcut
    rename World => w4
    have hR4 : R4 w4 w.heap.size p A.v g b i pd px py := hR.keptIf (hst.fr.block _ hR.lt.1 hnF.1) (hst.fr.block _ hR.lt.2 hnF.2)
    have hsF : ¬ fp A T s := fun hf => by have := HT.out.1.lt _ hf; omega
    have hold : ∀ k, k ≠ s → (w4.setCell ⟨s, 0, none⟩ (.int .i32 1)).heap[k]? = w4.heap[k]? := fun k hk => Below.heap_setCell _ _ _ _ hk
    have hszs : (w4.setCell ⟨s, 0, none⟩ (.int .i32 1)).heap.size = w4.heap.size := by simp
    have hvS := hvi.else (w' := w4.setCell ⟨s, 0, none⟩ (.int .i32 1)) (by omega) (fun k hk => hold k (fun e => hsF (e ▸ hk)))
    have hVS := hV.stay (w' := w4.setCell ⟨s, 0, none⟩ (.int .i32 1)) (T' := { T with x := some ⟨V.x, 0, none⟩ }) (by omega) (fun k hk => hold k (fun e => by
      rcases hk with h9 | h9 | ⟨b9, s9, h9, _⟩
      · exact hsx (by omega)
      · exact hsm (by omega)
      · rw [hK] at h9; cases h9)) rfl hV.out
    have hbk := snapBroken_ok hs false (vBroken_ok hvS hVS)
    have hkp : Calls Tryz.prog 118 #[.pointer (some ⟨A.v, 0, none⟩)] (w4.setCell ⟨s, 0, none⟩ (.int .i32 1)) fun e w' => e = .returned (.int .i64 0) ∧ w' = w4.setCell ⟨s, 0, none⟩ (.int .i32 1) := (vKept_ok hvS hVS).mono fun e w' ⟨n, h1, h2, h3⟩ => by
      rw [hr0] at h2
      obtain rfl : n = 0 := by omega
      exact ⟨h1, h3⟩
    have hkk := snapKept_ok hs hkp
    clear hkp hvS hVS
    obtain ⟨r0, r1, r2, r3⟩ := hR4.cells
    go_wp2_with (first
      | (go_at_call 15; refine same_at hbk ?_)
      | (go_at_call 16; refine same_at hkk ?_))
    obtain ⟨w5, hw5⟩ : ∃ w5, w4.alloc (Obj.cells #[.int .u8 (xx % 256)] 5) = w5 := ⟨_, rfl⟩
    rw [hw5]
    have hb5 : Below w4.heap.size w4 w5 := by rw [← hw5]; exact Mk.grew_alloc _ _
    have hn5 : w5.heap[w4.heap.size]? = some (.cells #[.int .u8 (xx % 256)] 5 (0, 0)) := by rw [← hw5]; exact at_new rfl
    obtain ⟨y, hy⟩ : ∃ y, xx % 256 = y := ⟨_, rfl⟩
    have hyb : 0 ≤ y ∧ y < 256 := by rw [← hy]; exact ⟨Int.emod_nonneg _ (by omega), Int.emod_lt_of_pos _ (by omega)⟩
    rw [hy] at hn5
    have hbi : BI w5 (some ⟨w4.heap.size, 0, none⟩) 1 [y] := byte_bi hn5 hyb
    obtain ⟨hT1, hT2, hT3, hT4, hT5, hT6⟩ := HT.out
    have hvi5 := hvi.later hb5
    have hV5 := hV.later hb5
    have hs5 := hs.kept (hb5.block _ hs.lt)
    have hR5 := hR4.kept hb5
    have hch := vChangeB_ok hvi5 hV5 hK hr0 (show T.C.hi + T.C.mi < _ by omega) (show T.last + 1 ≤ 1000 by omega) n 0 (show n < T.S.N by omega) (some ⟨w4.heap.size, 0, none⟩) 1 1 [y] hbi (fun k hk hf => by have h9 := hvi.lt k hf; simp [Pt.blkOf] at hk; omega) (may_zero n) none 0 0 [] (nil_ii w5) (fun k hk => by cases hk) rfl (by show (0 + T.P.length) * 8 ≤ _; omega)
    have hs4 := hst.fr.size
    have hlt5 := hV5.lt V.x (.inl rfl)
    have HS : Hid (Pt.Stp (fp A T) (fp A T) w3 w4 ∧ w3.heap.size ≤ V.x ∧ VI 0 B0 w3 A T ∧ Below w4.heap.size w4 w5 ∧ xx % 256 = y) := ⟨hst, hxl, hT1, hb5, hy⟩
    clear hvi hV hs hR4 hbi hn5 hw5 hbk hkk hst hold hszs hb5 hT1
    refine Calls.mono hch ?_
    rintro e w6 ⟨rfl, T6, hvi6, hVB, hcv, hnw6, hfr6⟩
    have hs6 := hs5.kept (hfr6.block _ hs5.lt (fun h => h.elim hsF hsx))
    have hR6 : R4 w6 w.heap.size p A.v g b i pd px py := hR5.keptIf (hfr6.block _ hR5.lt.1 (fun h => h.elim hnF.1 (fun e => by have := hR.lt.1; have := HS.out.2.1; omega))) (hfr6.block _ hR5.lt.2 (fun h => h.elim hnF.2 (fun e => by have := hR.lt.2; have := HS.out.2.1; omega)))
    have hfp6 : ¬ fp A T6 s := fun hf => (hnw6 _ hf).elim hsF (fun h9 => by have := hs5.lt; omega)
    have hnF6 : ¬ fp A T6 w.heap.size ∧ ¬ fp A T6 p := ⟨fun hf => (hnw6 _ hf).elim hnF.1 (fun h9 => by have := hR5.lt.1; omega), fun hf => (hnw6 _ hf).elim hnF.2 (fun h9 => by have := hR5.lt.2; omega)⟩
    have holdS : ∀ k, k ≠ s → (w6.setCell ⟨s, 0, none⟩ (.int .i32 1)).heap[k]? = w6.heap[k]? := fun k hk => Below.heap_setCell _ _ _ _ hk
    have hszS : (w6.setCell ⟨s, 0, none⟩ (.int .i32 1)).heap.size = w6.heap.size := by simp
    have hvS := hvi6.else (w' := w6.setCell ⟨s, 0, none⟩ (.int .i32 1)) (by omega) (fun k hk => holdS k (fun e => hfp6 (e ▸ hk)))
    have hVS := hVB.stay (w' := w6.setCell ⟨s, 0, none⟩ (.int .i32 1)) (T' := T6) (by omega) (holdS _ (fun e => hsx e.symm)) rfl hVB.out
    have hbk := snapBroken_ok hs6 true (vBrokenB_ok hvS hVS)
    have hrd6 := snapRead_ok hs6 (n : Int) (vOldB_ok hvS hVS (n : Int))
    obtain ⟨q0, q1, q2, q3⟩ := hR6.cells
    clear hvS hVS hch
    dsimp only
    go_wp2_with (first
      | (go_at_call 15; refine same_at hbk ?_)
      | (go_at_call 18; refine same_at hrd6 ?_))
    have hN6 : n < T6.S.N := by rw [hcv.S]; show n < T.S.N; omega
    have hvr := vRead_ok hvi6 n hN6 (by have h8 := hcv.C; have h9 : ({ T with x := some ⟨V.x, 0, none⟩ } : Vs).C = T.C := rfl; rw [h9] at h8; omega)
    have hnow : (nowOf T6 n).getD 0 0 = y := by
      rw [now_changedV hcv]
      unfold updI lay
      rw [if_pos rfl]
      simp
    refine Calls.mono hvr ?_
    rintro e w7 ⟨q7, cap7, C7, rfl, hO, hnq, hvi7, hst7, _⟩
    have hbq := hO.bi (by omega) (now_sect hvi6 n).2
    obtain ⟨qb, qo, hqe, hqc⟩ := hbq.cells (by omega)
    have hq0 := hqc 0 (by omega)
    rw [hnow] at hq0
    cases hqe
    have hs7 := hs6.kept (hst7.fr.block _ hs6.lt hfp6)
    have hVB7 := hVB.stp hst7 rfl
    have hfp7 : ¬ fp A { T6 with C := C7 } s := fun hf => (hst7.new _ hf).elim hfp6 (fun h9 => by have : w6.heap.size ≤ s := h9; have := hs6.lt; omega)
    have holdS : ∀ k, k ≠ s → (w7.setCell ⟨s, 0, none⟩ (.int .i32 1)).heap[k]? = w7.heap[k]? := fun k hk => Below.heap_setCell _ _ _ _ hk
    have hszS : (w7.setCell ⟨s, 0, none⟩ (.int .i32 1)).heap.size = w7.heap.size := by simp
    have hvS := hvi7.else (w' := w7.setCell ⟨s, 0, none⟩ (.int .i32 1)) (by omega) (fun k hk => holdS k (fun e => hfp7 (e ▸ hk)))
    have hVS := hVB7.stay (w' := w7.setCell ⟨s, 0, none⟩ (.int .i32 1)) (T' := { T6 with C := C7 }) (by omega) (holdS _ (fun e => hsx e.symm)) rfl hVB7.out
    have hsA : s ≠ A.v := fun e => hsF (.inl e)
    have hdr := snapDrop_ok hs7 hsA ((vThaw_ok hvS hVS).mono fun e w' h => ⟨h.1, h.2.2⟩)
    have hR7 : R4 w7 w.heap.size p A.v g b i pd px py := hR6.keptIf (hst7.fr.block _ hR6.lt.1 hnF6.1) (hst7.fr.block _ hR6.lt.2 hnF6.2)
    obtain ⟨u0, u1, u2, u3⟩ := hR7.cells
    have hy := HS.out.2.2.2.2
    have HE : Hid (Pt.Stp (fp A T6) (fp A { T6 with C := C7 }) w6 w7) := hst7
    clear hvS hVS hvr hO hbq hqc hbk hrd6 hst7 holdS hszS
    dsimp only
    go_wp2_with fail
    refine Calls.mono hdr ?_
    rintro e w8 ⟨rfl, hfr8⟩
    dsimp only
    go_wp2_with fail
    go_ret
    obtain ⟨hst, hxl, hT1, hb5, _⟩ := HS.out
    have hlo : ∀ k, fp A T k → w.heap.size ≤ k := fun k hk => by have := (HC.out.2.2.2 k hk).1; omega
    have z0 := HC.out.1.size
    have z1 := hst.fr.size
    have z2 := hb5.size
    have z3 := hfr6.size
    have z4 := HE.out.fr.size
    have y1 : Below w.heap.size w3 w4 := hst.fr.below (by omega) hlo
    have y2 : Below w.heap.size w5 w6 := hfr6.below (by omega) (fun k hk => hk.elim (hlo k) (fun e => by omega))
    have y3 : Below w.heap.size w6 w7 := HE.out.fr.below (by omega) (fun k hk => (hnw6 k hk).elim (hlo k) (fun e => by omega))
    have y4 : Below w.heap.size w7 w8 := hfr8.below (by omega) (fun k hk => hk.elim (fun e => by have := hlo A.v (.inl rfl); omega) (fun e => by omega))
    exact ⟨rfl, HC.out.1.trans (y1.trans ((hb5.mono (by omega)).trans (y2.trans (y3.trans y4))))⟩
end Go.Proofs.YthdlpeejmmobmaaGreat
