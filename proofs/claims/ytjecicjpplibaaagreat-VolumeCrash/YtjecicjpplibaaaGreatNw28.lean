/- PClo2 -/
import Derived.Test.YtjecicjpplibaaaGreatNw27

/- Closure. -/
namespace Go.Proofs.YtjecicjpplibaaaGreat.Pt
open Go.RowKit Go.Maps
set_option maxRecDepth 100000
set_option linter.unusedVariables false

theorem fld4 (n c : Nat) (q : Option Addr) (v0 v1 v2 v3 : Value) (w : World) : (Instr.field 134 (.agg #[v0, v1, v2, v3, .slice q n c]) 4).run Tryz.prog w = .ok (.slice q n c) w := by
  unfold Instr.field
  simp [asAgg, part, isAgg]

theorem Fnd.part {P : List Pv} {zs O : List Int} (h : Fnd P zs O) {y : Int} {p : Pv} (hy : y ∈ O) (hp : fP P y = some p) (l : List Int) (hl : ∀ x ∈ l, x ∈ p.nd) : Fnd P zs (nxCs P O l) :=
  ⟨nxCs_nodup _ _ h.nd, fun x hx => by
    rcases (nxCs_mem P l O x).1 hx with hx | ⟨h1, h2⟩
    · exact h.rch x hx
    · exact .step (h.rch y hy) hp (hl x h1) h2⟩

set_option maxRecDepth 100000 in
set_option maxHeartbeats 4000000 in
theorem closure_ok {B : Nat} {w : World} {a mp mb last : Nat} {P : List Pv} {K : Int → Option Value} (h : PS B w a mp mb last P K) (p : Option Addr) (n c : Nat) (zs : List Int) (hz : II w p n zs) :
    Calls Tryz.prog 50 #[.pointer (some ⟨a, 0, none⟩), .slice p n c] w fun e w' => ∃ q c' O, e = .returned (.slice q (rs O).length c') ∧ II w' q (rs O).length (rs O) ∧ Plain q ∧ (∀ x, x ∈ O ↔ Rch P zs x) ∧ (∀ g, blkOf q = some g → w.heap.size ≤ g) ∧ Below w.heap.size w w' := by
  obtain ⟨W, hW⟩ : ∃ W, w.alloc (.cells #[.pointer (some ⟨a, 0, none⟩)] 72) = W := ⟨_, rfl⟩
  have hbW : Below w.heap.size w W := by rw [← hW]; exact (Below.refl _ w).alloc (Nat.le_refl _) _
  have hrW : W.heap[w.heap.size]? = some (.cells #[.pointer (some ⟨a, 0, none⟩)] 72 (0, 0)) := by rw [← hW]; exact at_new rfl
  have hWs : W.heap.size = w.heap.size + 1 := by rw [← hW]; simp
  have cs : W.cell? ⟨w.heap.size, 0, none⟩ = some (.pointer (some ⟨a, 0, none⟩)) := by rw [cell_of_row _ _ 0 _ 72 _ hrW]; rfl
  have hm := made_ok (h.kept hbW)
  have hmm := @run_makeMap Tryz.prog
  have hlen := hz.len
  have hbig := hz.big
  go_enter Tryz.func50, Tryz.ntmps50
  go_wp2_with (first | (go_at_call 75; refine same_at hm ?_))
  obtain ⟨W2, hW2⟩ : ∃ W2, ((W.alloc (Obj.map #[] 0)).alloc (Obj.cells #[.map (some (w.heap.size + 1))] 130)).alloc (Obj.cells #[.slice none 0 0] 23) = W2 := ⟨_, rfl⟩
  rw [hW2]
  have hb2 : Below W.heap.size W W2 := by
    rw [← hW2]
    exact (((Below.refl _ W).alloc (Nat.le_refl _) _).alloc (by simp) _).alloc (by simp; omega) _
  have hbT : Below w.heap.size w W2 := hbW.trans (hb2.mono (by omega))
  have hns : Ns W2 (w.heap.size + 1) (upto last) [] := by
    have h0 := ns_made W (upto last)
    rw [hWs] at h0
    refine Mf.kept h0 ?_
    rw [← hW2]
    exact (at_old (at_old (at_new (by rw [hWs])))).trans (at_new (w := W) (by rw [hWs])).symm
  have hCI : CI B w.heap.size w W2 a mp mb last P K w.heap.size (w.heap.size + 1 + 1) (w.heap.size + 1 + 1 + 1) (w.heap.size + 1) (.slice none 0 0) (upto last) [] [] :=
    ⟨h, hbT, rfl, by rw [hb2.block w.heap.size (by omega)]; exact hrW, by rw [← hW2]; exact at_old (at_new (by simp; omega)), by rw [← hW2]; exact at_new (by simp; omega), hns, Nums.nil _ _, ⟨by omega, by omega, by omega, by omega⟩⟩
  have hul : (upto last).length < 100000 := by rw [upto_len]; have := h.sml; omega
  have hpU : ∀ k, (fP P k).isSome = true → k ∈ upto last := fun k hk => by
    obtain ⟨q, hq⟩ := Option.isSome_iff_exists.1 hk
    obtain ⟨h1, h2⟩ := fP_some hq
    have := h.ids q h1
    exact mem_upto ⟨by omega, by omega⟩
  have hPi : ∀ q ∈ P, 1 ≤ q.id ∧ q.id ≤ last := fun q hq => by have := h.ids q hq; omega
  have hsm := h.sml
  clear hns hb2 hbT hm cs hrW hbW hmm
  go_loopw [20] (fun i wr => ∃ (j : Nat) (iv : Value), j ≤ n ∧ i = .int .i64 (j : Int) ∧ CI B w.heap.size w wr a mp mb last P K w.heap.size (w.heap.size + 1 + 1) (w.heap.size + 1 + 1 + 1) (w.heap.size + 1) iv (upto last) (nxCs P [] (zs.take j)) (nxCs P [] (zs.take j))) (fun i _ => n - (intOf i).toNat)
  case atStart => exact ⟨0, _, by omega, rfl, hCI⟩
  case round =>
    clear hCI
    obtain ⟨j, iv, hj, rfl, hI⟩ := hrel
    by_cases hlt : j < n
    · have hjL : j < zs.length := by omega
      obtain ⟨b1, o1, rfl, hc1⟩ := (hz.kept hI.bel).cells (by omega)
      have e1 := hc1 j hlt
      obtain ⟨x, hx⟩ : ∃ x, x = zs.getD j 0 := ⟨_, rfl⟩
      rw [← hx] at e1
      have hxz : x ∈ zs := by rw [hx]; exact getD_mem' hjL
      have hf1 : Fnd P (zs.take j) (nxCs P [] (zs.take j)) := Fnd.first
      have hl1 := hf1.len hPi
      have hcl := clo1_ok hI hul x (hz.fit x hxz) (hpU x) (by omega)
      have HT : Hid (zs.take (j + 1) = zs.take j ++ [x]) := by show _ = _; rw [hx]; exact take_one hjL
      have hjI : (j : Int) < (n : Int) := by omega
      have hj0 : (0 : Int) ≤ (j : Int) := by omega
      clear hc1 hx hI hf1 hxz hpU hPi
      go_wp2_with (first | (go_at_call 88; refine hcl.mono ?_; rintro e w2 ⟨rfl, iv2, hI2⟩))
      go_roundw
      case rel =>
        refine ⟨j + 1, iv2, by omega, by go_num, ?_⟩
        rw [HT.out, nxCs_snoc]
        exact hI2
      case measure => simp [intOf]; omega
    · obtain rfl : j = n := by omega
      rw [List.take_of_length_le (by omega)] at hI
      have hF0 : Fnd P zs (nxCs P [] zs) := Fnd.first
      have hZ0 : ∀ x ∈ zs, (fP P x).isSome = true → x ∈ nxCs P [] zs := fun x h1 h2 => (nxCs_mem P zs [] x).2 (.inr ⟨h1, h2⟩)
      go_wp2_with fail
      obtain ⟨O0, hO0⟩ : ∃ O0, O0 = nxCs P [] zs := ⟨_, rfl⟩
      rw [← hO0] at hI hF0 hZ0
      clear hO0
      go_loopw [10] (fun i wr => ∃ (t : Nat) (O : List Int) (iv : Value), t ≤ O.length ∧ i = .int .i64 (t : Int) ∧ CI B w.heap.size w wr a mp mb last P K w.heap.size (w.heap.size + 1 + 1) (w.heap.size + 1 + 1 + 1) (w.heap.size + 1) iv (upto last) O O ∧ Fnd P zs O ∧ (∀ x ∈ zs, (fP P x).isSome = true → x ∈ O) ∧ Dn P O t) (fun i _ => last - (intOf i).toNat)
      case atStart => exact ⟨0, O0, iv, by omega, rfl, hI, hF0, hZ0, fun i hi => by omega⟩
      case round =>
        clear hI hF0 hZ0 iv O0
        obtain ⟨t, O, iv, ht, rfl, hI, hF, hZ, hD⟩ := hrel
        have hOl := hF.len hPi
        obtain ⟨q0, c0, e0⟩ := hI.ids.slice
        subst e0
        have ci : wr.cell? ⟨w.heap.size + 1 + 1 + 1, 0, none⟩ = some (.slice q0 O.length c0) := by rw [cell_of_row _ _ 0 _ 23 _ hI.ri]; rfl
        by_cases hlt : t < O.length
        · have hID := hI.kept ((Below.refl _ wr).drew)
          have hfO : ∀ x ∈ O, I64 x := fun x hx => by
            obtain ⟨q, hq⟩ := Option.isSome_iff_exists.1 (hF.rch x hx).pend
            obtain ⟨h1, h2⟩ := fP_some hq
            have := hPi q h1
            exact ⟨by omega, by omega⟩
          obtain ⟨q1, c1', e1, hiO, _⟩ := hID.ids.ii (by omega) hfO
          obtain ⟨rfl, rfl⟩ : q1 = q0 ∧ c1' = c0 := by cases e1; exact ⟨rfl, rfl⟩
          obtain ⟨b1, o1, rfl, hc1⟩ := hiO.cells (by omega)
          obtain ⟨y, hy⟩ : ∃ y, y = O.getD t 0 := ⟨_, rfl⟩
          have ey := hc1 t hlt
          rw [← hy] at ey
          have hyO : y ∈ O := by rw [hy]; exact getD_mem' hlt
          obtain ⟨pp, hpp⟩ := Option.isSome_iff_exists.1 (hF.rch y hyO).pend
          have hpP := (fP_some hpp).1
          have hps := hID.psn
          have d1 := hps.c1
          have hg := hps.get y (hfO y hyO)
          rw [hpp] at hg
          have hg' : (Instr.lookup 119 (.map (some mp)) (.int .i64 y) false).run Tryz.prog wr.drew = .ok (.agg #[.int .i64 (pp.id : Int), .int .i64 (pp.blk : Int), .int .i64 (pp.off : Int), .slice pp.bp pp.bs.length pp.bc, .slice pp.np pp.nd.length pp.nc]) wr.drew := hg
          clear hg
          have ds : wr.drew.cell? ⟨w.heap.size, 0, none⟩ = some (.pointer (some ⟨a, 0, none⟩)) := by rw [cell_of_row _ _ 0 _ 72 _ hID.rs]; rfl
          have di : wr.drew.cell? ⟨w.heap.size + 1 + 1 + 1, 0, none⟩ = some (.slice (some ⟨b1, o1, none⟩) O.length c1') := by rw [cell_of_row _ _ 0 _ 23 _ hID.ri]; rfl
          have HY : Hid (y = O.getD t 0) := hy
          clear hy hc1 e1
          have htI : (t : Int) < (O.length : Int) := by omega
          have ht0 : (0 : Int) ≤ (t : Int) := by omega
          have hfld := fun w => fld4 pp.nd.length pp.nc pp.np (.int .i64 (pp.id : Int)) (.int .i64 (pp.blk : Int)) (.int .i64 (pp.off : Int)) (.slice pp.bp pp.bs.length pp.bc) w
          go_wp2_with fail
          go_region_held3 (fun w' => w'.cell? ⟨w.heap.size, 0, none⟩ = some (.pointer (some ⟨a, 0, none⟩)) ∧ w'.cell? ⟨w.heap.size + 1 + 1 + 1, 0, none⟩ = some (.slice (some ⟨b1, o1, none⟩) O.length c1') ∧ w'.cell? ⟨a, 1, none⟩ = some (.map (some mp)) ∧ w'.cell? ⟨b1, o1 + t, none⟩ = some (.int .i64 y) ∧ (Instr.lookup 119 (.map (some mp)) (.int .i64 y) false).run Tryz.prog w' = .ok (.agg #[.int .i64 (pp.id : Int), .int .i64 (pp.blk : Int), .int .i64 (pp.off : Int), .slice pp.bp pp.bs.length pp.bc, .slice pp.np pp.nd.length pp.nc]) w') (first | exact ⟨ds, di, d1, ey, hg'⟩) (fail)
          clear ds di d1 ey hg' hps hiO ci
          have hnl : pp.nd.length ≤ 140737488355328 := ((hID.psn).nee pp hpP).1.big
          clear hfld
          generalize hnp0 : pp.np = np
          have HNP : Hid (pp.np = np) := hnp0
          clear hnp0
          go_wp2_with fail
          go_loopw [45] (fun i wr2 => ∃ (j2 : Nat) (iv : Value), j2 ≤ pp.nd.length ∧ i = .int .i64 (j2 : Int) ∧ CI B w.heap.size w wr2 a mp mb last P K w.heap.size (w.heap.size + 1 + 1) (w.heap.size + 1 + 1 + 1) (w.heap.size + 1) iv (upto last) (nxCs P O (pp.nd.take j2)) (nxCs P O (pp.nd.take j2))) (fun i _ => pp.nd.length - (intOf i).toNat)
          case atStart => exact ⟨0, _, by omega, rfl, hID⟩
          case round =>
            clear hI hID
            obtain ⟨j2, iv2, hj2, rfl, hI⟩ := hrel
            have hnee := (hI.psn.nee pp hpP).1
            by_cases hlt2 : j2 < pp.nd.length
            · rw [HNP.out] at hnee
              obtain ⟨b2, o2, rfl, hc2⟩ := hnee.cells (by omega)
              have e2 := hc2 j2 hlt2
              obtain ⟨x, hx⟩ : ∃ x, x = pp.nd.getD j2 0 := ⟨_, rfl⟩
              rw [← hx] at e2
              have hxz : x ∈ pp.nd := by rw [hx]; exact getD_mem' hlt2
              have hf1 := hF.part hyO hpp (pp.nd.take j2) (fun x hx => List.mem_of_mem_take hx)
              have hl1 := hf1.len hPi
              have hcl := clo1_ok hI hul x (hnee.fit x hxz) (hpU x) (by omega)
              have HT : Hid (pp.nd.take (j2 + 1) = pp.nd.take j2 ++ [x]) := by show _ = _; rw [hx]; exact take_one hlt2
              have hjI : (j2 : Int) < (pp.nd.length : Int) := by omega
              have hj0 : (0 : Int) ≤ (j2 : Int) := by omega
              have hbo : (pp.nd.length : Int) ≤ 140737488355328 := by omega
              clear hc2 hx hI hf1 hxz hpU hPi hnee
              go_wp2_with (first | (go_at_call 88; refine hcl.mono ?_; rintro e w2 ⟨rfl, iv3, hI2⟩))
              go_roundw
              case rel =>
                refine ⟨j2 + 1, iv3, by omega, by go_num, ?_⟩
                rw [HT.out, nxCs_snoc]
                exact hI2
              case measure => simp [intOf]; omega
            · obtain rfl : j2 = pp.nd.length := by omega
              rw [List.take_of_length_le (Nat.le_refl _)] at hI
              have hF2 := hF.next hyO hpp
              have hZ2 : ∀ x ∈ zs, (fP P x).isSome = true → x ∈ nxCs P O pp.nd := fun x h1 h2 => (nxCs_mem P pp.nd O x).2 (.inl (hZ x h1 h2))
              have hpp' : fP P (O.getD t 0) = some pp := by rw [← HY.out]; exact hpp
              have hD2 := hD.next hlt hpp'
              have hgl := nxCs_len P pp.nd O
              clear hpU hPi hnee
              go_wp2_with fail
              go_roundw
              case rel => exact ⟨t + 1, nxCs P O pp.nd, iv2, by omega, by go_num, hI, hF2, hZ2, hD2⟩
              case measure => simp [intOf]; omega
        · have hfO : ∀ x ∈ O, I64 x := fun x hx => by
            obtain ⟨q, hq⟩ := Option.isSome_iff_exists.1 (hF.rch x hx).pend
            obtain ⟨h1, h2⟩ := fP_some hq
            have := hPi q h1
            exact ⟨by omega, by omega⟩
          obtain rfl : t = O.length := by omega
          have hri := rising_ok hI.ids hI.hT (by omega) hfO
          have hbel : Below w.heap.size w wr := hI.bel
          have HN : Hid _ := hI.ids
          have HA : Hid (∀ x, x ∈ O ↔ Rch P zs x) := hF.all hZ hD
          clear hI hF hZ hD hfO hpU hPi
          go_wp2_with fail
          refine hri.mono ?_
          rintro e w4 ⟨q, c2, rfl, hii, hpl, how, hb4⟩
          have HII : Hid _ := hii
          have HQ : Hid (∀ g, blkOf q = some g → w.heap.size ≤ g) := fun g hg => (World.ownsRow.lt HN.out g (how g hg)).1
          have hb5 := hbel.trans hb4
          clear hri hii how hb4
          go_wp2_with fail
          go_ret
          exact ⟨q, c2, O, rfl, HII.out, hpl, HA.out, HQ.out, hb5⟩
end Go.Proofs.YtjecicjpplibaaaGreat.Pt
