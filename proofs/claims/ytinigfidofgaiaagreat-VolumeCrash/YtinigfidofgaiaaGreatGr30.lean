/- VT VU -/
import Derived.Test.YtinigfidofgaiaaGreatGr29

/- The closure, once more: its list may be turned. -/
namespace Go.Proofs.YtinigfidofgaiaaGreat.Pt
open Go.RowKit Go.Maps
set_option linter.unusedVariables false
set_option maxRecDepth 100000

/-- The cells at p hold L, and may be stored to. -/
def Hd (w : World) (p : Option Addr) (L : List Int) : Prop := ∀ g o, p = some ⟨g, o, none⟩ → Sort.Holds (Value.int .i64) w g o L.toArray
theorem hd_pre {w : World} {g : Nat} {L M : List Int} (h : Sort.Holds (Value.int .i64) w g 0 (L ++ M).toArray) : Hd w (some ⟨g, 0, none⟩) L := by
  intro g' o e j hj
  simp only [Option.some.injEq, Addr.mk.injEq] at e
  obtain ⟨rfl, rfl, _⟩ := e
  have hj' : j < L.length := by simpa using hj
  have := h j (by simp; omega)
  rw [getElem!_pos _ j (by simp; omega)] at this
  rw [getElem!_pos _ j hj]
  simpa [List.getElem_append_left hj'] using this

set_option maxHeartbeats 1000000 in
theorem rising2_ok {B : Nat} {w : World} {v : Value} {zs : List Int} (h : Nums B w v zs) (hB : B ≤ w.heap.size) (hn : zs.length ≤ 140737488355328) (hf : ∀ x ∈ zs, I64 x) :
    Calls Tryz.prog 92 #[v] w fun e w' => ∃ p c, e = .returned (.slice p (rs zs).length c) ∧ II w' p (rs zs).length (rs zs) ∧ Plain p ∧ (∀ g, blkOf p = some g → v.ownBlock = some g) ∧ Hd w' p (rs zs) ∧ (rs zs).length ≤ c ∧ Below B w w' := by
  have hfr : ∀ x ∈ rs zs, I64 x := fun x hx => hf x ((mem_rs zs x).1 hx)
  have hrl := rs_length zs
  cases zs with
  | nil =>
    rw [rs_nil]
    obtain ⟨p, c, rfl, hii, hpl⟩ := h.ii hn hf
    have s1 := sh_slices_Sort_int_none p c
    have s2 := sh_slices_Compact_int_empty p c
    have hown : ∀ g, blkOf p = some g → (Value.slice p 0 c).ownBlock = some g := by
      intro g hg
      cases p with
      | none => cases hg
      | some a => simpa [blkOf, Value.ownBlock] using hg
    go_enter Tryz.func92, Tryz.ntmps92
    go_wp2_with (first | (go_at_call 117; refine same_at (s1 _) ?_) | (go_at_call 126; refine same_at (s2 _) ?_))
    go_ret
    exact ⟨p, c, rfl, hii, hpl, hown, fun g o _ k hk => absurd hk (by simp), Nat.zero_le _, Below.refl _ _⟩
  | cons y ys =>
    rcases h.2 with ⟨_, e⟩ | ⟨g, cap, cur, rfl, hbg, hgc, hcap, rest⟩
    · simp at e
    · have hH := holds_of_row h
      have hlt : g < w.heap.size := (Array.getElem?_eq_some_iff.1 hgc).1
      have s1 := sh_slices_Sort_int g 0 cap (y :: ys) w hH hlt (by omega)
      obtain ⟨S, hS⟩ : ∃ S : List Int, S = (y :: ys).mergeSort (fun x y => decide (x ≤ y)) := ⟨_, rfl⟩
      have hSl : S.length = (y :: ys).length := by rw [hS, List.length_mergeSort]
      rw [← hS] at s1
      have hrs : rs (y :: ys) = Lib.compact S := by rw [hS]; rfl
      have hsz : S.toArray.size = (y :: ys).toArray.size := by rw [List.size_toArray, List.size_toArray, hSl]
      generalize (y :: ys).length = n at *
      have s2 : ∀ k os, Calls Tryz.prog 126 #[.slice (some ⟨g, 0, none⟩) n cap] (Sort.grow (Sort.putRow (Value.int .i64) (Sort.ahead w k) g 0 S.toArray) os) fun e w' =>
          e = .returned (.slice (some ⟨g, 0, none⟩) (rs (y :: ys)).length cap) ∧ II w' (some ⟨g, 0, none⟩) (rs (y :: ys)).length (rs (y :: ys)) ∧ Hd w' (some ⟨g, 0, none⟩) (rs (y :: ys)) ∧ Below B w w' := by
        intro k os
        have hH1 : Sort.Holds (Value.int .i64) (Sort.putRow (Value.int .i64) (Sort.ahead w k) g 0 S.toArray) g 0 S.toArray :=
          Sort.holds_putRow _ (Sort.ahead w k) g 0 _ _ (Sort.holds_ahead _ w k g 0 _ hH) hsz
        have hH2 := Sort.holds_grow (Value.int .i64) _ os g 0 _ (by simpa using hlt) hH1
        have hb0 : Below B w (Sort.grow (Sort.putRow (Value.int .i64) (Sort.ahead w k) g 0 S.toArray) os) :=
          below_grow' (below_putRow (below_ahead (Below.refl _ _) k) g 0 hbg _) (by simpa using hB) os
        have c2 := sh_slices_Compact_int g 0 cap S _ hH2 (by omega) (by omega)
        rw [hSl] at c2
        rw [hrs]
        have hcl : (Lib.compact S).length ≤ n := by rw [← hrs]; exact hrl
        refine c2.mono ?_
        rintro e w' ⟨rfl, q, rfl⟩
        refine ⟨rfl, ⟨rfl, by omega, by rw [← hrs]; exact hfr, fun h0 => ⟨g, 0, rfl, fun i hi => ?_⟩⟩, hd_pre (Sort.holds_putRow _ _ g 0 S.toArray _ (Sort.holds_ahead _ _ q g 0 _ hH2) (by simp; omega)) , below_putRow (below_ahead hb0 q) g 0 hbg _⟩
        have := Sort.cell?_putRow (Value.int .i64) (Sort.ahead (Sort.grow (Sort.putRow (Value.int .i64) (Sort.ahead w k) g 0 S.toArray) os) q) g 0 S.toArray (Lib.compact S ++ List.replicate (n - (Lib.compact S).length) 0).toArray (Sort.holds_ahead _ _ q g 0 _ hH2) (by simp; omega) i (by simp; omega)
        rw [this, getElem!_pos _ i (by simp; omega)]
        congr 1
        congr 1
        rw [List.getD_eq_getElem?_getD, List.getElem?_eq_getElem hi]
        simp [List.getElem_append_left hi]
      have hcc : (rs (y :: ys)).length ≤ cap := Nat.le_trans hrl (by omega)
      clear h hH hgc rest hS hSl hrs hrl hf hsz
      go_enter Tryz.func92, Tryz.ntmps92
      go_wp2_with (first | (go_at_call 117; refine s1.mono ?_; rintro e w1 ⟨rfl, k, os, rfl⟩) | (go_at_call 126; refine (s2 _ _).mono ?_; rintro e w2 ⟨rfl, hii, hHd, hb⟩))
      go_ret
      exact ⟨_, _, rfl, hii, .inr ⟨g, 0, rfl⟩, fun g' hg' => by simpa [blkOf, Value.ownBlock] using hg', hHd, hcc, hb⟩
set_option maxRecDepth 100000 in
set_option maxHeartbeats 4000000 in
theorem closure2_ok {B : Nat} {w : World} {a mp mb last : Nat} {P : List Pv} {K : Int → Option Value} (h : PS B w a mp mb last P K) (p : Option Addr) (n c : Nat) (zs : List Int) (hz : II w p n zs) :
    Calls Tryz.prog 50 #[.pointer (some ⟨a, 0, none⟩), .slice p n c] w fun e w' => ∃ q c' O, e = .returned (.slice q (rs O).length c') ∧ II w' q (rs O).length (rs O) ∧ Plain q ∧ (∀ x, x ∈ O ↔ Rch P zs x) ∧ (∀ g, blkOf q = some g → w.heap.size ≤ g) ∧ Hd w' q (rs O) ∧ (rs O).length ≤ c' ∧ Below w.heap.size w w' := by
  obtain ⟨W, hW⟩ : ∃ W, w.alloc (.cells #[.pointer (some ⟨a, 0, none⟩)] 72) = W := ⟨_, rfl⟩
  have hbW : Below w.heap.size w W := by rw [← hW]; exact (Below.refl _ w).alloc (Nat.le_refl _) _
  have hrW : W.heap[w.heap.size]? = some (.cells #[.pointer (some ⟨a, 0, none⟩)] 72 (0, 0)) := by rw [← hW]; exact at_new rfl
  have hWs : W.heap.size = w.heap.size + 1 := by rw [← hW]; simp
  have cs : W.cell? ⟨w.heap.size, 0, none⟩ = some (.pointer (some ⟨a, 0, none⟩)) := by rw [cell_of_row _ _ 0 _ 72 _ hrW]; rfl
  have hm := made_ok (h.kept hbW)
  have hmm := @run_makeMap Tryz.prog
  have hlen := hz.len
  have hbig := hz.big
  go_enter Tryz.func50, Tryz.ntmps50
  go_wp2_with (first | (go_at_call 75; refine same_at hm ?_))
  obtain ⟨W2, hW2⟩ : ∃ W2, ((W.alloc (Obj.map #[] 0)).alloc (Obj.cells #[.map (some (w.heap.size + 1))] 130)).alloc (Obj.cells #[.slice none 0 0] 23) = W2 := ⟨_, rfl⟩
  rw [hW2]
  have hb2 : Below W.heap.size W W2 := by
    rw [← hW2]
    exact (((Below.refl _ W).alloc (Nat.le_refl _) _).alloc (by simp) _).alloc (by simp; omega) _
  have hbT : Below w.heap.size w W2 := hbW.trans (hb2.mono (by omega))
  have hns : Ns W2 (w.heap.size + 1) (upto last) [] := by
    have h0 := ns_made W (upto last)
    rw [hWs] at h0
    refine Mf.kept h0 ?_
    rw [← hW2]
    exact (at_old (at_old (at_new (by rw [hWs])))).trans (at_new (w := W) (by rw [hWs])).symm
  have hCI : CI B w.heap.size w W2 a mp mb last P K w.heap.size (w.heap.size + 1 + 1) (w.heap.size + 1 + 1 + 1) (w.heap.size + 1) (.slice none 0 0) (upto last) [] [] :=
    ⟨h, hbT, rfl, by rw [hb2.block w.heap.size (by omega)]; exact hrW, by rw [← hW2]; exact at_old (at_new (by simp; omega)), by rw [← hW2]; exact at_new (by simp; omega), hns, Nums.nil _ _, ⟨by omega, by omega, by omega, by omega⟩⟩
  have hul : (upto last).length < 100000 := by rw [upto_len]; have := h.sml; omega
  have hpU : ∀ k, (fP P k).isSome = true → k ∈ upto last := fun k hk => by
    obtain ⟨q, hq⟩ := Option.isSome_iff_exists.1 hk
    obtain ⟨h1, h2⟩ := fP_some hq
    have := h.ids q h1
    exact mem_upto ⟨by omega, by omega⟩
  have hPi : ∀ q ∈ P, 1 ≤ q.id ∧ q.id ≤ last := fun q hq => by have := h.ids q hq; omega
  have hsm := h.sml
  clear hns hb2 hbT hm cs hrW hbW hmm
  go_loopw [20] (fun i wr => ∃ (j : Nat) (iv : Value), j ≤ n ∧ i = .int .i64 (j : Int) ∧ CI B w.heap.size w wr a mp mb last P K w.heap.size (w.heap.size + 1 + 1) (w.heap.size + 1 + 1 + 1) (w.heap.size + 1) iv (upto last) (nxCs P [] (zs.take j)) (nxCs P [] (zs.take j))) (fun i _ => n - (intOf i).toNat)
  case atStart => exact ⟨0, _, by omega, rfl, hCI⟩
  case round =>
    clear hCI
    obtain ⟨j, iv, hj, rfl, hI⟩ := hrel
    by_cases hlt : j < n
    · have hjL : j < zs.length := by omega
      obtain ⟨b1, o1, rfl, hc1⟩ := (hz.kept hI.bel).cells (by omega)
      have e1 := hc1 j hlt
      obtain ⟨x, hx⟩ : ∃ x, x = zs.getD j 0 := ⟨_, rfl⟩
      rw [← hx] at e1
      have hxz : x ∈ zs := by rw [hx]; exact getD_mem' hjL
      have hf1 : Fnd P (zs.take j) (nxCs P [] (zs.take j)) := Fnd.first
      have hl1 := hf1.len hPi
      have hcl := clo1_ok hI hul x (hz.fit x hxz) (hpU x) (by omega)
      have HT : Hid (zs.take (j + 1) = zs.take j ++ [x]) := by show _ = _; rw [hx]; exact take_one hjL
      have hjI : (j : Int) < (n : Int) := by omega
      have hj0 : (0 : Int) ≤ (j : Int) := by omega
      clear hc1 hx hI hf1 hxz hpU hPi
      go_wp2_with (first | (go_at_call 88; refine hcl.mono ?_; rintro e w2 ⟨rfl, iv2, hI2⟩))
      go_roundw
      case rel =>
        refine ⟨j + 1, iv2, by omega, by go_num, ?_⟩
        rw [HT.out, nxCs_snoc]
        exact hI2
      case measure => simp [intOf]; omega
    · obtain rfl : j = n := by omega
      rw [List.take_of_length_le (by omega)] at hI
      have hF0 : Fnd P zs (nxCs P [] zs) := Fnd.first
      have hZ0 : ∀ x ∈ zs, (fP P x).isSome = true → x ∈ nxCs P [] zs := fun x h1 h2 => (nxCs_mem P zs [] x).2 (.inr ⟨h1, h2⟩)
      go_wp2_with fail
      obtain ⟨O0, hO0⟩ : ∃ O0, O0 = nxCs P [] zs := ⟨_, rfl⟩
      rw [← hO0] at hI hF0 hZ0
      clear hO0
      go_loopw [10] (fun i wr => ∃ (t : Nat) (O : List Int) (iv : Value), t ≤ O.length ∧ i = .int .i64 (t : Int) ∧ CI B w.heap.size w wr a mp mb last P K w.heap.size (w.heap.size + 1 + 1) (w.heap.size + 1 + 1 + 1) (w.heap.size + 1) iv (upto last) O O ∧ Fnd P zs O ∧ (∀ x ∈ zs, (fP P x).isSome = true → x ∈ O) ∧ Dn P O t) (fun i _ => last - (intOf i).toNat)
      case atStart => exact ⟨0, O0, iv, by omega, rfl, hI, hF0, hZ0, fun i hi => by omega⟩
      case round =>
        clear hI hF0 hZ0 iv O0
        obtain ⟨t, O, iv, ht, rfl, hI, hF, hZ, hD⟩ := hrel
        have hOl := hF.len hPi
        obtain ⟨q0, c0, e0⟩ := hI.ids.slice
        subst e0
        have ci : wr.cell? ⟨w.heap.size + 1 + 1 + 1, 0, none⟩ = some (.slice q0 O.length c0) := by rw [cell_of_row _ _ 0 _ 23 _ hI.ri]; rfl
        by_cases hlt : t < O.length
        · have hID := hI.kept ((Below.refl _ wr).drew)
          have hfO : ∀ x ∈ O, I64 x := fun x hx => by
            obtain ⟨q, hq⟩ := Option.isSome_iff_exists.1 (hF.rch x hx).pend
            obtain ⟨h1, h2⟩ := fP_some hq
            have := hPi q h1
            exact ⟨by omega, by omega⟩
          obtain ⟨q1, c1', e1, hiO, _⟩ := hID.ids.ii (by omega) hfO
          obtain ⟨rfl, rfl⟩ : q1 = q0 ∧ c1' = c0 := by cases e1; exact ⟨rfl, rfl⟩
          obtain ⟨b1, o1, rfl, hc1⟩ := hiO.cells (by omega)
          obtain ⟨y, hy⟩ : ∃ y, y = O.getD t 0 := ⟨_, rfl⟩
          have ey := hc1 t hlt
          rw [← hy] at ey
          have hyO : y ∈ O := by rw [hy]; exact getD_mem' hlt
          obtain ⟨pp, hpp⟩ := Option.isSome_iff_exists.1 (hF.rch y hyO).pend
          have hpP := (fP_some hpp).1
          have hps := hID.psn
          have d1 := hps.c1
          have hg := hps.get y (hfO y hyO)
          rw [hpp] at hg
          have hg' : (Instr.lookup 119 (.map (some mp)) (.int .i64 y) false).run Tryz.prog wr.drew = .ok (.agg #[.int .i64 (pp.id : Int), .int .i64 (pp.blk : Int), .int .i64 (pp.off : Int), .slice pp.bp pp.bs.length pp.bc, .slice pp.np pp.nd.length pp.nc]) wr.drew := hg
          clear hg
          have ds : wr.drew.cell? ⟨w.heap.size, 0, none⟩ = some (.pointer (some ⟨a, 0, none⟩)) := by rw [cell_of_row _ _ 0 _ 72 _ hID.rs]; rfl
          have di : wr.drew.cell? ⟨w.heap.size + 1 + 1 + 1, 0, none⟩ = some (.slice (some ⟨b1, o1, none⟩) O.length c1') := by rw [cell_of_row _ _ 0 _ 23 _ hID.ri]; rfl
          have HY : Hid (y = O.getD t 0) := hy
          clear hy hc1 e1
          have htI : (t : Int) < (O.length : Int) := by omega
          have ht0 : (0 : Int) ≤ (t : Int) := by omega
          have hfld := fun w => fld4 pp.nd.length pp.nc pp.np (.int .i64 (pp.id : Int)) (.int .i64 (pp.blk : Int)) (.int .i64 (pp.off : Int)) (.slice pp.bp pp.bs.length pp.bc) w
          go_wp2_with fail
          go_region_held3 (fun w' => w'.cell? ⟨w.heap.size, 0, none⟩ = some (.pointer (some ⟨a, 0, none⟩)) ∧ w'.cell? ⟨w.heap.size + 1 + 1 + 1, 0, none⟩ = some (.slice (some ⟨b1, o1, none⟩) O.length c1') ∧ w'.cell? ⟨a, 1, none⟩ = some (.map (some mp)) ∧ w'.cell? ⟨b1, o1 + t, none⟩ = some (.int .i64 y) ∧ (Instr.lookup 119 (.map (some mp)) (.int .i64 y) false).run Tryz.prog w' = .ok (.agg #[.int .i64 (pp.id : Int), .int .i64 (pp.blk : Int), .int .i64 (pp.off : Int), .slice pp.bp pp.bs.length pp.bc, .slice pp.np pp.nd.length pp.nc]) w') (first | exact ⟨ds, di, d1, ey, hg'⟩) (fail)
          clear ds di d1 ey hg' hps hiO ci
          have hnl : pp.nd.length ≤ 140737488355328 := ((hID.psn).nee pp hpP).1.big
          clear hfld
          generalize hnp0 : pp.np = np
          have HNP : Hid (pp.np = np) := hnp0
          clear hnp0
          go_wp2_with fail
          go_loopw [45] (fun i wr2 => ∃ (j2 : Nat) (iv : Value), j2 ≤ pp.nd.length ∧ i = .int .i64 (j2 : Int) ∧ CI B w.heap.size w wr2 a mp mb last P K w.heap.size (w.heap.size + 1 + 1) (w.heap.size + 1 + 1 + 1) (w.heap.size + 1) iv (upto last) (nxCs P O (pp.nd.take j2)) (nxCs P O (pp.nd.take j2))) (fun i _ => pp.nd.length - (intOf i).toNat)
          case atStart => exact ⟨0, _, by omega, rfl, hID⟩
          case round =>
            clear hI hID
            obtain ⟨j2, iv2, hj2, rfl, hI⟩ := hrel
            have hnee := (hI.psn.nee pp hpP).1
            by_cases hlt2 : j2 < pp.nd.length
            · rw [HNP.out] at hnee
              obtain ⟨b2, o2, rfl, hc2⟩ := hnee.cells (by omega)
              have e2 := hc2 j2 hlt2
              obtain ⟨x, hx⟩ : ∃ x, x = pp.nd.getD j2 0 := ⟨_, rfl⟩
              rw [← hx] at e2
              have hxz : x ∈ pp.nd := by rw [hx]; exact getD_mem' hlt2
              have hf1 := hF.part hyO hpp (pp.nd.take j2) (fun x hx => List.mem_of_mem_take hx)
              have hl1 := hf1.len hPi
              have hcl := clo1_ok hI hul x (hnee.fit x hxz) (hpU x) (by omega)
              have HT : Hid (pp.nd.take (j2 + 1) = pp.nd.take j2 ++ [x]) := by show _ = _; rw [hx]; exact take_one hlt2
              have hjI : (j2 : Int) < (pp.nd.length : Int) := by omega
              have hj0 : (0 : Int) ≤ (j2 : Int) := by omega
              have hbo : (pp.nd.length : Int) ≤ 140737488355328 := by omega
              clear hc2 hx hI hf1 hxz hpU hPi hnee
              go_wp2_with (first | (go_at_call 88; refine hcl.mono ?_; rintro e w2 ⟨rfl, iv3, hI2⟩))
              go_roundw
              case rel =>
                refine ⟨j2 + 1, iv3, by omega, by go_num, ?_⟩
                rw [HT.out, nxCs_snoc]
                exact hI2
              case measure => simp [intOf]; omega
            · obtain rfl : j2 = pp.nd.length := by omega
              rw [List.take_of_length_le (Nat.le_refl _)] at hI
              have hF2 := hF.next hyO hpp
              have hZ2 : ∀ x ∈ zs, (fP P x).isSome = true → x ∈ nxCs P O pp.nd := fun x h1 h2 => (nxCs_mem P pp.nd O x).2 (.inl (hZ x h1 h2))
              have hpp' : fP P (O.getD t 0) = some pp := by rw [← HY.out]; exact hpp
              have hD2 := hD.next hlt hpp'
              have hgl := nxCs_len P pp.nd O
              clear hpU hPi hnee
              go_wp2_with fail
              go_roundw
              case rel => exact ⟨t + 1, nxCs P O pp.nd, iv2, by omega, by go_num, hI, hF2, hZ2, hD2⟩
              case measure => simp [intOf]; omega
        · have hfO : ∀ x ∈ O, I64 x := fun x hx => by
            obtain ⟨q, hq⟩ := Option.isSome_iff_exists.1 (hF.rch x hx).pend
            obtain ⟨h1, h2⟩ := fP_some hq
            have := hPi q h1
            exact ⟨by omega, by omega⟩
          obtain rfl : t = O.length := by omega
          have hri := rising2_ok hI.ids hI.hT (by omega) hfO
          have hbel : Below w.heap.size w wr := hI.bel
          have HN : Hid _ := hI.ids
          have HA : Hid (∀ x, x ∈ O ↔ Rch P zs x) := hF.all hZ hD
          clear hI hF hZ hD hfO hpU hPi
          go_wp2_with fail
          refine hri.mono ?_
          rintro e w4 ⟨q, c2, rfl, hii, hpl, how, hHd, hcc, hb4⟩
          have HHD : Hid _ := hHd
          have HCC : Hid _ := hcc
          clear hHd hcc
          have HII : Hid _ := hii
          have HQ : Hid (∀ g, blkOf q = some g → w.heap.size ≤ g) := fun g hg => (World.ownsRow.lt HN.out g (how g hg)).1
          have hb5 := hbel.trans hb4
          clear hri hii how hb4
          go_wp2_with fail
          go_ret
          exact ⟨q, c2, O, rfl, HII.out, hpl, HA.out, HQ.out, HHD.out, HCC.out, hb5⟩
end Go.Proofs.YtinigfidofgaiaaGreat.Pt

/- slices.DeleteFunc of numbers by IsDone. -/
namespace Go.Proofs.YtinigfidofgaiaaGreat
open Go.RowKit Go.Maps
set_option linter.unusedVariables false
set_option maxRecDepth 100000

section
variable {B : Nat} {w w' : World} {a mp mb last : Nat} {P : List Pt.Pv} {K : Int → Option Value}
set_option maxHeartbeats 1000000 in
theorem done_idx (h : Pt.PS B w a mp mb last P K) (p : Option Addr) (n c : Nat) (zs : List Int) (hz : Pt.II w p n zs) :
    Calls Tryz.prog 94 #[.slice p n c, .func (.func 53) #[.pointer (some ⟨a, 0, none⟩)] #[]] w fun e w' => ∃ r : Int, e = .returned (.int .i64 r) ∧ Hid ((r = -1 ∧ zs.any (Pt.dn last P) = false) ∨ ∃ j : Nat, j < n ∧ r = (j : Int) ∧ (zs.take j).any (Pt.dn last P) = false ∧ Pt.dn last P (zs.getD j 0) = true) ∧ Below w.heap.size w w' := by
  have hl := hz.len
  have hg := hz.big
  go_enter Tryz.func94, Tryz.ntmps94
  go_wp2_with fail
  go_loopw [8] (fun i wr => ∃ j : Nat, j ≤ n ∧ i = .int .i64 (j : Int) ∧ Hid ((zs.take j).any (Pt.dn last P) = false) ∧ Below w.heap.size w wr) (fun i _ => n - (intOf i).toNat)
  case atStart => exact ⟨0, by omega, rfl, rfl, Below.refl _ _⟩
  case round =>
    obtain ⟨j, hj, rfl, HA, hb⟩ := hrel
    by_cases hlt : j < n
    · obtain ⟨b1, o1, rfl, hc1⟩ := (hz.kept hb).cells (by omega)
      have e1 := hc1 j hlt
      have hh := Pt.isDone_ok (h.kept hb) (zs.getD j 0) (hz.fitAt j)
      have hjI : (j : Int) < (n : Int) := by omega
      have hj0 : (0 : Int) ≤ (j : Int) := by omega
      have HT : Hid _ := Pt.take_one (zs := zs) (j := j) (by omega)
      have HM : Hid _ := Pt.getD_mem' (zs := zs) (j := j) (by omega)
      have HG : ∃ y, Hid (zs.getD j 0 = y) := ⟨_, rfl⟩
      clear hc1
      obtain ⟨y, HG⟩ := HG
      rw [HG.out] at e1 hh HT HM
      cases hy : Pt.dn last P y with
      | true =>
        rw [hy] at hh
        have HR : Hid (Pt.dn last P (zs.getD j 0) = true) := by show _ = _; rw [HG.out]; exact hy
        clear hy
        go_wp2_with (first | (go_at_call 53; refine Pt.below_at hh ?_; intro w1 hb1))
        go_ret
        exact ⟨_, rfl, .inr ⟨j, hlt, rfl, HA.out, HR.out⟩, Pt.below_on hb hb1⟩
      | false =>
        rw [hy] at hh
        have HY : Hid _ := hy
        clear hy
        go_wp2_with (first | (go_at_call 53; refine Pt.below_at hh ?_; intro w1 hb1))
        go_roundw
        case rel => exact ⟨j + 1, by omega, by go_num, (by show _ = _; rw [HT.out, List.any_append, HA.out]; simp [HY.out]), Pt.below_on hb hb1⟩
        case measure => simp [intOf]; omega
    · obtain rfl : j = n := by omega
      have HR : Hid (zs.any (Pt.dn last P) = false) := by show _ = _; rw [← HA.out, List.take_of_length_le (by omega)]
      go_wp2
      go_ret
      exact ⟨-1, rfl, .inl ⟨rfl, HR.out⟩, hb⟩

theorem frame_setCells (g : Nat) : ∀ (vs : List Value) (o : Nat) (w : World), Frame (fun k => k = g) w (w.setCells g o vs)
  | [], _, w => Frame.refl _ _
  | v :: vs, o, w => (Frame.setCell (X := fun k => k = g) w (p := ⟨g, o, none⟩) v rfl).trans (frame_setCells g vs (o + 1) _)
def kept (last : Nat) (P : List Pt.Pv) (zs : List Int) : List Int := zs.filter (fun x => !Pt.dn last P x)
/-- A list while it is thinned: i of the first j are kept. -/
structure Dl (w : World) (last : Nat) (P : List Pt.Pv) (g o n : Nat) (zs : List Int) (i j : Nat) (wr : World) : Prop where
  fr : Frame (fun k => k = g) w wr
  len : (kept last P (zs.take j)).length = i
  pre : ∀ k, k < i → wr.cell? ⟨g, o + k, none⟩ = some (.int .i64 ((kept last P (zs.take j)).getD k 0))
  suf : ∀ k, j ≤ k → k < n → wr.cell? ⟨g, o + k, none⟩ = some (.int .i64 (zs.getD k 0))
  fz : ∀ k, k < n → wr.frozen? ⟨g, o + k, none⟩ = false
  ex : ∀ k, k < n → (wr.cell? ⟨g, o + k, none⟩).isSome = true

theorem Dl.below {w wr w1 : World} {last : Nat} {P : List Pt.Pv} {g o n : Nat} {zs : List Int} {i j : Nat} (h : Dl w last P g o n zs i j wr) (hb : Below wr.heap.size wr w1) (hg : g < wr.heap.size) : Dl w last P g o n zs i j w1 where
  fr := ⟨hb.os.trans h.fr.os, hb.tape.trans h.fr.tape, hb.output.trans h.fr.output, Nat.le_trans h.fr.size hb.size, fun k hk hn => (hb.block k (Nat.lt_of_lt_of_le hk h.fr.size)).trans (h.fr.block k hk hn)⟩
  len := h.len
  pre := fun k hk => (hb.cell (p := ⟨g, o + k, none⟩) hg).trans (h.pre k hk)
  suf := fun k h1 h2 => (hb.cell (p := ⟨g, o + k, none⟩) hg).trans (h.suf k h1 h2)
  fz := fun k hk => by
    have e := hb.block g hg
    have := h.fz k hk
    unfold World.frozen? at this ⊢
    rw [e]
    exact this
  ex := fun k hk => by rw [hb.cell (p := ⟨g, o + k, none⟩) hg]; exact h.ex k hk

theorem kept_snoc (last : Nat) (P : List Pt.Pv) (l : List Int) (y : Int) : kept last P (l ++ [y]) = kept last P l ++ (if Pt.dn last P y then [] else [y]) := by
  unfold kept
  rw [List.filter_append]
  cases hd : Pt.dn last P y <;> simp [hd]

theorem Dl.skip {w wr : World} {last : Nat} {P : List Pt.Pv} {g o n : Nat} {zs : List Int} {i j : Nat} (h : Dl w last P g o n zs i j wr) (hj : j < zs.length) (hd : Pt.dn last P (zs.getD j 0) = true) : Dl w last P g o n zs i (j + 1) wr := by
  have e : kept last P (zs.take (j + 1)) = kept last P (zs.take j) := by rw [Pt.take_one hj, kept_snoc, hd]; simp
  exact ⟨h.fr, by rw [e]; exact h.len, by rw [e]; exact h.pre, fun k h1 h2 => h.suf k (by omega) h2, h.fz, h.ex⟩

theorem Dl.put {w wr : World} {last : Nat} {P : List Pt.Pv} {g o n : Nat} {zs : List Int} {i j : Nat} (h : Dl w last P g o n zs i j wr) (hj : j < zs.length) (hl : zs.length = n) (hi : i < j) (hd : Pt.dn last P (zs.getD j 0) = false) : Dl w last P g o n zs (i + 1) (j + 1) (wr.setCell ⟨g, o + i, none⟩ (.int .i64 (zs.getD j 0))) := by
  have e : kept last P (zs.take (j + 1)) = kept last P (zs.take j) ++ [zs.getD j 0] := by rw [Pt.take_one hj, kept_snoc, hd]; simp
  have hout : ∀ k, k ≠ i → (wr.setCell ⟨g, o + i, none⟩ (.int .i64 (zs.getD j 0))).cell? ⟨g, o + k, none⟩ = wr.cell? ⟨g, o + k, none⟩ := fun k hk => World.cell?_setCells_out g [.int .i64 (zs.getD j 0)] (o + i) wr ⟨g, o + k, none⟩ (fun _ _ => by simp; omega)
  have hsame : (wr.setCell ⟨g, o + i, none⟩ (.int .i64 (zs.getD j 0))).cell? ⟨g, o + i, none⟩ = some (.int .i64 (zs.getD j 0)) := by
    have := World.cell?_setCells_in g [.int .i64 (zs.getD j 0)] (o + i) wr (fun q hq => by
      obtain rfl : q = 0 := by simpa using hq
      exact h.ex i (by omega)) 0 (by simp)
    exact this
  have hlen := h.len
  refine ⟨?_, by rw [e]; simp [hlen], fun k hk => ?_, fun k h1 h2 => by rw [hout k (by omega)]; exact h.suf k (by omega) h2, fun k hk => (World.frozen?_setCells g [.int .i64 (zs.getD j 0)] (o + i) wr _).trans (h.fz k hk), fun k hk => ?_⟩
  · have hs := Frame.setCell (X := fun k => k = g) wr (p := ⟨g, o + i, none⟩) (.int .i64 (zs.getD j 0)) rfl
    exact h.fr.trans hs
  · rw [e]
    by_cases hki : k = i
    · subst hki
      rw [hsame]
      generalize zs.getD j 0 = y
      rw [List.getD_eq_getElem?_getD, List.getElem?_append_right (by omega), hlen]
      simp
    · rw [hout k hki, h.pre k (by omega)]
      generalize zs.getD j 0 = y
      rw [List.getD_eq_getElem?_getD, List.getD_eq_getElem?_getD, List.getElem?_append_left (by omega)]
  · by_cases hki : k = i
    · subst hki
      rw [hsame]
      rfl
    · rw [hout k hki]
      exact h.ex k hk

set_option maxHeartbeats 2000000 in
theorem dfunc_ok (h : Pt.PS B w a mp mb last P K) (g o n c : Nat) (zs : List Int) (hz : Pt.II w (some ⟨g, o, none⟩) n zs) (hg : g < w.heap.size) (hH : ∀ k, k < n → w.frozen? ⟨g, o + k, none⟩ = false) (hnc : n ≤ c) (hn0 : 0 < n) (hdm : ¬ Pt.dm a mp mb P K g) :
    Calls Tryz.prog 52 #[.slice (some ⟨g, o, none⟩) n c, .func (.func 53) #[.pointer (some ⟨a, 0, none⟩)] #[]] w fun e w' => e = .returned (.slice (some ⟨g, o, none⟩) (kept last P zs).length c) ∧ Pt.II w' (some ⟨g, o, none⟩) (kept last P zs).length (kept last P zs) ∧ (∀ k, k < (kept last P zs).length → w'.frozen? ⟨g, o + k, none⟩ = false) ∧ Frame (fun k => k = g) w w' := by
  have hl := hz.len
  have hbig := hz.big
  have hix := done_idx h (some ⟨g, o, none⟩) n c zs hz
  obtain ⟨b0, o0, e0, hc0⟩ := hz.cells hn0
  simp only [Option.some.injEq, Addr.mk.injEq] at e0
  obtain ⟨rfl, rfl, _⟩ := e0
  have hfit : ∀ x ∈ kept last P zs, Pt.I64 x := fun x hx => hz.fit x (List.mem_filter.1 hx).1
  go_enter Tryz.func52, Tryz.ntmps52
  go_wp2_with fail
  refine Calls.mono hix ?_
  rintro e w1 ⟨r, rfl, HR, hb1⟩
  have hg1 : g < w1.heap.size := Nat.lt_of_lt_of_le hg hb1.size
  rcases HR.out with ⟨rfl, hno⟩ | ⟨j0, hj0, rfl, hbef, hat⟩
  · have hall : kept last P zs = zs := by
      unfold kept
      rw [List.filter_eq_self]
      intro x hx
      have := List.any_eq_false.1 hno x hx
      simpa using this
    have HALL := (show Hid _ from hall)
    clear hall
    dsimp only
    go_wp2_with fail
    go_ret
    rw [HALL.out, hl]
    refine ⟨rfl, hz.kept hb1, fun k hk => ?_, ⟨hb1.os, hb1.tape, hb1.output, hb1.size, fun k hk _ => hb1.block k hk⟩⟩
    have e := hb1.block g hg
    have := hH k hk
    unfold World.frozen? at this ⊢
    rw [e]
    exact this
  · have hkp : kept last P (zs.take j0) = zs.take j0 := by
      unfold kept
      rw [List.filter_eq_self]
      intro x hx
      have := List.any_eq_false.1 hbef x hx
      simpa using this
    have hD0 : Dl w last P g o n zs j0 j0 w := by
      refine ⟨Frame.refl _ _, by rw [hkp, List.length_take]; omega, fun k hk => ?_, fun k _ hk => hc0 k hk, hH, fun k hk => by rw [hc0 k hk]; rfl⟩
      rw [hkp, hc0 k (by omega), List.getD_eq_getElem?_getD, List.getD_eq_getElem?_getD, List.getElem?_take, if_pos hk]
    have hD1 := (hD0.skip (by omega) hat).below hb1 hg
    have hj0I : (j0 : Int) ≠ -1 := by omega
    clear hix hD0 hkp hbef hat HR
    dsimp only
    go_wp2_with fail
    go_loopw [5, 6] (fun iv jv wr => ∃ i j : Nat, iv = .int .i64 (i : Int) ∧ jv = .int .i64 (j : Int) ∧ j ≤ n ∧ i < j ∧ Dl w last P g o n zs i j wr) (fun iv jv _ => n - (intOf jv).toNat)
    case atStart => exact ⟨j0, j0 + 1, by go_num, by go_num, by omega, by omega, hD1⟩
    case round =>
      clear hD1 hj0I
      obtain ⟨i, j, rfl, rfl, hj, hij, hD⟩ := hrel
      have hgr : g < wr.heap.size := Nat.lt_of_lt_of_le hg hD.fr.size
      by_cases hlt : j < n
      · have e1 := hD.suf j (Nat.le_refl _) hlt
        have hps := h.else hD.fr.size (fun k hk _ => hD.fr.block k (h.dm_lt hk) (fun e => hdm (by rw [← e]; exact hk)))
        have hh := Pt.isDone_ok hps (zs.getD j 0) (hz.fitAt j)
        have hjI : (j : Int) < (n : Int) := by omega
        have hj0' : (0 : Int) ≤ (j : Int) := by omega
        have hi0' : (0 : Int) ≤ (i : Int) := by omega
        have hiI : (i : Int) < (n : Int) := by omega
        obtain ⟨y, HG⟩ : ∃ y, Hid (zs.getD j 0 = y) := ⟨_, rfl⟩
        rw [HG.out] at e1 hh
        cases hy : Pt.dn last P y with
        | true =>
          rw [hy] at hh
          have HY : Hid (Dl w last P g o n zs i (j + 1) wr) := hD.skip (by omega) (by rw [HG.out]; exact hy)
          clear hy hD
          go_wp2_with (first | (go_at_call 53; refine Pt.below_at hh ?_; intro w2 hb2))
          go_roundw
          case rel =>
            refine ⟨_, _, _, _, _, _, _, _, _, _, _, _, _, _, _, _, _, _, _, _, _, _, _, ?_, rfl⟩
            exact ⟨i, j + 1, rfl, by go_num, by omega, by omega, HY.out.below hb2 hgr⟩
          case measure => simp [intOf]; omega
        | false =>
          rw [hy] at hh
          have HY : Hid (Pt.dn last P (zs.getD j 0) = false) := by show _ = _; rw [HG.out]; exact hy
          clear hy
          go_wp2_with fail
          refine Pt.below_at hh ?_
          intro w2 hb2
          have hD2 := hD.below hb2 hgr
          have hfz := hD2.fz i (by omega)
          obtain ⟨u, hu⟩ := Option.isSome_iff_exists.1 (hD2.ex i (by omega))
          have HP := (show Hid _ from hD2.put (by omega) hl hij HY.out)
          rw [HG.out] at HP
          clear hh hD hD2 hps e1
          dsimp only
          go_wp2_with fail
          go_roundw
          case rel => exact ⟨i + 1, j + 1, by go_num, by go_num, by omega, by omega, HP.out⟩
          case measure => simp [intOf]; omega
      · obtain rfl : j = n := by omega
        have hI : ¬ (j : Int) < (j : Int) := by omega
        have hcl := fun ty cc => Lib.run_clear_slice (P := Tryz.prog) wr 23 3 ty (.int .i64 0) Tryz.underlying23 Tryz.zeroValue3 rfl rfl g (o + i) (j - i) cc (by omega) (fun k hk => by rw [Nat.add_assoc]; exact hD.ex (i + k) (by omega)) (fun k hk => by rw [Nat.add_assoc]; exact hD.fz (i + k) (by omega))
        have hiI : (i : Int) ≤ (j : Int) := by omega
        have hiC : (i : Int) ≤ (c : Int) := by omega
        have hi0 : (0 : Int) ≤ (i : Int) := by omega
        have HK : Hid (kept last P zs = kept last P (zs.take j)) := by show _ = _; rw [List.take_of_length_le (by omega)]
        have HD := (show Hid _ from hD)
        have HF := (show Hid _ from hfit)
        clear hD hfit hz hH hc0
        go_wp2_with fail
        go_ret
        have hd := HD.out
        have hlen := hd.len
        rw [HK.out, hlen]
        refine ⟨rfl, ⟨hlen, by omega, by rw [← HK.out]; exact HF.out, fun h0 => ⟨g, o, rfl, fun k hk => ?_⟩⟩, fun k hk => (World.frozen?_setCells g _ _ wr _).trans (hd.fz k (by omega)), ?_⟩
        · rw [World.cell?_setCells_out g _ (o + i) wr ⟨g, o + k, none⟩ (fun _ _ => by show o + k < o + i ∨ _; omega)]
          exact hd.pre k hk
        · exact hd.fr.trans (frame_setCells g _ _ _)
end
end Go.Proofs.YtinigfidofgaiaaGreat
