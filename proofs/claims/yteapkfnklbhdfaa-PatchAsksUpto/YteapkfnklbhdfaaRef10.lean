/- The document's set: Add. -/
import Derived.Test.YteapkfnklbhdfaaRef9
namespace Go.Proofs.Yteapkfnklbhdfaa
open Go.RowKit Go.Maps
set_option linter.unusedVariables false
section
variable {B : Nat} {w : World} {x : Nat} {lv : Value} {last : Nat} {L : List Pv}

theorem ownsRow_base {w : World} {B B' : Nat} {e : TypeId} {size : Nat} {v : Value} {n : Nat} {xs : List Value} (h : w.ownsRow B e size v n xs) (hB : B' ≤ B) : w.ownsRow B' e size v n xs := by
  refine ⟨h.1, ?_⟩
  rcases h.2 with h' | ⟨g', cap', cur, h', hbg, rest⟩
  · exact .inl h'
  · exact .inr ⟨g', cap', cur, h', by omega, rest⟩
theorem RZ.grow (h : RZ B w x lv last L) {V : World} {v' : Value} {pn : Pv} {K0 : Nat} (hrow : V.heap[x]? = some (.cells #[v', .int .i64 ((last : Int) + 1)] 28 (0, 0))) (hown : V.ownsRow B 44 5 v' (L.length + 1) (flat5 (L ++ [pn]))) (hsz : w.heap.size ≤ V.heap.size) (hos : V.os = w.os) (hta : V.tape = w.tape) (hou : V.output = w.output)
    (hk : ∀ k, k < w.heap.size → k ≠ x → lv.ownBlock ≠ some k → V.heap[k]? = w.heap[k]?) (hv : v'.ownBlock = lv.ownBlock ∨ v'.ownBlock = some K0) (hK0 : w.heap.size ≤ K0) (hby : BI V pn.bp pn.bs.length pn.bs ∧ Plain pn.bp) (hne : II V pn.np pn.nd.length pn.nd ∧ Plain pn.np)
    (hpb : ∀ k, (blkOf pn.np = some k ∨ blkOf pn.bp = some k) → w.heap.size ≤ k ∧ k < K0 ∧ k < V.heap.size) (hid : pn.id = last + 1) (hb1 : pn.blk ≤ 9223372036854775807) (hb2 : 1 ≤ pn.bs.length) (hb3 : pn.off + pn.bs.length ≤ 128) (hlow : ∀ y ∈ pn.nd, 1 ≤ y ∧ y < (pn.id : Int)) (hsm : last + 1 ≤ 1000) :
    RZ B V x v' (last + 1) (L ++ [pn]) ∧ Stp (rdm x lv L) (rdm x v' (L ++ [pn])) w V := by
  have hx := h.lt
  have hkk : ∀ p ∈ L, ∀ k, (blkOf p.np = some k ∨ blkOf p.bp = some k) → V.heap[k]? = w.heap[k]? := fun p hp k hk' => hk k (h.apart p hp k hk').1 (h.apart p hp k hk').2.1 (h.apart p hp k hk').2.2
  have hmem : ∀ p ∈ L ++ [pn], p ∈ L ∨ p = pn := fun p hp => by
    rcases List.mem_append.1 hp with hp | hp
    · exact .inl hp
    · exact .inr (List.mem_singleton.1 hp)
  have hidL : ∀ p ∈ L, p.id < pn.id := fun p hp => by have := (h.ids p hp).2.1; omega
  refine ⟨⟨by rw [hrow]; simp, by rw [List.length_append]; exact hown, fun p hp => ?_, fun p hp => ?_, fun p hp k hk' => ?_, fun p hp => ?_, ?_, fun p hp => ?_, hsm, h.base⟩, ⟨hos, hta, hou, hsz, fun k hk1 hn => hk k hk1 (fun e => hn (.inl e)) (fun e => hn (.inr (.inl e)))⟩, fun k hk' => ?_⟩
  · rcases hmem p hp with hp | rfl
    · exact ⟨(h.byt p hp).1.keptIf (fun g hg _ => hkk p hp g (.inr hg)), (h.byt p hp).2⟩
    · exact hby
  · rcases hmem p hp with hp | rfl
    · exact ⟨(h.nee p hp).1.keptIf (fun g hg _ => hkk p hp g (.inl hg)), (h.nee p hp).2⟩
    · exact hne
  · rcases hmem p hp with hp | rfl
    · obtain ⟨a1, a2, a3⟩ := h.apart p hp k hk'
      refine ⟨by omega, a2, fun e => ?_⟩
      rcases hv with h1 | h1
      · rw [h1] at e; exact a3 e
      · rw [h1] at e; have := Option.some.inj e; omega
    · obtain ⟨a1, a2, a3⟩ := hpb k hk'
      refine ⟨a3, by omega, fun e => ?_⟩
      rcases hv with h1 | h1
      · rw [h1] at e; have := (h.lst.lt k e).2; omega
      · rw [h1] at e; have := Option.some.inj e; omega
  · rcases hmem p hp with hp | rfl
    · obtain ⟨i1, i2, i3⟩ := h.ids p hp
      exact ⟨i1, by omega, i3⟩
    · exact ⟨by omega, by omega, hb1, hb2, hb3⟩
  · refine List.pairwise_append.2 ⟨h.srt, by simp, fun p hp q hq => ?_⟩
    rw [List.mem_singleton] at hq
    subst hq
    exact hidL p hp
  · rcases hmem p hp with hp | rfl
    · exact h.low p hp
    · exact hlow
  · rcases hk' with e | e | ⟨p, hp, e⟩
    · exact .inl (.inl e)
    · rcases hv with h1 | h1
      · rw [h1] at e; exact .inl (.inr (.inl e))
      · rw [h1] at e; have := Option.some.inj e; exact .inr (by omega)
    · rcases hmem p hp with hp | rfl
      · exact .inl (.inr (.inr ⟨p, hp, e⟩))
      · exact .inr (hpb k e).1

/-- What a new patch needs. -/
def rnd (L : List Pv) (p : Pv) (zs : List Int) : List Int := (L.filter (fun q => decide ((q.id : Int) ∈ zs) || rovl p q)).map (fun q => (q.id : Int))
theorem rnd_snoc (L : List Pv) (q p : Pv) (zs : List Int) : rnd (L ++ [q]) p zs = if (decide ((q.id : Int) ∈ zs) || rovl p q) = true then rnd L p zs ++ [(q.id : Int)] else rnd L p zs := by
  unfold rnd
  rw [List.filter_append]
  by_cases h : (decide ((q.id : Int) ∈ zs) || rovl p q) = true
  · rw [if_pos h]; simp [h]
  · rw [if_neg h]; simp [h]

set_option maxRecDepth 100000 in
set_option maxHeartbeats 4000000 in
theorem radd_ok (h : RZ B w x lv last L) (hsm : last + 1 ≤ 1000) (bl of : Nat) (hbl : bl ≤ 9223372036854775807) (p : Option Addr) (n c : Nat) (xs : List Int) (hx : BI w p n xs) (hmay : mayAt (bl : Int) (of : Int) n) (q : Option Addr) (m d : Nat) (zs : List Int) (hz : II w q m zs) :
    Calls Try.prog 40 #[.pointer (some ⟨x, 0, none⟩), .int .i64 (bl : Int), .int .i64 (of : Int), .slice p n c, .slice q m d] w fun e w' =>
      ((allK last zs = false ∧ e = .returned (.tuple #[.int .i64 0, .int .i64 70])) ∧ Below w.heap.size w w') ∨
      ((allK last zs = true ∧ e = .returned (.tuple #[.int .i64 ((last + 1 : Nat) : Int), .int .i64 0])) ∧ ∃ pn lv', pn.id = last + 1 ∧ pn.blk = bl ∧ pn.off = of ∧ pn.bs = xs ∧ pn.nd = rnd L pn zs ∧ RZ B w' x lv' (last + 1) (L ++ [pn]) ∧ Stp (rdm x lv L) (rdm x lv' (L ++ [pn])) w w') := by
  obtain ⟨i0, hi, hz0, hz1, hz2⟩ := info_parts info3
  obtain ⟨j0, hj, hy0, hy1, hy2⟩ := info_parts info5
  obtain ⟨e0, he, hw0, hw1, hw2⟩ := info_parts info44z
  have c0 := h.c0
  have c1 := h.c1
  obtain ⟨m1, m2, m3, m4⟩ := hmay
  have hg1 : ¬ (bl : Int) < 0 := by omega
  have hg2 : ¬ (of : Int) < 0 := by omega
  have hg3 : ¬ (n : Int) = 0 := by omega
  have hg4 : ¬ (128 : Int) < (n : Int) := by omega
  have hg5 : ¬ (128 : Int) - (n : Int) < (of : Int) := by omega
  have hzl := hz.len
  have hzb := hz.big
  have hxl := hx.len
  have hlen := h.len
  have hsml := h.sml
  have HH : Hid _ := h
  have HX : Hid _ := hx
  clear h hx m1 m2
  go_enter Try.func40, Try.ntmps40
  go_wp2_with fail
  go_loopw [42] (fun i wr => ∃ j : Nat, j ≤ m ∧ i = .int .i64 (j : Int) ∧ Below w.heap.size w wr ∧ Hid ((zs.take j).all (kn last) = true)) (fun i _ => m - (intOf i).toNat)
  case atStart => exact ⟨0, by omega, rfl, Below.refl _ _, rfl⟩
  case round =>
    obtain ⟨j, hj', rfl, hb, HA⟩ := hrel
    have hc0 : wr.cell? ⟨x, 0, none⟩ = some lv := by rw [hb.cell (p := ⟨x, 0, none⟩) (lt_of_cell c0)]; exact c0
    have hc1 : wr.cell? ⟨x, 1, none⟩ = some (.int .i64 (last : Int)) := by rw [hb.cell (p := ⟨x, 1, none⟩) (lt_of_cell c1)]; exact c1
    by_cases hlt : j < m
    · obtain ⟨b1, o1, rfl, hcc⟩ := (hz.kept hb).cells (by omega)
      have e1 := hcc j hlt
      have HT : Hid (zs.take (j + 1) = zs.take j ++ [zs.getD j 0]) := take_one (by omega)
      have HM : Hid (zs.getD j 0 ∈ zs) := getD_mem' (by omega)
      have hjI : (j : Int) < (m : Int) := by omega
      have hj0 : (0 : Int) ≤ (j : Int) := by omega
      clear hcc hz
      generalize zs.getD j 0 = y at *
      have HNo : Hid (kn last y = false → zs.all (kn last) = false) := fun hk => List.all_eq_false.2 ⟨y, HM.out, by simp [hk]⟩
      by_cases hy1' : y < 1
      · have HE : Hid (zs.all (kn last) = false) := HNo.out (kn_false.2 (fun h => by omega))
        go_wp2_with fail
        go_ret2
        exact .inl ⟨⟨HE.out, rfl⟩, hb⟩
      · by_cases hy2' : (last : Int) < y
        · have HE : Hid (zs.all (kn last) = false) := HNo.out (kn_false.2 (fun h => by omega))
          go_wp2_with fail
          go_ret2
          exact .inl ⟨⟨HE.out, rfl⟩, hb⟩
        · have HE : Hid ((zs.take (j + 1)).all (kn last) = true) := by
            show _ = _
            rw [HT.out, List.all_append, HA.out]
            simp [kn_true.2 (show 1 ≤ y ∧ y ≤ (last : Int) by omega)]
          go_wp2_with fail
          go_roundw
          case rel => exact ⟨j + 1, by omega, by go_num, hb, HE⟩
          case measure => simp [intOf]; omega
    · obtain rfl : j = m := by omega
      have HKn : Hid (allK last zs = true) := by
        show zs.all (kn last) = true
        have := HA.out
        rw [List.take_of_length_le (by omega)] at this
        exact this
      clear HA
      have hnt : ¬ (j : Int) < (j : Int) := by omega
      generalize wr = w1 at *
      have hsrc0 := HX.out.kept hb
      obtain ⟨pb, po, rfl, _⟩ := hsrc0.cells (by omega)
      have hsrcB : BI w1 (some ⟨pb, po, none⟩) n xs := hsrc0
      have hn128 : n ≤ 128 := by omega
      have hwl : IntKind.i64.wrap ((last : Int) + 1) = (last : Int) + 1 := IntWalk.i64_in _ (by omega)
      have hxw : x < w1.heap.size := lt_of_cell hc1
      clear hsrc0
      go_wp2_with fail
      go_cut [14] (fun v wx => ∃ gx g4 cap4, v = .pointer (some ⟨gx, 0, none⟩) ∧ wx.heap[gx]? = some (.cells #[.int .i64 ((last : Int) + 1), .int .i64 (bl : Int), .int .i64 (of : Int), .slice (some ⟨g4, 0, none⟩) n cap4, .slice none 0 0] 44 (0, 0)) ∧ w1.heap.size ≤ gx ∧ Own w1.heap.size wx g4 n cap4 xs ∧ Below w1.heap.size w1 wx)
      case first =>
        have xv0 : w1.drew.cell? ⟨x, 1, none⟩ = some (.int .i64 (last : Int)) := hc1
        have hbv0 : Below w1.heap.size w1 w1.drew := (Below.refl _ _).drew
        refine wp_region_held_drew (S := fun w' => w'.cell? ⟨x, 1, none⟩ = some (.int .i64 (last : Int))) (by kernel_rfl) xv0 ?_
        intro hHeld
        simp only [List.size_toArray, List.length_cons, List.length_nil, Nat.reduceAdd, Array.replicate_succ, Array.replicate_zero, List.push_toArray, List.nil_append, List.cons_append]
        generalize w1.drew = V0 at *
        refine wpAnyH_take (i := 0) (oi := { dst := some 57, op := Op.move (Operand.tmp 0), type := 25, pos := "ref.go:47", after := #[], guard := none }) (v := ?_) rfl (by kernel_rfl) (by kernel_rfl) (by kernel_rfl) (fun _ _ _ h => h) (Or.inl ⟨by rfl, ?_⟩) hHeld ?_
        rotate_left
        · (intro w hSw; (try dsimp only at hSw); go_simp; try (with_reducible rfl))
        simp only [Act.put, List.setIfInBounds_toArray, List.set_cons_zero, List.set_cons_succ]
        refine wpAnyH_take (i := 1) (oi := { dst := some 58, op := Op.nilCheck (Operand.tmp 57), type := 0, pos := "ref.go:47", after := #[{ on := 0, ground := Ground.data }], guard := none }) (v := ?_) rfl (by kernel_rfl) (by kernel_rfl) (by kernel_rfl) (fun _ _ _ h => h) (Or.inl ⟨by rfl, ?_⟩) hHeld ?_
        rotate_left
        · (intro w hSw; (try dsimp only at hSw); go_simp; try (with_reducible rfl))
        simp only [Act.put, List.setIfInBounds_toArray, List.set_cons_zero, List.set_cons_succ]
        refine wpAnyH_take (i := 2) (oi := { dst := some 59, op := Op.fieldAddr 28 (Operand.tmp 58) 1, type := 0, pos := "ref.go:47", after := #[{ on := 1, ground := Ground.data }], guard := none }) (v := ?_) rfl (by kernel_rfl) (by kernel_rfl) (by kernel_rfl) (fun _ _ _ h => h) (Or.inl ⟨by rfl, ?_⟩) hHeld ?_
        rotate_left
        · (intro w hSw; (try dsimp only at hSw); go_simp; try (with_reducible rfl))
        simp only [Act.put, List.setIfInBounds_toArray, List.set_cons_zero, List.set_cons_succ]
        refine wpAnyH_take (i := 3) (oi := { dst := some 60, op := Op.load 3 (Operand.tmp 59), type := 3, pos := "ref.go:47", after := #[{ on := 2, ground := Ground.data }], guard := none }) (v := ?_) rfl (by kernel_rfl) (by kernel_rfl) (by kernel_rfl) (fun _ _ _ h => h) (Or.inl ⟨by rfl, ?_⟩) hHeld ?_
        rotate_left
        · (intro w hSw; (try dsimp only at hSw); go_simp; try (with_reducible rfl))
        simp only [Act.put, List.setIfInBounds_toArray, List.set_cons_zero, List.set_cons_succ]
        refine wpAnyH_take (i := 4) (oi := { dst := some 61, op := Op.binOp BinOp.add 3 (Operand.tmp 60) (Operand.const (Value.int IntKind.i64 1)) 3, type := 3, pos := "ref.go:47", after := #[{ on := 3, ground := Ground.data }], guard := none }) (v := ?_) rfl (by kernel_rfl) (by kernel_rfl) (by kernel_rfl) (fun _ _ _ h => h) (Or.inl ⟨by rfl, ?_⟩) hHeld ?_
        rotate_left
        · (intro w hSw; (try dsimp only at hSw); go_simp; try (with_reducible rfl))
        simp only [Act.put, List.setIfInBounds_toArray, List.set_cons_zero, List.set_cons_succ]
        refine wpAnyH_take (i := 5) (oi := { dst := some 62, op := Op.move (Operand.tmp 1), type := 3, pos := "ref.go:47", after := #[], guard := none }) (v := ?_) rfl (by kernel_rfl) (by kernel_rfl) (by kernel_rfl) (fun _ _ _ h => h) (Or.inl ⟨by rfl, ?_⟩) hHeld ?_
        rotate_left
        · (intro w hSw; (try dsimp only at hSw); go_simp; try (with_reducible rfl))
        simp only [Act.put, List.setIfInBounds_toArray, List.set_cons_zero, List.set_cons_succ]
        refine wpAnyH_take (i := 6) (oi := { dst := some 63, op := Op.move (Operand.tmp 2), type := 3, pos := "ref.go:47", after := #[], guard := none }) (v := ?_) rfl (by kernel_rfl) (by kernel_rfl) (by kernel_rfl) (fun _ _ _ h => h) (Or.inl ⟨by rfl, ?_⟩) hHeld ?_
        rotate_left
        · (intro w hSw; (try dsimp only at hSw); go_simp; try (with_reducible rfl))
        simp only [Act.put, List.setIfInBounds_toArray, List.set_cons_zero, List.set_cons_succ]
        refine wpAnyH_take (i := 8) (oi := { dst := some 65, op := Op.move (Operand.tmp 3), type := 29, pos := "ref.go:47", after := #[], guard := none }) (v := ?_) rfl (by kernel_rfl) (by kernel_rfl) (by kernel_rfl) (fun _ _ _ h => h) (Or.inl ⟨by rfl, ?_⟩) hHeld ?_
        rotate_left
        · (intro w hSw; (try dsimp only at hSw); go_simp; try (with_reducible rfl))
        simp only [Act.put, List.setIfInBounds_toArray, List.set_cons_zero, List.set_cons_succ]
        refine wpAnyH_ready (rs := [7, 11]) (by kernel_rfl) (by simp) ?_
        refine AllReadyH.cons (o := { dst := some 64, op := Op.buildSlice 29 0 #[], type := 29, pos := "ref.go:47", after := #[], guard := none }) rfl (fun K hK => ?_) ?_
        · rw [if_pos (by rfl)]
          go_simp
          have hbA : Below V0.heap.size V0 (V0.alloc (.cells #[] 5)) := (Below.refl _ _).alloc (Nat.le_refl _) _
          have hbv1 : Below w1.heap.size w1 (V0.alloc (.cells #[] 5)) := hbv0.trans (hbA.mono hbv0.size)
          have xv1 : (V0.alloc (.cells #[] 5)).cell? ⟨x, 1, none⟩ = some (.int .i64 (last : Int)) := by rw [hbA.cell (p := ⟨x, 1, none⟩) (lt_of_cell xv0)]; exact xv0
          have hem1 : (V0.alloc (.cells #[] 5)).ownsRow w1.heap.size 5 1 (.slice (some ⟨V0.heap.size, 0, none⟩) 0 0) 0 [] := ownsRow_base (World.ownsRow_made V0 #[] 0 (Nat.le_refl _) (Nat.zero_le _) rfl) hbv0.size
          refine hK.out _ _ xv1 (fun hHeld => ?_)
          clear hK K
          try simp only [List.setIfInBounds_toArray, List.set_cons_zero, List.set_cons_succ]
          clear hbA
          generalize V0.alloc (.cells #[] 5) = V1 at *
          generalize V0.heap.size = gs at *
          refine wpAnyH_ready (rs := [9, 11]) (by kernel_rfl) (by simp) ?_
          refine AllReadyH.cons (o := { dst := some 66, op := Op.call { callee := Callee.builtin Builtin.append, args := #[Operand.tmp 64, Operand.tmp 65], argTypes := #[29, 29] }, type := 29, pos := "ref.go:47", after := #[{ on := 7, ground := Ground.data }, { on := 8, ground := Ground.data }], guard := none }) rfl (fun K hK => ?_) ?_
          · rw [if_pos (by rfl)]
            obtain ⟨v4, V2, hrun, hown, hgrow, _⟩ := run_append_own (P := Try.prog) V1 w1.heap.size 29 29 5 j0 (.int .u8 0) 1 1 Try.underlying29 hj hy0 hy1 hy2 rfl (by decide) _ 0 [] hem1 ⟨pb, po, none⟩ n c (xs.map (Value.int .u8)) (by simp [hxl]) ((hsrcB.kept (hbv1)).src') (one_cells xs) (by unfold maxLen; omega) (by omega) hbv1.size
            have hown' : V2.ownsRow w1.heap.size 5 1 v4 n (xs.map (Value.int .u8)) := by simpa using hown
            obtain ⟨g4, cap4, rfl, ho2⟩ := own_of hown' (by omega)
            have hgs := (World.ownsRow.lt hem1 gs rfl)
            have hbv2 : Below w1.heap.size w1 V2 := hbv1.grown hgrow hbv1.size (by intro k hk; simp [Value.ownBlock] at hk; omega)
            have xv2 : V2.cell? ⟨x, 1, none⟩ = some (.int .i64 (last : Int)) := by rw [hbv2.cell (p := ⟨x, 1, none⟩) hxw]; exact hc1
            refine wp_append (.tmp 64) (.tmp 65) rfl rfl rfl hrun ?_
            refine hK.out _ _ xv2 (fun hHeld => ?_)
            clear hK K hown hown' hgrow hrun
            try simp only [Act.put, List.setIfInBounds_toArray, List.set_cons_zero, List.set_cons_succ]
            refine wpAnyH_take (i := 10) (oi := { dst := some 67, op := Op.build 44 #[(0, Operand.tmp 61), (1, Operand.tmp 62), (2, Operand.tmp 63), (3, Operand.tmp 66)], type := 44, pos := "ref.go:47", after := #[{ on := 4, ground := Ground.data }, { on := 5, ground := Ground.data }, { on := 6, ground := Ground.data }, { on := 9, ground := Ground.data }], guard := none }) (v := ?_) rfl (by kernel_rfl) (by kernel_rfl) (by kernel_rfl) (fun _ _ _ h => h) (Or.inl ⟨by rfl, ?_⟩) hHeld ?_
            rotate_left
            · (intro w hSw; (try dsimp only at hSw); go_simp; try (with_reducible rfl))
            simp only [Act.put, List.setIfInBounds_toArray, List.set_cons_zero, List.set_cons_succ]
            refine wpAnyH_ready (rs := [11]) (by kernel_rfl) (by simp) ?_
            refine AllReadyH.cons (o := { dst := some 14, op := Op.alloc 44, type := 0, pos := "ref.go:47", after := #[], guard := none }) rfl (fun K hK => ?_) ?_
            · rw [if_pos (by rfl)]
              go_simp
              have hbA : Below V2.heap.size V2 (V2.alloc (.cells #[.int .i64 0, .int .i64 0, .int .i64 0, .slice none 0 0, .slice none 0 0] 44)) := (Below.refl _ _).alloc (Nat.le_refl _) _
              have hbv3 : Below w1.heap.size w1 (V2.alloc (.cells #[.int .i64 0, .int .i64 0, .int .i64 0, .slice none 0 0, .slice none 0 0] 44)) := hbv2.trans (hbA.mono hbv2.size)
              have xv3 : (V2.alloc (.cells #[.int .i64 0, .int .i64 0, .int .i64 0, .slice none 0 0, .slice none 0 0] 44)).cell? ⟨x, 1, none⟩ = some (.int .i64 (last : Int)) := by rw [hbA.cell (p := ⟨x, 1, none⟩) (lt_of_cell xv2)]; exact xv2
              have hrx3 : (V2.alloc (.cells #[.int .i64 0, .int .i64 0, .int .i64 0, .slice none 0 0, .slice none 0 0] 44)).heap[V2.heap.size]? = some (.cells #[.int .i64 0, .int .i64 0, .int .i64 0, .slice none 0 0, .slice none 0 0] 44 (0, 0)) := at_new rfl
              have hgx : w1.heap.size ≤ V2.heap.size := hbv2.size
              have hxg : x < V2.heap.size := lt_of_cell xv2
              have ho3 := ho2.kept hbA
              refine hK.out _ _ xv3 (fun hHeld => ?_)
              clear hK K
              try simp only [List.setIfInBounds_toArray, List.set_cons_zero, List.set_cons_succ]
              clear hbA
              generalize V2.alloc (.cells #[.int .i64 0, .int .i64 0, .int .i64 0, .slice none 0 0, .slice none 0 0] 44) = V3 at *
              generalize V2.heap.size = gx at *
              refine wpAnyH_ready (rs := [12]) (by kernel_rfl) (by simp) ?_
              refine AllReadyH.cons (o := { dst := none, op := Op.store 44 (Operand.tmp 14) (Operand.tmp 67), type := 0, pos := "ref.go:47", after := #[{ on := 11, ground := Ground.data }, { on := 10, ground := Ground.data }, { on := 9, ground := Ground.chain }, { on := 0, ground := Ground.phase }, { on := 1, ground := Ground.phase }, { on := 2, ground := Ground.phase }, { on := 3, ground := Ground.phase }, { on := 4, ground := Ground.phase }, { on := 5, ground := Ground.phase }, { on := 6, ground := Ground.phase }, { on := 7, ground := Ground.phase }, { on := 8, ground := Ground.phase }, { on := 9, ground := Ground.phase }, { on := 10, ground := Ground.phase }, { on := 11, ground := Ground.phase }], guard := none }) rfl (fun K hK => ?_) AllReadyH.nil
              rw [if_pos (by rfl)]
              refine wp_store_row 44 _ _ rfl gx #[.int .i64 ((last : Int) + 1), .int .i64 (bl : Int), .int .i64 (of : Int), .slice (some ⟨g4, 0, none⟩) n cap4, .slice none 0 0] rfl rfl 44 _ hrx3 info44 rfl (by simp [Value.oneCell']) ?_
              refine hK.out _ _ ((World.cell?_of_block (a := ⟨x, 1, none⟩) (setRow_other _ _ _ _ (by show x ≠ gx; omega))).trans hHeld) (fun hHeld => ?_)
              clear hK K
              try simp only [Act.put, List.setIfInBounds_toArray, List.set_cons_zero, List.set_cons_succ]
              refine wpAnyH_done (by kernel_rfl) ?_ _
              go_wp2_with fail
              go_meet
              case rel => exact ⟨gx, g4, cap4, rfl, setRow_heap _ _ _ _ 44 (0, 0) hrx3, hgx, ho3.keptAt (setRow_other _ _ _ _ (fun e => by obtain ⟨cs5, h5⟩ := own_row5 ho3; rw [e, hrx3] at h5; cases h5)), below_setRow hbv3 _ hgx _⟩
            exact AllReadyH.nil
          refine AllReadyH.cons (o := { dst := some 14, op := Op.alloc 44, type := 0, pos := "ref.go:47", after := #[], guard := none }) rfl (fun K hK => ?_) ?_
          · rw [if_pos (by rfl)]
            go_simp
            have hbA : Below V1.heap.size V1 (V1.alloc (.cells #[.int .i64 0, .int .i64 0, .int .i64 0, .slice none 0 0, .slice none 0 0] 44)) := (Below.refl _ _).alloc (Nat.le_refl _) _
            have hbv2 : Below w1.heap.size w1 (V1.alloc (.cells #[.int .i64 0, .int .i64 0, .int .i64 0, .slice none 0 0, .slice none 0 0] 44)) := hbv1.trans (hbA.mono hbv1.size)
            have xv2 : (V1.alloc (.cells #[.int .i64 0, .int .i64 0, .int .i64 0, .slice none 0 0, .slice none 0 0] 44)).cell? ⟨x, 1, none⟩ = some (.int .i64 (last : Int)) := by rw [hbA.cell (p := ⟨x, 1, none⟩) (lt_of_cell xv1)]; exact xv1
            have hrx2 : (V1.alloc (.cells #[.int .i64 0, .int .i64 0, .int .i64 0, .slice none 0 0, .slice none 0 0] 44)).heap[V1.heap.size]? = some (.cells #[.int .i64 0, .int .i64 0, .int .i64 0, .slice none 0 0, .slice none 0 0] 44 (0, 0)) := at_new rfl
            have hgx : w1.heap.size ≤ V1.heap.size := hbv1.size
            have hxg : x < V1.heap.size := lt_of_cell xv1
            have hem2 : (V1.alloc (.cells #[.int .i64 0, .int .i64 0, .int .i64 0, .slice none 0 0, .slice none 0 0] 44)).ownsRow w1.heap.size 5 1 (.slice (some ⟨gs, 0, none⟩) 0 0) 0 [] := World.ownsRow.alloc hem1 _
            refine hK.out _ _ xv2 (fun hHeld => ?_)
            clear hK K
            try simp only [List.setIfInBounds_toArray, List.set_cons_zero, List.set_cons_succ]
            clear hbA
            generalize V1.alloc (.cells #[.int .i64 0, .int .i64 0, .int .i64 0, .slice none 0 0, .slice none 0 0] 44) = V2 at *
            generalize V1.heap.size = gx at *
            refine wpAnyH_ready (rs := [9]) (by kernel_rfl) (by simp) ?_
            refine AllReadyH.cons (o := { dst := some 66, op := Op.call { callee := Callee.builtin Builtin.append, args := #[Operand.tmp 64, Operand.tmp 65], argTypes := #[29, 29] }, type := 29, pos := "ref.go:47", after := #[{ on := 7, ground := Ground.data }, { on := 8, ground := Ground.data }], guard := none }) rfl (fun K hK => ?_) ?_
            · rw [if_pos (by rfl)]
              obtain ⟨v4, V3, hrun, hown, hgrow, _⟩ := run_append_own (P := Try.prog) V2 w1.heap.size 29 29 5 j0 (.int .u8 0) 1 1 Try.underlying29 hj hy0 hy1 hy2 rfl (by decide) _ 0 [] hem2 ⟨pb, po, none⟩ n c (xs.map (Value.int .u8)) (by simp [hxl]) ((hsrcB.kept (hbv2)).src') (one_cells xs) (by unfold maxLen; omega) (by omega) hbv2.size
              have hown' : V3.ownsRow w1.heap.size 5 1 v4 n (xs.map (Value.int .u8)) := by simpa using hown
              obtain ⟨g4, cap4, rfl, ho3⟩ := own_of hown' (by omega)
              have hgs := (World.ownsRow.lt hem2 gs rfl)
              have hbv3 : Below w1.heap.size w1 V3 := hbv2.grown hgrow hbv2.size (by intro k hk; simp [Value.ownBlock] at hk; omega)
              have xv3 : V3.cell? ⟨x, 1, none⟩ = some (.int .i64 (last : Int)) := by rw [hbv3.cell (p := ⟨x, 1, none⟩) hxw]; exact hc1
              have hrx3 : V3.heap[gx]? = some (.cells #[.int .i64 0, .int .i64 0, .int .i64 0, .slice none 0 0, .slice none 0 0] 44 (0, 0)) := by
                rw [hgrow.block gx (Array.getElem?_eq_some_iff.1 hrx2).1 (fun e => by have e2 : gx = gs := Option.some.inj e; obtain ⟨cs, hcs⟩ := row_ty hem2 (g := gs) rfl; rw [← e2, hrx2] at hcs; cases hcs)]
                exact hrx2
              refine wp_append (.tmp 64) (.tmp 65) rfl rfl rfl hrun ?_
              refine hK.out _ _ xv3 (fun hHeld => ?_)
              clear hK K hown hown' hgrow hrun
              try simp only [Act.put, List.setIfInBounds_toArray, List.set_cons_zero, List.set_cons_succ]
              refine wpAnyH_take (i := 10) (oi := { dst := some 67, op := Op.build 44 #[(0, Operand.tmp 61), (1, Operand.tmp 62), (2, Operand.tmp 63), (3, Operand.tmp 66)], type := 44, pos := "ref.go:47", after := #[{ on := 4, ground := Ground.data }, { on := 5, ground := Ground.data }, { on := 6, ground := Ground.data }, { on := 9, ground := Ground.data }], guard := none }) (v := ?_) rfl (by kernel_rfl) (by kernel_rfl) (by kernel_rfl) (fun _ _ _ h => h) (Or.inl ⟨by rfl, ?_⟩) hHeld ?_
              rotate_left
              · (intro w hSw; (try dsimp only at hSw); go_simp; try (with_reducible rfl))
              simp only [Act.put, List.setIfInBounds_toArray, List.set_cons_zero, List.set_cons_succ]
              refine wpAnyH_ready (rs := [12]) (by kernel_rfl) (by simp) ?_
              refine AllReadyH.cons (o := { dst := none, op := Op.store 44 (Operand.tmp 14) (Operand.tmp 67), type := 0, pos := "ref.go:47", after := #[{ on := 11, ground := Ground.data }, { on := 10, ground := Ground.data }, { on := 9, ground := Ground.chain }, { on := 0, ground := Ground.phase }, { on := 1, ground := Ground.phase }, { on := 2, ground := Ground.phase }, { on := 3, ground := Ground.phase }, { on := 4, ground := Ground.phase }, { on := 5, ground := Ground.phase }, { on := 6, ground := Ground.phase }, { on := 7, ground := Ground.phase }, { on := 8, ground := Ground.phase }, { on := 9, ground := Ground.phase }, { on := 10, ground := Ground.phase }, { on := 11, ground := Ground.phase }], guard := none }) rfl (fun K hK => ?_) AllReadyH.nil
              rw [if_pos (by rfl)]
              refine wp_store_row 44 _ _ rfl gx #[.int .i64 ((last : Int) + 1), .int .i64 (bl : Int), .int .i64 (of : Int), .slice (some ⟨g4, 0, none⟩) n cap4, .slice none 0 0] rfl rfl 44 _ hrx3 info44 rfl (by simp [Value.oneCell']) ?_
              refine hK.out _ _ ((World.cell?_of_block (a := ⟨x, 1, none⟩) (setRow_other _ _ _ _ (by show x ≠ gx; omega))).trans hHeld) (fun hHeld => ?_)
              clear hK K
              try simp only [Act.put, List.setIfInBounds_toArray, List.set_cons_zero, List.set_cons_succ]
              refine wpAnyH_done (by kernel_rfl) ?_ _
              go_wp2_with fail
              go_meet
              case rel => exact ⟨gx, g4, cap4, rfl, setRow_heap _ _ _ _ 44 (0, 0) hrx3, hgx, ho3.keptAt (setRow_other _ _ _ _ (fun e => by obtain ⟨cs5, h5⟩ := own_row5 ho3; rw [e, hrx3] at h5; cases h5)), below_setRow hbv3 _ hgx _⟩
            exact AllReadyH.nil
          exact AllReadyH.nil
        refine AllReadyH.cons (o := { dst := some 14, op := Op.alloc 44, type := 0, pos := "ref.go:47", after := #[], guard := none }) rfl (fun K hK => ?_) ?_
        · rw [if_pos (by rfl)]
          go_simp
          have hbA : Below V0.heap.size V0 (V0.alloc (.cells #[.int .i64 0, .int .i64 0, .int .i64 0, .slice none 0 0, .slice none 0 0] 44)) := (Below.refl _ _).alloc (Nat.le_refl _) _
          have hbv1 : Below w1.heap.size w1 (V0.alloc (.cells #[.int .i64 0, .int .i64 0, .int .i64 0, .slice none 0 0, .slice none 0 0] 44)) := hbv0.trans (hbA.mono hbv0.size)
          have xv1 : (V0.alloc (.cells #[.int .i64 0, .int .i64 0, .int .i64 0, .slice none 0 0, .slice none 0 0] 44)).cell? ⟨x, 1, none⟩ = some (.int .i64 (last : Int)) := by rw [hbA.cell (p := ⟨x, 1, none⟩) (lt_of_cell xv0)]; exact xv0
          have hrx1 : (V0.alloc (.cells #[.int .i64 0, .int .i64 0, .int .i64 0, .slice none 0 0, .slice none 0 0] 44)).heap[V0.heap.size]? = some (.cells #[.int .i64 0, .int .i64 0, .int .i64 0, .slice none 0 0, .slice none 0 0] 44 (0, 0)) := at_new rfl
          have hgx : w1.heap.size ≤ V0.heap.size := hbv0.size
          have hxg : x < V0.heap.size := lt_of_cell xv0
          refine hK.out _ _ xv1 (fun hHeld => ?_)
          clear hK K
          try simp only [List.setIfInBounds_toArray, List.set_cons_zero, List.set_cons_succ]
          clear hbA
          generalize V0.alloc (.cells #[.int .i64 0, .int .i64 0, .int .i64 0, .slice none 0 0, .slice none 0 0] 44) = V1 at *
          generalize V0.heap.size = gx at *
          refine wpAnyH_ready (rs := [7]) (by kernel_rfl) (by simp) ?_
          refine AllReadyH.cons (o := { dst := some 64, op := Op.buildSlice 29 0 #[], type := 29, pos := "ref.go:47", after := #[], guard := none }) rfl (fun K hK => ?_) ?_
          · rw [if_pos (by rfl)]
            go_simp
            have hbA : Below V1.heap.size V1 (V1.alloc (.cells #[] 5)) := (Below.refl _ _).alloc (Nat.le_refl _) _
            have hbv2 : Below w1.heap.size w1 (V1.alloc (.cells #[] 5)) := hbv1.trans (hbA.mono hbv1.size)
            have xv2 : (V1.alloc (.cells #[] 5)).cell? ⟨x, 1, none⟩ = some (.int .i64 (last : Int)) := by rw [hbA.cell (p := ⟨x, 1, none⟩) (lt_of_cell xv1)]; exact xv1
            have hem2 : (V1.alloc (.cells #[] 5)).ownsRow w1.heap.size 5 1 (.slice (some ⟨V1.heap.size, 0, none⟩) 0 0) 0 [] := ownsRow_base (World.ownsRow_made V1 #[] 0 (Nat.le_refl _) (Nat.zero_le _) rfl) hbv1.size
            have hrx2 : (V1.alloc (.cells #[] 5)).heap[gx]? = some (.cells #[.int .i64 0, .int .i64 0, .int .i64 0, .slice none 0 0, .slice none 0 0] 44 (0, 0)) := at_old hrx1
            refine hK.out _ _ xv2 (fun hHeld => ?_)
            clear hK K
            try simp only [List.setIfInBounds_toArray, List.set_cons_zero, List.set_cons_succ]
            clear hbA
            generalize V1.alloc (.cells #[] 5) = V2 at *
            generalize V1.heap.size = gs at *
            refine wpAnyH_ready (rs := [9]) (by kernel_rfl) (by simp) ?_
            refine AllReadyH.cons (o := { dst := some 66, op := Op.call { callee := Callee.builtin Builtin.append, args := #[Operand.tmp 64, Operand.tmp 65], argTypes := #[29, 29] }, type := 29, pos := "ref.go:47", after := #[{ on := 7, ground := Ground.data }, { on := 8, ground := Ground.data }], guard := none }) rfl (fun K hK => ?_) ?_
            · rw [if_pos (by rfl)]
              obtain ⟨v4, V3, hrun, hown, hgrow, _⟩ := run_append_own (P := Try.prog) V2 w1.heap.size 29 29 5 j0 (.int .u8 0) 1 1 Try.underlying29 hj hy0 hy1 hy2 rfl (by decide) _ 0 [] hem2 ⟨pb, po, none⟩ n c (xs.map (Value.int .u8)) (by simp [hxl]) ((hsrcB.kept (hbv2)).src') (one_cells xs) (by unfold maxLen; omega) (by omega) hbv2.size
              have hown' : V3.ownsRow w1.heap.size 5 1 v4 n (xs.map (Value.int .u8)) := by simpa using hown
              obtain ⟨g4, cap4, rfl, ho3⟩ := own_of hown' (by omega)
              have hgs := (World.ownsRow.lt hem2 gs rfl)
              have hbv3 : Below w1.heap.size w1 V3 := hbv2.grown hgrow hbv2.size (by intro k hk; simp [Value.ownBlock] at hk; omega)
              have xv3 : V3.cell? ⟨x, 1, none⟩ = some (.int .i64 (last : Int)) := by rw [hbv3.cell (p := ⟨x, 1, none⟩) hxw]; exact hc1
              have hrx3 : V3.heap[gx]? = some (.cells #[.int .i64 0, .int .i64 0, .int .i64 0, .slice none 0 0, .slice none 0 0] 44 (0, 0)) := by
                rw [hgrow.block gx (Array.getElem?_eq_some_iff.1 hrx2).1 (fun e => by have e2 : gx = gs := Option.some.inj e; obtain ⟨cs, hcs⟩ := row_ty hem2 (g := gs) rfl; rw [← e2, hrx2] at hcs; cases hcs)]
                exact hrx2
              refine wp_append (.tmp 64) (.tmp 65) rfl rfl rfl hrun ?_
              refine hK.out _ _ xv3 (fun hHeld => ?_)
              clear hK K hown hown' hgrow hrun
              try simp only [Act.put, List.setIfInBounds_toArray, List.set_cons_zero, List.set_cons_succ]
              refine wpAnyH_take (i := 10) (oi := { dst := some 67, op := Op.build 44 #[(0, Operand.tmp 61), (1, Operand.tmp 62), (2, Operand.tmp 63), (3, Operand.tmp 66)], type := 44, pos := "ref.go:47", after := #[{ on := 4, ground := Ground.data }, { on := 5, ground := Ground.data }, { on := 6, ground := Ground.data }, { on := 9, ground := Ground.data }], guard := none }) (v := ?_) rfl (by kernel_rfl) (by kernel_rfl) (by kernel_rfl) (fun _ _ _ h => h) (Or.inl ⟨by rfl, ?_⟩) hHeld ?_
              rotate_left
              · (intro w hSw; (try dsimp only at hSw); go_simp; try (with_reducible rfl))
              simp only [Act.put, List.setIfInBounds_toArray, List.set_cons_zero, List.set_cons_succ]
              refine wpAnyH_ready (rs := [12]) (by kernel_rfl) (by simp) ?_
              refine AllReadyH.cons (o := { dst := none, op := Op.store 44 (Operand.tmp 14) (Operand.tmp 67), type := 0, pos := "ref.go:47", after := #[{ on := 11, ground := Ground.data }, { on := 10, ground := Ground.data }, { on := 9, ground := Ground.chain }, { on := 0, ground := Ground.phase }, { on := 1, ground := Ground.phase }, { on := 2, ground := Ground.phase }, { on := 3, ground := Ground.phase }, { on := 4, ground := Ground.phase }, { on := 5, ground := Ground.phase }, { on := 6, ground := Ground.phase }, { on := 7, ground := Ground.phase }, { on := 8, ground := Ground.phase }, { on := 9, ground := Ground.phase }, { on := 10, ground := Ground.phase }, { on := 11, ground := Ground.phase }], guard := none }) rfl (fun K hK => ?_) AllReadyH.nil
              rw [if_pos (by rfl)]
              refine wp_store_row 44 _ _ rfl gx #[.int .i64 ((last : Int) + 1), .int .i64 (bl : Int), .int .i64 (of : Int), .slice (some ⟨g4, 0, none⟩) n cap4, .slice none 0 0] rfl rfl 44 _ hrx3 info44 rfl (by simp [Value.oneCell']) ?_
              refine hK.out _ _ ((World.cell?_of_block (a := ⟨x, 1, none⟩) (setRow_other _ _ _ _ (by show x ≠ gx; omega))).trans hHeld) (fun hHeld => ?_)
              clear hK K
              try simp only [Act.put, List.setIfInBounds_toArray, List.set_cons_zero, List.set_cons_succ]
              refine wpAnyH_done (by kernel_rfl) ?_ _
              go_wp2_with fail
              go_meet
              case rel => exact ⟨gx, g4, cap4, rfl, setRow_heap _ _ _ _ 44 (0, 0) hrx3, hgx, ho3.keptAt (setRow_other _ _ _ _ (fun e => by obtain ⟨cs5, h5⟩ := own_row5 ho3; rw [e, hrx3] at h5; cases h5)), below_setRow hbv3 _ hgx _⟩
            exact AllReadyH.nil
          exact AllReadyH.nil
        exact AllReadyH.nil
      case rest =>
        obtain ⟨gx, g4, cap4, rfl, hrow, hgx, hO, hbx⟩ := hcut
        have hbw : Below w.heap.size w wc := hb.trans (hbx.mono hb.size)
        obtain ⟨ql, cq, hlv, hr⟩ := rows5_of HH.out.lst
        subst hlv
        have hcx : wc.cell? ⟨x, 0, none⟩ = some (.slice ql L.length cq) := by rw [hbw.cell (p := ⟨x, 0, none⟩) (lt_of_cell c0)]; exact c0
        generalize wc = w2 at *
        clear hc0 hc1 hwl
        obtain ⟨p0, hp0⟩ : ∃ p0 : Pv, p0 = { id := last + 1, blk := bl, off := of, bs := xs, nd := [], bp := some ⟨g4, 0, none⟩, bc := cap4, np := none, nc := 0 } := ⟨_, rfl⟩
        have hgl2 : gx < w2.heap.size := (Array.getElem?_eq_some_iff.1 hrow).1
        have hg42 := hO.spot
        have hg4x : g4 ≠ gx := fun e => by obtain ⟨cs5, h5⟩ := own_row5 hO; rw [e, hrow] at h5; cases h5
        have hx2 := HH.out.lt
        have hbs0 := hb.size
        have HP0 : Hid _ := hp0
        clear hp0
        go_wp2_with fail
        go_loopw [73] (fun i wz => ∃ (t : Nat) (nv : Value), t ≤ L.length ∧ i = .int .i64 (t : Int) ∧ wz.heap[gx]? = some (.cells #[.int .i64 ((last : Int) + 1), .int .i64 (bl : Int), .int .i64 (of : Int), .slice (some ⟨g4, 0, none⟩) n cap4, nv] 44 (0, 0)) ∧ Nums w2.heap.size wz nv (rnd (L.take t) p0 zs) ∧ Own w1.heap.size wz g4 n cap4 xs ∧ Below w1.heap.size w1 wz ∧ w2.heap.size ≤ wz.heap.size) (fun i _ => L.length - (intOf i).toNat)
        case atStart => exact ⟨0, _, by omega, rfl, hrow, Nums.nil _ _, hO, hbx, Nat.le_refl _⟩
        case round =>
          clear hrow hO hbx hbw hcx
          obtain ⟨t, nv, ht, rfl, hrz, hNz, hoz, hbz, hsz⟩ := hrel
          have hbw : Below w.heap.size w wr := hb.trans (hbz.mono hb.size)
          obtain ⟨qn, cn, hnv⟩ := Nums.slice hNz
          subst hnv
          have hsl : (rnd (L.take t) p0 zs).length ≤ 1000 := by
            unfold rnd
            rw [List.length_map]
            refine Nat.le_trans (List.length_filter_le _ _) ?_
            rw [List.length_take]; omega
          by_cases hlt : t < L.length
          · obtain ⟨p1, hp1⟩ : ∃ p, L[t]? = some p := ⟨_, List.getElem?_eq_getElem hlt⟩
            obtain ⟨g, rfl, d0, d1, d2, d3, d4⟩ := hr.at hbw hp1
            have htI : (t : Int) < (L.length : Int) := by omega
            have ht0 : (0 : Int) ≤ (t : Int) := by omega
            have hpm : p1 ∈ L := List.mem_of_getElem? hp1
            have hpi := HH.out.ids p1 hpm
            have HT : Hid (rnd (L.take (t + 1)) p0 zs = if (decide ((p1.id : Int) ∈ zs) || rovl p0 p1) = true then rnd (L.take t) p0 zs ++ [(p1.id : Int)] else rnd (L.take t) p0 zs) := by show _ = _; rw [take_snoc hp1, rnd_snoc]
            obtain ⟨W1, hW1⟩ : ∃ W1, wr.alloc (.cells #[.int .i64 (p1.id : Int), .int .i64 (p1.blk : Int), .int .i64 (p1.off : Int), .slice p1.bp p1.bs.length p1.bc, .slice p1.np p1.nd.length p1.nc] 44) = W1 := ⟨_, rfl⟩
            have hbr : Below wr.heap.size wr W1 := by rw [← hW1]; exact (Below.refl _ _).alloc (Nat.le_refl _) _
            have hbw1 : Below w.heap.size w W1 := hbw.trans (hbr.mono hbw.size)
            have hb11 : Below w1.heap.size w1 W1 := hbz.trans (hbr.mono hbz.size)
            have hsW := hbr.size
            have hrW : W1.heap[gx]? = some (.cells #[.int .i64 ((last : Int) + 1), .int .i64 (bl : Int), .int .i64 (of : Int), .slice (some ⟨g4, 0, none⟩) n cap4, .slice qn (rnd (L.take t) p0 zs).length cn] 44 (0, 0)) := by rw [hbr.block gx (by omega)]; exact hrz
            have hNW := hNz.kept hbr
            have hoW := hoz.kept hbr
            have hrq : W1.heap[wr.heap.size]? = some (.cells #[.int .i64 (p1.id : Int), .int .i64 (p1.blk : Int), .int .i64 (p1.off : Int), .slice p1.bp p1.bs.length p1.bc, .slice p1.np p1.nd.length p1.nc] 44 (0, 0)) := by rw [← hW1]; exact at_new rfl
            have y0 : W1.cell? ⟨wr.heap.size, 0, none⟩ = some (.int .i64 (p1.id : Int)) := by rw [cell_of_row _ _ 0 _ 44 _ hrq]; rfl
            have y1 : W1.cell? ⟨wr.heap.size, 1, none⟩ = some (.int .i64 (p1.blk : Int)) := by rw [cell_of_row _ _ 1 _ 44 _ hrq]; rfl
            have y2 : W1.cell? ⟨wr.heap.size, 2, none⟩ = some (.int .i64 (p1.off : Int)) := by rw [cell_of_row _ _ 2 _ 44 _ hrq]; rfl
            have y3 : W1.cell? ⟨wr.heap.size, 3, none⟩ = some (.slice p1.bp p1.bs.length p1.bc) := by rw [cell_of_row _ _ 3 _ 44 _ hrq]; rfl
            have y4 : W1.cell? ⟨wr.heap.size, 4, none⟩ = some (.slice p1.np p1.nd.length p1.nc) := by rw [cell_of_row _ _ 4 _ 44 _ hrq]; rfl
            have z0 : W1.cell? ⟨gx, 0, none⟩ = some (.int .i64 ((last : Int) + 1)) := by rw [cell_of_row _ _ 0 _ 44 _ hrW]; rfl
            have z1 : W1.cell? ⟨gx, 1, none⟩ = some (.int .i64 (bl : Int)) := by rw [cell_of_row _ _ 1 _ 44 _ hrW]; rfl
            have z2 : W1.cell? ⟨gx, 2, none⟩ = some (.int .i64 (of : Int)) := by rw [cell_of_row _ _ 2 _ 44 _ hrW]; rfl
            have z3 : W1.cell? ⟨gx, 3, none⟩ = some (.slice (some ⟨g4, 0, none⟩) n cap4) := by rw [cell_of_row _ _ 3 _ 44 _ hrW]; rfl
            have z4 : W1.cell? ⟨gx, 4, none⟩ = some (.slice qn (rnd (L.take t) p0 zs).length cn) := by rw [cell_of_row _ _ 4 _ 44 _ hrW]; rfl
            have hha := rhas_ok (c := d) (hz.kept hbw1) (p1.id : Int)
            have hov : Calls Try.prog 74 #[.agg #[.int .i64 ((last : Int) + 1), .int .i64 (bl : Int), .int .i64 (of : Int), .slice (some ⟨g4, 0, none⟩) n cap4, .slice qn (rnd (L.take t) p0 zs).length cn], .agg #[.int .i64 (p1.id : Int), .int .i64 (p1.blk : Int), .int .i64 (p1.off : Int), .slice p1.bp p1.bs.length p1.bc, .slice p1.np p1.nd.length p1.nc]] W1 fun e w' => e = .returned (.bool (rovl p0 p1)) ∧ Below W1.heap.size W1 w' := by
              have h1 := roverlap_ok { id := last + 1, blk := bl, off := of, bs := xs, nd := rnd (L.take t) p0 zs, bp := some ⟨g4, 0, none⟩, bc := cap4, np := qn, nc := cn } p1 W1 (by show of + xs.length ≤ 128; omega) hpi.2.2.2.2
              have h2 : rovl { id := last + 1, blk := bl, off := of, bs := xs, nd := rnd (L.take t) p0 zs, bp := some ⟨g4, 0, none⟩, bc := cap4, np := qn, nc := cn } p1 = rovl p0 p1 := by rw [HP0.out]; rfl
              rw [h2] at h1
              unfold Pv.v Pv.cells at h1
              simpa [hxl] using h1
            generalize hSL : (rnd (L.take t) p0 zs).length = sl at *
            generalize hgq : wr.heap.size = gq at *
            clear hp1 hrz hNz hoz
            by_cases hin : (p1.id : Int) ∈ zs
            · rw [decide_eq_true hin] at hha
              have HI : Hid (rnd (L.take (t + 1)) p0 zs = rnd (L.take t) p0 zs ++ [(p1.id : Int)]) := by show _ = _; rw [HT.out, decide_eq_true hin]; rfl
              clear hin hov HT
              go_wp2_with fail
              refine same_at hha ?_
              clear hha
              have hr7 := hrW
              have hN7 : Nums w2.heap.size W1 (.slice qn sl cn) (rnd (L.take t) p0 zs) := hNW
              have ho7 := hoW
              have hb17 := hb11
              go_wp2_with (at_builtin; refine wpList_append_own _ rfl _ _ 30 rfl w2.heap.size 3 i0 (.int .i64 0) 1 8 Try.underlying30 hi hz0 hz1 hz2 rfl (by decide) _ _ _ rfl (World.ownsRow.alloc hN7 _) ⟨W1.heap.size, 0, none⟩ 1 1 [.int .i64 (p1.id : Int)] rfl rfl (cell_one_new _ _ _) (by simp [Value.oneCell']) (by unfold maxLen; omega) (by omega) (by simp; omega) ?_)
              intro v' w9 hown hgrow _
              have hown : w9.ownsRow w2.heap.size 3 1 v' ((rnd (L.take t) p0 zs).length + 1) ((rnd (L.take t) p0 zs).map (Value.int .i64) ++ [.int .i64 (p1.id : Int)]) := by rw [hSL]; exact hown
              have hown := Nums.snoc hown
              have hk9 : ∀ k, k < w2.heap.size → w9.heap[k]? = W1.heap[k]? := fun k hk => by
                have h1 := hgrow.block k (by simp; omega) (fun e => by have := (World.ownsRow.lt hN7 k e.symm).1; omega)
                rw [h1]
                exact Below.heap_alloc _ _ _ (by omega)
              have hr9 : w9.heap[gx]? = some (.cells #[.int .i64 ((last : Int) + 1), .int .i64 (bl : Int), .int .i64 (of : Int), .slice (some ⟨g4, 0, none⟩) n cap4, .slice qn sl cn] 44 (0, 0)) := by rw [hk9 gx hgl2]; exact hr7
              have f9 : w9.frozen? ⟨gx, 4, none⟩ = false := by simp [World.frozen?, hr9]
              have q9 : w9.cell? ⟨gx, 4, none⟩ = some (.slice qn sl cn) := by rw [cell_of_row _ _ 4 _ 44 _ hr9]; rfl
              have hb9 : Below w1.heap.size w1 w9 := (hb17.alloc hb17.size _).grown hgrow (by have := hb17.size; simp; omega) (by intro k hk; have := (World.ownsRow.lt hN7 k hk).1; omega)
              have hs9 : w2.heap.size ≤ w9.heap.size := by have := hgrow.size; simp at this; omega
              obtain ⟨wA, hwA⟩ : ∃ wA, w9.setCell ⟨gx, 4, none⟩ v' = wA := ⟨_, rfl⟩
              have hrA : wA.heap[gx]? = some (.cells #[.int .i64 ((last : Int) + 1), .int .i64 (bl : Int), .int .i64 (of : Int), .slice (some ⟨g4, 0, none⟩) n cap4, v'] 44 (0, 0)) := by rw [← hwA, heap_setCell_same _ _ _ _ _ _ hr9]; rfl
              have hkA : ∀ k, k ≠ gx → wA.heap[k]? = w9.heap[k]? := fun k hk => by rw [← hwA]; exact Below.heap_setCell _ _ _ _ hk
              have HE : Hid (Nums w2.heap.size wA v' (rnd (L.take (t + 1)) p0 zs) ∧ Own w1.heap.size wA g4 n cap4 xs ∧ Below w1.heap.size w1 wA ∧ w2.heap.size ≤ wA.heap.size ∧ wA.heap[gx]? = some (.cells #[.int .i64 ((last : Int) + 1), .int .i64 (bl : Int), .int .i64 (of : Int), .slice (some ⟨g4, 0, none⟩) n cap4, v'] 44 (0, 0))) := by
                refine ⟨?_, ?_, ?_, ?_, hrA⟩
                · rw [HI.out]
                  exact Nums.keptAt hown (fun g hg => hkA g (by have := (World.ownsRow.lt hown g hg).1; omega))
                · exact ho7.keptAt ((hkA g4 hg4x).trans (hk9 g4 hg42.2))
                · exact ⟨by rw [← hwA]; exact hb9.os, by rw [← hwA]; exact hb9.tape, by rw [← hwA]; exact hb9.output, by rw [← hwA]; simpa using hb9.size, fun k hk => (hkA k (by omega)).trans (hb9.block k hk)⟩
                · rw [← hwA]; simpa using hs9
              obtain ⟨g', cap', hv'⟩ := Nums.succ hown
              rw [hSL] at hv'
              subst hv'
              clear hown hgrow hk9 hr9 hb9 hs9 hrA hkA hr7 hN7 ho7 hb17
              go_wp2_with fail
              go_roundw
              case rel => exact ⟨t + 1, _, by omega, by go_num, HE.out.2.2.2.2, HE.out.1, HE.out.2.1, HE.out.2.2.1, HE.out.2.2.2.1⟩
              case measure => simp [intOf]; omega
            · rw [decide_eq_false hin] at hha
              have HT2 : Hid (rnd (L.take (t + 1)) p0 zs = if rovl p0 p1 = true then rnd (L.take t) p0 zs ++ [(p1.id : Int)] else rnd (L.take t) p0 zs) := by show _ = _; rw [HT.out, decide_eq_false hin, Bool.false_or]
              clear hin HT
              go_wp2_with fail
              refine same_at hha ?_
              clear hha
              go_wp2_with fail
              refine below_at hov ?_
              intro w7 hb7
              clear hov
              have hs7 := hb7.size
              have hr7 : w7.heap[gx]? = some (.cells #[.int .i64 ((last : Int) + 1), .int .i64 (bl : Int), .int .i64 (of : Int), .slice (some ⟨g4, 0, none⟩) n cap4, .slice qn sl cn] 44 (0, 0)) := by rw [hb7.block gx (by omega)]; exact hrW
              have hN7 : Nums w2.heap.size w7 (.slice qn sl cn) (rnd (L.take t) p0 zs) := Nums.kept hNW hb7
              have ho7 := hoW.kept hb7
              have hb17 := hb11.trans (hb7.mono hb11.size)
              have u0 : w7.cell? ⟨gq, 0, none⟩ = some (.int .i64 (p1.id : Int)) := by rw [hb7.cell (p := ⟨gq, 0, none⟩) (lt_of_cell y0)]; exact y0
              have u4 : w7.cell? ⟨gx, 4, none⟩ = some (.slice qn sl cn) := by rw [cell_of_row _ _ 4 _ 44 _ hr7]; rfl
              cases hro : rovl p0 p1 with
              | true =>
                have HI : Hid (rnd (L.take (t + 1)) p0 zs = rnd (L.take t) p0 zs ++ [(p1.id : Int)]) := by show _ = _; rw [HT2.out, hro]; rfl
                clear hro HT2
                go_wp2_with (at_builtin; refine wpList_append_own _ rfl _ _ 30 rfl w2.heap.size 3 i0 (.int .i64 0) 1 8 Try.underlying30 hi hz0 hz1 hz2 rfl (by decide) _ _ _ rfl (World.ownsRow.alloc hN7 _) ⟨w7.heap.size, 0, none⟩ 1 1 [.int .i64 (p1.id : Int)] rfl rfl (cell_one_new _ _ _) (by simp [Value.oneCell']) (by unfold maxLen; omega) (by omega) (by simp; omega) ?_)
                intro v' w9 hown hgrow _
                have hown : w9.ownsRow w2.heap.size 3 1 v' ((rnd (L.take t) p0 zs).length + 1) ((rnd (L.take t) p0 zs).map (Value.int .i64) ++ [.int .i64 (p1.id : Int)]) := by rw [hSL]; exact hown
                have hown := Nums.snoc hown
                have hk9 : ∀ k, k < w2.heap.size → w9.heap[k]? = w7.heap[k]? := fun k hk => by
                  have h1 := hgrow.block k (by simp; omega) (fun e => by have := (World.ownsRow.lt hN7 k e.symm).1; omega)
                  rw [h1]
                  exact Below.heap_alloc _ _ _ (by omega)
                have hr9 : w9.heap[gx]? = some (.cells #[.int .i64 ((last : Int) + 1), .int .i64 (bl : Int), .int .i64 (of : Int), .slice (some ⟨g4, 0, none⟩) n cap4, .slice qn sl cn] 44 (0, 0)) := by rw [hk9 gx hgl2]; exact hr7
                have f9 : w9.frozen? ⟨gx, 4, none⟩ = false := by simp [World.frozen?, hr9]
                have q9 : w9.cell? ⟨gx, 4, none⟩ = some (.slice qn sl cn) := by rw [cell_of_row _ _ 4 _ 44 _ hr9]; rfl
                have hb9 : Below w1.heap.size w1 w9 := (hb17.alloc hb17.size _).grown hgrow (by have := hb17.size; simp; omega) (by intro k hk; have := (World.ownsRow.lt hN7 k hk).1; omega)
                have hs9 : w2.heap.size ≤ w9.heap.size := by have := hgrow.size; simp at this; omega
                obtain ⟨wA, hwA⟩ : ∃ wA, w9.setCell ⟨gx, 4, none⟩ v' = wA := ⟨_, rfl⟩
                have hrA : wA.heap[gx]? = some (.cells #[.int .i64 ((last : Int) + 1), .int .i64 (bl : Int), .int .i64 (of : Int), .slice (some ⟨g4, 0, none⟩) n cap4, v'] 44 (0, 0)) := by rw [← hwA, heap_setCell_same _ _ _ _ _ _ hr9]; rfl
                have hkA : ∀ k, k ≠ gx → wA.heap[k]? = w9.heap[k]? := fun k hk => by rw [← hwA]; exact Below.heap_setCell _ _ _ _ hk
                have HE : Hid (Nums w2.heap.size wA v' (rnd (L.take (t + 1)) p0 zs) ∧ Own w1.heap.size wA g4 n cap4 xs ∧ Below w1.heap.size w1 wA ∧ w2.heap.size ≤ wA.heap.size ∧ wA.heap[gx]? = some (.cells #[.int .i64 ((last : Int) + 1), .int .i64 (bl : Int), .int .i64 (of : Int), .slice (some ⟨g4, 0, none⟩) n cap4, v'] 44 (0, 0))) := by
                  refine ⟨?_, ?_, ?_, ?_, hrA⟩
                  · rw [HI.out]
                    exact Nums.keptAt hown (fun g hg => hkA g (by have := (World.ownsRow.lt hown g hg).1; omega))
                  · exact ho7.keptAt ((hkA g4 hg4x).trans (hk9 g4 hg42.2))
                  · exact ⟨by rw [← hwA]; exact hb9.os, by rw [← hwA]; exact hb9.tape, by rw [← hwA]; exact hb9.output, by rw [← hwA]; simpa using hb9.size, fun k hk => (hkA k (by omega)).trans (hb9.block k hk)⟩
                  · rw [← hwA]; simpa using hs9
                obtain ⟨g', cap', hv'⟩ := Nums.succ hown
                rw [hSL] at hv'
                subst hv'
                clear hown hgrow hk9 hr9 hb9 hs9 hrA hkA hr7 hN7 ho7 hb17
                go_wp2_with fail
                go_roundw
                case rel => exact ⟨t + 1, _, by omega, by go_num, HE.out.2.2.2.2, HE.out.1, HE.out.2.1, HE.out.2.2.1, HE.out.2.2.2.1⟩
                case measure => simp [intOf]; omega
              | false =>
                have HI : Hid (rnd (L.take (t + 1)) p0 zs = rnd (L.take t) p0 zs) := by show _ = _; rw [HT2.out, hro]; rfl
                clear hro HT2
                go_wp2_with fail
                go_roundw
                case rel => exact ⟨t + 1, _, by omega, by go_num, hr7, by rw [HI.out]; exact hN7, ho7, hb17, by omega⟩
                case measure => simp [intOf]; omega
          · have htl : t = L.length := by omega
            have hnt : ¬ (t : Int) < (L.length : Int) := by omega
            rw [List.take_of_length_le (by omega)] at hNz hrz hsl
            have hcx : wr.cell? ⟨x, 0, none⟩ = some (.slice ql L.length cq) := by rw [hbw.cell (p := ⟨x, 0, none⟩) (lt_of_cell c0)]; exact c0
            have hcy : wr.cell? ⟨x, 1, none⟩ = some (.int .i64 (last : Int)) := by rw [hbw.cell (p := ⟨x, 1, none⟩) (lt_of_cell c1)]; exact c1
            have hRx : wr.heap[x]? = some (.cells #[.slice ql L.length cq, .int .i64 (last : Int)] 28 (0, 0)) := by rw [hbw.block x hx2]; exact HH.out.row
            obtain ⟨wA, hA, eA⟩ := st1 hRx (.int .i64 ((last : Int) + 1))
            have fA : wr.frozen? ⟨x, 1, none⟩ = false := by simp [World.frozen?, hRx]
            have hkA : ∀ k, k ≠ x → wA.heap[k]? = wr.heap[k]? := fun k hk => by rw [← eA]; exact Below.heap_setCell _ _ _ _ hk
            have hgxx : gx ≠ x := by omega
            have hrA : wA.heap[gx]? = some (.cells #[.int .i64 ((last : Int) + 1), .int .i64 (bl : Int), .int .i64 (of : Int), .slice (some ⟨g4, 0, none⟩) n cap4, .slice qn (rnd L p0 zs).length cn] 44 (0, 0)) := by rw [hkA gx hgxx]; exact hrz
            have hFA : Frame (fun k => k = x) w wA := by
              have h1 : Frame (fun k => k = x) w wr := ⟨hbw.os, hbw.tape, hbw.output, hbw.size, fun k hk _ => hbw.block k hk⟩
              have h2 : Frame (fun k => k = x) wr wA := by rw [← eA]; exact Frame.setCell wr (p := ⟨x, 1, none⟩) _ rfl
              exact h1.trans h2
            have hsA : wA.heap.size = wr.heap.size := by rw [← eA]; simp
            have hwl : IntKind.i64.wrap ((last : Int) + 1) = (last : Int) + 1 := IntWalk.i64_in _ (by omega)
            generalize hSL : (rnd L p0 zs).length = sl at *
            clear hbz hr
            go_wp2_with fail
            have cS0 : wA.drew.cell? ⟨gx, 0, none⟩ = some (.int .i64 ((last : Int) + 1)) ∧ wA.drew.cell? ⟨gx, 1, none⟩ = some (.int .i64 (bl : Int)) ∧ wA.drew.cell? ⟨gx, 2, none⟩ = some (.int .i64 (of : Int)) ∧ wA.drew.cell? ⟨gx, 3, none⟩ = some (.slice (some ⟨g4, 0, none⟩) n cap4) ∧ wA.drew.cell? ⟨gx, 4, none⟩ = some (.slice qn sl cn) := by
              have hrd : wA.drew.heap[gx]? = some (.cells #[.int .i64 ((last : Int) + 1), .int .i64 (bl : Int), .int .i64 (of : Int), .slice (some ⟨g4, 0, none⟩) n cap4, .slice qn sl cn] 44 (0, 0)) := hrA
              exact ⟨by rw [cell_of_row _ _ 0 _ 44 _ hrd]; rfl, by rw [cell_of_row _ _ 1 _ 44 _ hrd]; rfl, by rw [cell_of_row _ _ 2 _ 44 _ hrd]; rfl, by rw [cell_of_row _ _ 3 _ 44 _ hrd]; rfl, by rw [cell_of_row _ _ 4 _ 44 _ hrd]; rfl⟩
            have cX0 : wA.drew.cell? ⟨x, 0, none⟩ = some (.slice ql L.length cq) := by
              have hrd : wA.drew.heap[x]? = some (.cells #[.slice ql L.length cq, .int .i64 ((last : Int) + 1)] 28 (0, 0)) := hA
              rw [cell_of_row _ _ 0 _ 28 _ hrd]; rfl
            have hFA' : Frame (fun k => k = x) w wA.drew := ⟨hFA.os, hFA.tape, hFA.output, hFA.size, hFA.block⟩
            have hrA' : wA.drew.heap[gx]? = some (.cells #[.int .i64 ((last : Int) + 1), .int .i64 (bl : Int), .int .i64 (of : Int), .slice (some ⟨g4, 0, none⟩) n cap4, .slice qn sl cn] 44 (0, 0)) := hrA
            have hA' : wA.drew.heap[x]? = some (.cells #[.slice ql L.length cq, .int .i64 ((last : Int) + 1)] 28 (0, 0)) := hA
            have hkA' : ∀ k, k ≠ x → wA.drew.heap[k]? = wr.heap[k]? := hkA
            have hsA' : wA.drew.heap.size = wr.heap.size := hsA
            clear hFA hrA hA hkA hsA eA
            refine wp_region_noPanic ?_
            refine wp_region_held_drew (S := fun w' => w'.cell? ⟨gx, 0, none⟩ = some (.int .i64 ((last : Int) + 1)) ∧ w'.cell? ⟨gx, 1, none⟩ = some (.int .i64 (bl : Int)) ∧ w'.cell? ⟨gx, 2, none⟩ = some (.int .i64 (of : Int)) ∧ w'.cell? ⟨gx, 3, none⟩ = some (.slice (some ⟨g4, 0, none⟩) n cap4) ∧ w'.cell? ⟨gx, 4, none⟩ = some (.slice qn sl cn)) (by kernel_rfl) cS0 ?_
            intro hHeld
            simp only [List.size_toArray, List.length_cons, List.length_nil, Nat.reduceAdd, Array.replicate_succ, Array.replicate_zero, List.push_toArray, List.nil_append, List.cons_append]
            generalize wA.drew = V0 at *
            have hFA := hFA'
            have hrA := hrA'
            have hA := hA'
            have HsA : Hid (V0.heap.size = wr.heap.size) := hsA'
            clear hFA' hrA' hA' hsA'
            refine wpAnyH_take (i := 0) (oi := { dst := some 101, op := Op.move (Operand.tmp 0), type := 25, pos := "ref.go:54", after := #[], guard := none }) (v := ?_) rfl (by kernel_rfl) (by kernel_rfl) (by kernel_rfl) (fun _ _ _ h => h) (Or.inl ⟨by rfl, ?_⟩) hHeld ?_
            rotate_left
            · (intro w hSw; (try dsimp only at hSw); go_simp; try (with_reducible rfl))
            simp only [Act.put, List.setIfInBounds_toArray, List.set_cons_zero, List.set_cons_succ]
            refine wpAnyH_take (i := 1) (oi := { dst := some 102, op := Op.move (Operand.tmp 0), type := 25, pos := "ref.go:54", after := #[], guard := none }) (v := ?_) rfl (by kernel_rfl) (by kernel_rfl) (by kernel_rfl) (fun _ _ _ h => h) (Or.inl ⟨by rfl, ?_⟩) hHeld ?_
            rotate_left
            · (intro w hSw; (try dsimp only at hSw); go_simp; try (with_reducible rfl))
            simp only [Act.put, List.setIfInBounds_toArray, List.set_cons_zero, List.set_cons_succ]
            refine wpAnyH_take (i := 2) (oi := { dst := some 103, op := Op.nilCheck (Operand.tmp 102), type := 0, pos := "ref.go:54", after := #[{ on := 1, ground := Ground.data }], guard := none }) (v := ?_) rfl (by kernel_rfl) (by kernel_rfl) (by kernel_rfl) (fun _ _ _ h => h) (Or.inl ⟨by rfl, ?_⟩) hHeld ?_
            rotate_left
            · (intro w hSw; (try dsimp only at hSw); go_simp; try (with_reducible rfl))
            simp only [Act.put, List.setIfInBounds_toArray, List.set_cons_zero, List.set_cons_succ]
            refine wpAnyH_take (i := 3) (oi := { dst := some 104, op := Op.fieldAddr 28 (Operand.tmp 103) 0, type := 0, pos := "ref.go:54", after := #[{ on := 2, ground := Ground.data }], guard := none }) (v := ?_) rfl (by kernel_rfl) (by kernel_rfl) (by kernel_rfl) (fun _ _ _ h => h) (Or.inl ⟨by rfl, ?_⟩) hHeld ?_
            rotate_left
            · (intro w hSw; (try dsimp only at hSw); go_simp; try (with_reducible rfl))
            simp only [Act.put, List.setIfInBounds_toArray, List.set_cons_zero, List.set_cons_succ]
            refine wpAnyH_take (i := 5) (oi := { dst := some 106, op := Op.load 44 (Operand.tmp 14), type := 44, pos := "ref.go:54", after := #[], guard := none }) (v := ?_) rfl (by kernel_rfl) (by kernel_rfl) (by kernel_rfl) (fun _ _ _ h => h) (Or.inl ⟨by rfl, ?_⟩) hHeld ?_
            rotate_left
            · (intro w hSw; (try dsimp only at hSw); go_simp; try (with_reducible rfl))
            simp only [Act.put, List.setIfInBounds_toArray, List.set_cons_zero, List.set_cons_succ]
            refine wpAnyH_ready (rs := [4, 6]) (by kernel_rfl) (by simp) ?_
            refine AllReadyH.cons (o := { dst := some 105, op := Op.load 26 (Operand.tmp 104), type := 26, pos := "ref.go:54", after := #[{ on := 3, ground := Ground.data }], guard := none }) rfl (fun K hK => ?_) ?_
            · rw [if_pos (by rfl)]
              go_simp
              refine hK.out _ _ cS0 (fun hHeld => ?_)
              clear hK K
              try simp only [List.setIfInBounds_toArray, List.set_cons_zero, List.set_cons_succ]
              refine wpAnyH_ready (rs := [6]) (by kernel_rfl) (by simp) ?_
              refine AllReadyH.cons (o := { dst := some 107, op := Op.buildSlice 26 1 #[(0, Operand.tmp 106)], type := 26, pos := "ref.go:54", after := #[{ on := 5, ground := Ground.data }], guard := none }) rfl (fun K hK => ?_) ?_
              · rw [if_pos (by rfl)]
                go_simp
                have hbA : Below V0.heap.size V0 (V0.alloc (.cells #[.int .i64 ((last : Int) + 1), .int .i64 (bl : Int), .int .i64 (of : Int), .slice (some ⟨g4, 0, none⟩) n cap4, .slice qn sl cn] 44)) := (Below.refl _ _).alloc (Nat.le_refl _) _
                have cS1 := fun i (v : Value) (h : V0.cell? ⟨gx, i, none⟩ = some v) => (hbA.cell (p := ⟨gx, i, none⟩) (lt_of_cell h)).trans h
                have cX1 : (V0.alloc (.cells #[.int .i64 ((last : Int) + 1), .int .i64 (bl : Int), .int .i64 (of : Int), .slice (some ⟨g4, 0, none⟩) n cap4, .slice qn sl cn] 44)).cell? ⟨x, 0, none⟩ = some (.slice ql L.length cq) := (hbA.cell (p := ⟨x, 0, none⟩) (lt_of_cell cX0)).trans cX0
                have hSs : (V0.alloc (.cells #[.int .i64 ((last : Int) + 1), .int .i64 (bl : Int), .int .i64 (of : Int), .slice (some ⟨g4, 0, none⟩) n cap4, .slice qn sl cn] 44)).cell? ⟨gx, 0, none⟩ = some (.int .i64 ((last : Int) + 1)) ∧ (V0.alloc (.cells #[.int .i64 ((last : Int) + 1), .int .i64 (bl : Int), .int .i64 (of : Int), .slice (some ⟨g4, 0, none⟩) n cap4, .slice qn sl cn] 44)).cell? ⟨gx, 1, none⟩ = some (.int .i64 (bl : Int)) ∧ (V0.alloc (.cells #[.int .i64 ((last : Int) + 1), .int .i64 (bl : Int), .int .i64 (of : Int), .slice (some ⟨g4, 0, none⟩) n cap4, .slice qn sl cn] 44)).cell? ⟨gx, 2, none⟩ = some (.int .i64 (of : Int)) ∧ (V0.alloc (.cells #[.int .i64 ((last : Int) + 1), .int .i64 (bl : Int), .int .i64 (of : Int), .slice (some ⟨g4, 0, none⟩) n cap4, .slice qn sl cn] 44)).cell? ⟨gx, 3, none⟩ = some (.slice (some ⟨g4, 0, none⟩) n cap4) ∧ (V0.alloc (.cells #[.int .i64 ((last : Int) + 1), .int .i64 (bl : Int), .int .i64 (of : Int), .slice (some ⟨g4, 0, none⟩) n cap4, .slice qn sl cn] 44)).cell? ⟨gx, 4, none⟩ = some (.slice qn sl cn) := ⟨cS1 0 _ cS0.1, cS1 1 _ cS0.2.1, cS1 2 _ cS0.2.2.1, cS1 3 _ cS0.2.2.2.1, cS1 4 _ cS0.2.2.2.2⟩
                have hnw := five_new V0 (.int .i64 ((last : Int) + 1)) (.int .i64 (bl : Int)) (.int .i64 (of : Int)) (.slice (some ⟨g4, 0, none⟩) n cap4) (.slice qn sl cn) 44
                refine hK.out _ _ hSs (fun hHeld => ?_)
                clear hK K
                try simp only [List.setIfInBounds_toArray, List.set_cons_zero, List.set_cons_succ]
                clear cS1
                generalize hV1e : V0.alloc (.cells #[.int .i64 ((last : Int) + 1), .int .i64 (bl : Int), .int .i64 (of : Int), .slice (some ⟨g4, 0, none⟩) n cap4, .slice qn sl cn] 44) = V1 at *
                refine wpAnyH_ready (rs := [7]) (by kernel_rfl) (by simp) ?_
                refine AllReadyH.cons (o := { dst := some 108, op := Op.call { callee := Callee.builtin Builtin.append, args := #[Operand.tmp 105, Operand.tmp 107], argTypes := #[26, 26] }, type := 26, pos := "ref.go:54", after := #[{ on := 4, ground := Ground.data }, { on := 6, ground := Ground.data }], guard := none }) rfl (fun K hK => ?_) ?_
                · rw [if_pos (by rfl)]
                  have hsA' := HsA.out
                  have hlV : V1.ownsRow B 44 5 (.slice ql L.length cq) L.length (flat5 L) := row_keptIf HH.out.lst (fun k hk => by
                    have h1 := (HH.out.lst.lt k hk)
                    rw [hbA.block k (by omega)]
                    exact hFA.block k h1.2 (fun e => by obtain ⟨cs, hcs⟩ := row_ty HH.out.lst hk; rw [e, HH.out.row] at hcs; cases hcs))
                  obtain ⟨v5, V2, hrun, hown, hgrow, _, hvb⟩ := run_append_own_at (P := Try.prog) V1 B 26 26 44 e0 _ 5 72 Try.underlying26 he hw0 hw1 hw2 rfl (by decide) _ L.length (flat5 L) hlV ⟨V0.heap.size, 0, none⟩ 1 1 [.int .i64 ((last : Int) + 1), .int .i64 (bl : Int), .int .i64 (of : Int), .slice (some ⟨g4, 0, none⟩) n cap4, .slice qn sl cn] rfl hnw (by simp [Value.oneCell']) (by unfold maxLen; omega) (by omega) (by have := HH.out.base; have := hbA.size; omega)
                  have hk2 : ∀ k, k < V1.heap.size → (Value.slice ql L.length cq).ownBlock ≠ some k → V2.heap[k]? = V1.heap[k]? := fun k hk hn => hgrow.block k hk (fun e => hn e.symm)
                  have hlvx : (Value.slice ql L.length cq).ownBlock ≠ some x := fun e => by obtain ⟨cs, hcs⟩ := row_ty HH.out.lst e; rw [HH.out.row] at hcs; cases hcs
                  have hlvg : ∀ k, w.heap.size ≤ k → (Value.slice ql L.length cq).ownBlock ≠ some k := fun k hk e => by have := (HH.out.lst.lt k e).2; omega
                  have hR2 : V2.heap[x]? = some (.cells #[.slice ql L.length cq, .int .i64 ((last : Int) + 1)] 28 (0, 0)) := by rw [hk2 x (by have := hbA.size; omega) hlvx, hbA.block x (by omega)]; exact hA
                  have hg2 : V2.heap[gx]? = some (.cells #[.int .i64 ((last : Int) + 1), .int .i64 (bl : Int), .int .i64 (of : Int), .slice (some ⟨g4, 0, none⟩) n cap4, .slice qn sl cn] 44 (0, 0)) := by rw [hk2 gx (by have := hbA.size; omega) (hlvg gx (by omega)), hbA.block gx (by omega)]; exact hrA
                  have hSV2 : V2.cell? ⟨gx, 0, none⟩ = some (.int .i64 ((last : Int) + 1)) ∧ V2.cell? ⟨gx, 1, none⟩ = some (.int .i64 (bl : Int)) ∧ V2.cell? ⟨gx, 2, none⟩ = some (.int .i64 (of : Int)) ∧ V2.cell? ⟨gx, 3, none⟩ = some (.slice (some ⟨g4, 0, none⟩) n cap4) ∧ V2.cell? ⟨gx, 4, none⟩ = some (.slice qn sl cn) := ⟨by rw [cell_of_row _ _ 0 _ 44 _ hg2]; rfl, by rw [cell_of_row _ _ 1 _ 44 _ hg2]; rfl, by rw [cell_of_row _ _ 2 _ 44 _ hg2]; rfl, by rw [cell_of_row _ _ 3 _ 44 _ hg2]; rfl, by rw [cell_of_row _ _ 4 _ 44 _ hg2]; rfl⟩
                  clear hsA'
                  refine wp_append (.tmp 105) (.tmp 107) rfl rfl rfl hrun ?_
                  refine hK.out _ _ hSV2 (fun hHeld => ?_)
                  clear hK K
                  try simp only [Act.put, List.setIfInBounds_toArray, List.set_cons_zero, List.set_cons_succ]
                  refine wpAnyH_take (i := 8) (oi := { dst := some 109, op := Op.nilCheck (Operand.tmp 101), type := 0, pos := "ref.go:54", after := #[{ on := 0, ground := Ground.data }, { on := 0, ground := Ground.phase }, { on := 1, ground := Ground.phase }, { on := 2, ground := Ground.phase }, { on := 3, ground := Ground.phase }, { on := 4, ground := Ground.phase }, { on := 5, ground := Ground.phase }, { on := 6, ground := Ground.phase }, { on := 7, ground := Ground.phase }], guard := none }) (v := ?_) rfl (by kernel_rfl) (by kernel_rfl) (by kernel_rfl) (fun _ _ _ h => h) (Or.inl ⟨by rfl, ?_⟩) hHeld ?_
                  rotate_left
                  · (intro w hSw; (try dsimp only at hSw); go_simp; try (with_reducible rfl))
                  simp only [Act.put, List.setIfInBounds_toArray, List.set_cons_zero, List.set_cons_succ]
                  refine wpAnyH_take (i := 9) (oi := { dst := some 110, op := Op.fieldAddr 28 (Operand.tmp 109) 0, type := 0, pos := "ref.go:54", after := #[{ on := 8, ground := Ground.data }, { on := 0, ground := Ground.phase }, { on := 1, ground := Ground.phase }, { on := 2, ground := Ground.phase }, { on := 3, ground := Ground.phase }, { on := 4, ground := Ground.phase }, { on := 5, ground := Ground.phase }, { on := 6, ground := Ground.phase }, { on := 7, ground := Ground.phase }], guard := none }) (v := ?_) rfl (by kernel_rfl) (by kernel_rfl) (by kernel_rfl) (fun _ _ _ h => h) (Or.inl ⟨by rfl, ?_⟩) hHeld ?_
                  rotate_left
                  · (intro w hSw; (try dsimp only at hSw); go_simp; try (with_reducible rfl))
                  simp only [Act.put, List.setIfInBounds_toArray, List.set_cons_zero, List.set_cons_succ]
                  refine wpAnyH_ready (rs := [10]) (by kernel_rfl) (by simp) ?_
                  refine AllReadyH.cons (o := { dst := none, op := Op.store 26 (Operand.tmp 110) (Operand.tmp 108), type := 0, pos := "ref.go:54", after := #[{ on := 9, ground := Ground.data }, { on := 7, ground := Ground.data }, { on := 7, ground := Ground.chain }, { on := 0, ground := Ground.phase }, { on := 1, ground := Ground.phase }, { on := 2, ground := Ground.phase }, { on := 3, ground := Ground.phase }, { on := 4, ground := Ground.phase }, { on := 5, ground := Ground.phase }, { on := 6, ground := Ground.phase }, { on := 7, ground := Ground.phase }], guard := none }) rfl (fun K hK => ?_) AllReadyH.nil
                  rw [if_pos (by rfl)]
                  obtain ⟨V3, hR3, eR3⟩ := st0 hR2 v5
                  have cx2 : V2.cell? ⟨x, 0, none⟩ = some (.slice ql L.length cq) := by rw [cell_of_row _ _ 0 _ 28 _ hR2]; rfl
                  have fx2 : V2.frozen? ⟨x, 0, none⟩ = false := by simp [World.frozen?, hR2]
                  obtain ⟨g7, c7, hv7⟩ : ∃ g7 c7, v5 = .slice (some ⟨g7, 0, none⟩) (L.length + 1) c7 := by
                    rcases hown.2 with ⟨_, e0'⟩ | ⟨g', cp', cur', e', _⟩
                    · omega
                    · exact ⟨g', cp', e'⟩
                  have hk3 : ∀ k, k ≠ x → V3.heap[k]? = V2.heap[k]? := fun k hk => by rw [← eR3]; exact Below.heap_setCell _ _ _ _ hk
                  have hs3 : V3.heap.size = V2.heap.size := by rw [← eR3]; simp
                  have hg3 : V3.heap[gx]? = some (.cells #[.int .i64 ((last : Int) + 1), .int .i64 (bl : Int), .int .i64 (of : Int), .slice (some ⟨g4, 0, none⟩) n cap4, .slice qn sl cn] 44 (0, 0)) := by rw [hk3 gx hgxx]; exact hg2
                  have hSV3 : V3.cell? ⟨gx, 0, none⟩ = some (.int .i64 ((last : Int) + 1)) ∧ V3.cell? ⟨gx, 1, none⟩ = some (.int .i64 (bl : Int)) ∧ V3.cell? ⟨gx, 2, none⟩ = some (.int .i64 (of : Int)) ∧ V3.cell? ⟨gx, 3, none⟩ = some (.slice (some ⟨g4, 0, none⟩) n cap4) ∧ V3.cell? ⟨gx, 4, none⟩ = some (.slice qn sl cn) := ⟨by rw [cell_of_row _ _ 0 _ 44 _ hg3]; rfl, by rw [cell_of_row _ _ 1 _ 44 _ hg3]; rfl, by rw [cell_of_row _ _ 2 _ 44 _ hg3]; rfl, by rw [cell_of_row _ _ 3 _ 44 _ hg3]; rfl, by rw [cell_of_row _ _ 4 _ 44 _ hg3]; rfl⟩
                  subst hv7
                  go_simp
                  refine hK.out _ _ hSV3 (fun hHeld => ?_)
                  clear hK K
                  try simp only [List.setIfInBounds_toArray, List.set_cons_zero, List.set_cons_succ]
                  refine wpAnyH_done (by kernel_rfl) ?_ _
                  refine NoPanic.normal ?_
                  have hsA' := HsA.out
                  have hV1s := hbA.size
                  have hV2s := hgrow.size
                  have hch : ∀ k, w.heap.size ≤ k → k < wr.heap.size → V3.heap[k]? = wr.heap[k]? := fun k h1 h2 => by
                    rw [hk3 k (by omega), hk2 k (by omega) (hlvg k h1), hbA.block k (by omega), hkA' k (by omega)]
                  have hNf : Nums w2.heap.size V3 (.slice qn sl cn) (rnd L p0 zs) := Nums.keptAt (w := wr) hNz (fun g hg => hch g (by have := (World.ownsRow.lt hNz g hg).1; omega) (World.ownsRow.lt hNz g hg).2)
                  have hof : Own w1.heap.size V3 g4 n cap4 xs := hoz.keptAt (hch g4 (by have := hoz.spot.1; omega) hoz.spot.2)
                  have hrm : ∀ y ∈ rnd L p0 zs, 1 ≤ y ∧ y < (last : Int) + 1 := fun y hy => by
                    unfold rnd at hy
                    obtain ⟨q1, hq1, rfl⟩ := List.mem_map.1 hy
                    have := HH.out.ids q1 (List.mem_filter.1 hq1).1
                    omega
                  obtain ⟨qn', cn', hqe, hIn, hpln⟩ := Nums.ii hNf (by omega) (fun y hy => by have := hrm y hy; exact ⟨by omega, by omega⟩)
                  injection hqe with hq1 hq2 hq3
                  subst hq1
                  have hqlt : ∀ k, blkOf qn = some k → w2.heap.size ≤ k ∧ k < wr.heap.size := fun k hk => by
                    rcases hpln with e | ⟨b9, o9, e⟩
                    · rw [e] at hk; cases hk
                    · rw [e] at hk
                      have hob : (Value.slice qn sl cn).ownBlock = some k := by
                        rcases hNz.2 with ⟨e1, _⟩ | ⟨g9, cp9, cur9, e1, _⟩
                        · injection e1 with e1 _ _; rw [e1] at e; cases e
                        · injection e1 with e1 _ _
                          rw [e1] at e ⊢
                          injection e with e
                          injection e with e _ _
                          rw [← e] at hk
                          exact hk
                      exact World.ownsRow.lt hNz k hob
                  obtain ⟨pn, hpn⟩ : ∃ pn : Pv, pn = { id := last + 1, blk := bl, off := of, bs := xs, nd := rnd L p0 zs, bp := some ⟨g4, 0, none⟩, bc := cap4, np := qn, nc := cn } := ⟨_, rfl⟩
                  have hgro := HH.out.grow (V := V3) (v' := .slice (some ⟨g7, 0, none⟩) (L.length + 1) c7) (pn := pn) (K0 := V1.heap.size) hR3 (by
                      have hk5 : V3.heap[g7]? = V2.heap[g7]? := hk3 g7 (fun e => by obtain ⟨cs, hcs⟩ := row_ty hown (g := g7) rfl; rw [e, hR2] at hcs; cases hcs)
                      have h5 : V3.ownsRow B 44 5 (.slice (some ⟨g7, 0, none⟩) (L.length + 1) c7) (L.length + 1) _ := row_keptIf hown (fun g hg => by have e : g7 = g := Option.some.inj hg; rw [← e]; exact hk5)
                      rw [flat5_app, hpn]
                      simp only [flat5, hxl, hSL]
                      rw [show ((last + 1 : Nat) : Int) = (last : Int) + 1 from by omega]
                      exact h5) (by omega) (by rw [← eR3]; exact (hgrow.os.trans (hbA.os.trans hFA.os))) (by rw [← eR3]; exact (hgrow.tape.trans (hbA.tape.trans hFA.tape))) (by rw [← eR3]; exact (hgrow.output.trans (hbA.output.trans hFA.output)))
                    (fun k h1 h2 h3 => by rw [hk3 k h2, hk2 k (by omega) h3, hbA.block k (by omega)]; exact hFA.block k h1 h2) hvb (by omega)
                    (by rw [hpn]; exact ⟨by have := hof.bi (by omega) HX.out.byt; rw [← hxl] at this; exact this, .inr ⟨g4, 0, rfl⟩⟩) (by rw [hpn]; exact ⟨hIn, hpln⟩)
                    (fun k hk => by
                      rw [hpn] at hk
                      rcases hk with hk | hk
                      · have := hqlt k hk; omega
                      · have e : g4 = k := Option.some.inj hk
                        have := hoz.spot; omega) (by rw [hpn]) (by rw [hpn]; exact hbl) (by rw [hpn]; show 1 ≤ xs.length; omega) (by rw [hpn]; show of + xs.length ≤ 128; omega) (by rw [hpn]; intro y hy; have := hrm y hy; show 1 ≤ y ∧ y < ((last + 1 : Nat) : Int); omega) hsm
                  have HG : Hid (pn.id = last + 1 ∧ pn.blk = bl ∧ pn.off = of ∧ pn.bs = xs ∧ pn.nd = rnd L pn zs ∧ RZ B V3 x (.slice (some ⟨g7, 0, none⟩) (L.length + 1) c7) (last + 1) (L ++ [pn]) ∧ Stp (rdm x (.slice ql L.length cq) L) (rdm x (.slice (some ⟨g7, 0, none⟩) (L.length + 1) c7) (L ++ [pn])) w V3) := ⟨by rw [hpn], by rw [hpn], by rw [hpn], by rw [hpn], by rw [hpn, HP0.out]; rfl, hgro.1, hgro.2⟩
                  have c1f : V3.cell? ⟨x, 1, none⟩ = some (.int .i64 ((last : Int) + 1)) := by rw [cell_of_row _ _ 1 _ 28 _ hR3]; rfl
                  clear hgro hpn hqlt hIn hpln hrm hof hNf hch hV1s hV2s hsA' hHeld hq2 hq3
                  go_wp2_with fail
                  go_ret2
                  exact .inr ⟨⟨HKn.out, by simp⟩, pn, _, HG.out⟩
                exact AllReadyH.nil
              exact AllReadyH.nil
            refine AllReadyH.cons (o := { dst := some 107, op := Op.buildSlice 26 1 #[(0, Operand.tmp 106)], type := 26, pos := "ref.go:54", after := #[{ on := 5, ground := Ground.data }], guard := none }) rfl (fun K hK => ?_) ?_
            · rw [if_pos (by rfl)]
              go_simp
              have hbA : Below V0.heap.size V0 (V0.alloc (.cells #[.int .i64 ((last : Int) + 1), .int .i64 (bl : Int), .int .i64 (of : Int), .slice (some ⟨g4, 0, none⟩) n cap4, .slice qn sl cn] 44)) := (Below.refl _ _).alloc (Nat.le_refl _) _
              have cS1 := fun i (v : Value) (h : V0.cell? ⟨gx, i, none⟩ = some v) => (hbA.cell (p := ⟨gx, i, none⟩) (lt_of_cell h)).trans h
              have cX1 : (V0.alloc (.cells #[.int .i64 ((last : Int) + 1), .int .i64 (bl : Int), .int .i64 (of : Int), .slice (some ⟨g4, 0, none⟩) n cap4, .slice qn sl cn] 44)).cell? ⟨x, 0, none⟩ = some (.slice ql L.length cq) := (hbA.cell (p := ⟨x, 0, none⟩) (lt_of_cell cX0)).trans cX0
              have hSs : (V0.alloc (.cells #[.int .i64 ((last : Int) + 1), .int .i64 (bl : Int), .int .i64 (of : Int), .slice (some ⟨g4, 0, none⟩) n cap4, .slice qn sl cn] 44)).cell? ⟨gx, 0, none⟩ = some (.int .i64 ((last : Int) + 1)) ∧ (V0.alloc (.cells #[.int .i64 ((last : Int) + 1), .int .i64 (bl : Int), .int .i64 (of : Int), .slice (some ⟨g4, 0, none⟩) n cap4, .slice qn sl cn] 44)).cell? ⟨gx, 1, none⟩ = some (.int .i64 (bl : Int)) ∧ (V0.alloc (.cells #[.int .i64 ((last : Int) + 1), .int .i64 (bl : Int), .int .i64 (of : Int), .slice (some ⟨g4, 0, none⟩) n cap4, .slice qn sl cn] 44)).cell? ⟨gx, 2, none⟩ = some (.int .i64 (of : Int)) ∧ (V0.alloc (.cells #[.int .i64 ((last : Int) + 1), .int .i64 (bl : Int), .int .i64 (of : Int), .slice (some ⟨g4, 0, none⟩) n cap4, .slice qn sl cn] 44)).cell? ⟨gx, 3, none⟩ = some (.slice (some ⟨g4, 0, none⟩) n cap4) ∧ (V0.alloc (.cells #[.int .i64 ((last : Int) + 1), .int .i64 (bl : Int), .int .i64 (of : Int), .slice (some ⟨g4, 0, none⟩) n cap4, .slice qn sl cn] 44)).cell? ⟨gx, 4, none⟩ = some (.slice qn sl cn) := ⟨cS1 0 _ cS0.1, cS1 1 _ cS0.2.1, cS1 2 _ cS0.2.2.1, cS1 3 _ cS0.2.2.2.1, cS1 4 _ cS0.2.2.2.2⟩
              have hnw := five_new V0 (.int .i64 ((last : Int) + 1)) (.int .i64 (bl : Int)) (.int .i64 (of : Int)) (.slice (some ⟨g4, 0, none⟩) n cap4) (.slice qn sl cn) 44
              refine hK.out _ _ hSs (fun hHeld => ?_)
              clear hK K
              try simp only [List.setIfInBounds_toArray, List.set_cons_zero, List.set_cons_succ]
              clear cS1
              generalize hV1e : V0.alloc (.cells #[.int .i64 ((last : Int) + 1), .int .i64 (bl : Int), .int .i64 (of : Int), .slice (some ⟨g4, 0, none⟩) n cap4, .slice qn sl cn] 44) = V1 at *
              refine wpAnyH_ready (rs := [4]) (by kernel_rfl) (by simp) ?_
              refine AllReadyH.cons (o := { dst := some 105, op := Op.load 26 (Operand.tmp 104), type := 26, pos := "ref.go:54", after := #[{ on := 3, ground := Ground.data }], guard := none }) rfl (fun K hK => ?_) ?_
              · rw [if_pos (by rfl)]
                go_simp
                refine hK.out _ _ hSs (fun hHeld => ?_)
                clear hK K
                try simp only [List.setIfInBounds_toArray, List.set_cons_zero, List.set_cons_succ]
                refine wpAnyH_ready (rs := [7]) (by kernel_rfl) (by simp) ?_
                refine AllReadyH.cons (o := { dst := some 108, op := Op.call { callee := Callee.builtin Builtin.append, args := #[Operand.tmp 105, Operand.tmp 107], argTypes := #[26, 26] }, type := 26, pos := "ref.go:54", after := #[{ on := 4, ground := Ground.data }, { on := 6, ground := Ground.data }], guard := none }) rfl (fun K hK => ?_) ?_
                · rw [if_pos (by rfl)]
                  have hsA' := HsA.out
                  have hlV : V1.ownsRow B 44 5 (.slice ql L.length cq) L.length (flat5 L) := row_keptIf HH.out.lst (fun k hk => by
                    have h1 := (HH.out.lst.lt k hk)
                    rw [hbA.block k (by omega)]
                    exact hFA.block k h1.2 (fun e => by obtain ⟨cs, hcs⟩ := row_ty HH.out.lst hk; rw [e, HH.out.row] at hcs; cases hcs))
                  obtain ⟨v5, V2, hrun, hown, hgrow, _, hvb⟩ := run_append_own_at (P := Try.prog) V1 B 26 26 44 e0 _ 5 72 Try.underlying26 he hw0 hw1 hw2 rfl (by decide) _ L.length (flat5 L) hlV ⟨V0.heap.size, 0, none⟩ 1 1 [.int .i64 ((last : Int) + 1), .int .i64 (bl : Int), .int .i64 (of : Int), .slice (some ⟨g4, 0, none⟩) n cap4, .slice qn sl cn] rfl hnw (by simp [Value.oneCell']) (by unfold maxLen; omega) (by omega) (by have := HH.out.base; have := hbA.size; omega)
                  have hk2 : ∀ k, k < V1.heap.size → (Value.slice ql L.length cq).ownBlock ≠ some k → V2.heap[k]? = V1.heap[k]? := fun k hk hn => hgrow.block k hk (fun e => hn e.symm)
                  have hlvx : (Value.slice ql L.length cq).ownBlock ≠ some x := fun e => by obtain ⟨cs, hcs⟩ := row_ty HH.out.lst e; rw [HH.out.row] at hcs; cases hcs
                  have hlvg : ∀ k, w.heap.size ≤ k → (Value.slice ql L.length cq).ownBlock ≠ some k := fun k hk e => by have := (HH.out.lst.lt k e).2; omega
                  have hR2 : V2.heap[x]? = some (.cells #[.slice ql L.length cq, .int .i64 ((last : Int) + 1)] 28 (0, 0)) := by rw [hk2 x (by have := hbA.size; omega) hlvx, hbA.block x (by omega)]; exact hA
                  have hg2 : V2.heap[gx]? = some (.cells #[.int .i64 ((last : Int) + 1), .int .i64 (bl : Int), .int .i64 (of : Int), .slice (some ⟨g4, 0, none⟩) n cap4, .slice qn sl cn] 44 (0, 0)) := by rw [hk2 gx (by have := hbA.size; omega) (hlvg gx (by omega)), hbA.block gx (by omega)]; exact hrA
                  have hSV2 : V2.cell? ⟨gx, 0, none⟩ = some (.int .i64 ((last : Int) + 1)) ∧ V2.cell? ⟨gx, 1, none⟩ = some (.int .i64 (bl : Int)) ∧ V2.cell? ⟨gx, 2, none⟩ = some (.int .i64 (of : Int)) ∧ V2.cell? ⟨gx, 3, none⟩ = some (.slice (some ⟨g4, 0, none⟩) n cap4) ∧ V2.cell? ⟨gx, 4, none⟩ = some (.slice qn sl cn) := ⟨by rw [cell_of_row _ _ 0 _ 44 _ hg2]; rfl, by rw [cell_of_row _ _ 1 _ 44 _ hg2]; rfl, by rw [cell_of_row _ _ 2 _ 44 _ hg2]; rfl, by rw [cell_of_row _ _ 3 _ 44 _ hg2]; rfl, by rw [cell_of_row _ _ 4 _ 44 _ hg2]; rfl⟩
                  clear hsA'
                  refine wp_append (.tmp 105) (.tmp 107) rfl rfl rfl hrun ?_
                  refine hK.out _ _ hSV2 (fun hHeld => ?_)
                  clear hK K
                  try simp only [Act.put, List.setIfInBounds_toArray, List.set_cons_zero, List.set_cons_succ]
                  refine wpAnyH_take (i := 8) (oi := { dst := some 109, op := Op.nilCheck (Operand.tmp 101), type := 0, pos := "ref.go:54", after := #[{ on := 0, ground := Ground.data }, { on := 0, ground := Ground.phase }, { on := 1, ground := Ground.phase }, { on := 2, ground := Ground.phase }, { on := 3, ground := Ground.phase }, { on := 4, ground := Ground.phase }, { on := 5, ground := Ground.phase }, { on := 6, ground := Ground.phase }, { on := 7, ground := Ground.phase }], guard := none }) (v := ?_) rfl (by kernel_rfl) (by kernel_rfl) (by kernel_rfl) (fun _ _ _ h => h) (Or.inl ⟨by rfl, ?_⟩) hHeld ?_
                  rotate_left
                  · (intro w hSw; (try dsimp only at hSw); go_simp; try (with_reducible rfl))
                  simp only [Act.put, List.setIfInBounds_toArray, List.set_cons_zero, List.set_cons_succ]
                  refine wpAnyH_take (i := 9) (oi := { dst := some 110, op := Op.fieldAddr 28 (Operand.tmp 109) 0, type := 0, pos := "ref.go:54", after := #[{ on := 8, ground := Ground.data }, { on := 0, ground := Ground.phase }, { on := 1, ground := Ground.phase }, { on := 2, ground := Ground.phase }, { on := 3, ground := Ground.phase }, { on := 4, ground := Ground.phase }, { on := 5, ground := Ground.phase }, { on := 6, ground := Ground.phase }, { on := 7, ground := Ground.phase }], guard := none }) (v := ?_) rfl (by kernel_rfl) (by kernel_rfl) (by kernel_rfl) (fun _ _ _ h => h) (Or.inl ⟨by rfl, ?_⟩) hHeld ?_
                  rotate_left
                  · (intro w hSw; (try dsimp only at hSw); go_simp; try (with_reducible rfl))
                  simp only [Act.put, List.setIfInBounds_toArray, List.set_cons_zero, List.set_cons_succ]
                  refine wpAnyH_ready (rs := [10]) (by kernel_rfl) (by simp) ?_
                  refine AllReadyH.cons (o := { dst := none, op := Op.store 26 (Operand.tmp 110) (Operand.tmp 108), type := 0, pos := "ref.go:54", after := #[{ on := 9, ground := Ground.data }, { on := 7, ground := Ground.data }, { on := 7, ground := Ground.chain }, { on := 0, ground := Ground.phase }, { on := 1, ground := Ground.phase }, { on := 2, ground := Ground.phase }, { on := 3, ground := Ground.phase }, { on := 4, ground := Ground.phase }, { on := 5, ground := Ground.phase }, { on := 6, ground := Ground.phase }, { on := 7, ground := Ground.phase }], guard := none }) rfl (fun K hK => ?_) AllReadyH.nil
                  rw [if_pos (by rfl)]
                  obtain ⟨V3, hR3, eR3⟩ := st0 hR2 v5
                  have cx2 : V2.cell? ⟨x, 0, none⟩ = some (.slice ql L.length cq) := by rw [cell_of_row _ _ 0 _ 28 _ hR2]; rfl
                  have fx2 : V2.frozen? ⟨x, 0, none⟩ = false := by simp [World.frozen?, hR2]
                  obtain ⟨g7, c7, hv7⟩ : ∃ g7 c7, v5 = .slice (some ⟨g7, 0, none⟩) (L.length + 1) c7 := by
                    rcases hown.2 with ⟨_, e0'⟩ | ⟨g', cp', cur', e', _⟩
                    · omega
                    · exact ⟨g', cp', e'⟩
                  have hk3 : ∀ k, k ≠ x → V3.heap[k]? = V2.heap[k]? := fun k hk => by rw [← eR3]; exact Below.heap_setCell _ _ _ _ hk
                  have hs3 : V3.heap.size = V2.heap.size := by rw [← eR3]; simp
                  have hg3 : V3.heap[gx]? = some (.cells #[.int .i64 ((last : Int) + 1), .int .i64 (bl : Int), .int .i64 (of : Int), .slice (some ⟨g4, 0, none⟩) n cap4, .slice qn sl cn] 44 (0, 0)) := by rw [hk3 gx hgxx]; exact hg2
                  have hSV3 : V3.cell? ⟨gx, 0, none⟩ = some (.int .i64 ((last : Int) + 1)) ∧ V3.cell? ⟨gx, 1, none⟩ = some (.int .i64 (bl : Int)) ∧ V3.cell? ⟨gx, 2, none⟩ = some (.int .i64 (of : Int)) ∧ V3.cell? ⟨gx, 3, none⟩ = some (.slice (some ⟨g4, 0, none⟩) n cap4) ∧ V3.cell? ⟨gx, 4, none⟩ = some (.slice qn sl cn) := ⟨by rw [cell_of_row _ _ 0 _ 44 _ hg3]; rfl, by rw [cell_of_row _ _ 1 _ 44 _ hg3]; rfl, by rw [cell_of_row _ _ 2 _ 44 _ hg3]; rfl, by rw [cell_of_row _ _ 3 _ 44 _ hg3]; rfl, by rw [cell_of_row _ _ 4 _ 44 _ hg3]; rfl⟩
                  subst hv7
                  go_simp
                  refine hK.out _ _ hSV3 (fun hHeld => ?_)
                  clear hK K
                  try simp only [List.setIfInBounds_toArray, List.set_cons_zero, List.set_cons_succ]
                  refine wpAnyH_done (by kernel_rfl) ?_ _
                  refine NoPanic.normal ?_
                  have hsA' := HsA.out
                  have hV1s := hbA.size
                  have hV2s := hgrow.size
                  have hch : ∀ k, w.heap.size ≤ k → k < wr.heap.size → V3.heap[k]? = wr.heap[k]? := fun k h1 h2 => by
                    rw [hk3 k (by omega), hk2 k (by omega) (hlvg k h1), hbA.block k (by omega), hkA' k (by omega)]
                  have hNf : Nums w2.heap.size V3 (.slice qn sl cn) (rnd L p0 zs) := Nums.keptAt (w := wr) hNz (fun g hg => hch g (by have := (World.ownsRow.lt hNz g hg).1; omega) (World.ownsRow.lt hNz g hg).2)
                  have hof : Own w1.heap.size V3 g4 n cap4 xs := hoz.keptAt (hch g4 (by have := hoz.spot.1; omega) hoz.spot.2)
                  have hrm : ∀ y ∈ rnd L p0 zs, 1 ≤ y ∧ y < (last : Int) + 1 := fun y hy => by
                    unfold rnd at hy
                    obtain ⟨q1, hq1, rfl⟩ := List.mem_map.1 hy
                    have := HH.out.ids q1 (List.mem_filter.1 hq1).1
                    omega
                  obtain ⟨qn', cn', hqe, hIn, hpln⟩ := Nums.ii hNf (by omega) (fun y hy => by have := hrm y hy; exact ⟨by omega, by omega⟩)
                  injection hqe with hq1 hq2 hq3
                  subst hq1
                  have hqlt : ∀ k, blkOf qn = some k → w2.heap.size ≤ k ∧ k < wr.heap.size := fun k hk => by
                    rcases hpln with e | ⟨b9, o9, e⟩
                    · rw [e] at hk; cases hk
                    · rw [e] at hk
                      have hob : (Value.slice qn sl cn).ownBlock = some k := by
                        rcases hNz.2 with ⟨e1, _⟩ | ⟨g9, cp9, cur9, e1, _⟩
                        · injection e1 with e1 _ _; rw [e1] at e; cases e
                        · injection e1 with e1 _ _
                          rw [e1] at e ⊢
                          injection e with e
                          injection e with e _ _
                          rw [← e] at hk
                          exact hk
                      exact World.ownsRow.lt hNz k hob
                  obtain ⟨pn, hpn⟩ : ∃ pn : Pv, pn = { id := last + 1, blk := bl, off := of, bs := xs, nd := rnd L p0 zs, bp := some ⟨g4, 0, none⟩, bc := cap4, np := qn, nc := cn } := ⟨_, rfl⟩
                  have hgro := HH.out.grow (V := V3) (v' := .slice (some ⟨g7, 0, none⟩) (L.length + 1) c7) (pn := pn) (K0 := V1.heap.size) hR3 (by
                      have hk5 : V3.heap[g7]? = V2.heap[g7]? := hk3 g7 (fun e => by obtain ⟨cs, hcs⟩ := row_ty hown (g := g7) rfl; rw [e, hR2] at hcs; cases hcs)
                      have h5 : V3.ownsRow B 44 5 (.slice (some ⟨g7, 0, none⟩) (L.length + 1) c7) (L.length + 1) _ := row_keptIf hown (fun g hg => by have e : g7 = g := Option.some.inj hg; rw [← e]; exact hk5)
                      rw [flat5_app, hpn]
                      simp only [flat5, hxl, hSL]
                      rw [show ((last + 1 : Nat) : Int) = (last : Int) + 1 from by omega]
                      exact h5) (by omega) (by rw [← eR3]; exact (hgrow.os.trans (hbA.os.trans hFA.os))) (by rw [← eR3]; exact (hgrow.tape.trans (hbA.tape.trans hFA.tape))) (by rw [← eR3]; exact (hgrow.output.trans (hbA.output.trans hFA.output)))
                    (fun k h1 h2 h3 => by rw [hk3 k h2, hk2 k (by omega) h3, hbA.block k (by omega)]; exact hFA.block k h1 h2) hvb (by omega)
                    (by rw [hpn]; exact ⟨by have := hof.bi (by omega) HX.out.byt; rw [← hxl] at this; exact this, .inr ⟨g4, 0, rfl⟩⟩) (by rw [hpn]; exact ⟨hIn, hpln⟩)
                    (fun k hk => by
                      rw [hpn] at hk
                      rcases hk with hk | hk
                      · have := hqlt k hk; omega
                      · have e : g4 = k := Option.some.inj hk
                        have := hoz.spot; omega) (by rw [hpn]) (by rw [hpn]; exact hbl) (by rw [hpn]; show 1 ≤ xs.length; omega) (by rw [hpn]; show of + xs.length ≤ 128; omega) (by rw [hpn]; intro y hy; have := hrm y hy; show 1 ≤ y ∧ y < ((last + 1 : Nat) : Int); omega) hsm
                  have HG : Hid (pn.id = last + 1 ∧ pn.blk = bl ∧ pn.off = of ∧ pn.bs = xs ∧ pn.nd = rnd L pn zs ∧ RZ B V3 x (.slice (some ⟨g7, 0, none⟩) (L.length + 1) c7) (last + 1) (L ++ [pn]) ∧ Stp (rdm x (.slice ql L.length cq) L) (rdm x (.slice (some ⟨g7, 0, none⟩) (L.length + 1) c7) (L ++ [pn])) w V3) := ⟨by rw [hpn], by rw [hpn], by rw [hpn], by rw [hpn], by rw [hpn, HP0.out]; rfl, hgro.1, hgro.2⟩
                  have c1f : V3.cell? ⟨x, 1, none⟩ = some (.int .i64 ((last : Int) + 1)) := by rw [cell_of_row _ _ 1 _ 28 _ hR3]; rfl
                  clear hgro hpn hqlt hIn hpln hrm hof hNf hch hV1s hV2s hsA' hHeld hq2 hq3
                  go_wp2_with fail
                  go_ret2
                  exact .inr ⟨⟨HKn.out, by simp⟩, pn, _, HG.out⟩
                exact AllReadyH.nil
              exact AllReadyH.nil
            exact AllReadyH.nil
end
end Go.Proofs.Yteapkfnklbhdfaa
