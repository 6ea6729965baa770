/- The document's set: what may be written, Plan. -/
import Derived.Test.YteapkfnklbhdfaaRef6
namespace Go.Proofs.Yteapkfnklbhdfaa
open Go.RowKit Go.Maps
set_option linter.unusedVariables false

/-- Whether one has, in ids, all that it needs. -/
def okI (L : List Pv) (ids : List Int) (k : Int) : Bool := ((fP L k).map (fun p => !lk L ids p)).getD true
def stp (L : List Pv) (ids : List Int) : List Int := ids.filter (okI L ids)
def itr (L : List Pv) : Nat → List Int → List Int
  | 0, ids => ids
  | k + 1, ids => stp L (itr L k ids)
def bT : Value → Bool
  | .bool b => b
  | _ => false
/-- What may be written. -/
def MayR (B : Nat) (w : World) (v : Value) (L : List Pv) (b : Int) : Prop := ∃ M k, Nums B w v M ∧ M = itr L k (idsOf L b) ∧ stp L M = M
def sLen : Value → Nat
  | .slice _ n _ => n
  | _ => 0
theorem fi_some {L : List Pv} {k : Int} {p : Pv} (h : fP L k = some p) : ∃ i : Nat, fi L k = (i : Int) ∧ L[i]? = some p := by
  unfold fP at h
  obtain ⟨hk, i, hi, e, hno⟩ := List.find?_eq_some_iff_getElem.1 h
  refine ⟨i, fi_at (p := p) (by rw [List.getElem?_eq_getElem hi, e]) (of_decide_eq_true hk) (fun q hq => ?_), by rw [List.getElem?_eq_getElem hi, e]⟩
  obtain ⟨j, hj, rfl⟩ := List.mem_take_iff_getElem.1 hq
  have := hno j (by omega)
  simpa using this

section
variable {B : Nat} {w : World} {x : Nat} {lv : Value} {last : Nat} {L : List Pv}

set_option maxRecDepth 100000 in
set_option maxHeartbeats 4000000 in
theorem rmay_ok (h : RZ B w x lv last L) (b : Int) : Calls Try.prog 58 #[.pointer (some ⟨x, 0, none⟩), .int .i64 b] w fun e w' => ∃ v, e = .returned v ∧ MayR w.heap.size w' v L b ∧ Below w.heap.size w w' := by
  obtain ⟨i0, hi, hz0, hz1, hz2⟩ := info_parts info3
  have c0 := h.c0
  have hof := rof_ok h b
  obtain ⟨q, cq, hlv, hr⟩ := rows5_of h.lst
  subst hlv
  have hlen := h.len
  have hsml := h.sml
  have hidl : (idsOf L b).length ≤ 1000 := by
    rw [idsOf_eq, List.length_map]
    refine Nat.le_trans (List.length_filter_le _ _) ?_
    omega
  have hidm : ∀ y ∈ idsOf L b, ∃ p, fP L y = some p := fun y hy => by
    rw [idsOf_eq] at hy
    obtain ⟨p, hp, rfl⟩ := List.mem_map.1 hy
    exact ⟨p, fP_mem h.srt (mem_ofB.1 hp).1⟩
  have HH : Hid _ := h
  clear h
  go_enter Try.func58, Try.ntmps58
  go_wp2_with fail
  refine hof.mono ?_
  rintro _ w1 ⟨v1, rfl, hN1, hb1⟩
  clear hof
  dsimp only
  go_wp2_with fail
  go_loopw [5, 6] (fun v ag wr => ∃ (M : List Int) (k : Nat) (again : Bool), ag = .bool again ∧ Nums w.heap.size wr v M ∧ M = itr L k (idsOf L b) ∧ (again = false → stp L M = M) ∧ (∀ y ∈ M, y ∈ idsOf L b) ∧ M.length ≤ 1000 ∧ Below w.heap.size w wr) (fun v ag _ => if bT ag then sLen v + 1 else 0)
  case atStart => exact ⟨idsOf L b, 0, true, rfl, hN1, rfl, (fun h => by cases h), fun y hy => hy, hidl, hb1⟩
  case round =>
    clear hN1 hb1
    obtain ⟨M, k, again, rfl, hN, HM, HSt, hsub, hMl, hb⟩ := hrel
    have HM' : Hid _ := HM
    have HSt' : Hid _ := HSt
    have HSub : Hid _ := hsub
    clear HM HSt hsub
    have hfit : ∀ y ∈ M, I64 y := fun y hy => by
      obtain ⟨p, hp⟩ := hidm y (HSub.out y hy)
      obtain ⟨h1, h2⟩ := fP_some hp
      have := HH.out.ids p h1
      exact ⟨by omega, by omega⟩
    obtain ⟨qv, cv, hqv, hIv, hplv⟩ := hN.ii (by omega) hfit
    subst hqv
    cases again with
    | false =>
      go_wp2_with fail
      go_ret
      exact ⟨_, rfl, ⟨M, k, hN, HM'.out, HSt'.out (by first | rfl | trivial)⟩, hb⟩
    | true =>
      clear hfit hplv HSt'
      generalize hMn : M.length = m at *
      generalize wr = w2 at *
      have hb2s := hb.size
      go_wp2_with fail
      go_loopw [6, 7, 19] (fun ag lf i wz => ∃ (t : Nat) (again : Bool), t ≤ m ∧ i = .int .i64 (t : Int) ∧ ag = .bool again ∧ Nums w2.heap.size wz lf ((M.take t).filter (okI L M)) ∧ Hid (again = false → (M.take t).filter (okI L M) = M.take t) ∧ Hid (again = true → ((M.take t).filter (okI L M)).length < t) ∧ Below w2.heap.size w2 wz) (fun _ _ i _ => m - (intOf i).toNat)
      case atStart => exact ⟨0, false, by omega, rfl, rfl, Nums.nil _ _, (fun _ => rfl), (fun h => by cases h), Below.refl _ _⟩
      case round =>
        obtain ⟨t, again, ht, rfl, rfl, hNl, HA0, HA1, hbz⟩ := hrel
        generalize hlf : u7 = lf at *
        by_cases hlt : t < m
        · obtain ⟨b5, o5, rfl, hc5⟩ := (hIv.kept hbz).cells (by omega)
          have e5 := hc5 t hlt
          have HT : Hid (M.take (t + 1) = M.take t ++ [M.getD t 0]) := take_one (by omega)
          have htI : (t : Int) < (m : Int) := by omega
          have ht0 : (0 : Int) ≤ (t : Int) := by omega
          obtain ⟨p1, hp1⟩ := hidm _ (HSub.out _ (getD_mem' (zs := M) (j := t) (by omega)))
          generalize M.getD t 0 = y at *
          obtain ⟨ix, hix, hLi⟩ := fi_some hp1
          have hbz2 : Below w.heap.size w wr := hb.trans (hbz.mono hb.size)
          have hixl := (List.getElem?_eq_some_iff.1 hLi).1
          have hRZ := HH.out.kept hbz2
          obtain ⟨g, hqg, d0, d1, d2, d3, d4⟩ := hr.at hbz2 hLi
          subst hqg
          have hc0 : wr.cell? ⟨x, 0, none⟩ = some (.slice (some ⟨g, 0, none⟩) L.length cq) := hRZ.c0
          have hfi := rfind_ok (hRZ.kept ((Below.refl wr.heap.size wr).drew)) y
          rw [hix] at hfi
          have hi0 : (0 : Int) ≤ (ix : Int) := by omega
          have hiI : (ix : Int) < (L.length : Int) := by omega
          clear hc5 d0 d1 d2 d3 hix
          go_wp2_with fail
          refine wp_region_noPanic ?_
          refine wp_region_held_drew (S := fun w' => w'.cell? ⟨x, 0, none⟩ = some (.slice (some ⟨g, 0, none⟩) L.length cq) ∧ w'.cell? ⟨g, ix * 5 + 4, none⟩ = some (.slice p1.np p1.nd.length p1.nc)) (by kernel_rfl) ⟨hc0, d4⟩ (fun hHeld => ?_)
          refine wpAnyH_take (i := 0) (oi := { dst := some 23, op := Op.move (Operand.tmp 0), type := 25, pos := "ref.go:85", after := #[], guard := none }) (v := ?_) rfl (by kernel_rfl) (by kernel_rfl) (by kernel_rfl) (fun _ _ _ h => h) (Or.inl ⟨by rfl, ?_⟩) hHeld ?_
          rotate_left
          · (intro w hSw; (try dsimp only at hSw); go_simp; try (with_reducible rfl))
          simp only [Act.put, List.setIfInBounds_toArray, List.set_cons_zero, List.set_cons_succ]
          refine wpAnyH_take (i := 1) (oi := { dst := some 24, op := Op.nilCheck (Operand.tmp 23), type := 0, pos := "ref.go:85", after := #[{ on := 0, ground := Ground.data }], guard := none }) (v := ?_) rfl (by kernel_rfl) (by kernel_rfl) (by kernel_rfl) (fun _ _ _ h => h) (Or.inl ⟨by rfl, ?_⟩) hHeld ?_
          rotate_left
          · (intro w hSw; (try dsimp only at hSw); go_simp; try (with_reducible rfl))
          simp only [Act.put, List.setIfInBounds_toArray, List.set_cons_zero, List.set_cons_succ]
          refine wpAnyH_take (i := 2) (oi := { dst := some 25, op := Op.fieldAddr 28 (Operand.tmp 24) 0, type := 0, pos := "ref.go:85", after := #[{ on := 1, ground := Ground.data }], guard := none }) (v := ?_) rfl (by kernel_rfl) (by kernel_rfl) (by kernel_rfl) (fun _ _ _ h => h) (Or.inl ⟨by rfl, ?_⟩) hHeld ?_
          rotate_left
          · (intro w hSw; (try dsimp only at hSw); go_simp; try (with_reducible rfl))
          simp only [Act.put, List.setIfInBounds_toArray, List.set_cons_zero, List.set_cons_succ]
          refine wpAnyH_take (i := 3) (oi := { dst := some 26, op := Op.load 26 (Operand.tmp 25), type := 26, pos := "ref.go:85", after := #[{ on := 2, ground := Ground.data }], guard := none }) (v := ?_) rfl (by kernel_rfl) (by kernel_rfl) (by kernel_rfl) (fun _ _ _ h => h) (Or.inl ⟨by rfl, ?_⟩) hHeld ?_
          rotate_left
          · (intro w hSw; (try dsimp only at hSw); go_simp; try (with_reducible rfl))
          simp only [Act.put, List.setIfInBounds_toArray, List.set_cons_zero, List.set_cons_succ]
          refine wpAnyH_take (i := 4) (oi := { dst := some 27, op := Op.move (Operand.tmp 0), type := 25, pos := "ref.go:85", after := #[], guard := none }) (v := ?_) rfl (by kernel_rfl) (by kernel_rfl) (by kernel_rfl) (fun _ _ _ h => h) (Or.inl ⟨by rfl, ?_⟩) hHeld ?_
          rotate_left
          · (intro w hSw; (try dsimp only at hSw); go_simp; try (with_reducible rfl))
          simp only [Act.put, List.setIfInBounds_toArray, List.set_cons_zero, List.set_cons_succ]
          refine wpAnyH_take (i := 5) (oi := { dst := some 28, op := Op.move (Operand.tmp 9), type := 3, pos := "ref.go:85", after := #[], guard := none }) (v := ?_) rfl (by kernel_rfl) (by kernel_rfl) (by kernel_rfl) (fun _ _ _ h => h) (Or.inl ⟨by rfl, ?_⟩) hHeld ?_
          rotate_left
          · (intro w hSw; (try dsimp only at hSw); go_simp; try (with_reducible rfl))
          simp only [Act.put, List.setIfInBounds_toArray, List.set_cons_zero, List.set_cons_succ]
          refine wpAnyH_take (i := 11) (oi := { dst := some 34, op := Op.move (Operand.const (Value.int IntKind.i64 0)), type := 3, pos := "ref.go:85", after := #[], guard := none }) (v := ?_) rfl (by kernel_rfl) (by kernel_rfl) (by kernel_rfl) (fun _ _ _ h => h) (Or.inl ⟨by rfl, ?_⟩) hHeld ?_
          rotate_left
          · (intro w hSw; (try dsimp only at hSw); go_simp; try (with_reducible rfl))
          simp only [Act.put, List.setIfInBounds_toArray, List.set_cons_zero, List.set_cons_succ]
          refine wpAnyH_ready (rs := [6]) (by kernel_rfl) (by simp) ?_
          refine AllReadyH.cons (o := { dst := some 29, op := Op.call { callee := Callee.value (Operand.func 48), args := #[Operand.tmp 27, Operand.tmp 28], argTypes := #[25, 3] }, type := 3, pos := "ref.go:85", after := #[{ on := 4, ground := Ground.data }, { on := 5, ground := Ground.data }], guard := none }) rfl (fun K hK => ?_) AllReadyH.nil
          rw [if_pos (by rfl)]
          go_simp
          refine hfi.mono ?_
          rintro _ w5 ⟨rfl, hb5⟩
          dsimp only
          have hx5 : w5.cell? ⟨x, 0, none⟩ = some (.slice (some ⟨g, 0, none⟩) L.length cq) := by rw [hb5.cell (p := ⟨x, 0, none⟩) (lt_of_cell hc0)]; exact hc0
          have hg5 : w5.cell? ⟨g, ix * 5 + 4, none⟩ = some (.slice p1.np p1.nd.length p1.nc) := by rw [hb5.cell (p := ⟨g, ix * 5 + 4, none⟩) (lt_of_cell d4)]; exact d4
          refine hK.out _ _ ⟨hx5, hg5⟩ (fun hHeld => ?_)
          clear hK K
          try simp only [Act.put, List.setIfInBounds_toArray, List.set_cons_zero, List.set_cons_succ]
          refine wpAnyH_take (i := 7) (oi := { dst := some 30, op := Op.indexAddr 26 (Operand.tmp 26) (Operand.tmp 29), type := 0, pos := "ref.go:85", after := #[{ on := 3, ground := Ground.data }, { on := 6, ground := Ground.data }], guard := none }) (v := ?_) rfl (by kernel_rfl) (by kernel_rfl) (by kernel_rfl) (fun _ _ _ h => h) (Or.inl ⟨by rfl, ?_⟩) hHeld ?_
          rotate_left
          · (intro w hSw; (try dsimp only at hSw); go_simp; try (with_reducible rfl))
          simp only [Act.put, List.setIfInBounds_toArray, List.set_cons_zero, List.set_cons_succ]
          refine wpAnyH_take (i := 8) (oi := { dst := some 31, op := Op.fieldAddr 44 (Operand.tmp 30) 4, type := 0, pos := "ref.go:85", after := #[{ on := 7, ground := Ground.data }], guard := none }) (v := ?_) rfl (by kernel_rfl) (by kernel_rfl) (by kernel_rfl) (fun _ _ _ h => h) (Or.inl ⟨by rfl, ?_⟩) hHeld ?_
          rotate_left
          · (intro w hSw; (try dsimp only at hSw); go_simp; try (with_reducible rfl))
          simp only [Act.put, List.setIfInBounds_toArray, List.set_cons_zero, List.set_cons_succ]
          refine wpAnyH_take (i := 9) (oi := { dst := some 32, op := Op.load 30 (Operand.tmp 31), type := 30, pos := "ref.go:85", after := #[{ on := 8, ground := Ground.data }], guard := none }) (v := ?_) rfl (by kernel_rfl) (by kernel_rfl) (by kernel_rfl) (fun _ _ _ h => h) (Or.inl ⟨by rfl, ?_⟩) hHeld ?_
          rotate_left
          · (intro w hSw; (try dsimp only at hSw); go_simp; try (with_reducible rfl))
          simp only [Act.put, List.setIfInBounds_toArray, List.set_cons_zero, List.set_cons_succ]
          refine wpAnyH_take (i := 10) (oi := { dst := some 33, op := Op.call { callee := Callee.builtin Builtin.len, args := #[Operand.tmp 32], argTypes := #[30] }, type := 3, pos := "ref.go:85", after := #[{ on := 9, ground := Ground.data }], guard := none }) (v := ?_) rfl (by kernel_rfl) (by kernel_rfl) (by kernel_rfl) (fun _ _ _ h => h) (Or.inl ⟨by rfl, ?_⟩) hHeld ?_
          rotate_left
          · (intro w hSw; (try dsimp only at hSw); go_simp; try (with_reducible rfl))
          simp only [Act.put, List.setIfInBounds_toArray, List.set_cons_zero, List.set_cons_succ]
          refine wpAnyH_done (by kernel_rfl) ?_ _
          refine NoPanic.normal ?_
          clear hfi hHeld hc0 d4
          have hbz5 : Below w2.heap.size w2 w5 := hbz.trans ((below_drewN (Below.refl _ _) 1).trans (hb5.mono (Nat.le_refl _)) |>.mono hbz.size)
          have hNl5 : Nums w2.heap.size w5 lf ((M.take t).filter (okI L M)) := hNl.kept ((below_drewN (Below.refl _ _) 1).trans (hb5.mono (Nat.le_refl _)))
          have HOk : Hid (okI L M y = !(p1.nd.any (wq L M))) := by show _ = _; unfold okI lk; rw [hp1]; rfl
          have hpm : p1 ∈ L := List.mem_of_getElem? hLi
          have hndl := (HH.out.nee p1 hpm).1.big
          clear hNl hbz hb5 hp1 hLi e5 hRZ
          go_wp2_with fail
          go_loopw [10, 34] (fun ov i wz => ∃ u : Nat, u ≤ p1.nd.length ∧ i = .int .i64 (u : Int) ∧ ov = .bool (!(p1.nd.take u).any (wq L M)) ∧ Below w5.heap.size w5 wz) (fun _ i _ => p1.nd.length - (intOf i).toNat)
          case atStart => exact ⟨0, by omega, rfl, rfl, Below.refl _ _⟩
          case round =>
            obtain ⟨u, hu, rfl, rfl, hb6⟩ := hrel
            have hbw6 : Below w.heap.size w wr := hb.trans ((hbz5.trans (hb6.mono hbz5.size)).mono hb.size)
            by_cases hlt3 : u < p1.nd.length
            · obtain ⟨b6, o6, hnp, hc6⟩ := ((HH.out.nee p1 hpm).1.kept hbw6).cells (by omega)
              rw [hnp]
              have e6 := hc6 u hlt3
              have HT6 : Hid (p1.nd.take (u + 1) = p1.nd.take u ++ [p1.nd.getD u 0]) := take_one hlt3
              have huI : (u : Int) < (p1.nd.length : Int) := by omega
              have hu0 : (0 : Int) ≤ (u : Int) := by omega
              generalize p1.nd.getD u 0 = z at *
              have hfi := rfind_ok (HH.out.kept hbw6) z
              generalize hA : (p1.nd.take u).any (wq L M) = A at *
              clear hc6
              cases hsy : (fP L z).isSome with
              | true =>
                have hge : decide (0 ≤ fi L z) = true := decide_eq_true (by have := fi_nonneg hsy; omega)
                have hge2 : (0 : Int) ≤ fi L z := by have := fi_nonneg hsy; omega
                have HS : Hid _ := hsy
                have HAe : Hid _ := hA
                clear hsy hA
                generalize fi L z = f at *
                go_wp2_with fail
                refine below_at hfi ?_
                intro w7 hb7
                clear hfi
                have hb57 := hb6.trans (hb7.mono hb6.size)
                have hh2 := rhas_ok (c := cv) ((hIv.kept hbz5).kept hb57) z
                by_cases hyz : z ∈ M
                · rw [decide_eq_true hyz] at hh2
                  have HE : Hid ((p1.nd.take (u + 1)).any (wq L M) = A) := by
                    show _ = _
                    rw [HT6.out, List.any_append, HAe.out]
                    simp [wq, hyz]
                  clear hyz
                  go_wp2_with fail
                  refine same_at hh2 ?_
                  clear hh2
                  go_wp2_with fail
                  go_roundw
                  case rel => exact ⟨u + 1, by omega, by go_num, by rw [HE.out], hb57⟩
                  case measure => simp [intOf]; omega
                · rw [decide_eq_false hyz] at hh2
                  have HE : Hid ((p1.nd.take (u + 1)).any (wq L M) = true) := by
                    show _ = _
                    rw [HT6.out, List.any_append]
                    simp [wq, hyz, HS.out]
                  clear hyz
                  go_wp2_with fail
                  refine same_at hh2 ?_
                  clear hh2
                  go_wp2_with fail
                  go_roundw
                  case rel => exact ⟨u + 1, by omega, by go_num, by rw [HE.out]; rfl, hb57⟩
                  case measure => simp [intOf]; omega
              | false =>
                rw [fi_neg hsy] at hfi
                have HE : Hid ((p1.nd.take (u + 1)).any (wq L M) = A) := by
                  show _ = _
                  rw [HT6.out, List.any_append, hA]
                  simp [wq, hsy]
                clear hsy hA
                go_wp2_with fail
                refine below_at hfi ?_
                intro w7 hb7
                clear hfi
                go_wp2_with fail
                go_roundw
                case rel => exact ⟨u + 1, by omega, by go_num, by rw [HE.out], hb6.trans (hb7.mono hb6.size)⟩
                case measure => simp [intOf]; omega
            · have hul : u = p1.nd.length := by omega
              have hn3 : ¬ (u : Int) < (p1.nd.length : Int) := by omega
              have hall : (p1.nd.take u).any (wq L M) = p1.nd.any (wq L M) := by rw [List.take_of_length_le (by omega)]
              rw [hall]
              have hNl6 := hNl5.kept hb6
              have hbz6 := hbz5.trans (hb6.mono hbz5.size)
              have hbs6 := hbz6.size
              have hfl : ((M.take t).filter (okI L M)).length ≤ t := Nat.le_trans (List.length_filter_le _ _) (by rw [List.length_take]; omega)
              have HSn : Hid ((M.take (t + 1)).filter (okI L M) = if okI L M y then (M.take t).filter (okI L M) ++ [y] else (M.take t).filter (okI L M)) := by
                show _ = _
                rw [HT.out, List.filter_append]
                by_cases ho : okI L M y = true
                · rw [if_pos ho]; simp [ho]
                · rw [if_neg ho]; simp [ho]
              clear hall hul
              cases hA : p1.nd.any (wq L M) with
              | true =>
                have hok : okI L M y = false := by rw [HOk.out, hA]; rfl
                have HI : Hid ((M.take (t + 1)).filter (okI L M) = (M.take t).filter (okI L M)) := by show _ = _; rw [HSn.out, hok]; rfl
                clear hA hok HSn HOk
                go_wp2_with fail
                go_roundw
                case rel => exact ⟨t + 1, true, by omega, by go_num, rfl, by rw [HI.out]; exact hNl6, (fun h => by cases h), (fun _ => by rw [HI.out]; omega), hbz6⟩
                case measure => simp [intOf]; omega
              | false =>
                have hok : okI L M y = true := by rw [HOk.out, hA]; rfl
                have HI : Hid ((M.take (t + 1)).filter (okI L M) = (M.take t).filter (okI L M) ++ [y]) := by show _ = _; rw [HSn.out, hok]; rfl
                clear hA hok HSn HOk
                go_wp2_with (first | (at_builtin; refine wpList_append_own _ rfl _ _ 30 rfl w2.heap.size 3 i0 (.int .i64 0) 1 8 Try.underlying30 hi hz0 hz1 hz2 rfl (by decide) _ _ _ rfl (World.ownsRow.alloc hNl6 _) ⟨wr.heap.size, 0, none⟩ 1 1 [.int .i64 y] rfl rfl (cell_one_new _ _ _) (by simp [Value.oneCell']) (by unfold maxLen; omega) (by omega) (by simp; omega) ?_; intro v' w9 hown hgrow _; have hown := Nums.snoc hown; obtain ⟨g', cap', rfl⟩ := Nums.succ hown))
                have hb9 := (hbz6.alloc hbs6 _).grown hgrow (by simp; omega) (by intro k hk; exact (World.ownsRow.lt hNl6 k hk).1)
                go_roundw
                case rel => exact ⟨t + 1, again, by omega, by go_num, rfl, by rw [HI.out]; exact hown, (fun h => by rw [HI.out, HA0.out h, HT.out]), (fun h => by rw [HI.out]; have := HA1.out h; simp; omega), hb9⟩
                case measure => simp [intOf]; omega
        · have htm : t = m := by omega
          have hnt : ¬ (t : Int) < (m : Int) := by omega
          have hMt : M.take t = M := List.take_of_length_le (by omega)
          rw [hMt] at hNl HA0 HA1
          have hbb := hb.size
          obtain ⟨ql, cl, hql⟩ := Nums.slice hNl
          subst hql
          have HN2 : Hid (Nums w.heap.size wr (.slice ql (M.filter (okI L M)).length cl) (M.filter (okI L M))) := Nums.base hNl hbb
          have hfl : (M.filter (okI L M)).length ≤ 1000 := Nat.le_trans (List.length_filter_le _ _) (by omega)
          have HK : Hid (M.filter (okI L M) = itr L (k + 1) (idsOf L b)) := by show _ = stp L (itr L k (idsOf L b)); rw [← HM'.out]; rfl
          have HSub2 : Hid (∀ y ∈ M.filter (okI L M), y ∈ idsOf L b) := fun y hy => HSub.out y (List.mem_filter.1 hy).1
          have HFix : Hid (again = false → stp L (M.filter (okI L M)) = M.filter (okI L M)) := fun h => by
            have h1 := HA0.out h
            rw [h1]
            exact h1
          have hmes : again = true → (M.filter (okI L M)).length < m := fun h => by have := HA1.out h; omega
          have HBw : Hid (Below w.heap.size w wr) := hb.trans (hbz.mono hb.size)
          clear hNl HA0 HA1 hMt htm
          generalize M.filter (okI L M) = M2 at *
          go_wp2_with fail
          go_roundw
          case rel => exact ⟨M2, k + 1, again, rfl, HN2.out, HK.out, HFix.out, HSub2.out, hfl, HBw.out⟩
          case measure =>
            cases again with
            | true => have := hmes rfl; simp [bT, sLen]; omega
            | false => simp [bT, sLen]

theorem itr_sub (L : List Pv) (ids : List Int) : ∀ (k : Nat) (y : Int), y ∈ itr L k ids → y ∈ ids
  | 0, y, h => h
  | k + 1, y, h => itr_sub L ids k y (List.mem_filter.1 h).1
theorem itr_len (L : List Pv) (ids : List Int) : ∀ k, (itr L k ids).length ≤ ids.length
  | 0 => Nat.le_refl _
  | k + 1 => Nat.le_trans (List.length_filter_le _ _) (itr_len L ids k)
/-- What Plan tells. -/
def RP (T : Nat) (w : World) (L : List Pv) (b : Int) (xs : List Int) (ov iv : Value) (er : Int) : Prop := ∃ M k, M = itr L k (idsOf L b) ∧ stp L M = M ∧ PRes T w (M, ovrs (sel L b M) xs) ov iv er

theorem rplan_arg (h : RZ B w x lv last L) (b : Int) (p : Option Addr) (n c : Nat) (hn : n ≠ 128) (hn2 : n ≤ 9223372036854775807) :
    Calls Try.prog 19 #[.pointer (some ⟨x, 0, none⟩), .int .i64 b, .slice p n c] w fun e w' => e = .returned (.tuple #[.slice none 0 0, .slice none 0 0, .int .i64 1]) ∧ w' = w := by
  have h1 : ¬ (n : Int) = 128 := by omega
  clear h
  go_enter Try.func19, Try.ntmps19
  go_wp2_with fail
  go_ret3
  exact ⟨rfl, rfl⟩

set_option maxRecDepth 100000 in
set_option maxHeartbeats 2000000 in
theorem rplan_ok (h : RZ B w x lv last L) (b : Int) (p : Option Addr) (c : Nat) (xs : List Int) (hx : BI w p 128 xs) :
    Calls Try.prog 19 #[.pointer (some ⟨x, 0, none⟩), .int .i64 b, .slice p 128 c] w fun e w' => ∃ ov iv er, e = .returned (.tuple #[ov, iv, .int .i64 er]) ∧ Below w.heap.size w w' ∧ Hid (RP w.heap.size w' L b xs ov iv er) := by
  have hma := rmay_ok h b
  have hidl : (idsOf L b).length ≤ 1000 := by
    rw [idsOf_eq, List.length_map]
    have := h.len
    have := h.sml
    exact Nat.le_trans (List.length_filter_le _ _) (by omega)
  have hidm : ∀ y ∈ idsOf L b, I64 y := fun y hy => by
    rw [idsOf_eq] at hy
    obtain ⟨p, hp, rfl⟩ := List.mem_map.1 hy
    have := h.ids p (mem_ofB.1 hp).1
    have := h.sml
    exact ⟨by omega, by omega⟩
  have HH : Hid _ := h
  clear h
  go_enter Try.func19, Try.ntmps19
  go_wp2_with fail
  refine hma.mono ?_
  rintro _ w1 ⟨v, rfl, ⟨M, k, hN, hMk, hSt⟩, hb1⟩
  have hMl : M.length ≤ 1000 := by rw [hMk]; exact Nat.le_trans (itr_len _ _ _) hidl
  obtain ⟨q, d, rfl, hI, _⟩ := hN.ii (by omega) (fun y hy => hidm y (itr_sub _ _ k y (by rw [← hMk]; exact hy)))
  have HMk : Hid _ := hMk
  have HSt : Hid _ := hSt
  have HN : Hid _ := hN
  clear hma hMk hSt hN hidm
  dsimp only
  by_cases hM0 : M = []
  · have hl0 : M.length = 0 := by rw [hM0]; rfl
    rw [hl0]
    have HM0 : Hid _ := hM0
    clear hM0 hl0 hI
    go_wp2_with fail
    go_ret3
    exact ⟨_, _, _, rfl, hb1, ⟨M, k, HMk.out, HSt.out, .inl ⟨HM0.out, rfl, rfl, rfl⟩⟩⟩
  · have hl0 : 1 ≤ M.length := List.length_pos_iff.2 hM0
    have hov := rover_ok (HH.out.kept hb1) b p c xs (hx.kept hb1) q _ d _ hI
    have HM0 : Hid _ := hM0
    clear hM0 hI
    generalize hMn : M.length = m at *
    have hm0 : ¬ (m : Int) = 0 := by omega
    have hm1 : ((m : Int) == 0) = false := beq_eq_false_iff_ne.2 hm0
    go_wp2_with fail
    refine hov.mono ?_
    rintro _ w2 ⟨g, cap, rfl, hO, hb2⟩
    have HR : Hid (RP w.heap.size w2 L b xs (.slice (some ⟨g, 0, none⟩) 128 cap) (.slice q m d) 0) := ⟨M, k, HMk.out, HSt.out, .inr ⟨HM0.out, rfl, ⟨g, cap, rfl, hO.base hb1.size⟩, by show w2.ownsRow w.heap.size 3 1 (.slice q m d) M.length (M.map (Value.int .i64)); rw [hMn]; exact row_keptIf HN.out (fun g hg => hb2.block g (World.ownsRow.lt HN.out g hg).2)⟩⟩
    have hb3 := hb1.trans (hb2.mono hb1.size)
    clear hov hO
    dsimp only
    go_wp2_with fail
    go_ret3
    exact ⟨_, _, _, rfl, hb3, HR⟩
end
end Go.Proofs.Yteapkfnklbhdfaa
