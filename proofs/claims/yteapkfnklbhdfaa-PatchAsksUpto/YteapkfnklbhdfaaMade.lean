/- made: a set of the calls that were handed in. -/
import Derived.Test.YteapkfnklbhdfaaDos
import Derived.Deep.DeepCutAuto
namespace Go.Proofs.Yteapkfnklbhdfaa
open Go.RowKit Go.Maps
set_option linter.unusedVariables false

theorem mq_wrapI {K : Nat} (hK : 1 ≤ K) (hK2 : K ≤ 4611686018427387904) (b : Int) : IntKind.i64.wrap ((IntKind.u64.wrap b).tmod (K : Int)) = (mq K b : Int) := by
  have h1 := mq_lt hK b
  rw [mq_eq hK]
  exact IntWalk.i64_in _ (by omega)
theorem info32 : (Try.prog.info? 32).map (·.size) = some 5 := by kernel_rfl
theorem zsOf_nil (n : Nat) : zsOf n [] = [] := by unfold zsOf; split <;> rfl
theorem zsOf_zero (l : List Int) : zsOf 0 l = [] := rfl
theorem zsOf_snoc {n : Nat} (hn : n ≠ 0) (l : List Int) (y : Int) : zsOf n (l ++ [y]) = zsOf n l ++ [1 + (mq n y : Int)] := by
  unfold zsOf; rw [if_neg hn, if_neg hn, List.map_append]; rfl
theorem zsOf_len (n : Nat) (l : List Int) : (zsOf n l).length ≤ l.length := by unfold zsOf; split <;> simp
theorem dm_none (a mp mb k : Nat) (h : dm a mp mb [] (fun _ => none) k) : k = a ∨ k = mp ∨ k = mb := by
  rcases h with h | h | h | ⟨b, v, hv, _⟩ | ⟨p, hp, _⟩
  · exact .inl h
  · exact .inr (.inl h)
  · exact .inr (.inr h)
  · cases hv
  · cases hp

set_option maxRecDepth 100000 in
set_option maxHeartbeats 4000000 in
theorem mkset_ok (p : Option Addr) (n c : Nat) (D : List Dv) (w : World) (hD : DI w p n D) :
    Calls Try.prog 29 #[.slice p n c] w fun e w' => ∃ a mp mb P K, e = .returned (.pointer (some ⟨a, 0, none⟩)) ∧ PS w.heap.size w' a mp mb (min n 41) P K ∧ P.map strip = mkS (D.take 41) ∧ Below w.heap.size w w' ∧ ∀ k, dm a mp mb P K k → w.heap.size ≤ k := by
  have hnew := new_ok
  obtain ⟨i0, hi, hz0, hz1, hz2⟩ := info_parts info3
  have hDl := hD.len
  have hbig := hD.big
  go_enter Try.func29, Try.ntmps29
  go_wp2_with (first | (go_at_call 9; refine (hnew _).mono ?_; rintro _ w1 ⟨a, mp, mb, rfl, hPS0, hb0⟩))
  go_loopw [13] (fun i wr => ∃ j : Nat, j ≤ n ∧ j ≤ 41 ∧ i = .int .i64 (j : Int) ∧ ∃ P K, PS w.heap.size wr a mp mb j P K ∧ P.map strip = mkS (D.take j) ∧ Below w.heap.size w wr ∧ ∀ k, dm a mp mb P K k → w.heap.size ≤ k) (fun i _ => n - (intOf i).toNat)
  case atStart => exact ⟨0, by omega, by omega, rfl, [], _, hPS0, rfl, hb0, fun k hk => by
    rcases dm_none _ _ _ _ hk with e | e | e
    · have := hPS0.base.1.1; omega
    · have := hPS0.base.1.2.1; omega
    · have := hPS0.base.1.2.2; omega⟩
  case round =>
    clear hPS0 hb0
    obtain ⟨j, hj, hj41, rfl, P, K, hPS, hst, hb, hdm⟩ := hrel
    by_cases hlt : j < n
    · obtain ⟨b1, o1, rfl, hc1⟩ := (hD.kept hb).cells (by omega)
      obtain ⟨d, hd⟩ : ∃ d, D[j]? = some d := ⟨_, List.getElem?_eq_getElem (by omega)⟩
      have hAt := hc1 j d hd
      obtain ⟨c0, c1, c2, ⟨bp, bn, bc, c3, hbn, hbc, hBI⟩, ⟨ip, im, ic, c4, him, hic, him8, hII⟩, r0, r1, r2⟩ := hAt
      have HT : Hid (D.take (j + 1) = D.take j ++ [d]) := by show _ = _; rw [List.take_add_one, hd]; rfl
      have hjI : (j : Int) < (n : Int) := by omega
      have hj0 : (0 : Int) ≤ (j : Int) := by omega
      obtain ⟨cs, hcs⟩ : ∃ cs : Array Value, cs = #[.int .i64 d.op, .int .i64 d.blk, .int .i64 d.off, .slice bp bn bc, .slice ip im ic] := ⟨_, rfl⟩
      have hone : (#[.int .i64 d.op, .int .i64 d.blk, .int .i64 d.off, .slice bp bn bc, .slice ip im ic] : Array Value).all (·.oneCell') = true := by simp [Value.oneCell']
      have hr1 := setRow_heap (wr.alloc (.cells #[.int .i64 0, .int .i64 0, .int .i64 0, .slice none 0 0, .slice none 0 0] 32)) wr.heap.size _ cs 32 (0, 0) (at_new rfl)
      have hb1 := below_setRow ((Below.refl wr.heap.size wr).alloc (Nat.le_refl _) (.cells #[.int .i64 0, .int .i64 0, .int .i64 0, .slice none 0 0, .slice none 0 0] 32)) wr.heap.size (Nat.le_refl _) cs
      obtain ⟨W1, hW1⟩ : ∃ W1, (wr.alloc (.cells #[.int .i64 0, .int .i64 0, .int .i64 0, .slice none 0 0, .slice none 0 0] 32)).setRow wr.heap.size cs = W1 := ⟨_, rfl⟩
      rw [hW1] at hr1 hb1
      have hbox : W1.cell? ⟨wr.heap.size, 1, none⟩ = some (.int .i64 d.blk) ∧ W1.cell? ⟨wr.heap.size, 2, none⟩ = some (.int .i64 d.off) ∧ W1.cell? ⟨wr.heap.size, 3, none⟩ = some (.slice bp bn bc) ∧ W1.cell? ⟨wr.heap.size, 4, none⟩ = some (.slice ip im ic) := by
        subst hcs
        refine ⟨?_, ?_, ?_, ?_⟩ <;> rw [cell_of_row _ _ _ _ 32 _ hr1] <;> rfl
      obtain ⟨x1, x2, x3, x4⟩ := hbox
      have hIIw := hII.kept hb1
      have hBIw := hBI.kept hb1
      by_cases hj40 : j ≤ 40
      · have hg40 : ¬ (40 : Int) < (j : Int) := by omega
        have hd40 : decide ((40 : Int) < (j : Int)) = false := decide_eq_false hg40
        clear hc1 hg40
        go_wp2_with (first | (refine wpList_store_row rfl 32 _ _ rfl wr.heap.size cs rfl (by rw [hcs]; rfl) 32 _ (at_new rfl) (by rw [hcs]; exact info32) (by rw [hcs]; rfl) (by rw [hcs]; exact hone) ?_; rw [hW1]))
        clear c0 c1 c2 c3 c4 hII hBI hr1 hd hone hnew
        have hps1 := hPS.kept hb1
        have hsz1 : wr.heap.size < W1.heap.size := lt_of_cell x1
        clear hW1 hcs
        have hbgx := hb.size
        have hbW1 : w.heap.size ≤ W1.heap.size := by omega
        have hdl : ¬ dm a mp mb P K wr.heap.size := fun hk => by have := hPS.dm_lt hk; omega
        generalize wr.heap.size = gx at *
        go_loopw [6, 23] (fun s i w2 => ∃ t : Nat, t ≤ im ∧ i = .int .i64 (t : Int) ∧ Nums W1.heap.size w2 s (zsOf j (d.ids.take t)) ∧ Below W1.heap.size W1 w2) (fun s i _ => im - (intOf i).toNat)
        case atStart => exact ⟨0, by omega, rfl, by rw [List.take_zero, zsOf_nil]; exact Nums.nil _ _, Below.refl _ _⟩
        case round =>
          obtain ⟨t, ht, rfl, hN, hb2⟩ := hrel
          by_cases htl : t < im
          · obtain ⟨b5, o5, rfl, hc5⟩ := (hIIw.kept hb2).cells (by omega)
            have e5 := hc5 t htl
            have hla := last_ok (hps1.kept hb2)
            have htI : (t : Int) < (im : Int) := by omega
            have ht0 : (0 : Int) ≤ (t : Int) := by omega
            have HT5 : Hid (d.ids.take (t + 1) = d.ids.take t ++ [d.ids.getD t 0]) := take_one (by rw [hIIw.len]; exact htl)
            have hzl : (zsOf j (d.ids.take t)).length ≤ t := Nat.le_trans (zsOf_len _ _) (by rw [List.length_take]; omega)
            clear hc5
            generalize d.ids.getD t 0 = y at *
            rcases Nat.eq_zero_or_pos j with hz | hz
            · have HZ : Hid (zsOf j (d.ids.take (t + 1)) = zsOf j (d.ids.take t)) := by show _ = _; rw [hz]; rfl
              have hdz : decide (0 < j) = false := decide_eq_false (by omega)
              have hdz2 : decide ((0 : Int) < (j : Int)) = false := decide_eq_false (by omega)
              clear hz
              go_wp2_with (first | (go_at_call 15; refine same_at hla ?_))
              go_roundw
              case rel => exact ⟨t + 1, by omega, by go_num, by rw [HZ.out]; exact hN, hb2⟩
              case measure => simp [intOf]; omega
            · have hjp : (0 : Int) < (j : Int) := by omega
              have hm1 := mq_wrap (K := j) hz (by omega) y
              have hm2 := mq_lt hz y
              have hwj : IntKind.u64.wrap (j : Int) = (j : Int) := by rw [IntKind.wrap_u64]; omega
              have hw1 : IntKind.i64.wrap (1 + (mq j y : Int)) = 1 + (mq j y : Int) := IntWalk.i64_in _ (by omega)
              have hw2 : wrap64 (1 + (mq j y : Int)) = 1 + (mq j y : Int) := by unfold wrap64; omega
              have HZ : Hid (zsOf j (d.ids.take (t + 1)) = zsOf j (d.ids.take t) ++ [1 + (mq j y : Int)]) := by show _ = _; rw [HT5.out, zsOf_snoc (by omega)]
              go_wp2_with (first
                | (go_at_call 15; refine same_at hla ?_)
                | (at_builtin; refine wpList_append_own _ rfl _ _ 30 rfl W1.heap.size 3 i0 (.int .i64 0) 1 8 Try.underlying30 hi hz0 hz1 hz2 rfl (by decide) _ _ _ rfl (World.ownsRow.alloc hN _) ⟨wr.heap.size, 0, none⟩ 1 1 [.int .i64 (1 + (mq j y : Int))] rfl rfl (cell_one_new _ _ _) (by simp [Value.oneCell']) (by unfold maxLen; omega) (by omega) (by have := hb2.size; simp; omega) ?_; intro v' w3 hown hgrow _; have hown := Nums.snoc hown; obtain ⟨g', cap', rfl⟩ := Nums.succ hown))
              have hb3 := (hb2.alloc (by have := hb2.size; omega) _).grown hgrow (by have := hb2.size; simp; omega) (by intro k hk; exact (World.ownsRow.lt hN k hk).1)
              go_roundw
              case rel => exact ⟨t + 1, by omega, by go_num, by rw [HZ.out]; exact hown, hb3⟩
              case measure => simp [intOf]; omega
          · obtain rfl : t = im := by omega
            rw [List.take_of_length_le (by rw [hIIw.len]; exact Nat.le_refl _)] at hN
            have hps2 := hps1.kept hb2
            have y1 : wr.cell? ⟨gx, 1, none⟩ = some (.int .i64 d.blk) := by rw [hb2.cell (p := ⟨gx, 1, none⟩) hsz1]; exact x1
            have y2 : wr.cell? ⟨gx, 2, none⟩ = some (.int .i64 d.off) := by rw [hb2.cell (p := ⟨gx, 2, none⟩) hsz1]; exact x2
            have y3 : wr.cell? ⟨gx, 3, none⟩ = some (.slice bp bn bc) := by rw [hb2.cell (p := ⟨gx, 3, none⟩) hsz1]; exact x3
            have hBI2 := hBIw.kept hb2
            clear x1 x2 x3 x4 hps1
            go_upto_region 13 with fail
            go_cut [9] (fun v wx => ∃ p9 c9, v = .slice p9 (min bn 128) c9 ∧ BI wx p9 (min bn 128) (d.bytes.take 128) ∧ wx = wr)
            case first =>
              have hBt := hBI2.take (min bn 128) (by omega)
              have htk : d.bytes.take (min bn 128) = d.bytes.take 128 := by
                rw [← hBI2.len]
                rcases Nat.le_total d.bytes.length 128 with h | h
                · rw [Nat.min_eq_left h, List.take_of_length_le (Nat.le_refl _), List.take_of_length_le h]
                · rw [Nat.min_eq_right h]
              rw [htk] at hBt
              have hmm : min (bn : Int) 128 = ((min bn 128 : Nat) : Int) := by omega
              have hmc : ((min bn 128 : Nat) : Int) ≤ (bc : Int) := by omega
              have hcc : (bc : Int) ≤ 9223372036854775807 := by omega
              have h0m : (0 : Int) ≤ ((min bn 128 : Nat) : Int) := by omega
              generalize min bn 128 = mm at *
              go_wp2_with fail
              go_meet
              case rel => exact ⟨_, _, rfl, hBt, rfl⟩
            case rest =>
              obtain ⟨p9, c9, rfl, hB9, hwc⟩ := hcut
              subst hwc
              have hbwc : w.heap.size ≤ wc.heap.size := by have := hb2.size; omega
              have hl9 := hB9.len
              clear y3 hBI2
              obtain ⟨mm, hmm⟩ : ∃ mm, mm = min bn 128 := ⟨_, rfl⟩
              rw [← hmm] at hl9 hB9 ⊢
              have hmm128 : mm ≤ 128 := by omega
              clear hmm
              go_upto_if 51 with fail
              go_cut [9] (fun v wx => ∃ p9 n9 c9, v = .slice p9 n9 c9 ∧ n9 = (bsOf d).length ∧ BI wx p9 n9 (bsOf d) ∧ Below wc.heap.size wc wx)
              case first =>
                rcases Nat.eq_zero_or_pos mm with h0 | h0
                · have hbs : bsOf d = [1] := by unfold bsOf; rw [if_pos (List.length_eq_zero_iff.1 (by omega))]
                  have hmz : ((mm : Int) == 0) = true := by rw [h0]; rfl
                  clear h0
                  go_wp2_with fail
                  go_meet
                  case rel =>
                    refine ⟨_, _, _, rfl, by rw [hbs]; rfl, ?_, (Below.refl _ _).alloc (Nat.le_refl _) _⟩
                    rw [hbs]
                    exact ⟨rfl, by omega, (fun i => by cases i with
                      | zero => simp
                      | succ i => simp), fun _ => ⟨wc.heap.size, 0, rfl, fun i hi => by
                        obtain rfl : i = 0 := by omega
                        rw [cell_of_row _ _ 0 _ 5 _ (at_new rfl)]; rfl⟩⟩
                · have hbs : bsOf d = d.bytes.take 128 := by unfold bsOf; rw [if_neg (fun e => by rw [e] at hl9; simp at hl9; omega)]
                  have hmz : ((mm : Int) == 0) = false := beq_eq_false_iff_ne.2 (by omega)
                  clear h0
                  go_wp2_with fail
                  go_meet
                  case rel => exact ⟨_, _, _, rfl, by rw [hbs]; exact hl9.symm, by rw [hbs]; exact hB9, Below.refl _ _⟩
              case rest =>
                obtain ⟨p9, n9, c9, rfl, hn9, hB9', hb9⟩ := hcut
                have hps3 := hps2.kept hb9
                have hN3 := hN.kept hb9
                have y1' : wc.cell? ⟨gx, 1, none⟩ = some (.int .i64 d.blk) := by rw [hb9.cell (p := ⟨gx, 1, none⟩) (lt_of_cell y1)]; exact y1
                have y2' : wc.cell? ⟨gx, 2, none⟩ = some (.int .i64 d.off) := by rw [hb9.cell (p := ⟨gx, 2, none⟩) (lt_of_cell y2)]; exact y2
                have hPl : P.length = j := by
                  have := congrArg List.length hst
                  rw [List.length_map, mkS, mkS_len, List.length_take] at this
                  simp at this
                  omega
                have hzl : (zsOf j d.ids).length ≤ t := Nat.le_trans (zsOf_len _ _) (by rw [hIIw.len]; exact Nat.le_refl _)
                have hzk : ∀ x ∈ zsOf j d.ids, 1 ≤ x ∧ x ≤ (j : Int) := fun x hx => by
                  unfold zsOf at hx
                  split at hx
                  · cases hx
                  · obtain ⟨y, _, rfl⟩ := List.mem_map.1 hx
                    have := mq_lt (K := j) (by omega) y
                    omega
                obtain ⟨q6, c6, hv6, hI6, _⟩ := hN3.ii (by omega) (fun x hx => by have := hzk x hx; exact ⟨by omega, by omega⟩)
                subst hv6
                have hbl := bsOf_len d
                have hn9' : 1 ≤ n9 ∧ n9 ≤ 128 := by omega
                have hm5 : wrap64 ((IntKind.u64.wrap d.blk).tmod 5) = (mq 5 d.blk : Int) := mq_wrap (K := 5) (by omega) (by omega) d.blk
                have hl5 := mq_lt (K := 5) (by omega) d.blk
                obtain ⟨N1, hN1⟩ : ∃ N1, N1 = 129 - n9 := ⟨_, rfl⟩
                have hnn : (129 : Int) - (n9 : Int) = (N1 : Int) := by omega
                have hN1' : 1 ≤ N1 ∧ N1 ≤ 128 := by omega
                have hm6 : wrap64 ((IntKind.u64.wrap d.off).tmod (N1 : Int)) = (mq N1 d.off : Int) := mq_wrap (by omega) (by omega) d.off
                have hm5i : IntKind.i64.wrap ((IntKind.u64.wrap d.blk).tmod 5) = (mq 5 d.blk : Int) := mq_wrapI (K := 5) (by omega) (by omega) d.blk
                have hm6i : IntKind.i64.wrap ((IntKind.u64.wrap d.off).tmod (N1 : Int)) = (mq N1 d.off : Int) := mq_wrapI (by omega) (by omega) d.off
                have hl6 := mq_lt (K := N1) (by omega) d.off
                have hw6 : IntKind.u64.wrap (N1 : Int) = (N1 : Int) := by rw [IntKind.wrap_u64]; omega
                have hw7 : IntKind.i64.wrap (N1 : Int) = (N1 : Int) := IntWalk.i64_in _ (by omega)
                have hz6 : ¬ N1 = 0 := by omega
                have hadd := sadd_ok (hps3.kept ((Below.refl _ _).drew)) (by omega) (mq 5 d.blk) (mq N1 d.off) (by omega) p9 n9 c9 (bsOf d) (hB9'.kept ((Below.refl _ _).drew)) ⟨by omega, by omega, by omega, by omega⟩ q6 _ c6 (zsOf j d.ids) (hI6.kept ((Below.refl _ _).drew)) (List.all_eq_true.2 (fun x hx => kn_true.2 (hzk x hx))) (by omega)
                have hgxd : ¬ dm a mp mb P K gx := hdl
                have HS : Hid (∀ pn : Pv, pn.id = j + 1 ∧ pn.blk = mq 5 d.blk ∧ pn.off = mq N1 d.off ∧ pn.bs = bsOf d ∧ pn.nd = rs (still P (zsOf j d.ids) ++ uppL P pn) → (P ++ [pn]).map strip = mkS (D.take (j + 1))) := fun pn ⟨e1, e2, e3, e4, e5⟩ => by
                  rw [HT.out, mkS_snoc, ← hst, List.map_append, mk1, List.length_map, hPl]
                  congr 1
                  have hsit : Sit pn (newP j d) := ⟨e2, by rw [e3, hN1, hn9]; rfl, e4⟩
                  rw [sit_uppL hsit] at e5
                  rw [still_strip, uppL_strip, ← e5]
                  show [strip pn] = _
                  unfold strip newP
                  rw [e1, e2, e3, e4, hN1, hn9]
                have hbw : Below w.heap.size w wc := ((hb.trans (hb1.mono hbgx)).trans (hb2.mono hbW1)).trans (hb9.mono hbwc)
                clear y1 y2 hB9 hN hN3 hI6 hn9 hbl hN1
                go_upto_region 16 with fail
                refine wp_region_held_drew (S := fun w' => w'.cell? ⟨gx, 1, none⟩ = some (.int .i64 d.blk) ∧ w'.cell? ⟨gx, 2, none⟩ = some (.int .i64 d.off)) (by kernel_rfl) ⟨y1', y2'⟩ ?_
                intro hHeld
                simp only [List.size_toArray, List.length_cons, List.length_nil, Nat.reduceAdd, Array.replicate_succ, Array.replicate_zero, List.push_toArray, List.nil_append, List.cons_append]
                refine wpAnyH_take (i := 0) (oi := { dst := some 53, op := Op.move (Operand.tmp 3), type := 23, pos := "law.go:132", after := #[], guard := none }) (v := ?_) rfl (by kernel_rfl) (by kernel_rfl) (by kernel_rfl) (fun _ _ _ h => h) (Or.inl ⟨by rfl, ?_⟩) hHeld ?_
                rotate_left
                · (intro w hSw; (try dsimp only at hSw); go_simp; try (with_reducible rfl))
                simp only [Act.put, List.setIfInBounds_toArray, List.set_cons_zero, List.set_cons_succ]
                refine wpAnyH_take (i := 1) (oi := { dst := some 54, op := Op.fieldAddr 32 (Operand.tmp 5) 1, type := 0, pos := "law.go:132", after := #[], guard := none }) (v := ?_) rfl (by kernel_rfl) (by kernel_rfl) (by kernel_rfl) (fun _ _ _ h => h) (Or.inl ⟨by rfl, ?_⟩) hHeld ?_
                rotate_left
                · (intro w hSw; (try dsimp only at hSw); go_simp; try (with_reducible rfl))
                simp only [Act.put, List.setIfInBounds_toArray, List.set_cons_zero, List.set_cons_succ]
                refine wpAnyH_take (i := 2) (oi := { dst := some 55, op := Op.load 3 (Operand.tmp 54), type := 3, pos := "law.go:132", after := #[{ on := 1, ground := Ground.data }], guard := none }) (v := ?_) rfl (by kernel_rfl) (by kernel_rfl) (by kernel_rfl) (fun _ _ _ h => h) (Or.inl ⟨by rfl, ?_⟩) hHeld ?_
                rotate_left
                · (intro w hSw; (try dsimp only at hSw); go_simp; try (with_reducible rfl))
                simp only [Act.put, List.setIfInBounds_toArray, List.set_cons_zero, List.set_cons_succ]
                refine wpAnyH_take (i := 3) (oi := { dst := some 56, op := Op.convert 3 61 (Operand.tmp 55), type := 61, pos := "law.go:132", after := #[{ on := 2, ground := Ground.data }], guard := none }) (v := ?_) rfl (by kernel_rfl) (by kernel_rfl) (by kernel_rfl) (fun _ _ _ h => h) (Or.inl ⟨by rfl, ?_⟩) hHeld ?_
                rotate_left
                · (intro w hSw; (try dsimp only at hSw); go_simp; try (with_reducible rfl))
                simp only [Act.put, List.setIfInBounds_toArray, List.set_cons_zero, List.set_cons_succ]
                refine wpAnyH_take (i := 4) (oi := { dst := some 57, op := Op.binOp BinOp.rem 61 (Operand.tmp 56) (Operand.const (Value.int IntKind.u64 5)) 61, type := 61, pos := "law.go:132", after := #[{ on := 3, ground := Ground.data }], guard := none }) (v := ?_) rfl (by kernel_rfl) (by kernel_rfl) (by kernel_rfl) (fun _ _ _ h => h) (Or.inl ⟨by rfl, ?_⟩) hHeld ?_
                rotate_left
                · (intro w hSw; (try dsimp only at hSw); go_simp; try (with_reducible rfl))
                simp only [Act.put, List.setIfInBounds_toArray, List.set_cons_zero, List.set_cons_succ]
                refine wpAnyH_take (i := 5) (oi := { dst := some 58, op := Op.convert 61 3 (Operand.tmp 57), type := 3, pos := "law.go:132", after := #[{ on := 4, ground := Ground.data }], guard := none }) (v := ?_) rfl (by kernel_rfl) (by kernel_rfl) (by kernel_rfl) (fun _ _ _ h => h) (Or.inl ⟨by rfl, ?_⟩) hHeld ?_
                rotate_left
                · (intro w hSw; (try dsimp only at hSw); go_simp; try (with_reducible rfl))
                simp only [Act.put, List.setIfInBounds_toArray, List.set_cons_zero, List.set_cons_succ]
                refine wpAnyH_take (i := 6) (oi := { dst := some 59, op := Op.fieldAddr 32 (Operand.tmp 5) 2, type := 0, pos := "law.go:132", after := #[], guard := none }) (v := ?_) rfl (by kernel_rfl) (by kernel_rfl) (by kernel_rfl) (fun _ _ _ h => h) (Or.inl ⟨by rfl, ?_⟩) hHeld ?_
                rotate_left
                · (intro w hSw; (try dsimp only at hSw); go_simp; try (with_reducible rfl))
                simp only [Act.put, List.setIfInBounds_toArray, List.set_cons_zero, List.set_cons_succ]
                refine wpAnyH_take (i := 7) (oi := { dst := some 60, op := Op.load 3 (Operand.tmp 59), type := 3, pos := "law.go:132", after := #[{ on := 6, ground := Ground.data }], guard := none }) (v := ?_) rfl (by kernel_rfl) (by kernel_rfl) (by kernel_rfl) (fun _ _ _ h => h) (Or.inl ⟨by rfl, ?_⟩) hHeld ?_
                rotate_left
                · (intro w hSw; (try dsimp only at hSw); go_simp; try (with_reducible rfl))
                simp only [Act.put, List.setIfInBounds_toArray, List.set_cons_zero, List.set_cons_succ]
                refine wpAnyH_take (i := 8) (oi := { dst := some 61, op := Op.convert 3 61 (Operand.tmp 60), type := 61, pos := "law.go:132", after := #[{ on := 7, ground := Ground.data }], guard := none }) (v := ?_) rfl (by kernel_rfl) (by kernel_rfl) (by kernel_rfl) (fun _ _ _ h => h) (Or.inl ⟨by rfl, ?_⟩) hHeld ?_
                rotate_left
                · (intro w hSw; (try dsimp only at hSw); go_simp; try (with_reducible rfl))
                simp only [Act.put, List.setIfInBounds_toArray, List.set_cons_zero, List.set_cons_succ]
                refine wpAnyH_take (i := 9) (oi := { dst := some 62, op := Op.move (Operand.tmp 9), type := 29, pos := "law.go:132", after := #[], guard := none }) (v := ?_) rfl (by kernel_rfl) (by kernel_rfl) (by kernel_rfl) (fun _ _ _ h => h) (Or.inl ⟨by rfl, ?_⟩) hHeld ?_
                rotate_left
                · (intro w hSw; (try dsimp only at hSw); go_simp; try (with_reducible rfl))
                simp only [Act.put, List.setIfInBounds_toArray, List.set_cons_zero, List.set_cons_succ]
                refine wpAnyH_take (i := 10) (oi := { dst := some 63, op := Op.call { callee := Callee.builtin Builtin.len, args := #[Operand.tmp 62], argTypes := #[29] }, type := 3, pos := "law.go:132", after := #[{ on := 9, ground := Ground.data }], guard := none }) (v := ?_) rfl (by kernel_rfl) (by kernel_rfl) (by kernel_rfl) (fun _ _ _ h => h) (Or.inl ⟨by rfl, ?_⟩) hHeld ?_
                rotate_left
                · (intro w hSw; (try dsimp only at hSw); go_simp; try (with_reducible rfl))
                simp only [Act.put, List.setIfInBounds_toArray, List.set_cons_zero, List.set_cons_succ]
                refine wpAnyH_take (i := 11) (oi := { dst := some 64, op := Op.binOp BinOp.sub 3 (Operand.const (Value.int IntKind.i64 129)) (Operand.tmp 63) 3, type := 3, pos := "law.go:132", after := #[{ on := 10, ground := Ground.data }], guard := none }) (v := ?_) rfl (by kernel_rfl) (by kernel_rfl) (by kernel_rfl) (fun _ _ _ h => h) (Or.inl ⟨by rfl, ?_⟩) hHeld ?_
                rotate_left
                · (intro w hSw; (try dsimp only at hSw); go_simp; try (with_reducible rfl))
                simp only [Act.put, List.setIfInBounds_toArray, List.set_cons_zero, List.set_cons_succ]
                refine wpAnyH_take (i := 12) (oi := { dst := some 65, op := Op.convert 3 61 (Operand.tmp 64), type := 61, pos := "law.go:132", after := #[{ on := 11, ground := Ground.data }], guard := none }) (v := ?_) rfl (by kernel_rfl) (by kernel_rfl) (by kernel_rfl) (fun _ _ _ h => h) (Or.inl ⟨by rfl, ?_⟩) hHeld ?_
                rotate_left
                · (intro w hSw; (try dsimp only at hSw); go_simp; try (with_reducible rfl))
                simp only [Act.put, List.setIfInBounds_toArray, List.set_cons_zero, List.set_cons_succ]
                refine wpAnyH_take (i := 13) (oi := { dst := some 66, op := Op.binOp BinOp.rem 61 (Operand.tmp 61) (Operand.tmp 65) 61, type := 61, pos := "law.go:132", after := #[{ on := 8, ground := Ground.data }, { on := 12, ground := Ground.data }], guard := none }) (v := ?_) rfl (by kernel_rfl) (by kernel_rfl) (by kernel_rfl) (fun _ _ _ h => h) (Or.inl ⟨by rfl, ?_⟩) hHeld ?_
                rotate_left
                · (intro w hSw; (try dsimp only at hSw); go_simp; try (with_reducible rfl))
                simp only [Act.put, List.setIfInBounds_toArray, List.set_cons_zero, List.set_cons_succ]
                refine wpAnyH_take (i := 14) (oi := { dst := some 67, op := Op.convert 61 3 (Operand.tmp 66), type := 3, pos := "law.go:132", after := #[{ on := 13, ground := Ground.data }], guard := none }) (v := ?_) rfl (by kernel_rfl) (by kernel_rfl) (by kernel_rfl) (fun _ _ _ h => h) (Or.inl ⟨by rfl, ?_⟩) hHeld ?_
                rotate_left
                · (intro w hSw; (try dsimp only at hSw); go_simp; try (with_reducible rfl))
                simp only [Act.put, List.setIfInBounds_toArray, List.set_cons_zero, List.set_cons_succ]
                refine wpAnyH_take (i := 15) (oi := { dst := some 68, op := Op.move (Operand.tmp 9), type := 29, pos := "law.go:132", after := #[], guard := none }) (v := ?_) rfl (by kernel_rfl) (by kernel_rfl) (by kernel_rfl) (fun _ _ _ h => h) (Or.inl ⟨by rfl, ?_⟩) hHeld ?_
                rotate_left
                · (intro w hSw; (try dsimp only at hSw); go_simp; try (with_reducible rfl))
                simp only [Act.put, List.setIfInBounds_toArray, List.set_cons_zero, List.set_cons_succ]
                refine wpAnyH_take (i := 16) (oi := { dst := some 69, op := Op.move (Operand.tmp 6), type := 30, pos := "law.go:132", after := #[], guard := none }) (v := ?_) rfl (by kernel_rfl) (by kernel_rfl) (by kernel_rfl) (fun _ _ _ h => h) (Or.inl ⟨by rfl, ?_⟩) hHeld ?_
                rotate_left
                · (intro w hSw; (try dsimp only at hSw); go_simp; try (with_reducible rfl))
                simp only [Act.put, List.setIfInBounds_toArray, List.set_cons_zero, List.set_cons_succ]
                refine wpAnyH_ready (rs := [17]) (by kernel_rfl) (by simp) ?_
                refine AllReadyH.cons (o := { dst := some 70, op := Op.call { callee := Callee.value (Operand.func 36), args := #[Operand.tmp 53, Operand.tmp 58, Operand.tmp 67, Operand.tmp 68, Operand.tmp 69], argTypes := #[23, 3, 3, 29, 30] }, type := 63, pos := "law.go:132", after := #[{ on := 0, ground := Ground.data }, { on := 5, ground := Ground.data }, { on := 14, ground := Ground.data }, { on := 15, ground := Ground.data }, { on := 16, ground := Ground.data }], guard := none }) rfl (fun K hK => ?_) ?_
                · rw [if_pos (by rfl)]
                  go_simp
                  refine hadd.mono ?_
                  rintro e w5 ⟨rfl, pn, K', f1, f2, f3, f4, f5, hPS5, hSt5⟩
                  dsimp only
                  have hgl : gx < wc.heap.size := lt_of_cell y1'
                  have k5 : w5.heap[gx]? = wc.heap[gx]? := hSt5.fr.block gx hgl hgxd
                  have z1 : w5.cell? ⟨gx, 1, none⟩ = some (.int .i64 d.blk) := (World.cell?_of_block (a := ⟨gx, 1, none⟩) k5).trans y1'
                  have z2 : w5.cell? ⟨gx, 2, none⟩ = some (.int .i64 d.off) := (World.cell?_of_block (a := ⟨gx, 2, none⟩) k5).trans y2'
                  refine hK.out _ _ ⟨z1, z2⟩ (fun hHeld => ?_)
                  clear hK K
                  try simp only [List.setIfInBounds_toArray, List.set_cons_zero, List.set_cons_succ]
                  refine wpAnyH_done (by kernel_rfl) ?_ _
                  clear hadd hHeld
                  have hst5 := HS.out pn ⟨f1, f2, f3, f4, f5⟩
                  have hb5 : Below w.heap.size w w5 := hbw.drew.trans (hSt5.below hbw.size hdm)
                  have hdm5 : ∀ k, dm a mp mb (P ++ [pn]) K' k → w.heap.size ≤ k := fun k hk => by
                    rcases hSt5.new k hk with h1 | h1
                    · exact hdm k h1
                    · exact Nat.le_trans hbw.size h1
                  have HF : Hid _ := And.intro hst5 (And.intro hb5 hdm5)
                  have HP5 : Hid _ := hPS5
                  clear hst5 hb5 hdm5 hPS5 hSt5 f1 f2 f3 f4 f5
                  go_wp2_with fail
                  go_roundw
                  case rel => exact ⟨j + 1, by omega, by omega, by go_num, P ++ [pn], K', HP5.out, HF.out.1, HF.out.2.1, HF.out.2.2⟩
                  case measure => simp [intOf]; omega
                exact AllReadyH.nil
      · obtain rfl : j = 41 := by omega
        have HMin : Hid (min n 41 = 41) := by show min n 41 = 41; omega
        have HF : Hid _ := And.intro (hPS.kept hb1) (And.intro hst (And.intro (hb.trans (hb1.mono hb.size)) hdm))
        clear hc1 x1 x2 x3 x4 hIIw hBIw hst hPS hdm hr1 hd hb
        go_wp2_with (first | (refine wpList_store_row rfl 32 _ _ rfl wr.heap.size cs rfl (by rw [hcs]; rfl) 32 _ (at_new rfl) (by rw [hcs]; exact info32) (by rw [hcs]; rfl) (by rw [hcs]; exact hone) ?_; rw [hW1]))
        go_ret
        rw [HMin.out]
        exact ⟨a, mp, mb, P, K, rfl, HF.out⟩
    · obtain rfl : j = n := by omega
      have HMin : Hid (min j 41 = j) := by show min j 41 = j; omega
      have htk : D.take 41 = D.take j := by rw [List.take_of_length_le (by omega), List.take_of_length_le (by omega)]
      rw [← htk] at hst
      have HF : Hid _ := And.intro hPS (And.intro hst (And.intro hb hdm))
      clear hPS hst hb hdm
      go_wp2_with fail
      go_ret
      rw [HMin.out]
      exact ⟨a, mp, mb, P, K, rfl, HF.out⟩
end Go.Proofs.Yteapkfnklbhdfaa
