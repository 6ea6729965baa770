/- The document's set: Blocks. -/
import Derived.Test.YteapkfnklbhdfaaRef5
namespace Go.Proofs.Yteapkfnklbhdfaa
open Go.RowKit Go.Maps
set_option linter.unusedVariables false

def insR (b : Int) : List Int → List Int
  | [] => [b]
  | c :: l => if c = b then c :: l else if b < c then b :: c :: l else c :: insR b l
def st1' (b : Int) (s : List Int × Bool) (c : Int) : List Int × Bool := if c = b then (s.1 ++ [c], true) else if s.2 = false ∧ b < c then (s.1 ++ [b] ++ [c], true) else (s.1 ++ [c], s.2)
def fin1 (b : Int) (s : List Int × Bool) : List Int := if s.2 then s.1 else s.1 ++ [b]
theorem ins_put (b : Int) : ∀ (l nx : List Int), fin1 b (l.foldl (st1' b) (nx, true)) = nx ++ l
  | [], nx => by simp [fin1]
  | c :: l, nx => by
    rw [List.foldl_cons]
    have : st1' b (nx, true) c = (nx ++ [c], true) := by
      unfold st1'
      split
      · rfl
      · simp
    rw [this, ins_put b l]
    simp
theorem ins_all (b : Int) : ∀ (l nx : List Int), fin1 b (l.foldl (st1' b) (nx, false)) = nx ++ insR b l
  | [], nx => by simp [fin1, insR]
  | c :: l, nx => by
    rw [List.foldl_cons]
    unfold insR
    by_cases h1 : c = b
    · have : st1' b (nx, false) c = (nx ++ [c], true) := by unfold st1'; rw [if_pos h1]
      rw [this, ins_put, if_pos h1]
      simp
    · by_cases h2 : b < c
      · have : st1' b (nx, false) c = (nx ++ [b] ++ [c], true) := by unfold st1'; rw [if_neg h1, if_pos ⟨rfl, h2⟩]
        rw [this, ins_put, if_neg h1, if_pos h2]
        simp
      · have : st1' b (nx, false) c = (nx ++ [c], false) := by unfold st1'; rw [if_neg h1, if_neg (fun h => h2 h.2)]
        rw [this, ins_all b l, if_neg h1, if_neg h2]
        simp
theorem insR_mem (b : Int) : ∀ (l : List Int) (x : Int), x ∈ insR b l ↔ x = b ∨ x ∈ l
  | [], x => by simp [insR]
  | c :: l, x => by
    unfold insR
    by_cases h1 : c = b
    · rw [if_pos h1]; simp [h1]
    · by_cases h2 : b < c
      · rw [if_neg h1, if_pos h2]; simp
      · rw [if_neg h1, if_neg h2, List.mem_cons, insR_mem b l, List.mem_cons]
        constructor
        · rintro (h | h | h)
          · exact .inr (.inl h)
          · exact .inl h
          · exact .inr (.inr h)
        · rintro (h | h | h)
          · exact .inr (.inl h)
          · exact .inl h
          · exact .inr (.inr h)
theorem insR_sorted (b : Int) : ∀ (l : List Int), l.Pairwise (fun x y => x < y) → (insR b l).Pairwise (fun x y => x < y)
  | [], _ => by simp [insR]
  | c :: l, h => by
    obtain ⟨hc, hl⟩ := List.pairwise_cons.1 h
    unfold insR
    by_cases h1 : c = b
    · rw [if_pos h1]; exact h
    · by_cases h2 : b < c
      · rw [if_neg h1, if_pos h2]
        refine List.pairwise_cons.2 ⟨fun y hy => ?_, h⟩
        rcases List.mem_cons.1 hy with rfl | hy
        · exact h2
        · have := hc y hy; omega
      · rw [if_neg h1, if_neg h2]
        refine List.pairwise_cons.2 ⟨fun y hy => ?_, insR_sorted b l hl⟩
        rcases (insR_mem b l y).1 hy with rfl | hy
        · omega
        · exact hc y hy
theorem insR_len (b : Int) : ∀ l : List Int, (insR b l).length ≤ l.length + 1
  | [] => by simp [insR]
  | c :: l => by
    have := insR_len b l
    unfold insR
    split
    · simp
    · split <;> simp <;> omega
def bkF (L : List Pv) : List Int := L.foldl (fun out p => insR (p.blk : Int) out) []
theorem bkF_snoc (L : List Pv) (p : Pv) : bkF (L ++ [p]) = insR (p.blk : Int) (bkF L) := by unfold bkF; rw [List.foldl_append]; rfl
theorem bkF_all : ∀ (L : List Pv) (o : List Int), o.Pairwise (fun x y => x < y) → (L.foldl (fun out p => insR (p.blk : Int) out) o).Pairwise (fun x y => x < y) ∧ (∀ x, x ∈ L.foldl (fun out p => insR (p.blk : Int) out) o ↔ x ∈ o ∨ ∃ p ∈ L, (p.blk : Int) = x) ∧ (L.foldl (fun out p => insR (p.blk : Int) out) o).length ≤ o.length + L.length
  | [], o, h => ⟨h, fun x => by simp, by simp⟩
  | p :: L, o, h => by
    obtain ⟨h1, h2, h3⟩ := bkF_all L (insR (p.blk : Int) o) (insR_sorted _ _ h)
    rw [List.foldl_cons]
    refine ⟨h1, fun x => ?_, ?_⟩
    · rw [h2, insR_mem]
      constructor
      · rintro ((h | h) | ⟨q, hq, e⟩)
        · exact .inr ⟨p, List.mem_cons_self, h.symm⟩
        · exact .inl h
        · exact .inr ⟨q, List.mem_cons_of_mem _ hq, e⟩
      · rintro (h | ⟨q, hq, e⟩)
        · exact .inl (.inr h)
        · rcases List.mem_cons.1 hq with rfl | hq
          · exact .inl (.inl e.symm)
          · exact .inr ⟨q, hq, e⟩
    · have := insR_len (p.blk : Int) o
      rw [List.length_cons]; omega
theorem bkF_is (L : List Pv) : bkF L = blks L := by
  obtain ⟨h1, h2, _⟩ := bkF_all L [] List.Pairwise.nil
  refine sorted_ext h1 (rs_sorted _) (fun x => ?_)
  unfold bkF blks
  rw [h2, mem_rs, List.mem_map]
  simp
theorem bkF_len (L : List Pv) : (bkF L).length ≤ L.length := by
  have := (bkF_all L [] List.Pairwise.nil).2.2
  simpa [bkF] using this

section
variable {B : Nat} {w : World} {x : Nat} {lv : Value} {last : Nat} {L : List Pv}

set_option maxRecDepth 100000 in
set_option maxHeartbeats 4000000 in
theorem rblocks_ok (h : RZ B w x lv last L) : Calls Try.prog 44 #[.pointer (some ⟨x, 0, none⟩)] w fun e w' => ∃ v, e = .returned v ∧ Nums w.heap.size w' v (blks L) ∧ Below w.heap.size w w' := by
  obtain ⟨i0, hi, hz0, hz1, hz2⟩ := info_parts info3
  have c0 := h.c0
  obtain ⟨q, cq, hlv, hr⟩ := rows5_of h.lst
  subst hlv
  have hlen := h.len
  have hsml := h.sml
  have HH : Hid _ := h
  clear h
  go_enter Try.func44, Try.ntmps44
  go_wp2_with fail
  go_loopw [3, 15] (fun v i wr => ∃ j : Nat, j ≤ L.length ∧ i = .int .i64 (j : Int) ∧ Nums w.heap.size wr v (bkF (L.take j)) ∧ Below w.heap.size w wr) (fun v i _ => L.length - (intOf i).toNat)
  case atStart => exact ⟨0, by omega, rfl, Nums.nil _ _, Below.refl _ _⟩
  case round =>
    obtain ⟨j, hj, rfl, hN, hb⟩ := hrel
    generalize hvv : u3 = v at *
    by_cases hlt : j < L.length
    · obtain ⟨p1, hp1⟩ : ∃ p, L[j]? = some p := ⟨_, List.getElem?_eq_getElem hlt⟩
      obtain ⟨g, rfl, d0, d1, d2, d3, d4⟩ := hr.at hb hp1
      have hjI : (j : Int) < (L.length : Int) := by omega
      have hj0 : (0 : Int) ≤ (j : Int) := by omega
      have hpm : p1 ∈ L := List.mem_of_getElem? hp1
      have HT : Hid (bkF (L.take (j + 1)) = insR (p1.blk : Int) (bkF (L.take j))) := by show _ = _; rw [take_snoc hp1, bkF_snoc]
      have hol : (bkF (L.take j)).length ≤ 1000 := by
        refine Nat.le_trans (bkF_len _) ?_
        rw [List.length_take]; omega
      have hofit : ∀ y ∈ bkF (L.take j), I64 y := fun y hy => by
        have := ((bkF_all (L.take j) [] List.Pairwise.nil).2.1 y).1 hy
        rcases this with h | ⟨p2, hp2, e⟩
        · cases h
        · have := HH.out.ids p2 (List.mem_of_mem_take hp2)
          exact ⟨by omega, by omega⟩
      have hpb := (HH.out.ids p1 hpm).2.2.1
      obtain ⟨qv, cv, hqv, hIv, hplv⟩ := hN.ii (by omega) hofit
      subst hqv
      obtain ⟨W1, hW1⟩ : ∃ W1, wr.alloc (.cells #[.int .i64 (p1.id : Int), .int .i64 (p1.blk : Int), .int .i64 (p1.off : Int), .slice p1.bp p1.bs.length p1.bc, .slice p1.np p1.nd.length p1.nc] 44) = W1 := ⟨_, rfl⟩
      have hbr : Below wr.heap.size wr W1 := by rw [← hW1]; exact (Below.refl _ _).alloc (Nat.le_refl _) _
      have hb1 : Below w.heap.size w W1 := hb.trans (hbr.mono hb.size)
      have k1 : W1.cell? ⟨wr.heap.size, 1, none⟩ = some (.int .i64 (p1.blk : Int)) := by
        rw [← hW1, cell_of_row _ _ _ _ 44 _ (at_new rfl)]; rfl
      have hI1 := hIv.kept hbr
      generalize hO : bkF (L.take j) = O at *
      generalize hbk : (p1.blk : Int) = b at *
      generalize hgx : wr.heap.size = gx at *
      clear hp1 hN hb hofit hIv hplv
      go_wp2_with fail
      clear d0 d1 d2 d3 d4
      go_loopw [6, 7, 21] (fun nv pv i wz => ∃ t : Nat, t ≤ O.length ∧ i = .int .i64 (t : Int) ∧ Nums W1.heap.size wz nv ((O.take t).foldl (st1' b) ([], false)).1 ∧ pv = .bool ((O.take t).foldl (st1' b) ([], false)).2 ∧ ((O.take t).foldl (st1' b) ([], false)).1.length ≤ 2 * t ∧ Below W1.heap.size W1 wz) (fun _ _ i _ => O.length - (intOf i).toNat)
      case atStart => exact ⟨0, by omega, rfl, Nums.nil _ _, rfl, by simp, Below.refl _ _⟩
      case round =>
        obtain ⟨t, ht, rfl, hNx, rfl, hnl, hbz⟩ := hrel
        generalize hnn : u6 = nv at *
        have k1z : wr.cell? ⟨gx, 1, none⟩ = some (.int .i64 b) := by rw [hbz.cell (p := ⟨gx, 1, none⟩) (lt_of_cell k1)]; exact k1
        have hbs := hbz.size
        by_cases hlt2 : t < O.length
        · obtain ⟨b5, o5, rfl, hc5⟩ := (hI1.kept hbz).cells (by omega)
          have e5 := hc5 t hlt2
          have HT5 : Hid ((O.take (t + 1)).foldl (st1' b) ([], false) = st1' b ((O.take t).foldl (st1' b) ([], false)) (O.getD t 0)) := by
            show _ = _
            rw [take_one hlt2, List.foldl_append]; rfl
          have htI : (t : Int) < (O.length : Int) := by omega
          have ht0 : (0 : Int) ≤ (t : Int) := by omega
          generalize O.getD t 0 = y at *
          generalize hS : (O.take t).foldl (st1' b) ([], false) = S at *
          obtain ⟨nx, put⟩ := S
          dsimp only at hNx hnl ⊢
          clear hc5 hS
          by_cases hyb : y = b
          · have HI : Hid ((O.take (t + 1)).foldl (st1' b) ([], false) = (nx ++ [y], true)) := by show _ = _; rw [HT5.out]; unfold st1'; rw [if_pos hyb]
            have hq : (y == b) = true := beq_iff_eq.2 hyb
            clear hyb HT5
            go_wp2_with (first | (at_builtin; refine wpList_append_own _ rfl _ _ 30 rfl W1.heap.size 3 i0 (.int .i64 0) 1 8 Try.underlying30 hi hz0 hz1 hz2 rfl (by decide) _ _ _ rfl (World.ownsRow.alloc hNx _) ⟨wr.heap.size, 0, none⟩ 1 1 [.int .i64 y] rfl rfl (cell_one_new _ _ _) (by simp [Value.oneCell']) (by unfold maxLen; omega) (by omega) (by simp; omega) ?_; intro v' w3 hown hgrow _; have hown := Nums.snoc hown; obtain ⟨g', cap', rfl⟩ := Nums.succ hown))
            have hb3 := (hbz.alloc hbs _).grown hgrow (by simp; omega) (by intro k hk; exact (World.ownsRow.lt hNx k hk).1)
            go_roundw
            case rel => exact ⟨t + 1, by omega, by go_num, by rw [HI.out]; exact hown, by rw [HI.out], by rw [HI.out]; simp; omega, hb3⟩
            case measure => simp [intOf]; omega
          · have hq : (y == b) = false := beq_eq_false_iff_ne.2 hyb
            cases put with
            | true =>
              have HI : Hid ((O.take (t + 1)).foldl (st1' b) ([], false) = (nx ++ [y], true)) := by show _ = _; rw [HT5.out]; unfold st1'; rw [if_neg hyb, if_neg (fun h => by cases h.1)]
              clear hyb HT5
              go_wp2_with (first | (at_builtin; refine wpList_append_own _ rfl _ _ 30 rfl W1.heap.size 3 i0 (.int .i64 0) 1 8 Try.underlying30 hi hz0 hz1 hz2 rfl (by decide) _ _ _ rfl (World.ownsRow.alloc hNx _) ⟨wr.heap.size, 0, none⟩ 1 1 [.int .i64 y] rfl rfl (cell_one_new _ _ _) (by simp [Value.oneCell']) (by unfold maxLen; omega) (by omega) (by simp; omega) ?_; intro v' w3 hown hgrow _; have hown := Nums.snoc hown; obtain ⟨g', cap', rfl⟩ := Nums.succ hown))
              have hb3 := (hbz.alloc hbs _).grown hgrow (by simp; omega) (by intro k hk; exact (World.ownsRow.lt hNx k hk).1)
              go_roundw
              case rel => exact ⟨t + 1, by omega, by go_num, by rw [HI.out]; exact hown, by rw [HI.out], by rw [HI.out]; simp; omega, hb3⟩
              case measure => simp [intOf]; omega
            | false =>
              by_cases hlt3 : b < y
              · have HI : Hid ((O.take (t + 1)).foldl (st1' b) ([], false) = (nx ++ [b] ++ [y], true)) := by show _ = _; rw [HT5.out]; unfold st1'; rw [if_neg hyb, if_pos ⟨rfl, hlt3⟩]
                clear hyb HT5
                go_wp2_with (first
                  | (at_builtin; refine wpList_append_own _ rfl _ _ 30 rfl W1.heap.size 3 i0 (.int .i64 0) 1 8 Try.underlying30 hi hz0 hz1 hz2 rfl (by decide) _ _ _ rfl (World.ownsRow.alloc hown _) ⟨w3.heap.size, 0, none⟩ 1 1 [.int .i64 y] rfl rfl (cell_one_new _ _ _) (by simp [Value.oneCell']) (by unfold maxLen; rw [List.length_append, List.length_singleton]; omega) (by rw [List.length_append, List.length_singleton]; omega) (by simp; omega) ?_; intro v2 w4 hown2 hgrow2 _; have hown2 := Nums.snoc hown2; obtain ⟨g2, cap2, rfl⟩ := Nums.succ hown2)
                  | (at_builtin; refine wpList_append_own _ rfl _ _ 30 rfl W1.heap.size 3 i0 (.int .i64 0) 1 8 Try.underlying30 hi hz0 hz1 hz2 rfl (by decide) _ _ _ rfl (World.ownsRow.alloc hNx _) ⟨wr.heap.size, 0, none⟩ 1 1 [.int .i64 b] rfl rfl (cell_one_new _ _ _) (by simp [Value.oneCell']) (by unfold maxLen; omega) (by omega) (by simp; omega) ?_; intro v' w3 hown hgrow _; have hown := Nums.snoc hown; obtain ⟨g', cap', rfl⟩ := Nums.succ hown; have hb3 := (hbz.alloc hbs _).grown hgrow (by simp; omega) (by intro k hk; exact (World.ownsRow.lt hNx k hk).1); have hbs3 := hb3.size); have k1w : w3.cell? ⟨gx, 1, none⟩ = some (.int .i64 b) := (by rw [hb3.cell (p := ⟨gx, 1, none⟩) (lt_of_cell k1)]; exact k1))
                have hb4 := (hb3.alloc hbs3 _).grown hgrow2 (by simp; omega) (by intro k hk; exact (World.ownsRow.lt hown k hk).1)
                go_roundw
                case rel => exact ⟨t + 1, by omega, by go_num, by rw [HI.out]; (rw [List.length_append, List.length_singleton] at hown2; exact hown2), by rw [HI.out], by rw [HI.out]; simp; omega, hb4⟩
                case measure => simp [intOf]; omega
              · have HI : Hid ((O.take (t + 1)).foldl (st1' b) ([], false) = (nx ++ [y], false)) := by show _ = _; rw [HT5.out]; unfold st1'; rw [if_neg hyb, if_neg (fun h => hlt3 h.2)]
                clear hyb HT5
                go_wp2_with (first | (at_builtin; refine wpList_append_own _ rfl _ _ 30 rfl W1.heap.size 3 i0 (.int .i64 0) 1 8 Try.underlying30 hi hz0 hz1 hz2 rfl (by decide) _ _ _ rfl (World.ownsRow.alloc hNx _) ⟨wr.heap.size, 0, none⟩ 1 1 [.int .i64 y] rfl rfl (cell_one_new _ _ _) (by simp [Value.oneCell']) (by unfold maxLen; omega) (by omega) (by simp; omega) ?_; intro v' w3 hown hgrow _; have hown := Nums.snoc hown; obtain ⟨g', cap', rfl⟩ := Nums.succ hown))
                have hb3 := (hbz.alloc hbs _).grown hgrow (by simp; omega) (by intro k hk; exact (World.ownsRow.lt hNx k hk).1)
                go_roundw
                case rel => exact ⟨t + 1, by omega, by go_num, by rw [HI.out]; exact hown, by rw [HI.out], by rw [HI.out]; simp; omega, hb3⟩
                case measure => simp [intOf]; omega
        · obtain rfl : t = O.length := by omega
          have hnt : ¬ (O.length : Int) < (O.length : Int) := by omega
          rw [List.take_length] at hNx hnl ⊢
          have HI : Hid (fin1 b (O.foldl (st1' b) ([], false)) = bkF (L.take (j + 1))) := by show _ = _; rw [HT.out, ins_all]; rfl
          generalize hS : O.foldl (st1' b) ([], false) = S at *
          obtain ⟨nx, put⟩ := S
          dsimp only at hNx hnl ⊢
          have hbb := hb1.size
          cases put with
          | true =>
            have HI2 : Hid (bkF (L.take (j + 1)) = nx) := by show _ = _; rw [← HI.out]; rfl
            go_wp2_with fail
            go_roundw
            case rel => exact ⟨j + 1, by omega, by go_num, by rw [HI2.out]; exact Nums.base hNx hbb, hb1.trans (hbz.mono hbb)⟩
            case measure => simp [intOf]; omega
          | false =>
            have HI2 : Hid (bkF (L.take (j + 1)) = nx ++ [b]) := by show _ = _; rw [← HI.out]; rfl
            go_wp2_with (first | (at_builtin; refine wpList_append_own _ rfl _ _ 30 rfl W1.heap.size 3 i0 (.int .i64 0) 1 8 Try.underlying30 hi hz0 hz1 hz2 rfl (by decide) _ _ _ rfl (World.ownsRow.alloc hNx _) ⟨wr.heap.size, 0, none⟩ 1 1 [.int .i64 b] rfl rfl (cell_one_new _ _ _) (by simp [Value.oneCell']) (by unfold maxLen; omega) (by omega) (by simp; omega) ?_; intro v' w3 hown hgrow _; have hown := Nums.snoc hown; obtain ⟨g', cap', rfl⟩ := Nums.succ hown))
            have hb3 := (hbz.alloc hbs _).grown hgrow (by simp; omega) (by intro k hk; exact (World.ownsRow.lt hNx k hk).1)
            go_roundw
            case rel => exact ⟨j + 1, by omega, by go_num, by rw [HI2.out]; exact Nums.base hown hbb, hb1.trans (hb3.mono hbb)⟩
            case measure => simp [intOf]; omega
    · obtain rfl : j = L.length := by omega
      rw [List.take_length, bkF_is] at hN
      have hnt : ¬ (L.length : Int) < (L.length : Int) := by omega
      go_wp2_with fail
      go_ret
      exact ⟨_, rfl, hN, hb⟩
end
end Go.Proofs.Yteapkfnklbhdfaa
