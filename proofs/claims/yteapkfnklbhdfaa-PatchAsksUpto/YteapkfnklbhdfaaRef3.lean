/- The document's set: Undo, Done. -/
import Derived.Test.YteapkfnklbhdfaaRef2
namespace Go.Proofs.Yteapkfnklbhdfaa
open Go.RowKit Go.Maps
set_option linter.unusedVariables false

theorem info44z : (Try.prog.info? 44).map (fun i => (i.zero, i.size, i.bytes)) = some (some (.agg #[.int .i64 0, .int .i64 0, .int .i64 0, .slice none 0 0, .slice none 0 0]), 5, 72) := by kernel_rfl

/-- The blocks that are the document's set's own. -/
def rdm (x : Nat) (lv : Value) (L : List Pv) (k : Nat) : Prop := k = x ∨ lv.ownBlock = some k ∨ ∃ p ∈ L, blkOf p.np = some k ∨ blkOf p.bp = some k

/-- A row of patches that the call made. -/
def Pts (B : Nat) (w : World) (v : Value) (L : List Pv) : Prop := w.ownsRow B 44 5 v L.length (flat5 L)
theorem Pts.nil (B : Nat) (w : World) : Pts B w (.slice none 0 0) [] := World.ownsRow_nil _ _ _ _
theorem Pts.kept {B : Nat} {w w' : World} {v : Value} {L : List Pv} (h : Pts B w v L) (hb : Below w.heap.size w w') : Pts B w' v L := row_keptIf h (fun g hg => hb.block g (World.ownsRow.lt h g hg).2)
theorem Pts.snoc {B : Nat} {w : World} {v : Value} {L : List Pv} {p : Pv} (h : w.ownsRow B 44 5 v (L.length + 1) (flat5 L ++ [.int .i64 (p.id : Int), .int .i64 (p.blk : Int), .int .i64 (p.off : Int), .slice p.bp p.bs.length p.bc, .slice p.np p.nd.length p.nc])) : Pts B w v (L ++ [p]) := by
  unfold Pts
  rw [flat5_app, List.length_append]
  exact h
theorem Pts.succ {B : Nat} {w : World} {v : Value} {L : List Pv} {p : Pv} (h : Pts B w v (L ++ [p])) : ∃ g cap, v = .slice (some ⟨g, 0, none⟩) (L.length + 1) cap := by
  rcases h.2 with ⟨e, e0⟩ | ⟨g, cp, cur, e, _⟩
  · simp at e0
  · exact ⟨g, cp, by rw [e]; simp⟩
theorem Pts.base {B B' : Nat} {w : World} {v : Value} {L : List Pv} (h : Pts B w v L) (hB : B' ≤ B) : Pts B' w v L := by
  refine ⟨h.1, ?_⟩
  rcases h.2 with h' | ⟨g', cap', cur, h', hbg, rest⟩
  · exact .inl h'
  · exact .inr ⟨g', cap', cur, h', by omega, rest⟩
theorem Pts.slice {B : Nat} {w : World} {v : Value} {L : List Pv} (h : Pts B w v L) : ∃ q c, v = .slice q L.length c := by
  obtain ⟨q, c, e, _⟩ := rows5_of h
  exact ⟨q, c, e⟩
theorem five_new (w : World) (a b c d e : Value) (t : TypeId) : ∀ j u, [a, b, c, d, e][j]? = some u → (w.alloc (.cells #[a, b, c, d, e] t)).cell? ((⟨w.heap.size, 0, none⟩ : Addr).add j) = some u := by
  intro j u hj
  have : (w.alloc (.cells #[a, b, c, d, e] t)).cell? ⟨w.heap.size, j, none⟩ = some u := by
    rw [cell_of_row _ _ j _ t _ (at_new rfl), ← hj, ← Array.getElem?_toList]
  rw [Addr.add_mid, Nat.zero_add]
  exact this

section
variable {B : Nat} {w : World} {x : Nat} {lv : Value} {last : Nat} {L : List Pv}

theorem st0 {w : World} {x : Nat} {a b : Value} (h : w.heap[x]? = some (.cells #[a, b] 28 (0, 0))) (v : Value) : ∃ w', w'.heap[x]? = some (.cells #[v, b] 28 (0, 0)) ∧ w.setCell ⟨x, 0, none⟩ v = w' := ⟨_, by
  rw [heap_setCell_same _ _ _ _ _ _ h]; rfl, rfl⟩
theorem st1 {w : World} {x : Nat} {a b : Value} (h : w.heap[x]? = some (.cells #[a, b] 28 (0, 0))) (v : Value) : ∃ w', w'.heap[x]? = some (.cells #[a, v] 28 (0, 0)) ∧ w.setCell ⟨x, 1, none⟩ v = w' := ⟨_, by
  rw [heap_setCell_same _ _ _ _ _ _ h]; rfl, rfl⟩

theorem rundo_arg (h : RZ B w x lv last L) (l : Int) (hl : l < 0 ∨ (last : Int) < l) : Calls Try.prog 42 #[.pointer (some ⟨x, 0, none⟩), .int .i64 l] w fun e w' => e = .returned (.int .i64 1) ∧ w' = w := by
  have c1 := h.c1
  clear h
  by_cases h1 : l < 0
  · clear hl
    go_enter Try.func42, Try.ntmps42
    go_wp2_with fail
    go_ret
    exact ⟨rfl, rfl⟩
  · have h2 : (last : Int) < l := by omega
    clear hl
    go_enter Try.func42, Try.ntmps42
    go_wp2_with fail
    go_ret
    exact ⟨rfl, rfl⟩

theorem upP_snoc (L : List Pv) (p : Pv) (l : Nat) : upP (L ++ [p]) l = if p.id ≤ l then upP L l ++ [p] else upP L l := by
  unfold upP
  rw [List.filter_append]
  by_cases h : p.id ≤ l
  · rw [if_pos h]; simp [h]
  · rw [if_neg h]; simp [h]

/-- The set with another row, and another last number. -/
theorem RZ.renew (h : RZ B w x lv last L) {w' : World} {lv' : Value} {last' : Nat} {L' : List Pv} (hrow : w'.heap[x]? = some (.cells #[lv', .int .i64 (last' : Int)] 28 (0, 0))) (hf : Frame (fun k => k = x) w w') (hP : Pts w.heap.size w' lv' L') (hsub : ∀ p ∈ L', p ∈ L) (hsrt : L'.Pairwise (fun p q => p.id < q.id)) (hlast : last' ≤ last) (hid : ∀ p ∈ L', p.id ≤ last') :
    RZ B w' x lv' last' L' ∧ Stp (rdm x lv L) (rdm x lv' L') w w' := by
  have hx := h.lt
  have hBx := h.base
  have hkk : ∀ p ∈ L, ∀ k, (blkOf p.np = some k ∨ blkOf p.bp = some k) → w'.heap[k]? = w.heap[k]? := fun p hp k hk => hf.block k (h.apart p hp k hk).1 (h.apart p hp k hk).2.1
  refine ⟨⟨hrow, hP.base (by omega), fun p hp => ⟨(h.byt p (hsub p hp)).1.keptIf (fun g hg _ => hkk p (hsub p hp) g (.inr hg)), (h.byt p (hsub p hp)).2⟩, fun p hp => ⟨(h.nee p (hsub p hp)).1.keptIf (fun g hg _ => hkk p (hsub p hp) g (.inl hg)), (h.nee p (hsub p hp)).2⟩, fun p hp k hk => ?_, fun p hp => ?_, hsrt, fun p hp => h.low p (hsub p hp), Nat.le_trans hlast h.sml, hBx⟩, ?_⟩
  · obtain ⟨a1, a2, a3⟩ := h.apart p (hsub p hp) k hk
    refine ⟨Nat.lt_of_lt_of_le a1 hf.size, a2, fun e => ?_⟩
    have := (World.ownsRow.lt hP k e).1
    omega
  · obtain ⟨i1, i2, i3⟩ := h.ids p (hsub p hp)
    exact ⟨i1, hid p hp, i3⟩
  · refine ⟨⟨hf.os, hf.tape, hf.output, hf.size, fun k hk hn => hf.block k hk (fun e => hn (.inl e))⟩, fun k hk => ?_⟩
    rcases hk with e | e | ⟨p, hp, e⟩
    · exact .inl (.inl e)
    · exact .inr (World.ownsRow.lt hP k e).1
    · exact .inl (.inr (.inr ⟨p, hsub p hp, e⟩))

set_option maxRecDepth 100000 in
set_option maxHeartbeats 4000000 in
theorem rundo_ok (h : RZ B w x lv last L) (l : Nat) (hl : l ≤ last) : Calls Try.prog 42 #[.pointer (some ⟨x, 0, none⟩), .int .i64 (l : Int)] w fun e w' =>
    ((¬ L.length - (upP L l).length = last - l ∧ e = .returned (.int .i64 3)) ∧ Below w.heap.size w w') ∨
    ((L.length - (upP L l).length = last - l ∧ e = .returned (.int .i64 0)) ∧ ∃ lv', RZ B w' x lv' l (upP L l) ∧ Stp (rdm x lv L) (rdm x lv' (upP L l)) w w') := by
  obtain ⟨i0, hi, hz0, hz1, hz2⟩ := info_parts info44z
  have c0 := h.c0
  have c1 := h.c1
  obtain ⟨q, c, hlv, hr⟩ := rows5_of h.lst
  subst hlv
  have hlen := h.len
  have hsml := h.sml
  have HH : Hid _ := h
  clear h
  have hg1 : ¬ (l : Int) < 0 := by omega
  have hg2 : ¬ (last : Int) < (l : Int) := by omega
  go_enter Try.func42, Try.ntmps42
  go_wp2_with fail
  go_loopw [5, 23] (fun v i wr => ∃ j : Nat, j ≤ L.length ∧ i = .int .i64 (j : Int) ∧ Pts w.heap.size wr v (upP (L.take j) l) ∧ Below w.heap.size w wr) (fun v i _ => L.length - (intOf i).toNat)
  case atStart => exact ⟨0, by omega, rfl, Pts.nil _ _, Below.refl _ _⟩
  case round =>
    obtain ⟨j, hj, rfl, hN, hb⟩ := hrel
    generalize hvv : u5 = v at *
    by_cases hlt : j < L.length
    · obtain ⟨p, hp⟩ : ∃ p, L[j]? = some p := ⟨_, List.getElem?_eq_getElem hlt⟩
      obtain ⟨g, rfl, d0, d1, d2, d3, d4⟩ := hr.at hb hp
      have hjI : (j : Int) < (L.length : Int) := by omega
      have hj0 : (0 : Int) ≤ (j : Int) := by omega
      have HT : Hid (upP (L.take (j + 1)) l = if p.id ≤ l then upP (L.take j) l ++ [p] else upP (L.take j) l) := by show _ = _; rw [take_snoc hp, upP_snoc]
      have hil : (upP (L.take j) l).length ≤ 1000 := by
        refine Nat.le_trans (List.length_filter_le _ _) ?_
        rw [List.length_take]; omega
      obtain ⟨W1, hW1⟩ : ∃ W1, wr.alloc (.cells #[.int .i64 (p.id : Int), .int .i64 (p.blk : Int), .int .i64 (p.off : Int), .slice p.bp p.bs.length p.bc, .slice p.np p.nd.length p.nc] 44) = W1 := ⟨_, rfl⟩
      have hbr : Below wr.heap.size wr W1 := by rw [← hW1]; exact (Below.refl _ _).alloc (Nat.le_refl _) _
      have hb1 : Below w.heap.size w W1 := hb.trans (hbr.mono hb.size)
      have hN1 := hN.kept hbr
      have hc1 : W1.cell? ⟨wr.heap.size, 0, none⟩ = some (.int .i64 (p.id : Int)) ∧ W1.cell? ⟨wr.heap.size, 1, none⟩ = some (.int .i64 (p.blk : Int)) ∧ W1.cell? ⟨wr.heap.size, 2, none⟩ = some (.int .i64 (p.off : Int)) ∧ W1.cell? ⟨wr.heap.size, 3, none⟩ = some (.slice p.bp p.bs.length p.bc) ∧ W1.cell? ⟨wr.heap.size, 4, none⟩ = some (.slice p.np p.nd.length p.nc) := by
        rw [← hW1]
        refine ⟨?_, ?_, ?_, ?_, ?_⟩ <;> rw [cell_of_row _ _ _ _ 44 _ (at_new rfl)] <;> rfl
      obtain ⟨k0, k1, k2, k3, k4⟩ := hc1
      clear hp hN hb
      by_cases hbk : p.id ≤ l
      · have HI := HT.out
        rw [if_pos hbk] at HI
        have HI' : Hid _ := HI
        have hq : (p.id : Int) ≤ (l : Int) := by omega
        clear HI hbk HT
        go_wp2_with (first
          | (at_builtin; refine wpList_append_own _ rfl _ _ 26 rfl w.heap.size 44 i0 _ 5 72 Try.underlying26 hi hz0 hz1 hz2 rfl (by decide) _ _ _ rfl (World.ownsRow.alloc hN1 _) ⟨W1.heap.size, 0, none⟩ 1 1 [.int .i64 (p.id : Int), .int .i64 (p.blk : Int), .int .i64 (p.off : Int), .slice p.bp p.bs.length p.bc, .slice p.np p.nd.length p.nc] rfl rfl (five_new _ _ _ _ _ _ _) (by simp [Value.oneCell']) (by unfold maxLen; omega) (by omega) (by have := hb1.size; simp; omega) ?_; intro v' w3 hown hgrow _; have hown := Pts.snoc hown; obtain ⟨g', cap', rfl⟩ := Pts.succ hown))
        have hb3 := (hb1.alloc hb1.size _).grown hgrow (by have := hb1.size; simp; omega) (by intro k hk; exact (World.ownsRow.lt hN1 k hk).1)
        go_roundw
        case rel => exact ⟨j + 1, by omega, by go_num, by rw [HI'.out]; exact hown, hb3⟩
        case measure => simp [intOf]; omega
      · have HI := HT.out
        rw [if_neg hbk] at HI
        have HI' : Hid _ := HI
        have hq : ¬ (p.id : Int) ≤ (l : Int) := by omega
        clear HI hbk HT
        go_wp2_with fail
        go_roundw
        case rel => exact ⟨j + 1, by omega, by go_num, by rw [HI'.out]; exact hN1, hb1⟩
        case measure => simp [intOf]; omega
    · obtain rfl : j = L.length := by omega
      rw [List.take_length] at hN
      obtain ⟨q2, c2, rfl⟩ := hN.slice
      have hc0 : wr.cell? ⟨x, 0, none⟩ = some (.slice q L.length c) := by rw [hb.cell (p := ⟨x, 0, none⟩) (lt_of_cell c0)]; exact c0
      have hc1 : wr.cell? ⟨x, 1, none⟩ = some (.int .i64 (last : Int)) := by rw [hb.cell (p := ⟨x, 1, none⟩) (lt_of_cell c1)]; exact c1
      have hul : (upP L l).length ≤ L.length := List.length_filter_le _ _
      have hnt : ¬ (L.length : Int) < (L.length : Int) := by omega
      clear hr
      by_cases hcd : L.length - (upP L l).length = last - l
      · have hci : (L.length : Int) - ((upP L l).length : Int) = (last : Int) - (l : Int) := by omega
        have hci2 : ((L.length : Int) - ((upP L l).length : Int) == (last : Int) - (l : Int)) = true := beq_iff_eq.2 hci
        have HC : Hid _ := hcd
        have HN : Hid _ := hN
        clear hcd hci hN
        generalize hU : (upP L l).length = m at *
        have HU : Hid _ := hU
        clear hU
        have hw1 : IntKind.i64.wrap ((L.length : Int) - (m : Int)) = (L.length : Int) - (m : Int) := IntWalk.i64_in _ (by omega)
        have hw2 : IntKind.i64.wrap ((last : Int) - (l : Int)) = (last : Int) - (l : Int) := IntWalk.i64_in _ (by omega)
        have hrow : wr.heap[x]? = some (.cells #[.slice q L.length c, .int .i64 (last : Int)] 28 (0, 0)) := by rw [hb.block x HH.out.lt]; exact HH.out.row
        have HBD : Hid (Below w.heap.size w wr ∧ wr.heap[x]? = some (.cells #[.slice q L.length c, .int .i64 (last : Int)] 28 (0, 0))) := ⟨hb, hrow⟩
        clear hb hrow
        go_wp2_with fail
        go_quiet (fail)
        have hB2 : Below w.heap.size w (wr.drewN nq) := below_drewN HBD.out.1 nq
        have hR2 : (wr.drewN nq).heap[x]? = some (.cells #[.slice q L.length c, .int .i64 (last : Int)] 28 (0, 0)) := HBD.out.2
        have hN2 : Pts w.heap.size (wr.drewN nq) (.slice q2 m c2) (upP L l) := by
          have h := HN.out
          unfold Pts
          rw [HU.out]
          exact row_keptIf h (fun g hg => rfl)
        clear HBD HN hc0 hc1
        generalize wr.drewN nq = wd at *
        obtain ⟨wA, hA, eA⟩ := st0 hR2 (.slice q2 m c2)
        obtain ⟨wB, hBw, eB⟩ := st1 hA (.int .i64 (l : Int))
        have ca : wd.cell? ⟨x, 0, none⟩ = some (.slice q L.length c) := by rw [cell_of_row _ _ 0 _ 28 _ hR2]; rfl
        have fa : wd.frozen? ⟨x, 0, none⟩ = false := by simp [World.frozen?, hR2]
        have cb : wA.cell? ⟨x, 1, none⟩ = some (.int .i64 (last : Int)) := by rw [cell_of_row _ _ 1 _ 28 _ hA]; rfl
        have fb : wA.frozen? ⟨x, 1, none⟩ = false := by simp [World.frozen?, hA]
        have cc : wd.cell? ⟨x, 1, none⟩ = some (.int .i64 (last : Int)) := by rw [cell_of_row _ _ 1 _ 28 _ hR2]; rfl
        have hF : Frame (fun k => k = x) w wB := by
          have h1 : Frame (fun k => k = x) w wd := ⟨hB2.os, hB2.tape, hB2.output, hB2.size, fun k hk _ => hB2.block k hk⟩
          have h2 : Frame (fun k => k = x) wd wA := by rw [← eA]; exact Frame.setCell wd (p := ⟨x, 0, none⟩) _ rfl
          have h3 : Frame (fun k => k = x) wA wB := by rw [← eB]; exact Frame.setCell wA (p := ⟨x, 1, none⟩) _ rfl
          exact (h1.trans h2).trans h3
        have hPB : Pts w.heap.size wB (.slice q2 m c2) (upP L l) := row_keptIf hN2 (fun g hg => by
          have hge := (World.ownsRow.lt hN2 g hg).1
          have hxl := HH.out.lt
          have h2 : wA.heap[g]? = wd.heap[g]? := by rw [← eA]; exact Below.heap_setCell _ _ _ _ (by show g ≠ x; omega)
          have h3 : wB.heap[g]? = wA.heap[g]? := by rw [← eB]; exact Below.heap_setCell _ _ _ _ (by show g ≠ x; omega)
          exact h3.trans h2)
        have HF : Hid _ := HH.out.renew hBw hF hPB (fun p hp => (List.mem_filter.1 hp).1) (List.Pairwise.filter _ HH.out.srt) hl (fun p hp => of_decide_eq_true (List.mem_filter.1 hp).2)
        clear hF hPB hN2 hB2 hR2 hA hBw
        go_wp2_with fail
        go_ret
        exact .inr ⟨⟨by rw [HU.out]; exact HC.out, rfl⟩, _, HF.out⟩
      · have hci : ¬ (L.length : Int) - ((upP L l).length : Int) = (last : Int) - (l : Int) := by omega
        have hci2 : ((L.length : Int) - ((upP L l).length : Int) == (last : Int) - (l : Int)) = false := beq_eq_false_iff_ne.2 hci
        have HC : Hid _ := hcd
        clear hcd hci hN
        generalize hU : (upP L l).length = m at *
        have hw1 : IntKind.i64.wrap ((L.length : Int) - (m : Int)) = (L.length : Int) - (m : Int) := IntWalk.i64_in _ (by omega)
        have hw2 : IntKind.i64.wrap ((last : Int) - (l : Int)) = (last : Int) - (l : Int) := IntWalk.i64_in _ (by omega)
        have HBD : Hid (∀ k, Below w.heap.size w (wr.drewN k)) := fun k => below_drewN hb k
        go_wp2_with fail
        go_quiet (fail)
        go_wp2_with fail
        go_ret
        exact .inl ⟨⟨by rw [hU]; exact HC.out, rfl⟩, HBD.out _⟩
end
end Go.Proofs.Yteapkfnklbhdfaa
