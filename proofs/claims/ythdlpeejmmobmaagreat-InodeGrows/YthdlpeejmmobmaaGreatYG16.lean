/- PAdd -/
import Derived.Test.YthdlpeejmmobmaaGreatYG12
import Derived.Test.YthdlpeejmmobmaaGreatYG15
import Derived.Deep.DeepCutAuto
import Derived.Test.YthdlpeejmmobmaaGreatYG01

namespace Go.Proofs.YthdlpeejmmobmaaGreat.Pt
open Go.RowKit Go.Maps
set_option maxRecDepth 100000
set_option linter.unusedVariables false
def mayAt (b o : Int) (n : Nat) : Prop := 0 ≤ b ∧ 0 ≤ o ∧ n ≠ 0 ∧ o ≤ 128 - (n : Int)
theorem may_dec {b o : Int} {n : Nat} (h : mayAt b o n) : decide (b < 0) = false ∧ decide (o < 0) = false ∧ ((n : Int) == 0) = false ∧ decide (128 - (n : Int) < o) = false := by
 obtain ⟨h1, h2, h3, h4⟩ := h
 exact ⟨decide_eq_false (show ¬ b < 0 by omega), decide_eq_false (show ¬ o < 0 by omega), beq_eq_false_iff_ne.2 (show (n : Int) ≠ 0 by omega), decide_eq_false (show ¬ 128 - (n : Int) < o by omega)⟩
set_option maxRecDepth 100000 in
set_option maxHeartbeats 4000000 in
theorem sadd_ok {B : Nat} {w : World} {a mp mb last : Nat} {P : List Pv} {K : Int → Option Value} (h : PS B w a mp mb last P K) (hsm : last + 1 ≤ 10000) (bl of : Nat) (hbl : bl ≤ 9223372036854775807) (p : Option Addr) (n c : Nat) (xs : List Int) (hx : BI w p n xs) (hmay : mayAt (bl : Int) (of : Int) n) (q : Option Addr) (m d : Nat) (zs : List Int) (hz : II w q m zs) (hk : zs.all (kn last) = true) (hm8 : (m + P.length) * 8 ≤ 140737488355328) :
  Calls Tryz.prog 59 #[.pointer (some ⟨a, 0, none⟩), .int .i64 (bl : Int), .int .i64 (of : Int), .slice p n c, .slice q m d] w fun e w' => e = .returned (.tuple #[.int .i64 ((last + 1 : Nat) : Int), .int .i64 0]) ∧
   ∃ pn K', pn.id = last + 1 ∧ pn.blk = bl ∧ pn.off = of ∧ pn.bs = xs ∧ pn.nd = rs (still P zs ++ uppL P pn) ∧ PS B w' a mp mb (last + 1) (P ++ [pn]) K' ∧ Stp (dm a mp mb P K) (dm a mp mb (P ++ [pn]) K') w w' := by
 have hm := made_ok h
 have hkn := known_ok h q m d zs hz
 rw [hk] at hkn
 obtain ⟨d1, d2, d3, d4⟩ := may_dec hmay
 obtain ⟨h1, h2, h3, h4⟩ := hmay
 have hlen := hx.len
 have hn128 : n ≤ 128 := by omega
 have c0 := h.c0
 have hcl := fun w1 (hb1 : Below w.heap.size w w1) => bclone_ok p n c xs w1 (hx.kept hb1) (by omega)
 have c0d : w.drew.cell? ⟨a, 0, none⟩ = some (.int .i64 (last : Int)) := c0
 have hbd : Below w.heap.size w w.drew := (Below.refl _ _).drew
 have hba : Below w.heap.size w (w.alloc (.cells #[.int .i64 0, .int .i64 0, .int .i64 0, .slice none 0 0, .slice none 0 0] 218)).drew := ((Below.refl _ w).alloc (Nat.le_refl _) _).drew
 have c0a : (w.alloc (.cells #[.int .i64 0, .int .i64 0, .int .i64 0, .slice none 0 0, .slice none 0 0] 218)).drew.cell? ⟨a, 0, none⟩ = some (.int .i64 (last : Int)) := by rw [hba.cell (p := ⟨a, 0, none⟩) h.lt]; exact c0
 have hlt := h.lt
 have hwr : IntKind.i64.wrap ((last : Int) + 1) = (last : Int) + 1 := IntWalk.i64_in _ (by omega)
 go_enter Tryz.func59, Tryz.ntmps59
 go_upto_region 7 with (first | (go_at_call 122; refine same_at hm ?_) | (go_at_call 123; refine same_at hkn ?_))
 go_cut [12] (fun v wx => ∃ gx ob cap, v = .pointer (some ⟨gx, 0, none⟩) ∧ wx.heap[gx]? = some (.cells #[.int .i64 ((last : Int) + 1), .int .i64 (bl : Int), .int .i64 (of : Int), .slice (some ⟨ob, 0, none⟩) n cap, .slice none 0 0] 218 (0, 0)) ∧ w.heap.size ≤ gx ∧ Own w.heap.size wx ob n cap xs ∧ Below w.heap.size w wx)
 case first =>
  refine wp_region_held_drew (S := fun w' => w'.cell? ⟨a, 0, none⟩ = some (.int .i64 (last : Int))) (by kernel_rfl) c0d ?_
  intro hHeld
  simp only [List.size_toArray, List.length_cons, List.length_nil, Nat.reduceAdd, Array.replicate_succ, Array.replicate_zero, List.push_toArray, List.nil_append, List.cons_append]
  refine tk 0 ⟨some 41, .move (.tmp 0), 94, "patch.go:34", #[], none⟩ ?_ ?_ hHeld ?_
  rotate_left
  ·(intro w hSw; (try dsimp only at hSw); go_simp; try (with_reducible rfl))
  simp only [Act.put, sA, sZ, sS]
  refine tk 1 ⟨some 42, .nilCheck (.tmp 41), 0, "patch.go:34", #[⟨0, .data⟩], none⟩ ?_ ?_ hHeld ?_
  rotate_left
  ·(intro w hSw; (try dsimp only at hSw); go_simp; try (with_reducible rfl))
  simp only [Act.put, sA, sZ, sS]
  refine tk 2 ⟨some 43, .fieldAddr 215 (.tmp 42) 0, 0, "patch.go:34", #[⟨1, .data⟩], none⟩ ?_ ?_ hHeld ?_
  rotate_left
  ·(intro w hSw; (try dsimp only at hSw); go_simp; try (with_reducible rfl))
  simp only [Act.put, sA, sZ, sS]
  refine tk 3 ⟨some 44, .load 3 (.tmp 43), 3, "patch.go:34", #[⟨2, .data⟩], none⟩ ?_ ?_ hHeld ?_
  rotate_left
  ·(intro w hSw; (try dsimp only at hSw); go_simp; try (with_reducible rfl))
  simp only [Act.put, sA, sZ, sS]
  refine tk 4 ⟨some 45, .binOp BinOp.add 3 (.tmp 44) (.const (.int .i64 1)) 3, 3, "patch.go:34", #[⟨3, .data⟩], none⟩ ?_ ?_ hHeld ?_
  rotate_left
  ·(intro w hSw; (try dsimp only at hSw); go_simp; try (with_reducible rfl))
  simp only [Act.put, sA, sZ, sS]
  refine tk 5 ⟨some 46, .move (.tmp 1), 3, "patch.go:34", #[], none⟩ ?_ ?_ hHeld ?_
  rotate_left
  ·(intro w hSw; (try dsimp only at hSw); go_simp; try (with_reducible rfl))
  simp only [Act.put, sA, sZ, sS]
  refine tk 6 ⟨some 47, .move (.tmp 2), 3, "patch.go:34", #[], none⟩ ?_ ?_ hHeld ?_
  rotate_left
  ·(intro w hSw; (try dsimp only at hSw); go_simp; try (with_reducible rfl))
  simp only [Act.put, sA, sZ, sS]
  refine tk 7 ⟨some 48, .move (.tmp 3), 42, "patch.go:34", #[], none⟩ ?_ ?_ hHeld ?_
  rotate_left
  ·(intro w hSw; (try dsimp only at hSw); go_simp; try (with_reducible rfl))
  simp only [Act.put, sA, sZ, sS]
  refine wpAnyH_ready (rs := [8, 10]) (by kernel_rfl) (by simp) ?_
  refine AllReadyH.cons (o := ⟨some 49, .call { callee := .value (.func 124), args := #[.tmp 48], argTypes := #[42] }, 42, "patch.go:34", #[⟨7, .data⟩], none⟩) rfl (fun K hK => ?_) ?_
  ·rw [if_pos (by rfl)]
   go_simp
   refine (hcl _ hbd).mono ?_
   rintro e w2 ⟨ob, cap, rfl, hO, hb2⟩
   dsimp only
   have cS : w2.cell? ⟨a, 0, none⟩ = some (.int .i64 (last : Int)) := by rw [hb2.cell (p := ⟨a, 0, none⟩) hlt]; exact c0d
   refine hK.out _ _ cS (fun hHeld => ?_)
   clear hK K
   try simp only [sA, sZ, sS]
   refine tk 9 ⟨some 50, .build 218 #[(0, .tmp 45), (1, .tmp 46), (2, .tmp 47), (3, .tmp 49)], 218, "patch.go:34", #[⟨4, .data⟩, ⟨5, .data⟩, ⟨6, .data⟩, ⟨8, .data⟩], none⟩ ?_ ?_ hHeld ?_
   rotate_left
   ·(intro w hSw; (try dsimp only at hSw); go_simp; try (with_reducible rfl))
   simp only [Act.put, sA, sZ, sS]
   refine wpAnyH_ready (rs := [10]) (by kernel_rfl) (by simp) ?_
   refine AllReadyH.cons (o := ⟨some 12, .alloc 218, 0, "patch.go:34", #[], none⟩) rfl (fun K hK => ?_) ?_
   ·rw [if_pos (by rfl)]
    go_simp
    have cA : (w2.alloc (.cells #[.int .i64 0, .int .i64 0, .int .i64 0, .slice none 0 0, .slice none 0 0] 218)).cell? ⟨a, 0, none⟩ = some (.int .i64 (last : Int)) := by rw [((Below.refl _ w2).alloc (Nat.le_refl _) _).cell (p := ⟨a, 0, none⟩) (Nat.lt_of_lt_of_le hlt hb2.size)]; exact cS
    refine hK.out _ _ cA (fun hHeld => ?_)
    clear hK K
    try simp only [sA, sZ, sS]
    refine wpAnyH_ready (rs := [11]) (by kernel_rfl) (by simp) ?_
    refine AllReadyH.cons (o := ⟨none, .store 218 (.tmp 12) (.tmp 50), 0, "patch.go:34", #[⟨10, .data⟩, ⟨9, .data⟩, ⟨8, .chain⟩, ⟨0, .phase⟩, ⟨1, .phase⟩, ⟨2, .phase⟩, ⟨3, .phase⟩, ⟨4, .phase⟩, ⟨5, .phase⟩, ⟨6, .phase⟩, ⟨7, .phase⟩, ⟨8, .phase⟩, ⟨9, .phase⟩, ⟨10, .phase⟩], none⟩) rfl (fun K hK => ?_) ?_
    ·rw [if_pos (by rfl)]
     refine wp_store_row 218 _ _ rfl w2.heap.size #[.int .i64 ((last : Int) + 1), .int .i64 (bl : Int), .int .i64 (of : Int), .slice (some ⟨ob, 0, none⟩) n cap, .slice none 0 0] rfl rfl 218 _ (at_new rfl) info44 rfl (by simp [Value.oneCell']) ?_
     refine hK.out _ _ ((World.cell?_of_block (a := ⟨a, 0, none⟩) (setRow_other _ _ _ _ (by have := hb2.size; show a ≠ w2.heap.size; exact Nat.ne_of_lt (Nat.lt_of_lt_of_le hlt this)))).trans hHeld) (fun hHeld => ?_)
     clear hK K
     try simp only [Act.put, sA, sZ, sS]
     refine wpAnyH_done (by kernel_rfl) ?_ _
     go_wp2_with fail
     go_meet
     case rel =>
      refine ⟨w2.heap.size, ob, cap, rfl, setRow_heap _ _ _ _ 218 (0, 0) (at_new rfl), hb2.size, ?_, ?_⟩
      ·refine ((hO.kept ((Below.refl _ w2).alloc (Nat.le_refl _) _)).keptAt (setRow_other _ _ _ _ (by have := hO.spot.2; omega)))
      ·exact below_setRow ((hbd.trans (hb2.mono (Nat.le_refl _))).alloc hb2.size _) _ hb2.size _
    exact AllReadyH.nil
   exact AllReadyH.nil
  refine AllReadyH.cons (o := ⟨some 12, .alloc 218, 0, "patch.go:34", #[], none⟩) rfl (fun K hK => ?_) ?_
  ·rw [if_pos (by rfl)]
   go_simp
   refine hK.out _ _ c0a (fun hHeld => ?_)
   clear hK K
   try simp only [sA, sZ, sS]
   refine wpAnyH_ready (rs := [8]) (by kernel_rfl) (by simp) ?_
   refine AllReadyH.cons (o := ⟨some 49, .call { callee := .value (.func 124), args := #[.tmp 48], argTypes := #[42] }, 42, "patch.go:34", #[⟨7, .data⟩], none⟩) rfl (fun K hK => ?_) ?_
   ·rw [if_pos (by rfl)]
    go_simp
    refine (hcl _ hba).mono ?_
    rintro e w2 ⟨ob, cap, rfl, hO, hb2⟩
    dsimp only
    have cS : w2.cell? ⟨a, 0, none⟩ = some (.int .i64 (last : Int)) := by rw [hb2.cell (p := ⟨a, 0, none⟩) (by simp; omega)]; exact c0a
    refine hK.out _ _ cS (fun hHeld => ?_)
    clear hK K
    try simp only [sA, sZ, sS]
    refine tk 9 ⟨some 50, .build 218 #[(0, .tmp 45), (1, .tmp 46), (2, .tmp 47), (3, .tmp 49)], 218, "patch.go:34", #[⟨4, .data⟩, ⟨5, .data⟩, ⟨6, .data⟩, ⟨8, .data⟩], none⟩ ?_ ?_ hHeld ?_
    rotate_left
    ·(intro w hSw; (try dsimp only at hSw); go_simp; try (with_reducible rfl))
    simp only [Act.put, sA, sZ, sS]
    refine wpAnyH_ready (rs := [11]) (by kernel_rfl) (by simp) ?_
    refine AllReadyH.cons (o := ⟨none, .store 218 (.tmp 12) (.tmp 50), 0, "patch.go:34", #[⟨10, .data⟩, ⟨9, .data⟩, ⟨8, .chain⟩, ⟨0, .phase⟩, ⟨1, .phase⟩, ⟨2, .phase⟩, ⟨3, .phase⟩, ⟨4, .phase⟩, ⟨5, .phase⟩, ⟨6, .phase⟩, ⟨7, .phase⟩, ⟨8, .phase⟩, ⟨9, .phase⟩, ⟨10, .phase⟩], none⟩) rfl (fun K hK => ?_) ?_
    ·rw [if_pos (by rfl)]
     have hrw2 : w2.heap[w.heap.size]? = some (.cells #[.int .i64 0, .int .i64 0, .int .i64 0, .slice none 0 0, .slice none 0 0] 218 (0, 0)) := by rw [hb2.block _ (by simp)]; exact at_new rfl
     refine wp_store_row 218 _ _ rfl w.heap.size #[.int .i64 ((last : Int) + 1), .int .i64 (bl : Int), .int .i64 (of : Int), .slice (some ⟨ob, 0, none⟩) n cap, .slice none 0 0] rfl rfl 218 _ hrw2 info44 rfl (by simp [Value.oneCell']) ?_
     refine hK.out _ _ ((World.cell?_of_block (a := ⟨a, 0, none⟩) (setRow_other _ _ _ _ (by show a ≠ w.heap.size; omega))).trans hHeld) (fun hHeld => ?_)
     clear hK K
     try simp only [Act.put, sA, sZ, sS]
     refine wpAnyH_done (by kernel_rfl) ?_ _
     go_wp2_with fail
     go_meet
     case rel =>
      refine ⟨w.heap.size, ob, cap, rfl, setRow_heap _ _ _ _ 218 (0, 0) hrw2, Nat.le_refl _, ?_, ?_⟩
      ·obtain ⟨cs5, h5⟩ := own_row5 hO
       exact (hO.base (by simp)).keptAt (setRow_other _ _ _ _ (own_ne h5 hrw2 (by decide)))
      ·exact below_setRow (hba.trans (hb2.mono (by simp))) _ (Nat.le_refl _) _
    exact AllReadyH.nil
   exact AllReadyH.nil
  exact AllReadyH.nil
 case rest =>
  obtain ⟨gx, ob, cap, rfl, hrow, hgx, hO, hb⟩ := hcut
  clear hcl hba c0a c0d hbd hkn hm c0
  obtain ⟨p0, hp0⟩ : ∃ p0 : Pv, p0 = { id := last + 1, blk := bl, off := of, bs := xs, nd := [], bp := some ⟨ob, 0, none⟩, bc := cap, np := none, nc := 0 } := ⟨_, rfl⟩
  have hrow0 : wc.heap[gx]? = some (.cells p0.cells 218 (0, 0)) := by
   rw [hrow, hp0]
   unfold Pv.cells
   simp [hlen]
  have hps := h.kept hb
  have hbd : Below wc.heap.size wc wc.drew := (Below.refl _ _).drew
  have hst := stillPending_ok (hps.kept hbd) q m d zs ((hz.kept hb).kept hbd) (by omega)
  have hup := fun w2 (hb2 : Below wc.heap.size wc w2) => uppermost_ok (hps.kept hb2) p0 (by rw [hp0]; show of + xs.length ≤ 128; omega) (by rw [hp0]; exact hbl)
  have hrowd : wc.drew.heap[gx]? = some (.cells p0.cells 218 (0, 0)) := hrow0
  have hgl : gx < wc.heap.size := (Array.getElem?_eq_some_iff.1 hrow0).1
  have hpv : p0.v = .agg p0.cells := rfl
  have hstl : (still P zs).length ≤ m := by have := (hz.len); unfold still; exact Nat.le_trans (List.length_filter_le _ _) (by omega)
  have hupl := uppL_len P p0
  have hPl := h.len
  rw [hpv] at hup
  have HP : Hid _ := hp0
  have hid := h.ids
  have hall : ∀ x ∈ still P zs ++ uppL P p0, 1 ≤ x ∧ x ≤ (last : Int) := fun x hx => by
   rcases List.mem_append.1 hx with hx | hx
   ·unfold still at hx
    obtain ⟨p, hp⟩ := Option.isSome_iff_exists.1 (List.mem_filter.1 hx).2
    have := h.ids p (fP_some hp).1
    have := (fP_some hp).2
    omega
   ·obtain ⟨u, hu, e, _⟩ := (uppL_ok h.srt (p := p0) (by rw [hp0]; show of + xs.length ≤ 128; omega)).1 x hx
    have := h.ids u (mem_ofB.1 hu).1
    omega
  have hall' : ∀ pn : Pv, Sit pn p0 → ∀ x ∈ still P zs ++ uppL P pn, 1 ≤ x ∧ x ≤ (last : Int) := fun pn hs x hx => by rw [sit_uppL hs] at hx; exact hall x hx
  clear hrow hp0 hpv
  go_upto_region 8 with fail
  go_cut [12] (fun v wx => ∃ gx pn, v = .pointer (some ⟨gx, 0, none⟩) ∧ (pn.id = last + 1 ∧ pn.blk = bl ∧ pn.off = of ∧ pn.bs = xs ∧ pn.nd = rs (still P zs ++ uppL P pn)) ∧ wx.heap[gx]? = some (.cells pn.cells 218 (0, 0)) ∧ w.heap.size ≤ gx ∧ BI wx pn.bp pn.bs.length pn.bs ∧ Plain pn.bp ∧ II wx pn.np pn.nd.length pn.nd ∧ Plain pn.np ∧ (∀ k, blkOf pn.np = some k ∨ blkOf pn.bp = some k → w.heap.size ≤ k ∧ k < wx.heap.size) ∧ Below w.heap.size w wx)
  case first =>
   refine wp_region_held_drew (S := fun _ => True) (by kernel_rfl) trivial ?_
   intro hHeld
   simp only [List.size_toArray, List.length_cons, List.length_nil, Nat.reduceAdd, Array.replicate_succ, Array.replicate_zero, List.push_toArray, List.nil_append, List.cons_append]
   refine tk 0 ⟨some 51, .move (.tmp 0), 94, "patch.go:35", #[], none⟩ ?_ ?_ hHeld ?_
   rotate_left
   ·(intro w hSw; (try dsimp only at hSw); go_simp; try (with_reducible rfl))
   simp only [Act.put, sA, sZ, sS]
   refine tk 1 ⟨some 52, .move (.tmp 4), 49, "patch.go:35", #[], none⟩ ?_ ?_ hHeld ?_
   rotate_left
   ·(intro w hSw; (try dsimp only at hSw); go_simp; try (with_reducible rfl))
   simp only [Act.put, sA, sZ, sS]
   refine tk 3 ⟨some 54, .move (.tmp 0), 94, "patch.go:35", #[], none⟩ ?_ ?_ hHeld ?_
   rotate_left
   ·(intro w hSw; (try dsimp only at hSw); go_simp; try (with_reducible rfl))
   simp only [Act.put, sA, sZ, sS]
   refine wpAnyH_ready (rs := [2, 4]) (by kernel_rfl) (by simp) ?_
   refine AllReadyH.cons (o := ⟨some 53, .call { callee := .value (.func 126), args := #[.tmp 51, .tmp 52], argTypes := #[94, 49] }, 49, "patch.go:35", #[⟨0, .data⟩, ⟨1, .data⟩], none⟩) rfl (fun K hK => ?_) ?_
   ·rw [if_pos (by rfl)]
    go_simp
    refine hst.mono ?_
    rintro e w2 ⟨v1, rfl, hN1, hb2'⟩
    dsimp only
    have hb2 : Below wc.heap.size wc w2 := hbd.trans hb2'
    refine hK.out _ _ trivial (fun hHeld => ?_)
    clear hK K
    try simp only [sA, sZ, sS]
    refine wpAnyH_ready (rs := [4]) (by kernel_rfl) (by simp) ?_
    refine AllReadyH.cons (o := ⟨some 55, .load 218 (.tmp 12), 218, "patch.go:35", #[], none⟩) rfl (fun K hK => ?_) ?_
    ·rw [if_pos (by rfl)]
     have hrow2 : w2.heap[gx]? = some (.cells p0.cells 218 (0, 0)) := by rw [hb2.block _ hgl]; exact hrow0
     refine wp_load_row 218 (.tmp 12) rfl gx rfl 218 p0.cells (0, 0) _ hrow2 Tryz.underlying218 rfl info44 ?_
     refine hK.out _ _ trivial (fun hHeld => ?_)
     clear hK K
     try simp only [Act.put, sA, sZ, sS]
     refine wpAnyH_ready (rs := [5]) (by kernel_rfl) (by simp) ?_
     refine AllReadyH.cons (o := ⟨some 56, .call { callee := .value (.func 127), args := #[.tmp 54, .tmp 55], argTypes := #[94, 218] }, 49, "patch.go:35", #[⟨3, .data⟩, ⟨4, .data⟩, ⟨2, .chain⟩], none⟩) rfl (fun K hK => ?_) ?_
     ·rw [if_pos (by rfl)]
      go_simp
      refine (hup w2 hb2).mono ?_
      rintro e w3 ⟨v2, rfl, hN2, hb3⟩
      dsimp only
      have z2 := hb2.size
      have z3 := hb3.size
      have hN1 := hN1.kept hb3
      refine hK.out _ _ trivial (fun hHeld => ?_)
      clear hK K
      try simp only [sA, sZ, sS]
      refine wpAnyH_ready (rs := [6]) (by kernel_rfl) (by simp) ?_
      refine AllReadyH.cons (o := ⟨some 57, .call { callee := .builtin Builtin.append, args := #[.tmp 53, .tmp 56], argTypes := #[49, 49] }, 49, "patch.go:35", #[⟨2, .data⟩, ⟨5, .data⟩, ⟨5, .chain⟩], none⟩) rfl (fun K hK => ?_) ?_
      ·rw [if_pos (by rfl)]
       obtain ⟨v3, w4, hr4, hN3, hg4, hv3⟩ := nums_append (B := wc.heap.size) hN1 hN2 (by omega) (by omega) 49
       refine wp_append (.tmp 53) (.tmp 56) rfl rfl rfl hr4 ?_
       refine hK.out _ _ trivial (fun hHeld => ?_)
       clear hK K
       try simp only [Act.put, sA, sZ, sS]
       refine wpAnyH_ready (rs := [7]) (by kernel_rfl) (by simp) ?_
       refine AllReadyH.cons (o := ⟨some 58, .call { callee := .value (.func 125), args := #[.tmp 57], argTypes := #[49] }, 49, "patch.go:35", #[⟨6, .data⟩, ⟨6, .chain⟩], none⟩) rfl (fun K hK => ?_) ?_
       ·rw [if_pos (by rfl)]
        have hb4 : Below wc.heap.size wc w4 := (hb2.trans (hb3.mono z2)).grown hg4 (by omega) (fun k hk => (World.ownsRow.lt hN1 k hk).1)
        have z4 := hb4.size
        have hri := rising_ok hN3 z4 (by rw [List.length_append]; omega) (fun x hx => by have := hall x hx; exact ⟨by omega, by omega⟩)
        go_simp
        refine hri.mono ?_
        rintro e w5 ⟨qn, cn, rfl, hII, hpl, hqb, hb5'⟩
        dsimp only
        have hb5 : Below wc.heap.size wc w5 := hb4.trans hb5'
        have hrow5 : w5.heap[gx]? = some (.cells p0.cells 218 (0, 0)) := by rw [hb5.block _ hgl]; exact hrow0
        have c4 : w5.cell? ⟨gx, 4, none⟩ = some (.slice p0.np p0.nd.length p0.nc) := (cells5 hrow5).2.2.2.2
        have f4 : w5.frozen? ⟨gx, 4, none⟩ = false := by simp [World.frozen?, hrow5]
        refine hK.out _ _ trivial (fun hHeld => ?_)
        clear hK K
        try simp only [sA, sZ, sS]
        refine tk 8 ⟨some 59, .fieldAddr 218 (.tmp 12) 4, 0, "patch.go:35", #[⟨0, .phase⟩, ⟨1, .phase⟩, ⟨2, .phase⟩, ⟨3, .phase⟩, ⟨4, .phase⟩, ⟨5, .phase⟩, ⟨6, .phase⟩, ⟨7, .phase⟩], none⟩ ?_ ?_ hHeld ?_
        rotate_left
        ·(intro w hSw; (try dsimp only at hSw); go_simp; try (with_reducible rfl))
        simp only [Act.put, sA, sZ, sS]
        refine wpAnyH_ready (rs := [9]) (by kernel_rfl) (by simp) ?_
        refine AllReadyH.cons (o := ⟨none, .store 49 (.tmp 59) (.tmp 58), 0, "patch.go:35", #[⟨8, .data⟩, ⟨7, .data⟩, ⟨7, .chain⟩, ⟨0, .phase⟩, ⟨1, .phase⟩, ⟨2, .phase⟩, ⟨3, .phase⟩, ⟨4, .phase⟩, ⟨5, .phase⟩, ⟨6, .phase⟩, ⟨7, .phase⟩], none⟩) rfl (fun K hK => ?_) ?_
        ·rw [if_pos (by rfl)]
         go_simp
         refine hK.out _ _ trivial (fun hHeld => ?_)
         clear hK K
         try simp only [sA, sZ, sS]
         refine wpAnyH_done (by kernel_rfl) ?_ _
         clear hst hup hrowd hHeld hri hr4
         go_wp2_with fail
         go_meet
         case rel =>
          have hqg : ∀ k, blkOf qn = some k → wc.heap.size ≤ k ∧ k < w5.heap.size := fun k hk => ⟨(World.ownsRow.lt hN3 k (hqb k hk)).1, Nat.lt_of_lt_of_le (World.ownsRow.lt hN3 k (hqb k hk)).2 hb5'.size⟩
          have hzc := hb.size
          have hoth : ∀ k, k ≠ gx → (w5.setCell ⟨gx, 4, none⟩ (.slice qn (rs (still P zs ++ uppL P p0)).length cn)).heap[k]? = w5.heap[k]? := fun k hk => Below.heap_setCell _ _ _ _ hk
          have hOb := hO.spot
          have hO5 := hO.kept hb5
          obtain ⟨cs5, h5⟩ := own_row5 hO5
          have hobx : ob ≠ gx := own_ne h5 hrow5 (by decide)
          have e0 := HP.out
          refine ⟨gx, { p0 with nd := rs (still P zs ++ uppL P p0), np := qn, nc := cn }, rfl, ⟨by rw [e0], by rw [e0], by rw [e0], by rw [e0], ?_⟩, ?_, hgx, ?_, ?_, ?_, hpl, ?_, ?_⟩
          ·exact congrArg (fun l => rs (still P zs ++ l)) (sit_uppL (p := p0) (p' := { p0 with nd := rs (still P zs ++ uppL P p0), np := qn, nc := cn }) ⟨rfl, rfl, rfl⟩ P)
          ·rw [heap_setCell_same _ _ _ _ _ _ hrow5]; rfl
          ·have hBI := (hO5.keptAt (hoth ob hobx)).bi (by omega) hx.byt
           rw [e0]
           show BI _ (some ⟨ob, 0, none⟩) xs.length xs
           rw [hlen]; rw [e0] at hBI; exact hBI
          ·rw [e0]; exact .inr ⟨ob, 0, rfl⟩
          ·exact hII.keptIf (fun g hg _ => hoth g (by have := hqg g hg; omega))
          ·intro k hk
           rw [World.size_setCell]
           rcases hk with hk | hk
           ·have := hqg k hk; omega
           ·rw [e0] at hk
            obtain rfl : ob = k := by simpa [blkOf] using hk
            exact ⟨hOb.1, Nat.lt_of_lt_of_le hOb.2 hb5.size⟩
          ·exact (hb.trans (hb5.mono hzc)).setCell (p := ⟨gx, 4, none⟩) hgx _
        exact AllReadyH.nil
       exact AllReadyH.nil
      exact AllReadyH.nil
     exact AllReadyH.nil
    exact AllReadyH.nil
   refine AllReadyH.cons (o := ⟨some 55, .load 218 (.tmp 12), 218, "patch.go:35", #[], none⟩) rfl (fun K hK => ?_) ?_
   ·rw [if_pos (by rfl)]
    refine wp_load_row 218 (.tmp 12) rfl gx rfl 218 p0.cells (0, 0) _ hrowd Tryz.underlying218 rfl info44 ?_
    refine hK.out _ _ trivial (fun hHeld => ?_)
    clear hK K
    try simp only [Act.put, sA, sZ, sS]
    refine wpAnyH_ready (rs := [2]) (by kernel_rfl) (by simp) ?_
    refine AllReadyH.cons (o := ⟨some 53, .call { callee := .value (.func 126), args := #[.tmp 51, .tmp 52], argTypes := #[94, 49] }, 49, "patch.go:35", #[⟨0, .data⟩, ⟨1, .data⟩], none⟩) rfl (fun K hK => ?_) ?_
    ·rw [if_pos (by rfl)]
     go_simp
     refine hst.mono ?_
     rintro e w2 ⟨v1, rfl, hN1, hb2'⟩
     dsimp only
     have hb2 : Below wc.heap.size wc w2 := hbd.trans hb2'
     refine hK.out _ _ trivial (fun hHeld => ?_)
     clear hK K
     try simp only [sA, sZ, sS]
     refine wpAnyH_ready (rs := [5]) (by kernel_rfl) (by simp) ?_
     refine AllReadyH.cons (o := ⟨some 56, .call { callee := .value (.func 127), args := #[.tmp 54, .tmp 55], argTypes := #[94, 218] }, 49, "patch.go:35", #[⟨3, .data⟩, ⟨4, .data⟩, ⟨2, .chain⟩], none⟩) rfl (fun K hK => ?_) ?_
     ·rw [if_pos (by rfl)]
      go_simp
      refine (hup w2 hb2).mono ?_
      rintro e w3 ⟨v2, rfl, hN2, hb3⟩
      dsimp only
      have z2 := hb2.size
      have z3 := hb3.size
      have hN1 := hN1.kept hb3
      refine hK.out _ _ trivial (fun hHeld => ?_)
      clear hK K
      try simp only [sA, sZ, sS]
      refine wpAnyH_ready (rs := [6]) (by kernel_rfl) (by simp) ?_
      refine AllReadyH.cons (o := ⟨some 57, .call { callee := .builtin Builtin.append, args := #[.tmp 53, .tmp 56], argTypes := #[49, 49] }, 49, "patch.go:35", #[⟨2, .data⟩, ⟨5, .data⟩, ⟨5, .chain⟩], none⟩) rfl (fun K hK => ?_) ?_
      ·rw [if_pos (by rfl)]
       obtain ⟨v3, w4, hr4, hN3, hg4, hv3⟩ := nums_append (B := wc.heap.size) hN1 hN2 (by omega) (by omega) 49
       refine wp_append (.tmp 53) (.tmp 56) rfl rfl rfl hr4 ?_
       refine hK.out _ _ trivial (fun hHeld => ?_)
       clear hK K
       try simp only [Act.put, sA, sZ, sS]
       refine wpAnyH_ready (rs := [7]) (by kernel_rfl) (by simp) ?_
       refine AllReadyH.cons (o := ⟨some 58, .call { callee := .value (.func 125), args := #[.tmp 57], argTypes := #[49] }, 49, "patch.go:35", #[⟨6, .data⟩, ⟨6, .chain⟩], none⟩) rfl (fun K hK => ?_) ?_
       ·rw [if_pos (by rfl)]
        have hb4 : Below wc.heap.size wc w4 := (hb2.trans (hb3.mono z2)).grown hg4 (by omega) (fun k hk => (World.ownsRow.lt hN1 k hk).1)
        have z4 := hb4.size
        have hri := rising_ok hN3 z4 (by rw [List.length_append]; omega) (fun x hx => by have := hall x hx; exact ⟨by omega, by omega⟩)
        go_simp
        refine hri.mono ?_
        rintro e w5 ⟨qn, cn, rfl, hII, hpl, hqb, hb5'⟩
        dsimp only
        have hb5 : Below wc.heap.size wc w5 := hb4.trans hb5'
        have hrow5 : w5.heap[gx]? = some (.cells p0.cells 218 (0, 0)) := by rw [hb5.block _ hgl]; exact hrow0
        have c4 : w5.cell? ⟨gx, 4, none⟩ = some (.slice p0.np p0.nd.length p0.nc) := (cells5 hrow5).2.2.2.2
        have f4 : w5.frozen? ⟨gx, 4, none⟩ = false := by simp [World.frozen?, hrow5]
        refine hK.out _ _ trivial (fun hHeld => ?_)
        clear hK K
        try simp only [sA, sZ, sS]
        refine tk 8 ⟨some 59, .fieldAddr 218 (.tmp 12) 4, 0, "patch.go:35", #[⟨0, .phase⟩, ⟨1, .phase⟩, ⟨2, .phase⟩, ⟨3, .phase⟩, ⟨4, .phase⟩, ⟨5, .phase⟩, ⟨6, .phase⟩, ⟨7, .phase⟩], none⟩ ?_ ?_ hHeld ?_
        rotate_left
        ·(intro w hSw; (try dsimp only at hSw); go_simp; try (with_reducible rfl))
        simp only [Act.put, sA, sZ, sS]
        refine wpAnyH_ready (rs := [9]) (by kernel_rfl) (by simp) ?_
        refine AllReadyH.cons (o := ⟨none, .store 49 (.tmp 59) (.tmp 58), 0, "patch.go:35", #[⟨8, .data⟩, ⟨7, .data⟩, ⟨7, .chain⟩, ⟨0, .phase⟩, ⟨1, .phase⟩, ⟨2, .phase⟩, ⟨3, .phase⟩, ⟨4, .phase⟩, ⟨5, .phase⟩, ⟨6, .phase⟩, ⟨7, .phase⟩], none⟩) rfl (fun K hK => ?_) ?_
        ·rw [if_pos (by rfl)]
         go_simp
         refine hK.out _ _ trivial (fun hHeld => ?_)
         clear hK K
         try simp only [sA, sZ, sS]
         refine wpAnyH_done (by kernel_rfl) ?_ _
         clear hst hup hrowd hHeld hri hr4
         go_wp2_with fail
         go_meet
         case rel =>
          have hqg : ∀ k, blkOf qn = some k → wc.heap.size ≤ k ∧ k < w5.heap.size := fun k hk => ⟨(World.ownsRow.lt hN3 k (hqb k hk)).1, Nat.lt_of_lt_of_le (World.ownsRow.lt hN3 k (hqb k hk)).2 hb5'.size⟩
          have hzc := hb.size
          have hoth : ∀ k, k ≠ gx → (w5.setCell ⟨gx, 4, none⟩ (.slice qn (rs (still P zs ++ uppL P p0)).length cn)).heap[k]? = w5.heap[k]? := fun k hk => Below.heap_setCell _ _ _ _ hk
          have hOb := hO.spot
          have hO5 := hO.kept hb5
          obtain ⟨cs5, h5⟩ := own_row5 hO5
          have hobx : ob ≠ gx := own_ne h5 hrow5 (by decide)
          have e0 := HP.out
          refine ⟨gx, { p0 with nd := rs (still P zs ++ uppL P p0), np := qn, nc := cn }, rfl, ⟨by rw [e0], by rw [e0], by rw [e0], by rw [e0], ?_⟩, ?_, hgx, ?_, ?_, ?_, hpl, ?_, ?_⟩
          ·exact congrArg (fun l => rs (still P zs ++ l)) (sit_uppL (p := p0) (p' := { p0 with nd := rs (still P zs ++ uppL P p0), np := qn, nc := cn }) ⟨rfl, rfl, rfl⟩ P)
          ·rw [heap_setCell_same _ _ _ _ _ _ hrow5]; rfl
          ·have hBI := (hO5.keptAt (hoth ob hobx)).bi (by omega) hx.byt
           rw [e0]
           show BI _ (some ⟨ob, 0, none⟩) xs.length xs
           rw [hlen]; rw [e0] at hBI; exact hBI
          ·rw [e0]; exact .inr ⟨ob, 0, rfl⟩
          ·exact hII.keptIf (fun g hg _ => hoth g (by have := hqg g hg; omega))
          ·intro k hk
           rw [World.size_setCell]
           rcases hk with hk | hk
           ·have := hqg k hk; omega
           ·rw [e0] at hk
            obtain rfl : ob = k := by simpa [blkOf] using hk
            exact ⟨hOb.1, Nat.lt_of_lt_of_le hOb.2 hb5.size⟩
          ·exact (hb.trans (hb5.mono hzc)).setCell (p := ⟨gx, 4, none⟩) hgx _
        exact AllReadyH.nil
       exact AllReadyH.nil
      exact AllReadyH.nil
     exact AllReadyH.nil
    exact AllReadyH.nil
   exact AllReadyH.nil
  case rest =>
   obtain ⟨gx2, pn, rfl, ⟨e1, e2, e3, e4, e5⟩, hrw, hgx2, hby, hbp, hnd, hnp, hfresh, hb8⟩ := hcut
   clear hst hup hrowd hrow0 hO hb hps hbd
   have hps := h.kept hb8
   have hall' := hall' pn (by rw [HP.out]; exact ⟨e2, e3, e4⟩)
   have c1 := hps.c1
   have hpsd := hps.kept ((Below.refl _ _).drew)
   have hrwd : wc.drew.heap[gx2]? = some (.cells pn.cells 218 (0, 0)) := hrw
   have k0 : wc.drew.cell? ⟨gx2, 0, none⟩ = some (.int .i64 (pn.id : Int)) := (cells5 hrwd).1
   have c1d : wc.drew.cell? ⟨a, 1, none⟩ = some (.map (some mp)) := c1
   obtain ⟨dd, hdd⟩ := pv_D pn hbp hnp
   obtain ⟨w9, hr9, h9, g9⟩ := hpsd.pm.put (by omega) Tryz.underlying212 (pn.id : Int) ⟨by omega, by omega⟩ pn.v hdd
   have hr9' : (Instr.mapUpdate 212 (.map (some mp)) (.int .i64 (pn.id : Int)) (.agg pn.cells)).run Tryz.prog wc.drew = .ok () w9 := hr9
   obtain ⟨ep, cp, hmp⟩ := hpsd.pm.isMap
   obtain ⟨eb, cb, hmb⟩ := hpsd.bm.isMap
   have hnone : (fP P (pn.id : Int)) = none := by
    unfold fP
    rw [List.find?_eq_none]
    intro p hp
    have := (h.ids p hp).2.1
    simp
    omega
   have nap : a ≠ mp := map_ne hpsd.row hmp
   have nab : a ≠ mb := map_ne hpsd.row hmb
   have ngp : gx2 ≠ mp := map_ne hrwd hmp
   have ngb : gx2 ≠ mb := map_ne hrwd hmb
   have ra9 : w9.heap[a]? = some (.cells #[.int .i64 (last : Int), .map (some mp), .map (some mb)] 215 (0, 0)) := by rw [g9.block a hpsd.lt (fun e => nap (by cases e; rfl))]; exact hpsd.row
   have rg9 : w9.heap[gx2]? = some (.cells pn.cells 218 (0, 0)) := by rw [g9.block gx2 (Array.getElem?_eq_some_iff.1 hrwd).1 (fun e => ngp (by cases e; rfl))]; exact hrwd
   have hS9 : w9.cell? ⟨a, 1, none⟩ = some (.map (some mp)) ∧ w9.cell? ⟨gx2, 0, none⟩ = some (.int .i64 (pn.id : Int)) := ⟨by rw [cell_of_row _ _ 1 _ 215 _ ra9]; rfl, (cells5 rg9).1⟩
   rw [show ((fP P (pn.id : Int)).map Pv.v).isSome = false by rw [hnone]; rfl] at h9
   have h9' : Mf w9 mp (last + 1) (fput (fun k => (fP P k).map Pv.v) (pn.id : Int) (some pn.v)) := h9
   have H9 : Hid (Mf w9 mp (last + 1) (fput (fun k => (fP P k).map Pv.v) (pn.id : Int) (some pn.v))) := h9'
   have hb9 : Mf w9 mb P.length K := hpsd.bm.kept (g9.block mb hpsd.bm.lt (fun e => h.base.2 (by cases e; rfl)))
   have hI : I64 (bl : Int) := ⟨by omega, by omega⟩
   obtain ⟨dz, hdz⟩ := zero30_D
   obtain ⟨v, hv⟩ : ∃ v, (K (bl : Int)).getD (.slice none 0 0) = v := ⟨_, rfl⟩
   have hlk : ∀ W : World, W.heap[mb]? = w9.heap[mb]? → (Instr.lookup 213 (.map (some mb)) (.int .i64 (bl : Int)) false).run Tryz.prog W = .ok v W := fun W hW => by
    have := (hb9.kept hW).get Tryz.underlying213 (zero30 W) hdz (bl : Int) hI
    rw [hv] at this
    exact this
   have hrowv : w9.ownsRow B 3 1 v (idsOf P (bl : Int)).length ((idsOf P (bl : Int)).map (Value.int .i64)) := by
    cases e : K (bl : Int) with
    | none =>
     rw [e] at hv
     rw [hpsd.away _ hI e, ← hv]
     exact World.ownsRow_nil _ _ _ _
    | some u =>
     rw [e] at hv
     have hv' : u = v := hv
     rw [← hv']
     have hr := (hpsd.rows _ _ e).2.1
     refine row_keptIf hr (fun g hg => ?_)
     obtain ⟨cs, hc⟩ := row_ty hr hg
     exact g9.block g (hr.lt g hg).2 (fun e2 => by cases e2; rw [hmp] at hc; cases hc)
   obtain ⟨i0, hi, hz0, hz1, hz2⟩ := info_parts info3
   have hidl : (idsOf P (bl : Int)).length ≤ 10000 := by
    have h3 : (ofB P (bl : Int)).length ≤ P.length := List.length_filter_le _ _
    rw [idsOf_eq, List.length_map]
    omega
   have hBa := h.base.1.1
   have z8 := hb8.size
   have z9 : wc.heap.size ≤ w9.heap.size := g9.size
   obtain ⟨v', w10, hr10, ho10, g10, _, e10⟩ := run_append_own_at (P := Tryz.prog) (w9.alloc (.cells #[.int .i64 (pn.id : Int)] 3)).drew B 49 49 3 i0 (.int .i64 0) 1 8 Tryz.underlying49 hi hz0 hz1 hz2 rfl (by decide) v (idsOf P (bl : Int)).length ((idsOf P (bl : Int)).map (Value.int .i64)) (row_keptIf (hrowv.alloc _) (fun g hg => rfl)) ⟨w9.heap.size, 0, none⟩ 1 1 [.int .i64 (pn.id : Int)] rfl (cell_one_new _ _ _) (by simp [Value.oneCell']) (by unfold maxLen; omega) (by omega) (by show B ≤ (w9.alloc _).heap.size; rw [World.size_alloc]; omega)
   have g10' : (w9.alloc (.cells #[.int .i64 (pn.id : Int)] 3)).grownBy w10 v.ownBlock := ⟨g10.os, g10.tape, g10.output, g10.size, g10.block⟩
   have hvd : ∀ k, v.ownBlock = some k → K (bl : Int) = some v := fun k hk => by
    cases e : K (bl : Int) with
    | none => rw [e] at hv; rw [← hv] at hk; cases hk
    | some u => rw [e] at hv; rw [← hv]; rfl
   have hvty : ∀ k, v.ownBlock = some k → ∃ cs, w9.heap[k]? = some (.cells cs 3 (0, 0)) := fun k hk => row_ty hrowv hk
   have h10 : ∀ (k : Nat) (o : Obj), w9.heap[k]? = some o → (∀ cs, o ≠ .cells cs 3 (0, 0)) → w10.heap[k]? = some o := fun k o hk ho => by
    rw [g10'.block k (by have := (Array.getElem?_eq_some_iff.1 hk).1; simp; omega) (fun e => by
     obtain ⟨cs, hc⟩ := hvty k e.symm
     exact ho cs (Option.some.inj (hk.symm.trans hc)))]
    exact at_old hk
   have hmb9 : w9.heap[mb]? = some (.map eb cb) := by rw [g9.block mb hpsd.bm.lt (fun e => h.base.2 (by cases e; rfl))]; exact hmb
   have hmb10 : w10.heap[mb]? = w9.heap[mb]? := by rw [h10 mb _ hmb9 (by simp), hmb9]
   have ra10 := h10 a _ ra9 (by simp)
   have rg10 := h10 gx2 _ rg9 (by simp)
   obtain ⟨d', hd'⟩ : ∃ d', vR v' = some (d', []) := by
    rcases ho10.2 with ⟨rfl, _⟩ | ⟨g', cap', cur, rfl, _⟩
    ·exact ⟨_, rfl⟩
    ·exact ⟨_, rfl⟩
   obtain ⟨w11, hr11, h11, g11⟩ := (hb9.kept hmb10).put (by omega) Tryz.underlying213 (bl : Int) hI v' hd'
   have h11' : Mf w11 mb (P.length + 1) (fput K (bl : Int) (some v')) := h11.mono (by split <;> omega)
   have ra11 : w11.heap[a]? = some (.cells #[.int .i64 (last : Int), .map (some mp), .map (some mb)] 215 (0, 0)) := by rw [g11.block a (Array.getElem?_eq_some_iff.1 ra10).1 (fun e => nab (by cases e; rfl))]; exact ra10
   have rg11 : w11.heap[gx2]? = some (.cells pn.cells 218 (0, 0)) := by rw [g11.block gx2 (Array.getElem?_eq_some_iff.1 rg10).1 (fun e => ngb (by cases e; rfl))]; exact rg10
   have e2' : (pn.blk : Int) = (bl : Int) := by rw [e2]
   obtain ⟨hPS, hFr, hDm⟩ := PS.grow (w9 := w9) (w10 := w10) (w11 := w11) hpsd pn e1 (by rw [e2]; exact hbl) (by rw [e4, e3, hlen]; omega) (fun x hx => by rw [e5, mem_rs] at hx; rw [e1]; have := hall' x hx; omega) hsm (hby.kept ((Below.refl _ _).drew)) hbp (hnd.kept ((Below.refl _ _).drew)) hnp
    (fun k hk hd => by have := (hfresh k hk).1; have := h.dm_lt hd; omega) (o := .cells #[.int .i64 (pn.id : Int)] 3) (v' := v') (by have h9x := H9.out; rw [e1] at h9x; exact h9x) g9 (by rw [e2', hv]; exact g10') (by rw [e2']; exact ho10) (by rw [e2', hv]; exact e10) (by rw [e2']; exact h11') g11 (fun k hk => (hfresh k hk).2)
   have k11a : w11.cell? ⟨a, 0, none⟩ = some (.int .i64 (last : Int)) := by rw [cell_of_row _ _ 0 _ 215 _ ra11]; rfl
   have f11a : w11.frozen? ⟨a, 0, none⟩ = false := by simp [World.frozen?, ra11]
   have k11g : w11.cell? ⟨gx2, 0, none⟩ = some (.int .i64 (pn.id : Int)) := (cells5 rg11).1
   have k12g : (w11.setCell ⟨a, 0, none⟩ (.int .i64 (pn.id : Int))).cell? ⟨gx2, 0, none⟩ = some (.int .i64 (pn.id : Int)) := by
    rw [World.cell?_of_block (a := ⟨gx2, 0, none⟩) (Below.heap_setCell _ _ _ _ (own_ne rg11 ra11 (by decide)))]; exact k11g
   have hS10 : w10.cell? ⟨a, 2, none⟩ = some (.map (some mb)) ∧ w10.cell? ⟨gx2, 0, none⟩ = some (.int .i64 (pn.id : Int)) := ⟨by rw [cell_of_row _ _ 2 _ 215 _ ra10]; rfl, (cells5 rg10).1⟩
   have hS11 : w11.cell? ⟨a, 2, none⟩ = some (.map (some mb)) ∧ w11.cell? ⟨gx2, 0, none⟩ = some (.int .i64 (pn.id : Int)) := ⟨by rw [cell_of_row _ _ 2 _ 215 _ ra11]; rfl, k11g⟩
   have HPS : Hid _ := hPS
   have HFr : Hid _ := hFr
   have HDm : Hid _ := hDm
   have hl1 := hlk w9.drew rfl
   have hl2 := hlk (w9.alloc (.cells #[.int .i64 (pn.id : Int)] 3)).drew (Below.heap_alloc _ _ _ hb9.lt)
   clear hlk hPS hFr hDm h11 h11' g11 ho10 g10 g10' e10 hrowv hb9 hvd hvty h10 ra10 rg10 hd' hmb10 hmb9 hv
   have HE : Hid (pn.id = last + 1 ∧ pn.blk = bl ∧ pn.off = of ∧ pn.bs = xs ∧ pn.nd = rs (still P zs ++ uppL P pn)) := ⟨e1, e2, e3, e4, e5⟩
   clear hr9 h9 h9' e1 e2 e3 e4 e5
   go_upto_region 9 with fail
   refine wp_region_held_drew (S := fun w' => w'.cell? ⟨a, 1, none⟩ = some (.map (some mp)) ∧ w'.cell? ⟨gx2, 0, none⟩ = some (.int .i64 (pn.id : Int))) (by kernel_rfl) ⟨c1d, k0⟩ ?_
   intro hHeld
   simp only [List.size_toArray, List.length_cons, List.length_nil, Nat.reduceAdd, Array.replicate_succ, Array.replicate_zero, List.push_toArray, List.nil_append, List.cons_append]
   refine tk 0 ⟨some 60, .move (.tmp 0), 94, "patch.go:36", #[], none⟩ ?_ ?_ hHeld ?_
   rotate_left
   ·(intro w hSw; (try dsimp only at hSw); go_simp; try (with_reducible rfl))
   simp only [Act.put, sA, sZ, sS]
   refine tk 1 ⟨some 61, .nilCheck (.tmp 60), 0, "patch.go:36", #[⟨0, .data⟩], none⟩ ?_ ?_ hHeld ?_
   rotate_left
   ·(intro w hSw; (try dsimp only at hSw); go_simp; try (with_reducible rfl))
   simp only [Act.put, sA, sZ, sS]
   refine tk 2 ⟨some 62, .fieldAddr 215 (.tmp 61) 1, 0, "patch.go:36", #[⟨1, .data⟩], none⟩ ?_ ?_ hHeld ?_
   rotate_left
   ·(intro w hSw; (try dsimp only at hSw); go_simp; try (with_reducible rfl))
   simp only [Act.put, sA, sZ, sS]
   refine tk 3 ⟨some 63, .load 212 (.tmp 62), 212, "patch.go:36", #[⟨2, .data⟩], none⟩ ?_ ?_ hHeld ?_
   rotate_left
   ·(intro w hSw; (try dsimp only at hSw); go_simp; try (with_reducible rfl))
   simp only [Act.put, sA, sZ, sS]
   refine tk 4 ⟨some 64, .fieldAddr 218 (.tmp 12) 0, 0, "patch.go:36", #[], none⟩ ?_ ?_ hHeld ?_
   rotate_left
   ·(intro w hSw; (try dsimp only at hSw); go_simp; try (with_reducible rfl))
   simp only [Act.put, sA, sZ, sS]
   refine tk 5 ⟨some 65, .load 3 (.tmp 64), 3, "patch.go:36", #[⟨4, .data⟩], none⟩ ?_ ?_ hHeld ?_
   rotate_left
   ·(intro w hSw; (try dsimp only at hSw); go_simp; try (with_reducible rfl))
   simp only [Act.put, sA, sZ, sS]
   refine wpAnyH_ready (rs := [6]) (by kernel_rfl) (by simp) ?_
   refine AllReadyH.cons (o := ⟨some 66, .load 218 (.tmp 12), 218, "patch.go:36", #[], none⟩) rfl (fun K hK => ?_) ?_
   ·rw [if_pos (by rfl)]
    refine wp_load_row 218 (.tmp 12) rfl gx2 rfl 218 pn.cells (0, 0) _ hrwd Tryz.underlying218 rfl info44 ?_
    refine hK.out _ _ hHeld (fun hHeld => ?_)
    clear hK K
    try simp only [Act.put, sA, sZ, sS]
    refine wpAnyH_ready (rs := [7]) (by kernel_rfl) (by simp) ?_
    refine AllReadyH.cons (o := ⟨none, .mapUpdate 212 (.tmp 63) (.tmp 65) (.tmp 66), 0, "patch.go:36", #[⟨3, .data⟩, ⟨5, .data⟩, ⟨6, .data⟩, ⟨0, .phase⟩, ⟨1, .phase⟩, ⟨2, .phase⟩, ⟨3, .phase⟩, ⟨4, .phase⟩, ⟨5, .phase⟩, ⟨6, .phase⟩], none⟩) rfl (fun K hK => ?_) ?_
    ·rw [if_pos (by rfl)]
     go_simp
     refine hK.out _ _ hS9 (fun hHeld => ?_)
     clear hK K
     try simp only [sA, sZ, sS]
     refine wpAnyH_done (by kernel_rfl) ?_ _
     clear hr9' hHeld
     have c29 : w9.cell? ⟨a, 2, none⟩ = some (.map (some mb)) := by rw [cell_of_row _ _ 2 _ 215 _ ra9]; rfl
     go_upto_region 10 with fail
     refine wp_region_held_drew (S := fun w' => w'.cell? ⟨a, 2, none⟩ = some (.map (some mb)) ∧ w'.cell? ⟨gx2, 0, none⟩ = some (.int .i64 (pn.id : Int))) (by kernel_rfl) ⟨c29, hS9.2⟩ ?_
     intro hHeld
     simp only [List.size_toArray, List.length_cons, List.length_nil, Nat.reduceAdd, Array.replicate_succ, Array.replicate_zero, List.push_toArray, List.nil_append, List.cons_append]
     refine tk 0 ⟨some 67, .move (.tmp 0), 94, "patch.go:37", #[], none⟩ ?_ ?_ hHeld ?_
     rotate_left
     ·(intro w hSw; (try dsimp only at hSw); go_simp; try (with_reducible rfl))
     simp only [Act.put, sA, sZ, sS]
     refine tk 1 ⟨some 68, .nilCheck (.tmp 67), 0, "patch.go:37", #[⟨0, .data⟩], none⟩ ?_ ?_ hHeld ?_
     rotate_left
     ·(intro w hSw; (try dsimp only at hSw); go_simp; try (with_reducible rfl))
     simp only [Act.put, sA, sZ, sS]
     refine tk 2 ⟨some 69, .fieldAddr 215 (.tmp 68) 2, 0, "patch.go:37", #[⟨1, .data⟩], none⟩ ?_ ?_ hHeld ?_
     rotate_left
     ·(intro w hSw; (try dsimp only at hSw); go_simp; try (with_reducible rfl))
     simp only [Act.put, sA, sZ, sS]
     refine tk 3 ⟨some 70, .load 213 (.tmp 69), 213, "patch.go:37", #[⟨2, .data⟩], none⟩ ?_ ?_ hHeld ?_
     rotate_left
     ·(intro w hSw; (try dsimp only at hSw); go_simp; try (with_reducible rfl))
     simp only [Act.put, sA, sZ, sS]
     refine tk 4 ⟨some 71, .move (.tmp 1), 3, "patch.go:37", #[], none⟩ ?_ ?_ hHeld ?_
     rotate_left
     ·(intro w hSw; (try dsimp only at hSw); go_simp; try (with_reducible rfl))
     simp only [Act.put, sA, sZ, sS]
     refine tk 5 ⟨some 72, .move (.tmp 0), 94, "patch.go:37", #[], none⟩ ?_ ?_ hHeld ?_
     rotate_left
     ·(intro w hSw; (try dsimp only at hSw); go_simp; try (with_reducible rfl))
     simp only [Act.put, sA, sZ, sS]
     refine tk 6 ⟨some 73, .nilCheck (.tmp 72), 0, "patch.go:37", #[⟨5, .data⟩], none⟩ ?_ ?_ hHeld ?_
     rotate_left
     ·(intro w hSw; (try dsimp only at hSw); go_simp; try (with_reducible rfl))
     simp only [Act.put, sA, sZ, sS]
     refine tk 7 ⟨some 74, .fieldAddr 215 (.tmp 73) 2, 0, "patch.go:37", #[⟨6, .data⟩], none⟩ ?_ ?_ hHeld ?_
     rotate_left
     ·(intro w hSw; (try dsimp only at hSw); go_simp; try (with_reducible rfl))
     simp only [Act.put, sA, sZ, sS]
     refine tk 8 ⟨some 75, .load 213 (.tmp 74), 213, "patch.go:37", #[⟨7, .data⟩], none⟩ ?_ ?_ hHeld ?_
     rotate_left
     ·(intro w hSw; (try dsimp only at hSw); go_simp; try (with_reducible rfl))
     simp only [Act.put, sA, sZ, sS]
     refine tk 9 ⟨some 76, .move (.tmp 1), 3, "patch.go:37", #[], none⟩ ?_ ?_ hHeld ?_
     rotate_left
     ·(intro w hSw; (try dsimp only at hSw); go_simp; try (with_reducible rfl))
     simp only [Act.put, sA, sZ, sS]
     refine tk 11 ⟨some 78, .fieldAddr 218 (.tmp 12) 0, 0, "patch.go:37", #[], none⟩ ?_ ?_ hHeld ?_
     rotate_left
     ·(intro w hSw; (try dsimp only at hSw); go_simp; try (with_reducible rfl))
     simp only [Act.put, sA, sZ, sS]
     refine tk 12 ⟨some 79, .load 3 (.tmp 78), 3, "patch.go:37", #[⟨11, .data⟩], none⟩ ?_ ?_ hHeld ?_
     rotate_left
     ·(intro w hSw; (try dsimp only at hSw); go_simp; try (with_reducible rfl))
     simp only [Act.put, sA, sZ, sS]
     refine wpAnyH_ready (rs := [10, 13]) (by kernel_rfl) (by simp) ?_
     refine AllReadyH.cons (o := ⟨some 77, .lookup 213 (.tmp 75) (.tmp 76) false, 49, "patch.go:37", #[⟨8, .data⟩, ⟨9, .data⟩], none⟩) rfl (fun K hK => ?_) ?_
     ·rw [if_pos (by rfl)]
      go_simp
      refine hK.out _ _ hHeld (fun hHeld => ?_)
      clear hK K
      try simp only [sA, sZ, sS]
      refine wpAnyH_ready (rs := [13]) (by kernel_rfl) (by simp) ?_
      refine AllReadyH.cons (o := ⟨some 80, .buildSlice 49 1 #[(0, .tmp 79)], 49, "patch.go:37", #[⟨12, .data⟩], none⟩) rfl (fun K hK => ?_) ?_
      ·rw [if_pos (by rfl)]
       go_simp
       refine hK.out _ _ ⟨(World.cell?_of_block (a := ⟨a, 2, none⟩) (Below.heap_alloc _ _ _ (Array.getElem?_eq_some_iff.1 ra9).1)).trans c29, (World.cell?_of_block (a := ⟨gx2, 0, none⟩) (Below.heap_alloc _ _ _ (Array.getElem?_eq_some_iff.1 rg9).1)).trans hS9.2⟩ (fun hHeld => ?_)
       clear hK K
       try simp only [sA, sZ, sS]
       refine wpAnyH_ready (rs := [14]) (by kernel_rfl) (by simp) ?_
       refine AllReadyH.cons (o := ⟨some 81, .call { callee := .builtin Builtin.append, args := #[.tmp 77, .tmp 80], argTypes := #[49, 49] }, 49, "patch.go:37", #[⟨10, .data⟩, ⟨13, .data⟩], none⟩) rfl (fun K hK => ?_) ?_
       ·rw [if_pos (by rfl)]
        refine wp_append (.tmp 77) (.tmp 80) rfl rfl rfl hr10 ?_
        refine hK.out _ _ hS10 (fun hHeld => ?_)
        clear hK K
        try simp only [Act.put, sA, sZ, sS]
        refine wpAnyH_ready (rs := [15]) (by kernel_rfl) (by simp) ?_
        refine AllReadyH.cons (o := ⟨none, .mapUpdate 213 (.tmp 70) (.tmp 71) (.tmp 81), 0, "patch.go:37", #[⟨3, .data⟩, ⟨4, .data⟩, ⟨14, .data⟩, ⟨14, .chain⟩, ⟨0, .phase⟩, ⟨1, .phase⟩, ⟨2, .phase⟩, ⟨3, .phase⟩, ⟨4, .phase⟩, ⟨5, .phase⟩, ⟨6, .phase⟩, ⟨7, .phase⟩, ⟨8, .phase⟩, ⟨9, .phase⟩, ⟨10, .phase⟩, ⟨11, .phase⟩, ⟨12, .phase⟩, ⟨13, .phase⟩, ⟨14, .phase⟩], none⟩) rfl (fun K hK => ?_) ?_
        ·rw [if_pos (by rfl)]
         go_simp
         refine hK.out _ _ hS11 (fun hHeld => ?_)
         clear hK K
         try simp only [sA, sZ, sS]
         refine wpAnyH_done (by kernel_rfl) ?_ _
         go_wp2_with fail
         go_ret2
         obtain ⟨f1, f2, f3, f4, f5⟩ := HE.out
         have hPS := HPS.out
         have hFr := HFr.out
         have hDm := HDm.out
         rw [f2, ← f1] at hPS
         rw [← f1] at hFr
         rw [f2] at hDm
         refine ⟨by rw [← f1]; rfl, pn, fput K (bl : Int) (some v'), f1, f2, f3, f4, f5, by rw [← f1]; exact hPS, ?_, ?_⟩
         ·exact ⟨hFr.os.trans hb8.os, hFr.tape.trans hb8.tape, hFr.output.trans hb8.output, Nat.le_trans z8 hFr.size, fun k hk hn => (hFr.block k (Nat.lt_of_lt_of_le hk z8) hn).trans (hb8.block k hk)⟩
         ·intro k hk
          rcases hDm k hk with h1 | h1 | h1
          ·exact .inl h1
          ·exact .inr (Nat.le_trans z8 h1)
          ·exact .inr (hfresh k h1).1
        exact AllReadyH.nil
       exact AllReadyH.nil
      exact AllReadyH.nil
     refine AllReadyH.cons (o := ⟨some 80, .buildSlice 49 1 #[(0, .tmp 79)], 49, "patch.go:37", #[⟨12, .data⟩], none⟩) rfl (fun K hK => ?_) ?_
     ·rw [if_pos (by rfl)]
      go_simp
      refine hK.out _ _ ⟨(World.cell?_of_block (a := ⟨a, 2, none⟩) (Below.heap_alloc _ _ _ (Array.getElem?_eq_some_iff.1 ra9).1)).trans c29, (World.cell?_of_block (a := ⟨gx2, 0, none⟩) (Below.heap_alloc _ _ _ (Array.getElem?_eq_some_iff.1 rg9).1)).trans hS9.2⟩ (fun hHeld => ?_)
      clear hK K
      try simp only [sA, sZ, sS]
      refine wpAnyH_ready (rs := [10]) (by kernel_rfl) (by simp) ?_
      refine AllReadyH.cons (o := ⟨some 77, .lookup 213 (.tmp 75) (.tmp 76) false, 49, "patch.go:37", #[⟨8, .data⟩, ⟨9, .data⟩], none⟩) rfl (fun K hK => ?_) ?_
      ·rw [if_pos (by rfl)]
       go_simp
       refine hK.out _ _ hHeld (fun hHeld => ?_)
       clear hK K
       try simp only [sA, sZ, sS]
       refine wpAnyH_ready (rs := [14]) (by kernel_rfl) (by simp) ?_
       refine AllReadyH.cons (o := ⟨some 81, .call { callee := .builtin Builtin.append, args := #[.tmp 77, .tmp 80], argTypes := #[49, 49] }, 49, "patch.go:37", #[⟨10, .data⟩, ⟨13, .data⟩], none⟩) rfl (fun K hK => ?_) ?_
       ·rw [if_pos (by rfl)]
        refine wp_append (.tmp 77) (.tmp 80) rfl rfl rfl hr10 ?_
        refine hK.out _ _ hS10 (fun hHeld => ?_)
        clear hK K
        try simp only [Act.put, sA, sZ, sS]
        refine wpAnyH_ready (rs := [15]) (by kernel_rfl) (by simp) ?_
        refine AllReadyH.cons (o := ⟨none, .mapUpdate 213 (.tmp 70) (.tmp 71) (.tmp 81), 0, "patch.go:37", #[⟨3, .data⟩, ⟨4, .data⟩, ⟨14, .data⟩, ⟨14, .chain⟩, ⟨0, .phase⟩, ⟨1, .phase⟩, ⟨2, .phase⟩, ⟨3, .phase⟩, ⟨4, .phase⟩, ⟨5, .phase⟩, ⟨6, .phase⟩, ⟨7, .phase⟩, ⟨8, .phase⟩, ⟨9, .phase⟩, ⟨10, .phase⟩, ⟨11, .phase⟩, ⟨12, .phase⟩, ⟨13, .phase⟩, ⟨14, .phase⟩], none⟩) rfl (fun K hK => ?_) ?_
        ·rw [if_pos (by rfl)]
         go_simp
         refine hK.out _ _ hS11 (fun hHeld => ?_)
         clear hK K
         try simp only [sA, sZ, sS]
         refine wpAnyH_done (by kernel_rfl) ?_ _
         go_wp2_with fail
         go_ret2
         obtain ⟨f1, f2, f3, f4, f5⟩ := HE.out
         have hPS := HPS.out
         have hFr := HFr.out
         have hDm := HDm.out
         rw [f2, ← f1] at hPS
         rw [← f1] at hFr
         rw [f2] at hDm
         refine ⟨by rw [← f1]; rfl, pn, fput K (bl : Int) (some v'), f1, f2, f3, f4, f5, by rw [← f1]; exact hPS, ?_, ?_⟩
         ·exact ⟨hFr.os.trans hb8.os, hFr.tape.trans hb8.tape, hFr.output.trans hb8.output, Nat.le_trans z8 hFr.size, fun k hk hn => (hFr.block k (Nat.lt_of_lt_of_le hk z8) hn).trans (hb8.block k hk)⟩
         ·intro k hk
          rcases hDm k hk with h1 | h1 | h1
          ·exact .inl h1
          ·exact .inr (Nat.le_trans z8 h1)
          ·exact .inr (hfresh k h1).1
        exact AllReadyH.nil
       exact AllReadyH.nil
      exact AllReadyH.nil
     exact AllReadyH.nil
    exact AllReadyH.nil
   exact AllReadyH.nil
end Go.Proofs.YthdlpeejmmobmaaGreat.Pt
