/- PCnt PClo PClos -/
import Derived.Test.YtjecicjpplibaaaGreatNw26
import Derived.Test.YtjecicjpplibaaaGreatNw20
import Derived.Maps.RangeWalk
import Derived.Test.YtjecicjpplibaaaGreatNw25
import Derived.Deep.RegionHeld3

/- How many keys a map has; what is asked of the pending patches alone. -/
namespace Go.Proofs.YtjecicjpplibaaaGreat.Pt
open Go.RowKit Go.Maps Go.WideShapes Go.ChangeMaps Go.MapKept
open Go.WideElems (Fit rg rd_key rg_of)
set_option maxRecDepth 100000
set_option linter.unusedVariables false

theorem nodup_sub_len {α : Type} [DecidableEq α] : ∀ (l L : List α), l.Nodup → (∀ x ∈ l, x ∈ L) → l.length ≤ L.length
  | [], L, _, _ => Nat.zero_le _
  | x :: l, L, hn, h => by
    have hx := h x (by simp)
    have hn' := List.nodup_cons.1 hn
    have := nodup_sub_len l (L.erase x) hn'.2 (fun y hy => by
      rw [List.mem_erase_of_ne (show y ≠ x from fun e => hn'.1 (by rw [← e]; exact hy))]
      exact h y (by simp [hy]))
    rw [List.length_erase_of_mem hx] at this
    have := List.length_pos_of_mem hx
    simp
    omega

theorem keys_lit {P : Program} {k : TypeId} {R : Value → Option (DataW Unit × List MemPlace)} (K : Keyed P k) (hku : P.underlying k = some (.int .i64)) {w : World} {mb N : Nat} {D : DataW Unit} (h : w.ownsMap P k R mb N D) : ∃ es, D = .map es ∧ es.Pairwise (fun p q => p.1 ≠ q.1) ∧ ∀ p ∈ es, ∃ x, p.1 = .int .i64 x ∧ (Lit.int .i64 x).wf = true := by
  obtain ⟨es, clock, _, F, _, rfl⟩ := h
  refine ⟨_, rfl, ((sorted_perm _).pairwise_iff (fun {_ _} hne => Ne.symm hne)).2 (Maps.fit_apart K F), fun p hp => ?_⟩
  obtain ⟨x, hx, rfl⟩ := List.mem_map.1 (mem_sorted.1 hp)
  obtain ⟨y, hy⟩ := F.reads x hx
  rw [rg_of hy]
  obtain ⟨z, _, e, hw⟩ := Maps.keyOf_int_inv hku (rd_key hy)
  exact ⟨z, e, hw⟩
/-- The keys of a map of numbers. -/
theorem keys_int {w : World} {mb : Nat} {N : Nat} {D : DataW Unit} (h : w.ownsMap Tryz.prog 3 vR mb N D) : ∃ es, D = .map es ∧ es.Pairwise (fun p q => p.1 ≠ q.1) ∧ ∀ p ∈ es, ∃ x, I64 x ∧ p.1 = ikey x := by
  obtain ⟨es, h1, h2, h3⟩ := keys_lit keyed3 Tryz.underlying3 h
  refine ⟨es, h1, h2, fun p hp => ?_⟩
  obtain ⟨z, e, hw⟩ := h3 p hp
  refine ⟨z, ?_, e⟩
  have h1 : IntKind.i64.min = -9223372036854775808 := by decide
  have h2 : IntKind.i64.max = 9223372036854775807 := by decide
  simp only [Lit.wf, h1, h2] at hw
  simpa [I64] using hw

theorem Mf.count {w : World} {mb N : Nat} {f : Int → Option Value} (h : Mf w mb N f) (L : List Int) (hL : ∀ k, I64 k → f k ≠ none → k ∈ L) : Mf w mb L.length f := by
  obtain ⟨D, ho, hs, hp⟩ := h
  refine ⟨D, ho, ?_, hp⟩
  obtain ⟨es, rfl, hpw, hk⟩ := keys_int ho
  have hlen : size (DataW.map es) = es.length := size_eq es
  rw [hlen]
  have hn : (es.map (fun p => p.1)).Nodup := List.pairwise_map.2 hpw
  have hsub : ∀ x ∈ es.map (fun p => p.1), x ∈ L.map ikey := fun x hx => by
    obtain ⟨p, hpe, rfl⟩ := List.mem_map.1 hx
    obtain ⟨z, hz, e⟩ := hk p hpe
    rw [e]
    refine List.mem_map.2 ⟨z, hL z hz (fun hn => ?_), rfl⟩
    have h1 := (hp z hz).1 hn
    have h2 : has (DataW.map es) (ikey z) = true := by
      rw [← e]
      exact List.any_eq_true.2 ⟨p, hpe, by rw [e]; exact WideAt.sameKey_self (ikey_is z)⟩
    rw [h1] at h2
    cases h2
  classical
  have := nodup_sub_len _ _ hn hsub
  simpa using this

/-- What a set has of the pending patches. -/
structure PM (w : World) (a mp N : Nat) (P : List Pv) : Prop where
  c1 : w.cell? ⟨a, 1, none⟩ = some (.map (some mp))
  pm : Mf w mp N (fun k => (fP P k).map Pv.v)
theorem PM.kept {w w' : World} {a mp N : Nat} {P : List Pv} (h : PM w a mp N P) (hb : Below w.heap.size w w') : PM w' a mp N P :=
  ⟨by rw [hb.cell (p := ⟨a, 1, none⟩) (lt_of_cell h.c1)]; exact h.c1, h.pm.kept (hb.block _ h.pm.lt)⟩
theorem PM.look {w : World} {a mp N : Nat} {P : List Pv} (h : PM w a mp N P) (k : Int) (hk : I64 k) :
    (Instr.lookup 119 (.map (some mp)) (.int .i64 k) true).run Tryz.prog w = .ok (.tuple #[((fP P k).map Pv.v).getD zp, .bool (fP P k).isSome]) w := by
  obtain ⟨d, hd⟩ := zero44_D
  have := h.pm.look Tryz.underlying119 (zero44 w) hd k hk
  rw [this]
  simp [zp]

set_option maxHeartbeats 400000 in
theorem isPendingM_ok {w : World} {a mp N : Nat} {P : List Pv} (h : PM w a mp N P) (k : Int) (hk : I64 k) : Calls Tryz.prog 89 #[.pointer (some ⟨a, 0, none⟩), .int .i64 k] w fun e w' => e = .returned (.bool (fP P k).isSome) ∧ Below w.heap.size w w' := by
  have c1 := h.c1
  have hl := h.look k hk
  obtain ⟨cs, hcs, h1, h5⟩ : ∃ cs : Array Value, ((fP P k).map Pv.v).getD zp = .agg cs ∧ cs.all (·.oneCell') = true ∧ cs.size = 5 := by
    cases e : fP P k with
    | none => exact ⟨_, rfl, zp_one, rfl⟩
    | some p => exact ⟨p.cells, rfl, pv_one p, rfl⟩
  rw [hcs] at hl
  have hb := (Below.refl w.heap.size w).alloc (Nat.le_refl _) (Obj.cells #[.int .i64 0, .int .i64 0, .int .i64 0, .slice none 0 0, .slice none 0 0] 134)
  have hr0 : (w.alloc (Obj.cells #[.int .i64 0, .int .i64 0, .int .i64 0, .slice none 0 0, .slice none 0 0] 134)).heap[w.heap.size]? = some (.cells #[.int .i64 0, .int .i64 0, .int .i64 0, .slice none 0 0, .slice none 0 0] 134 (0, 0)) := World.alloc_heap_new w _
  clear h hcs
  go_enter Tryz.func89, Tryz.ntmps89
  go_wp2_with (refine wpList_store_row rfl 134 _ _ rfl w.heap.size cs rfl rfl 134 _ hr0 (by rw [h5]; exact info44) (by rw [h5]; rfl) h1 ?_)
  go_ret
  exact ⟨rfl, below_setRow hb _ (Nat.le_refl _) _⟩

set_option maxHeartbeats 1000000 in
theorem stillPendingM_ok {w : World} {a mp N : Nat} {P : List Pv} (h : PM w a mp N P) (p : Option Addr) (n c : Nat) (zs : List Int) (hz : II w p n zs) (h8 : n * 8 ≤ 140737488355328) :
    Calls Tryz.prog 102 #[.pointer (some ⟨a, 0, none⟩), .slice p n c] w fun e w' => ∃ v, e = .returned v ∧ Nums w.heap.size w' v (still P zs) ∧ Below w.heap.size w w' := by
  obtain ⟨i0, hi, hz0, hz1, hz2⟩ := info_parts info3
  have hl := hz.len
  have hg := hz.big
  go_enter Tryz.func102, Tryz.ntmps102
  go_wp2_with fail
  go_loopw [5, 10] (fun s i wr => ∃ j : Nat, j ≤ n ∧ i = .int .i64 (j : Int) ∧ Nums w.heap.size wr s (still P (zs.take j)) ∧ Below w.heap.size w wr) (fun s i _ => n - (intOf i).toNat)
  case atStart => exact ⟨0, by omega, rfl, Nums.nil _ _, Below.refl _ _⟩
  case round =>
    obtain ⟨j, hj, rfl, hN, hb⟩ := hrel
    by_cases hlt : j < n
    · obtain ⟨b1, o1, rfl, hc1⟩ := (hz.kept hb).cells (by omega)
      have e1 := hc1 j hlt
      have hp := isPendingM_ok (h.kept hb) (zs.getD j 0) (hz.fitAt j)
      have hjI : (j : Int) < (n : Int) := by omega
      have hj0 : (0 : Int) ≤ (j : Int) := by omega
      have HT : Hid _ := take_one (zs := zs) (j := j) (by omega)
      have hlen : (still P (zs.take j)).length ≤ j := Nat.le_trans (List.length_filter_le _ _) (by simp; omega)
      clear hc1
      generalize zs.getD j 0 = y at e1 hp HT
      cases hy : (fP P y).isSome with
      | true =>
        rw [hy] at hp
        have HS : Hid (still P (zs.take (j + 1)) = still P (zs.take j) ++ [y]) := by
          show _ = _
          unfold still
          rw [HT.out, List.filter_append]
          simp [hy]
        clear hy
        go_wp2_with (first
          | (go_at_call 89; refine below_at hp ?_; intro w1 hb1; have hN2 := hN.kept hb1; have hb2 := below_on hb hb1)
          | (at_builtin; refine wpList_append_own _ rfl _ _ 23 rfl w.heap.size 3 i0 (.int .i64 0) 1 8 Tryz.underlying23 hi hz0 hz1 hz2 rfl (by decide) _ _ _ rfl (World.ownsRow.alloc hN2 _) ⟨w1.heap.size, 0, none⟩ 1 1 [.int .i64 y] rfl rfl (cell_one_new _ _ _) (by simp [Value.oneCell']) (by unfold maxLen; omega) (by omega) (by have := hb2.size; simp; omega) ?_; intro v' w3 hown hgrow _; have hown := Nums.snoc hown; obtain ⟨g', cap', rfl⟩ := Nums.succ hown))
        have hb3 := (hb2.alloc (by have := hb2.size; omega) _).grown hgrow (by have := hb2.size; simp; omega) (by intro k hk; exact (World.ownsRow.lt hN2 k hk).1)
        go_roundw
        case rel => exact ⟨j + 1, by omega, by go_num, by rw [HS.out]; exact hown, hb3⟩
        case measure => simp [intOf]; omega
      | false =>
        rw [hy] at hp
        have HS : Hid (still P (zs.take (j + 1)) = still P (zs.take j)) := by
          show _ = _
          unfold still
          rw [HT.out, List.filter_append]
          simp [hy]
        clear hy
        go_wp2_with (first | (go_at_call 89; refine below_at hp ?_; intro w1 hb1))
        go_roundw
        case rel => exact ⟨j + 1, by omega, by go_num, by rw [HS.out]; exact hN.kept hb1, below_on hb hb1⟩
        case measure => simp [intOf]; omega
    · obtain rfl : j = n := by omega
      rw [List.take_of_length_le (by omega)] at hN
      go_wp2
      go_ret
      exact ⟨_, rfl, hN, hb⟩
end Go.Proofs.YtjecicjpplibaaaGreat.Pt

/- Closure's closure: one number more is asked for. -/
namespace Go.Proofs.YtjecicjpplibaaaGreat.Pt
open Go.RowKit Go.Maps
set_option maxRecDepth 100000
set_option linter.unusedVariables false

/-- What Closure's closure stands in. -/
structure CI (B T : Nat) (w0 w : World) (a mp mb last : Nat) (P : List Pv) (K : Int → Option Value) (gs gc gi nb : Nat) (iv : Value) (U C I : List Int) : Prop where
  ps : PS B w0 a mp mb last P K
  bel : Below T w0 w
  sz : w0.heap.size = T
  rs : w.heap[gs]? = some (.cells #[.pointer (some ⟨a, 0, none⟩)] 72 (0, 0))
  rc : w.heap[gc]? = some (.cells #[.map (some nb)] 130 (0, 0))
  ri : w.heap[gi]? = some (.cells #[iv] 23 (0, 0))
  ns : Ns w nb U C
  ids : Nums T w iv I
  lo : T ≤ gs ∧ T ≤ gc ∧ T ≤ gi ∧ T ≤ nb

section
variable {B T : Nat} {w0 w w' : World} {a mp mb last : Nat} {P : List Pv} {K : Int → Option Value} {gs gc gi nb : Nat} {iv : Value} {U C I : List Int}
theorem CI.psn (h : CI B T w0 w a mp mb last P K gs gc gi nb iv U C I) : PS B w a mp mb last P K := h.ps.kept (by rw [h.sz]; exact h.bel)
theorem CI.hT (h : CI B T w0 w a mp mb last P K gs gc gi nb iv U C I) : T ≤ w.heap.size := by have := h.bel.size; rw [h.sz] at this; exact this
theorem CI.kept (h : CI B T w0 w a mp mb last P K gs gc gi nb iv U C I) (hb : Below w.heap.size w w') : CI B T w0 w' a mp mb last P K gs gc gi nb iv U C I := by
  have lt : ∀ {g : Nat} {o : Obj}, w.heap[g]? = some o → g < w.heap.size := fun e => (Array.getElem?_eq_some_iff.1 e).1
  exact ⟨h.ps, h.bel.trans (hb.mono h.hT), h.sz, by rw [hb.block _ (lt h.rs)]; exact h.rs, by rw [hb.block _ (lt h.rc)]; exact h.rc, by rw [hb.block _ (lt h.ri)]; exact h.ri, h.ns.kept hb, h.ids.kept hb, h.lo⟩
theorem CI.add (h : CI B T w0 w a mp mb last P K gs gc gi nb iv U C I) {C' : List Int} (hn : Ns w' nb U C') (F : Frame (fun k => k = nb) w w') : CI B T w0 w' a mp mb last P K gs gc gi nb iv U C' I := by
  have lt : ∀ {g : Nat} {o : Obj}, w.heap[g]? = some o → g < w.heap.size := fun e => (Array.getElem?_eq_some_iff.1 e).1
  obtain ⟨es, c, hm⟩ := Mf.isMap h.ns
  refine ⟨h.ps, frame_below h.bel h.hT F h.lo.2.2.2, h.sz, ?_, ?_, ?_, hn, ?_, h.lo⟩
  · rw [F.block gs (lt h.rs) (map_ne h.rs hm)]; exact h.rs
  · rw [F.block gc (lt h.rc) (map_ne h.rc hm)]; exact h.rc
  · rw [F.block gi (lt h.ri) (map_ne h.ri hm)]; exact h.ri
  · refine h.ids.keptAt (fun g hg => ?_)
    obtain ⟨ds, h3⟩ := nums_row h.ids hg
    exact F.block g (lt h3) (map_ne h3 hm)
theorem CI.store {o : Obj} {w5 : World} {v' : Value} {I' : List Int} (h : CI B T w0 w a mp mb last P K gs gc gi nb iv U C I)
    (hg : (w.alloc o).grownBy w5 iv.ownBlock) (hn : Nums T w5 v' I') : CI B T w0 (w5.setCell ⟨gi, 0, none⟩ v') a mp mb last P K gs gc gi nb v' U C I' := by
  have hT := h.hT
  obtain ⟨es, c, hm⟩ := Mf.isMap h.ns
  have r1 := grown_at h.ids hg h.rs (fun cs e => by simp at e)
  have r2 := grown_at h.ids hg h.rc (fun cs e => by simp at e)
  have r4 := grown_at h.ids hg h.ri (fun cs e => by simp at e)
  have r5 := grown_at h.ids hg hm (fun cs e => by cases e)
  have hb5 : Below T w0 w5 := (h.bel.alloc hT o).grown hg (by simp; omega) (fun k hk => (World.ownsRow.lt h.ids k hk).1)
  have other : ∀ k, k ≠ gi → (w5.setCell ⟨gi, 0, none⟩ v').heap[k]? = w5.heap[k]? := fun k hk => Below.heap_setCell w5 ⟨gi, 0, none⟩ v' k hk
  refine ⟨h.ps, hb5.setCell (p := ⟨gi, 0, none⟩) h.lo.2.2.1 v', h.sz, ?_, ?_, one_setCell r4, ?_, ?_, h.lo⟩
  · rw [other gs (own_ne r1 r4 (by decide))]; exact r1
  · rw [other gc (own_ne r2 r4 (by decide))]; exact r2
  · exact Mf.kept h.ns ((other nb (fun e => map_ne r4 r5 e.symm)).trans (r5.trans hm.symm))
  · refine hn.keptAt (fun g hg => ?_)
    obtain ⟨ds, h3⟩ := nums_row hn hg
    exact other g (own_ne h3 r4 (by decide))
end

/-- One number more, if it is pending and new. -/
def nxC (P : List Pv) (I : List Int) (k : Int) : List Int := if (fP P k).isSome && !decide (k ∈ I) then I ++ [k] else I

set_option maxRecDepth 100000 in
set_option maxHeartbeats 4000000 in
theorem clo1_ok {B T : Nat} {w0 w : World} {a mp mb last : Nat} {P : List Pv} {K : Int → Option Value} {gs gc gi nb : Nat} {iv : Value} {U I : List Int} (h : CI B T w0 w a mp mb last P K gs gc gi nb iv U I I) (hU : U.length < 100000) (k : Int) (hk : I64 k) (hkU : (fP P k).isSome = true → k ∈ U) (hI : I.length ≤ 100000) :
    Calls Tryz.prog 88 #[.int .i64 k, .pointer (some ⟨gs, 0, none⟩), .pointer (some ⟨gc, 0, none⟩), .pointer (some ⟨gi, 0, none⟩)] w
      fun e w' => e = .returned (.tuple #[]) ∧ ∃ iv', CI B T w0 w' a mp mb last P K gs gc gi nb iv' U (nxC P I k) (nxC P I k) := by
  have cs : w.cell? ⟨gs, 0, none⟩ = some (.pointer (some ⟨a, 0, none⟩)) := by rw [cell_of_row _ _ 0 _ 72 _ h.rs]; rfl
  have hpe := isPending_ok h.psn k hk
  cases hf : (fP P k).isSome with
  | false =>
    rw [hf] at hpe
    have HA : Hid (nxC P I k = I) := by show _ = _; unfold nxC; rw [hf]; rfl
    go_enter Tryz.func88, Tryz.ntmps88
    go_wp2_with (first | (go_at_call 89; refine below_at hpe ?_; intro w1 hb1))
    go_end0
    rw [HA.out]
    exact ⟨rfl, iv, h.kept hb1⟩
  | true =>
    rw [hf] at hpe
    have hkU' := hkU hf
    by_cases hin : k ∈ I
    · have HA : Hid (nxC P I k = I) := by show _ = _; unfold nxC; simp [hin]
      have hha := fun w1 (hb1 : Below w.heap.size w w1) => nhas_ok (h.kept hb1).ns k hk
      simp only [hin, decide_true] at hha
      clear hkU
      go_enter Tryz.func88, Tryz.ntmps88
      go_wp2_with (first | (go_at_call 89; refine below_at hpe ?_; intro w1 hb1; have h1 := h.kept hb1; have cc : w1.cell? ⟨gc, 0, none⟩ = some (.map (some nb)) := (by rw [cell_of_row _ _ 0 _ 130 _ h1.rc]; rfl); have hh1 := hha w1 hb1) | (go_at_call 90; refine below_at hh1 ?_; intro w2 hb2))
      go_end0
      rw [HA.out]
      exact ⟨rfl, iv, h1.kept hb2⟩
    · have HA : Hid (nxC P I k = I ++ [k]) := by show _ = _; unfold nxC; rw [hf]; simp [hin]
      have hha := fun w1 (hb1 : Below w.heap.size w w1) => nhas_ok (h.kept hb1).ns k hk
      simp only [hin, decide_false] at hha
      clear hkU
      go_enter Tryz.func88, Tryz.ntmps88
      go_wp2_with (first | (go_at_call 89; refine below_at hpe ?_; intro w1 hb1; have h1 := h.kept hb1; have cc : w1.cell? ⟨gc, 0, none⟩ = some (.map (some nb)) := (by rw [cell_of_row _ _ 0 _ 130 _ h1.rc]; rfl); have hh1 := hha w1 hb1) | (go_at_call 90; refine below_at hh1 ?_; intro w2 hb2; have h2 := h1.kept hb2; have cc2 : w2.cell? ⟨gc, 0, none⟩ = some (.map (some nb)) := (by rw [cell_of_row _ _ 0 _ 130 _ h2.rc]; rfl)))
      have hbW : Below w2.heap.size w2 (w2.alloc (.cells #[.int .i64 k] 3)) := (Below.refl _ w2).alloc (Nat.le_refl _) _
      have h3 := h2.kept hbW
      have hii : II (w2.alloc (.cells #[.int .i64 k] 3)) (some ⟨w2.heap.size, 0, none⟩) 1 [k] := by
        refine ⟨rfl, by omega, fun x hx => by rw [List.mem_singleton.1 hx]; exact hk, fun _ => ⟨_, 0, rfl, fun i hi => ?_⟩⟩
        obtain rfl : i = 0 := by omega
        rw [cell_of_row _ _ 0 _ 3 _ (at_new rfl)]; rfl
      have hadd := add_ok h3.ns hU (some ⟨w2.heap.size, 0, none⟩) 1 1 [k] hii (fun x hx => by rw [List.mem_singleton.1 hx]; exact hkU') (by
        have : nb < w2.heap.size := Mf.lt h2.ns
        simp only [blkOf, ne_eq, Option.some.injEq]; omega)
      refine hadd.mono ?_
      rintro e w3 ⟨rfl, hns3, hF3⟩
      have h4 := h3.add hns3 hF3
      have cg : w3.cell? ⟨gi, 0, none⟩ = some iv := by rw [cell_of_row _ _ 0 _ 23 _ h4.ri]; rfl
      have hN := h4.ids
      have hT := h4.hT
      obtain ⟨i0, hi, hz0, hz1, hz2⟩ := info_parts info3
      clear hadd h3 hii hbW hns3 hF3 h2 cc2 h1 cc hh1 hha hpe cs
      go_wp2_with (first
        | (at_builtin; refine wpList_append_own _ rfl _ _ 23 rfl T 3 i0 (.int .i64 0) 1 8 Tryz.underlying23 hi hz0 hz1 hz2 rfl (by decide) _ _ _ rfl (World.ownsRow.alloc hN _) ⟨w3.heap.size, 0, none⟩ 1 1 [.int .i64 k] rfl rfl (cell_one_new _ _ _) (by simp [Value.oneCell']) (by unfold maxLen; omega) (by omega) (by simp; omega) ?_; intro v' w5 hown hgrow _; have hown := Nums.snoc hown; obtain ⟨g', cap', rfl⟩ := Nums.succ hown; have hgrow' : (w3.alloc (.cells #[.int .i64 k] 3)).grownBy w5 iv.ownBlock := hgrow; have r5 := grown_at hN hgrow' h4.ri (fun cs e => by simp at e); have c5 : w5.cell? ⟨gi, 0, none⟩ = some iv := (by rw [cell_of_row _ _ 0 _ 23 _ r5]; rfl); have f5 : w5.frozen? ⟨gi, 0, none⟩ = false := (by simp [World.frozen?, r5])))
      go_end0
      refine ⟨rfl, .slice (some ⟨g', 0, none⟩) (I.length + 1) cap', ?_⟩
      rw [HA.out]
      exact h4.store hgrow' hown
end Go.Proofs.YtjecicjpplibaaaGreat.Pt

/- What is reached from numbers by needs. -/
namespace Go.Proofs.YtjecicjpplibaaaGreat.Pt
open Go.RowKit Go.Maps
set_option maxRecDepth 100000
set_option linter.unusedVariables false

/-- Pending, and asked for or needed by one that is reached. -/
inductive Rch (P : List Pv) (zs : List Int) : Int → Prop
  | base {x : Int} : x ∈ zs → (fP P x).isSome = true → Rch P zs x
  | step {x y : Int} {p : Pv} : Rch P zs y → fP P y = some p → x ∈ p.nd → (fP P x).isSome = true → Rch P zs x
theorem Rch.pend {P : List Pv} {zs : List Int} {x : Int} (h : Rch P zs x) : (fP P x).isSome = true := by cases h <;> assumption

theorem nodup_len : ∀ (n : Nat) (l : List Int), l.Nodup → (∀ x ∈ l, 1 ≤ x ∧ x ≤ (n : Int)) → l.length ≤ n
  | 0, l, _, h => by
    cases l with
    | nil => exact Nat.le_refl _
    | cons x l => have := h x List.mem_cons_self; omega
  | n + 1, l, hn, h => by
    by_cases hm : ((n + 1 : Nat) : Int) ∈ l
    · have h1 := nodup_len n (l.erase ((n + 1 : Nat) : Int)) (hn.erase _) (fun x hx => by
        have hx' := (List.Nodup.mem_erase_iff hn).1 hx
        have := h x hx'.2
        have := hx'.1
        omega)
      rw [List.length_erase_of_mem hm] at h1
      omega
    · have h1 := nodup_len n l hn (fun x hx => by
        have := h x hx
        have : x ≠ ((n + 1 : Nat) : Int) := fun e => hm (e ▸ hx)
        omega)
      omega

/-- What holds of the numbers found so far. -/
structure Fnd (P : List Pv) (zs : List Int) (O : List Int) : Prop where
  nd : O.Nodup
  rch : ∀ x ∈ O, Rch P zs x

theorem nxC_mem (P : List Pv) (I : List Int) (k x : Int) : x ∈ nxC P I k ↔ x ∈ I ∨ (x = k ∧ (fP P k).isSome = true) := by
  unfold nxC
  by_cases h1 : (fP P k).isSome = true
  · by_cases h2 : k ∈ I
    · simp [h1, h2]; rintro rfl; exact h2
    · simp [h1, h2]
  · simp [h1]
theorem nxC_nodup {P : List Pv} {I : List Int} (h : I.Nodup) (k : Int) : (nxC P I k).Nodup := by
  unfold nxC
  split
  · rename_i hc
    simp at hc
    rw [List.nodup_append]
    exact ⟨h, by simp, fun a ha b hb => by rw [List.mem_singleton.1 hb]; exact fun e => hc.2 (e ▸ ha)⟩
  · exact h
/-- k numbers more. -/
def nxCs (P : List Pv) (I : List Int) (l : List Int) : List Int := l.foldl (nxC P) I
theorem nxCs_snoc (P : List Pv) (I l : List Int) (k : Int) : nxCs P I (l ++ [k]) = nxC P (nxCs P I l) k := by unfold nxCs; rw [List.foldl_append]; rfl
theorem nxCs_mem (P : List Pv) : ∀ (l I : List Int) (x : Int), x ∈ nxCs P I l ↔ x ∈ I ∨ (x ∈ l ∧ (fP P x).isSome = true)
  | [], I, x => by simp [nxCs]
  | k :: l, I, x => by
    have := nxCs_mem P l (nxC P I k) x
    rw [nxC_mem] at this
    rw [show nxCs P I (k :: l) = nxCs P (nxC P I k) l from rfl, this]
    constructor
    · rintro ((h | ⟨rfl, h⟩) | ⟨h1, h2⟩)
      · exact .inl h
      · exact .inr ⟨List.mem_cons_self, h⟩
      · exact .inr ⟨List.mem_cons_of_mem _ h1, h2⟩
    · rintro (h | ⟨h1, h2⟩)
      · exact .inl (.inl h)
      · rcases List.mem_cons.1 h1 with rfl | h1
        · exact .inl (.inr ⟨rfl, h2⟩)
        · exact .inr ⟨h1, h2⟩
theorem nxCs_nodup {P : List Pv} : ∀ (l I : List Int), I.Nodup → (nxCs P I l).Nodup
  | [], _, h => h
  | k :: l, I, h => nxCs_nodup l _ (nxC_nodup h k)
theorem nxCs_len (P : List Pv) : ∀ (l I : List Int), I.length ≤ (nxCs P I l).length
  | [], _ => Nat.le_refl _
  | k :: l, I => by
    refine Nat.le_trans ?_ (nxCs_len P l (nxC P I k))
    unfold nxC; split <;> simp
theorem nxCs_pre (P : List Pv) : ∀ (l I : List Int), ∃ r, nxCs P I l = I ++ r
  | [], I => ⟨[], by simp [nxCs]⟩
  | k :: l, I => by
    obtain ⟨r, hr⟩ := nxCs_pre P l (nxC P I k)
    refine ⟨(if (fP P k).isSome && !decide (k ∈ I) then [k] else []) ++ r, ?_⟩
    rw [show nxCs P I (k :: l) = nxCs P (nxC P I k) l from rfl, hr]
    unfold nxC
    split <;> simp

/-- All of the first j have had their needs asked for. -/
def Dn (P : List Pv) (O : List Int) (j : Nat) : Prop := ∀ i, i < j → ∀ p, fP P (O.getD i 0) = some p → ∀ x ∈ p.nd, (fP P x).isSome = true → x ∈ O

theorem Fnd.first {P : List Pv} {zs : List Int} : Fnd P zs (nxCs P [] zs) :=
  ⟨nxCs_nodup _ _ List.nodup_nil, fun x hx => by
    rcases (nxCs_mem P zs [] x).1 hx with h | ⟨h1, h2⟩
    · cases h
    · exact .base h1 h2⟩
theorem Fnd.next {P : List Pv} {zs O : List Int} (h : Fnd P zs O) {y : Int} {p : Pv} (hy : y ∈ O) (hp : fP P y = some p) : Fnd P zs (nxCs P O p.nd) :=
  ⟨nxCs_nodup _ _ h.nd, fun x hx => by
    rcases (nxCs_mem P p.nd O x).1 hx with hx | ⟨h1, h2⟩
    · exact h.rch x hx
    · exact .step (h.rch y hy) hp h1 h2⟩
theorem Fnd.all {P : List Pv} {zs O : List Int} (h : Fnd P zs O) (hz : ∀ x ∈ zs, (fP P x).isSome = true → x ∈ O) (hd : Dn P O O.length) : ∀ x, x ∈ O ↔ Rch P zs x := by
  intro x
  refine ⟨h.rch x, fun hr => ?_⟩
  induction hr with
  | base h1 h2 => exact hz _ h1 h2
  | step hy hp hx h2 ih =>
    obtain ⟨i, hi, e⟩ := List.mem_iff_getElem.1 ih
    refine hd i hi _ ?_ _ hx h2
    rw [List.getD_eq_getElem?_getD, List.getElem?_eq_getElem hi, Option.getD_some, e]
    exact hp
theorem Fnd.len {P : List Pv} {zs O : List Int} {last : Nat} (h : Fnd P zs O) (hP : ∀ p ∈ P, 1 ≤ p.id ∧ p.id ≤ last) : O.length ≤ last :=
  nodup_len last O h.nd (fun x hx => by
    obtain ⟨p, hp⟩ := Option.isSome_iff_exists.1 (h.rch x hx).pend
    obtain ⟨h1, h2⟩ := fP_some hp
    have := hP p h1
    omega)
theorem Dn.next {P : List Pv} {O : List Int} {j : Nat} (h : Dn P O j) (hj : j < O.length) {p : Pv} (hp : fP P (O.getD j 0) = some p) : Dn P (nxCs P O p.nd) (j + 1) := by
  obtain ⟨r, hr⟩ := nxCs_pre P p.nd O
  intro i hi q hq x hx h2
  have e : (nxCs P O p.nd).getD i 0 = O.getD i 0 := by
    rw [hr, List.getD_eq_getElem?_getD, List.getD_eq_getElem?_getD, List.getElem?_append_left (by omega)]
  rw [e] at hq
  rw [nxCs_mem]
  by_cases h3 : i < j
  · exact .inl (h i h3 q hq x hx h2)
  · obtain rfl : i = j := by omega
    rw [hp] at hq
    obtain rfl := Option.some.inj hq
    exact .inr ⟨hx, h2⟩
end Go.Proofs.YtjecicjpplibaaaGreat.Pt
