/- How many keys a map has; what is asked of the pending patches alone. -/
import Derived.Test.YteapkfnklbhdfaaGrow
import Derived.Test.YteapkfnklbhdfaaNumb
import Derived.Maps.RangeWalk
namespace Go.Proofs.Yteapkfnklbhdfaa
open Go.RowKit Go.Maps Go.WideShapes Go.ChangeMaps Go.MapKept
open Go.WideElems (Fit rg rd_key rg_of)
set_option linter.unusedVariables false

theorem nodup_sub_len {α : Type} [DecidableEq α] : ∀ (l L : List α), l.Nodup → (∀ x ∈ l, x ∈ L) → l.length ≤ L.length
  | [], L, _, _ => Nat.zero_le _
  | x :: l, L, hn, h => by
    have hx := h x (by simp)
    have hn' := List.nodup_cons.1 hn
    have := nodup_sub_len l (L.erase x) hn'.2 (fun y hy => by
      rw [List.mem_erase_of_ne (show y ≠ x from fun e => hn'.1 (by rw [← e]; exact hy))]
      exact h y (by simp [hy]))
    rw [List.length_erase_of_mem hx] at this
    have := List.length_pos_of_mem hx
    simp
    omega

theorem keys_lit {P : Program} {k : TypeId} {R : Value → Option (DataW Unit × List MemPlace)} (K : Keyed P k) (hku : P.underlying k = some (.int .i64)) {w : World} {mb N : Nat} {D : DataW Unit} (h : w.ownsMap P k R mb N D) : ∃ es, D = .map es ∧ es.Pairwise (fun p q => p.1 ≠ q.1) ∧ ∀ p ∈ es, ∃ x, p.1 = .int .i64 x ∧ (Lit.int .i64 x).wf = true := by
  obtain ⟨es, clock, _, F, _, rfl⟩ := h
  refine ⟨_, rfl, ((sorted_perm _).pairwise_iff (fun {_ _} hne => Ne.symm hne)).2 (Maps.fit_apart K F), fun p hp => ?_⟩
  obtain ⟨x, hx, rfl⟩ := List.mem_map.1 (mem_sorted.1 hp)
  obtain ⟨y, hy⟩ := F.reads x hx
  rw [rg_of hy]
  obtain ⟨z, _, e, hw⟩ := Maps.keyOf_int_inv hku (rd_key hy)
  exact ⟨z, e, hw⟩
/-- The keys of a map of numbers. -/
theorem keys_int {w : World} {mb : Nat} {N : Nat} {D : DataW Unit} (h : w.ownsMap Try.prog 3 vR mb N D) : ∃ es, D = .map es ∧ es.Pairwise (fun p q => p.1 ≠ q.1) ∧ ∀ p ∈ es, ∃ x, I64 x ∧ p.1 = ikey x := by
  obtain ⟨es, h1, h2, h3⟩ := keys_lit keyed3 Try.underlying3 h
  refine ⟨es, h1, h2, fun p hp => ?_⟩
  obtain ⟨z, e, hw⟩ := h3 p hp
  refine ⟨z, ?_, e⟩
  have h1 : IntKind.i64.min = -9223372036854775808 := by decide
  have h2 : IntKind.i64.max = 9223372036854775807 := by decide
  simp only [Lit.wf, h1, h2] at hw
  simpa [I64] using hw

theorem Mf.count {w : World} {mb N : Nat} {f : Int → Option Value} (h : Mf w mb N f) (L : List Int) (hL : ∀ k, I64 k → f k ≠ none → k ∈ L) : Mf w mb L.length f := by
  obtain ⟨D, ho, hs, hp⟩ := h
  refine ⟨D, ho, ?_, hp⟩
  obtain ⟨es, rfl, hpw, hk⟩ := keys_int ho
  have hlen : size (DataW.map es) = es.length := size_eq es
  rw [hlen]
  have hn : (es.map (fun p => p.1)).Nodup := List.pairwise_map.2 hpw
  have hsub : ∀ x ∈ es.map (fun p => p.1), x ∈ L.map ikey := fun x hx => by
    obtain ⟨p, hpe, rfl⟩ := List.mem_map.1 hx
    obtain ⟨z, hz, e⟩ := hk p hpe
    rw [e]
    refine List.mem_map.2 ⟨z, hL z hz (fun hn => ?_), rfl⟩
    have h1 := (hp z hz).1 hn
    have h2 : has (DataW.map es) (ikey z) = true := by
      rw [← e]
      exact List.any_eq_true.2 ⟨p, hpe, by rw [e]; exact WideAt.sameKey_self (ikey_is z)⟩
    rw [h1] at h2
    cases h2
  classical
  have := nodup_sub_len _ _ hn hsub
  simpa using this

/-- What a set has of the pending patches. -/
structure PM (w : World) (a mp N : Nat) (P : List Pv) : Prop where
  c1 : w.cell? ⟨a, 1, none⟩ = some (.map (some mp))
  pm : Mf w mp N (fun k => (fP P k).map Pv.v)
theorem PM.kept {w w' : World} {a mp N : Nat} {P : List Pv} (h : PM w a mp N P) (hb : Below w.heap.size w w') : PM w' a mp N P :=
  ⟨by rw [hb.cell (p := ⟨a, 1, none⟩) (lt_of_cell h.c1)]; exact h.c1, h.pm.kept (hb.block _ h.pm.lt)⟩
theorem PM.look {w : World} {a mp N : Nat} {P : List Pv} (h : PM w a mp N P) (k : Int) (hk : I64 k) :
    (Instr.lookup 67 (.map (some mp)) (.int .i64 k) true).run Try.prog w = .ok (.tuple #[((fP P k).map Pv.v).getD zp, .bool (fP P k).isSome]) w := by
  obtain ⟨d, hd⟩ := zero44_D
  have := h.pm.look Try.underlying67 (zero44 w) hd k hk
  rw [this]
  simp [zp]

set_option maxHeartbeats 400000 in
theorem isPendingM_ok {w : World} {a mp N : Nat} {P : List Pv} (h : PM w a mp N P) (k : Int) (hk : I64 k) : Calls Try.prog 47 #[.pointer (some ⟨a, 0, none⟩), .int .i64 k] w fun e w' => e = .returned (.bool (fP P k).isSome) ∧ Below w.heap.size w w' := by
  have c1 := h.c1
  have hl := h.look k hk
  obtain ⟨cs, hcs, h1, h5⟩ : ∃ cs : Array Value, ((fP P k).map Pv.v).getD zp = .agg cs ∧ cs.all (·.oneCell') = true ∧ cs.size = 5 := by
    cases e : fP P k with
    | none => exact ⟨_, rfl, zp_one, rfl⟩
    | some p => exact ⟨p.cells, rfl, pv_one p, rfl⟩
  rw [hcs] at hl
  have hb := (Below.refl w.heap.size w).alloc (Nat.le_refl _) (Obj.cells #[.int .i64 0, .int .i64 0, .int .i64 0, .slice none 0 0, .slice none 0 0] 44)
  have hr0 : (w.alloc (Obj.cells #[.int .i64 0, .int .i64 0, .int .i64 0, .slice none 0 0, .slice none 0 0] 44)).heap[w.heap.size]? = some (.cells #[.int .i64 0, .int .i64 0, .int .i64 0, .slice none 0 0, .slice none 0 0] 44 (0, 0)) := World.alloc_heap_new w _
  clear h hcs
  go_enter Try.func47, Try.ntmps47
  go_wp2_with (refine wpList_store_row rfl 44 _ _ rfl w.heap.size cs rfl rfl 44 _ hr0 (by rw [h5]; exact info44) (by rw [h5]; rfl) h1 ?_)
  go_ret
  exact ⟨rfl, below_setRow hb _ (Nat.le_refl _) _⟩

set_option maxHeartbeats 1000000 in
theorem stillPendingM_ok {w : World} {a mp N : Nat} {P : List Pv} (h : PM w a mp N P) (p : Option Addr) (n c : Nat) (zs : List Int) (hz : II w p n zs) (h8 : n * 8 ≤ 140737488355328) :
    Calls Try.prog 68 #[.pointer (some ⟨a, 0, none⟩), .slice p n c] w fun e w' => ∃ v, e = .returned v ∧ Nums w.heap.size w' v (still P zs) ∧ Below w.heap.size w w' := by
  obtain ⟨i0, hi, hz0, hz1, hz2⟩ := info_parts info3
  have hl := hz.len
  have hg := hz.big
  go_enter Try.func68, Try.ntmps68
  go_wp2_with fail
  go_loopw [5, 10] (fun s i wr => ∃ j : Nat, j ≤ n ∧ i = .int .i64 (j : Int) ∧ Nums w.heap.size wr s (still P (zs.take j)) ∧ Below w.heap.size w wr) (fun s i _ => n - (intOf i).toNat)
  case atStart => exact ⟨0, by omega, rfl, Nums.nil _ _, Below.refl _ _⟩
  case round =>
    obtain ⟨j, hj, rfl, hN, hb⟩ := hrel
    by_cases hlt : j < n
    · obtain ⟨b1, o1, rfl, hc1⟩ := (hz.kept hb).cells (by omega)
      have e1 := hc1 j hlt
      have hp := isPendingM_ok (h.kept hb) (zs.getD j 0) (hz.fitAt j)
      have hjI : (j : Int) < (n : Int) := by omega
      have hj0 : (0 : Int) ≤ (j : Int) := by omega
      have HT : Hid _ := take_one (zs := zs) (j := j) (by omega)
      have hlen : (still P (zs.take j)).length ≤ j := Nat.le_trans (List.length_filter_le _ _) (by simp; omega)
      clear hc1
      generalize zs.getD j 0 = y at e1 hp HT
      cases hy : (fP P y).isSome with
      | true =>
        rw [hy] at hp
        have HS : Hid (still P (zs.take (j + 1)) = still P (zs.take j) ++ [y]) := by
          show _ = _
          unfold still
          rw [HT.out, List.filter_append]
          simp [hy]
        clear hy
        go_wp2_with (first
          | (go_at_call 47; refine below_at hp ?_; intro w1 hb1; have hN2 := hN.kept hb1; have hb2 := below_on hb hb1)
          | (at_builtin; refine wpList_append_own _ rfl _ _ 30 rfl w.heap.size 3 i0 (.int .i64 0) 1 8 Try.underlying30 hi hz0 hz1 hz2 rfl (by decide) _ _ _ rfl (World.ownsRow.alloc hN2 _) ⟨w1.heap.size, 0, none⟩ 1 1 [.int .i64 y] rfl rfl (cell_one_new _ _ _) (by simp [Value.oneCell']) (by unfold maxLen; omega) (by omega) (by have := hb2.size; simp; omega) ?_; intro v' w3 hown hgrow _; have hown := Nums.snoc hown; obtain ⟨g', cap', rfl⟩ := Nums.succ hown))
        have hb3 := (hb2.alloc (by have := hb2.size; omega) _).grown hgrow (by have := hb2.size; simp; omega) (by intro k hk; exact (World.ownsRow.lt hN2 k hk).1)
        go_roundw
        case rel => exact ⟨j + 1, by omega, by go_num, by rw [HS.out]; exact hown, hb3⟩
        case measure => simp [intOf]; omega
      | false =>
        rw [hy] at hp
        have HS : Hid (still P (zs.take (j + 1)) = still P (zs.take j)) := by
          show _ = _
          unfold still
          rw [HT.out, List.filter_append]
          simp [hy]
        clear hy
        go_wp2_with (first | (go_at_call 47; refine below_at hp ?_; intro w1 hb1))
        go_roundw
        case rel => exact ⟨j + 1, by omega, by go_num, by rw [HS.out]; exact hN.kept hb1, below_on hb hb1⟩
        case measure => simp [intOf]; omega
    · obtain rfl : j = n := by omega
      rw [List.take_of_length_le (by omega)] at hN
      go_wp2
      go_ret
      exact ⟨_, rfl, hN, hb⟩
end Go.Proofs.Yteapkfnklbhdfaa
