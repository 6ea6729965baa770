/- LayoutGroups: headers as bytes, and out of bytes, by the program as by the document. -/
import Derived.Test.YtkmijjipnepnoaaEqual
namespace Go.Proofs.Ytkmijjipnepnoaa
open Go.RowKit
set_option linter.unusedVariables false

/-- Both encode alike. -/
theorem encGroup_both (N : Int) (ys : List Int) (hl : ys.length = 40) (hy : Num.Byt ys) : ∃ er : Int, ∃ n : Nat, ∃ zs : List Int, n ≤ 128 ∧ Num.Byt zs ∧
    (∀ w, Calls Try.prog 15 #[groupV N ys] w fun e w' => ∃ p c, e = .returned (.tuple #[.slice p n c, .int .i64 er]) ∧ BI w' p n zs ∧ Below w.heap.size w w') ∧
    (∀ w, Calls Try.prog 16 #[groupV N ys] w fun e w' => ∃ p c, e = .returned (.tuple #[.slice p n c, .int .i64 er]) ∧ BI w' p n zs ∧ Below w.heap.size w w') := by
  by_cases h : GMay N
  · refine ⟨0, 128, groupL N ys, by omega, groupL_byt _ _ hy, fun w => ?_, fun w => ?_⟩
    · exact (encodeGroup_yes1 N ys hl hy h w).mono fun e w' ⟨g, cap, he, ho, hb⟩ => ⟨_, cap, he, ho.bi (by omega) (groupL_byt _ _ hy), hb⟩
    · exact (rencodeGroup_yes N ys hl hy h w).mono fun e w' ⟨g, cap, he, ho, hb⟩ => ⟨_, cap, he, ho.bi (by omega) (groupL_byt _ _ hy), hb⟩
  · refine ⟨1, 0, [], by omega, fun i => by simp, fun w => ?_, fun w => ?_⟩
    · exact (encodeGroup_no N ys hl h w).mono fun e w' ⟨he, hb⟩ => ⟨_, 0, he, BI.none _ _, hb⟩
    · exact (rencodeGroup_no N ys hl h w).mono fun e w' ⟨he, hb⟩ => ⟨_, 0, he, BI.none _ _, hb⟩

theorem gdY_len (n : Nat) (xs : List Int) (h : xs.length = n) : (gdY n xs).length = 40 := by
  unfold gdY
  by_cases e : gdE n xs = 0
  · rw [if_pos e]
    have : n = 128 := by
      by_cases h1 : n = 128
      · exact h1
      · unfold gdE at e
        rw [if_pos h1] at e
        cases e
    unfold rY
    simp
    omega
  · rw [if_neg e]; exact zers_len 40

theorem gdN_bd (n : Nat) (xs : List Int) (h : Num.Byt xs) : -9223372036854775808 ≤ gdN n xs ∧ gdN n xs < 9223372036854775808 := by
  unfold gdN rN
  have := Num.numD_bd h 1 2
  split <;> omega
theorem gdY_byt (n : Nat) (xs : List Int) (h : Num.Byt xs) : Num.Byt (gdY n xs) := by
  unfold gdY rY
  split
  · exact byt_take (byt_drop h _) _
  · exact zers_byt _

theorem wpList_load_wanted {P : Program} {ops : Array Oper} {rest : List Oper} {o : Oper} {a : Act} {w : World} {Q : Exit → Act → World → Prop} (hwant : Region.wanted o (yielded ops a.tmps) = true) (ty : TypeId) (x : Operand) (ho : o.op = .load ty x)
    (g : Nat) (hx : a.eval x = .pointer (some ⟨g, 0, none⟩)) (t : TypeId) (cs : Array Value) (fr : Nat × Nat) (d : TypeDesc) (hg : w.heap[g]? = some (.cells cs t fr))
    (hu : P.underlying ty = some d) (hd : (match d with | .struct _ | .array _ _ => true | _ => false) = true) (hi : (P.info? ty).map (·.size) = some cs.size)
    (h : wpList P ops Q rest (a.put o.dst (.agg cs)) w) : wpList P ops Q (o :: rest) a w :=
  wpList_step fun K hK => by rw [if_pos hwant]; exact wp_load_row ty x ho g hx t cs fr d hg hu hd hi (hK _ _ h)

theorem made38 (w : World) (A : Array Value) : Below w.heap.size w ((w.alloc (groupO 0 (zers 40))).setRow w.heap.size A) ∧ ((w.alloc (groupO 0 (zers 40))).setRow w.heap.size A).heap[w.heap.size]? = some (.cells A 38 (0, 0)) :=
  ⟨below_setRow (grew_alloc _ _) (Nat.le_refl _) _, setRow_heap _ _ _ _ _ _ (heap_new w _)⟩

set_option maxRecDepth 10000 in
set_option maxHeartbeats 1000000 in
theorem layoutGroups_walk (N : Int) (ys : List Int) (hl : ys.length = 40) (hy : Num.Byt ys) (p : Option Addr) (n c : Nat) (xs : List Int) (w : World) (h : BI w p n xs) (hnc : n ≤ c) :
    Calls Try.prog 4 #[groupV N ys, .slice p n c] w fun e w' => e = .returned (.bool true) ∧ Below w.heap.size w w' := by
  have HB := grew_alloc w (groupO N ys)
  have hx0 := heap_new w (groupO N ys)
  have h0 := h.kept HB
  have hin := info38 N ys hl
  obtain ⟨er, k, zs, hk, hzb, he1, he2⟩ := encGroup_both N ys hl hy
  have hd1 := fun p' (c' : Nat) w' (hb : BI w' p' n xs) (hc : n ≤ c') => decodeGroup_ok p' n c' xs w' hb hc
  have hd2 := fun p' (c' : Nat) w' (hb : BI w' p' n xs) (hc : n ≤ c') => rdecodeGroup_ok p' n c' xs w' hb hc
  have hdl := gdY_len n xs h.len
  have heq2 := fun w => eq_group (gdN n xs) (gdN_bd n xs h.byt) (gdY n xs) hdl (gdY_byt n xs h.byt) w
  generalize gdE n xs = er2 at *
  generalize gdN n xs = N2 at *
  generalize gdY n xs = y2 at *
  have hi2 := info38 N2 y2 hdl
  have ho2 := group_one N2 y2
  have hs2 := (groupA_size 0 (zers 40) (zers_len 40)).trans (groupA_size N2 y2 hdl).symm
  rw [zero38] at hs2
  go_enter Try.func4, Try.ntmps4
  go_wp2_with (first
    | (refine wpList_load_row rfl 38 (.tmp 2) rfl w.heap.size rfl 38 _ (0, 0) _ hx0 Try.underlying38 rfl hin ?_)
    | (go_at_call 15; refine Calls.mono (he1 _) ?_; rintro e w1 ⟨p1, q1, rfl, b1, hb1⟩; have HB := grew_trans HB hb1; have h0 := h0.kept hb1; have hx0 : w1.heap[w.heap.size]? = some (groupO N ys) := (by rw [hb1.block _ (Array.getElem?_eq_some_iff.1 hx0).1]; exact hx0))
    | (go_at_call 16; refine Calls.mono (he2 _) ?_; rintro e w2 ⟨p2, q2, rfl, b2, hb2⟩; have HB := grew_trans HB hb2; have h0 := h0.kept hb2; have b1 := b1.kept hb2)
    | (go_at_call 11; refine Calls.mono (bclone_any _ _ _ _ _ h0) ?_; rintro e w3 ⟨p3, q3, rfl, hq3, b3, hb3⟩; have HB := grew_trans HB hb3; have h0 := h0.kept hb3; have b1 := b1.kept hb3; have b2 := b2.kept hb3)
    | (go_at_call 17; refine grew_at (hd1 _ _ _ b3 hq3) ?_; intro w4 hb4; have HB := grew_trans HB hb4; have h0 := h0.kept hb4; have b1 := b1.kept hb4; have b2 := b2.kept hb4; have b3 := b3.kept hb4)
    | (refine wpList_store_row rfl 38 (.tmp 10) (.tmp 29) rfl w4.heap.size _ rfl rfl 38 _ (heap_new w4 _) hi2 hs2 ho2 ?_))
  rw [← zero38]
  obtain ⟨ba, ha⟩ := made38 w4 (groupA N2 y2)
  have HB := grew_trans HB ba
  have h0 := h0.kept ba
  have b1 := b1.kept ba
  have b2 := b2.kept ba
  have b3 := b3.kept ba
  generalize (w4.alloc (groupO 0 (zers 40))).setRow w4.heap.size (groupA N2 y2) = w5 at *
  generalize w4.heap.size = x1 at *
  clear ba
  refine grew_at (hd2 _ _ _ h0 hnc) ?_
  intro w6 hb6
  have HB := grew_trans HB hb6
  have h0 := h0.kept hb6
  have b1 := b1.kept hb6
  have b2 := b2.kept hb6
  have b3 := b3.kept hb6
  have ha : w6.heap[x1]? = some (.cells (groupA N2 y2) 38 (0, 0)) := by rw [hb6.block _ (Array.getElem?_eq_some_iff.1 ha).1]; exact ha
  clear hb6 hd1 hd2 he1 he2 hx0
  go_wp2_with (first
    | (refine wpList_store_row rfl 38 (.tmp 12) (.tmp 34) rfl w6.heap.size _ rfl rfl 38 _ (heap_new w6 _) hi2 hs2 ho2 ?_; rw [← zero38]; obtain ⟨ba, hc⟩ := made38 w6 (groupA N2 y2); have HB := grew_trans HB ba; have h0 := h0.kept ba; have b1 := b1.kept ba; have b2 := b2.kept ba; have b3 := b3.kept ba; have ha := (ba.block _ (Array.getElem?_eq_some_iff.1 ha).1).trans ha; generalize (w6.alloc (groupO 0 (zers 40))).setRow w6.heap.size (groupA N2 y2) = w7 at *; generalize w6.heap.size = x2 at *)
    | (refine wpList_load_wanted (by rfl) 38 (.tmp 10) rfl x1 rfl 38 _ (0, 0) _ ha Try.underlying38 rfl hi2 ?_)
    | (refine wpList_load_wanted (by rfl) 38 (.tmp 12) rfl x2 rfl 38 _ (0, 0) _ hc Try.underlying38 rfl hi2 ?_)
    | (refine wpList_eql_wanted (by rfl) 38 (.tmp 45) (.tmp 46) rfl (groupA N2 y2) (groupA N2 y2) rfl rfl guard38 true (heq2 _) ?_)
    | (go_at_call_of 14 p1; refine same_at (equal_same _ _ _ _ _ _ _ _ b1 b2) ?_)
    | (go_at_call 14; refine same_at (equal_same _ _ _ _ _ _ _ _ b3 h0) ?_))
  go_ret
  exact ⟨rfl, HB⟩
end Go.Proofs.Ytkmijjipnepnoaa
