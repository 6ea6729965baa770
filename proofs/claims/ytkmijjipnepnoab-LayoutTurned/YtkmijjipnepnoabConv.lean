/- A text that is written out, as bytes of the call's own. -/
import Derived.Test.YtkmijjipnepnoabSuper
import Derived.Test.YtkmijjipnepnoabZeros
namespace Go.Proofs.Ytkmijjipnepnoab
open Go.RowKit

theorem heap_freeze_other (w : World) (b o k : Nat) (h : k ≠ b) : (w.freeze ⟨b, o, none⟩ 1).heap[k]? = w.heap[k]? := by
  unfold World.freeze
  rw [if_neg (by decide)]
  have h' : ¬ b = k := fun e => h e.symm
  simp [Array.getElem?_modify, h']
theorem heap_freeze_same (w : World) (b o : Nat) {cs : Array Value} {t : TypeId} {mk : Nat × Nat} (h : w.heap[b]? = some (.cells cs t mk)) : ∃ mk', (w.freeze ⟨b, o, none⟩ 1).heap[b]? = some (.cells cs t mk') := by
  unfold World.freeze
  rw [if_neg (by decide)]
  obtain ⟨lo, hi⟩ := mk
  simp [Array.getElem?_modify, h]
theorem size_freeze (w : World) (b o : Nat) : (w.freeze ⟨b, o, none⟩ 1).heap.size = w.heap.size := by
  unfold World.freeze
  rw [if_neg (by decide)]
  simp
theorem conv_at (W : World) (b n c : Nat) {cs : Array Value} {mk : Nat × Nat} (h : W.heap[b]? = some (.cells cs 5 mk)) : (convert 29 29 (.slice (some ⟨b, 0, none⟩) n c)).run Try.prog W = .ok (.slice (some ⟨b, 0, none⟩) n c) (W.freeze ⟨b, cs.size, none⟩ 1) := by
  simp [convert, run_underlying Try.underlying29, run_underlying Try.underlying5, markStringish, World.shape?, h]

/-- Block b, behind B, holds the bytes xs, and none that turn. -/
def Lit8 (B : Nat) (w : World) (b : Nat) (xs : List Int) : Prop := B ≤ b ∧ ∃ mk, w.heap[b]? = some (.cells (xs.map (Value.int .u8)).toArray 5 mk)

theorem Lit8.bi {B : Nat} {w : World} {b : Nat} {xs : List Int} (h : Lit8 B w b xs) (hx : Num.Byt xs) (hn : xs.length ≤ 140737488355328) : BI w (some ⟨b, 0, none⟩) xs.length xs := by
  obtain ⟨_, mk, hm⟩ := h
  refine ⟨rfl, hn, hx, fun _ => ⟨b, 0, rfl, fun i hi => ?_⟩⟩
  rw [Nat.zero_add]
  simp [World.cell?, hm, List.getD_eq_getElem?_getD, List.getElem?_eq_getElem hi]

/-- The world behind a text's conversion. -/
theorem conv_lit (w : World) (xs : List Int) : ∃ w', (∀ n c, (convert 29 29 (.slice (some ⟨w.heap.size, 0, none⟩) n c)).run Try.prog (w.alloc (.cells (xs.map (Value.int .u8)).toArray 5)) = .ok (.slice (some ⟨w.heap.size, 0, none⟩) n c) w') ∧ Lit8 w.heap.size w' w.heap.size xs ∧ Below w.heap.size w w' := by
  have h := heap_new w (.cells (xs.map (Value.int .u8)).toArray 5)
  refine ⟨_, fun n c => conv_at _ _ n c h, ⟨Nat.le_refl _, heap_freeze_same _ _ _ h⟩, ⟨rfl, rfl, rfl, by rw [size_freeze, size_alloc]; omega, fun k hk => ?_⟩⟩
  rw [heap_freeze_other _ _ _ _ (by omega), Below.heap_alloc _ _ _ hk]

theorem wpList_append_grow {w : World} {ops : Array Oper} {rest : List Oper} {o : Oper} {a : Act} {Q : Exit → Act → World → Prop} (hgd : o.guard = none) (s x : Operand)
    (ho : o.op = .call { callee := .builtin .append, args := #[s, x], argTypes := #[29, 3] }) (b n m : Nat) (xs : List Int) (hs : a.eval s = .slice (some ⟨b, 0, none⟩) n n) (hx : a.eval x = .int .i64 (m : Int)) (hbi : BI w (some ⟨b, 0, none⟩) n xs) (hnm : n + m = 128) (hm : 0 < m)
    (h : ∀ g cap w', Own w.heap.size w' g 128 cap (xs ++ zers m) → Below w.heap.size w w' → wpList Try.prog ops Q rest (a.put o.dst (.slice (some ⟨g, 0, none⟩) 128 cap)) w') : wpList Try.prog ops Q (o :: rest) a w := by
  obtain ⟨i0, hi, hz0, hz1, hz2⟩ := info_parts info5
  have hxl := hbi.len
  have hlen : (xs ++ zers m).length = 128 := by simp [zers_len]; omega
  have hmap : (xs ++ zers m).map (Value.int .u8) = xs.map (Value.int .u8) ++ (Builtin.zeroCells (Value.int .u8 0).cells m).toList := by rw [List.map_append, zero_list]; rfl
  have hold : (Builtin.firstCells i0.size n (.slice (some ⟨b, 0, none⟩) n n)).run Try.prog w.drew = .ok (xs.map (Value.int .u8)).toArray w.drew :=
    run_firstCells_some (P := Try.prog) w.drew i0.size n ⟨b, 0, none⟩ n n _ (by rw [hz1]; simpa using hxl) (by
      intro j v hj
      by_cases h0 : 0 < n
      · obtain ⟨ad, e, hc⟩ := (hbi.kept (below_drewN (Below.refl _ _) 1)).src h0
        cases e
        exact hc j v hj
      · have : xs = [] := List.eq_nil_of_length_eq_zero (by omega)
        subst this
        simp at hj)
  have hr := Lib.run_append_grow_zeros (P := Try.prog) w 29 3 o.type 5 i0 (.int .u8 0) .i64 .i64 Try.underlying29 Try.underlying3 hi hz0 (some ⟨b, 0, none⟩) n n (xs.map (Value.int .u8)) hold m hm (by omega) (by omega) (by omega) (by rw [hz2]; omega) (growslice_fits (by omega) (by rw [hz2]; omega))
  rw [hnm] at hr
  refine wpList_plain hgd fun _ hK => ?_
  unfold Oper.wp execOp
  simp only [ho, resolve, invoke, builtin, Sem.run_bind, Sem.run_pure, Result.andThen_ok, List.map_toArray, List.map_cons, List.map_nil, hs, hx, hr]
  refine hK _ _ (h _ _ _ ⟨by simpa using hlen, .inr ⟨_, _, _, rfl, Nat.le_refl _, heap_alloc_new w.drew _, grownCap_ge _ _ _ _, grownCap_le_maxLen _ _ _ _ (by unfold maxLen; omega), ?_, ?_⟩⟩ ⟨rfl, rfl, rfl, by simp, fun k hk => Below.heap_alloc w.drew _ k hk⟩)
  · have := grownCap_ge w 128 n 5
    simp [size_zeroCells, Value.cells]; omega
  · rw [hmap]
    simp only [Array.toList_append]
    exact List.take_left' (by simp [size_zeroCells, Value.cells]; omega)
end Go.Proofs.Ytkmijjipnepnoab
