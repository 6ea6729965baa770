/- Numbers of the call's own behind one another; uppermost does not look at needs. -/
import Derived.Test.YteapkfnklbhdfaaGrow
import Derived.Test.YteapkfnklbhdfaaUpm
import Derived.Deep.AppendSrc
namespace Go.Proofs.Yteapkfnklbhdfaa
open Go.RowKit Go.Maps
set_option linter.unusedVariables false

theorem run_append_none (v : Value) {w : World} {B n : Nat} {xs : List Value} (h : w.ownsRow B 3 1 v n xs) (c : Nat) (ty : TypeId) : (Builtin.append_ #[30, 30] ty #[v, .slice none 0 c]).run Try.prog w = .ok v w := by
  obtain ⟨i0, hi, hz0, hz1, hz2⟩ := info_parts info3
  have hs := Src.ofNil (P := Try.prog) w (size := 1) Try.underlying30 c
  rcases h.2 with ⟨rfl, _⟩ | ⟨g, cap, cur, rfl, _, _, h1, _⟩
  · simp [Builtin.append_, run_underlying Try.underlying30, sizeOf, typeInfo, hi, hz1, hs.cells, Builtin.lenOf]
  · have := run_append_room_src (P := Try.prog) w 30 30 ty 3 i0 Try.underlying30 hi g 0 n cap (.slice none 0 c) 0 [] (by rw [hz1]; exact hs) (by omega) (fun j hj => by simp at hj) (fun j hj => by simp at hj)
    rw [this]
    rfl

theorem nums_append {B B2 : Nat} {w : World} {v1 v2 : Value} {A C : List Int} (h1 : Nums B w v1 A) (h2 : Nums B2 w v2 C) (hB : B ≤ w.heap.size) (hl : (A.length + C.length) * 8 ≤ 140737488355328) (ty : TypeId) :
    ∃ v' w', (Builtin.append_ #[30, 30] ty #[v1, v2]).run Try.prog w = .ok v' w' ∧ Nums B w' v' (A ++ C) ∧ w.grownBy w' v1.ownBlock ∧ (v'.ownBlock = v1.ownBlock ∨ v'.ownBlock = some w.heap.size) := by
  obtain ⟨i0, hi, hz0, hz1, hz2⟩ := info_parts info3
  rcases h2.2 with ⟨rfl, h0⟩ | ⟨g, cap, cur, e, hBg, hg, hn, hm, hc, ht⟩
  · have : C = [] := List.length_eq_zero_iff.1 h0
    subst this
    exact ⟨v1, w, run_append_none v1 h1 0 ty, by rw [List.append_nil]; exact h1, World.grownBy.refl _ _, .inl rfl⟩
  · subst e
    have hcell : ∀ j u, (C.map (Value.int .i64))[j]? = some u → w.cell? ((⟨g, 0, none⟩ : Addr).add j) = some u := fun j u hu => by
      have hj : j < C.length := by have := (List.getElem?_eq_some_iff.1 hu).1; simpa using this
      have := World.ownsRow.cellAt h2 j (by omega)
      have e : (⟨g, 0, none⟩ : Addr).add j = ⟨g, j, none⟩ := by unfold Addr.add; split <;> simp_all
      rw [e, this]; exact hu
    obtain ⟨v', w', hr, ho, hgr, _, hb⟩ := run_append_own_at (P := Try.prog) w B 30 ty 3 i0 (.int .i64 0) 1 8 Try.underlying30 hi hz0 hz1 hz2 rfl (by decide) v1 A.length (A.map (Value.int .i64)) h1 ⟨g, 0, none⟩ C.length cap (C.map (Value.int .i64)) (by simp) hcell (fun u hu => by obtain ⟨x, _, rfl⟩ := List.mem_map.1 hu; rfl) (by unfold maxLen; omega) (by omega) hB
    refine ⟨v', w', hr, ?_, hgr, hb⟩
    unfold Nums
    rw [List.length_append, List.map_append]
    exact ho

theorem wp_append {P : Program} {o : Oper} {a : Act} {w w' : World} {K : Act → World → Prop} {Q : Exit → Act → World → Prop} {t u : TypeId} (s x : Operand) (ho : o.op = .call { callee := .builtin .append, args := #[s, x], argTypes := #[t, u] }) {v1 v2 v' : Value}
    (hs : a.eval s = v1) (hx : a.eval x = v2) (hr : (Builtin.append_ #[t, u] o.type #[v1, v2]).run P w = .ok v' w') (h : K (a.put o.dst v') w') : o.wp P a w K Q := by
  unfold Oper.wp execOp
  simp only [ho, resolve, invoke, builtin, Sem.run_bind, Sem.run_pure, Result.andThen_ok, List.map_toArray, List.map_cons, List.map_nil, hs, hx, hr]
  exact h

/-- Two patches of one place. -/
def Sit (p p' : Pv) : Prop := p.blk = p'.blk ∧ p.off = p'.off ∧ p.bs = p'.bs
theorem sit_upS {p p' : Pv} (h : Sit p p') (u : Pv) (s : List Bool × Int) : upS p u s = upS p' u s := by
  unfold upS kP loP endP
  rw [h.2.1, h.2.2]
theorem sit_upI {p p' : Pv} (h : Sit p p') (u : Pv) (s : List Bool × Int) (I : List Int) : upI p u s I = upI p' u s I := by
  unfold upI
  rw [sit_upS h]
theorem sit_uppF {p p' : Pv} (h : Sit p p') : ∀ (l : List Pv) (s : List Bool × Int) (I : List Int), uppF p l s I = uppF p' l s I
  | [], _, _ => rfl
  | u :: l, s, I => by
    unfold uppF
    rw [sit_upS h, sit_upI h, sit_uppF h l]
theorem sit_uppL {p p' : Pv} (h : Sit p p') (P : List Pv) : uppL P p = uppL P p' := by
  unfold uppL
  rw [sit_uppF h, h.1, h.2.2]
end Go.Proofs.Yteapkfnklbhdfaa
