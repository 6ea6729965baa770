/- PUppm PApp -/
import Derived.Test.YtinigfidofgaiaaGreatGr19
import Derived.Test.YtinigfidofgaiaaGreatGr15
import Derived.Deep.AppendSrc

/- uppermost, as it is called. -/
namespace Go.Proofs.YtinigfidofgaiaaGreat.Pt
open Go.RowKit Go.Maps
set_option maxRecDepth 100000
set_option linter.unusedVariables false

theorem zc106 : Tryz.zeroCells168 = covA cov0 := by kernel_rfl

set_option maxRecDepth 100000 in
set_option maxHeartbeats 4000000 in
theorem uppermost_ok {B : Nat} {w : World} {a mp mb last : Nat} {P : List Pv} {K : Int → Option Value} (h : PS B w a mp mb last P K) (p : Pv) (hp : p.off + p.bs.length ≤ 128) (hb : p.blk ≤ 9223372036854775807) :
    Calls Tryz.prog 103 #[.pointer (some ⟨a, 0, none⟩), p.v] w fun e w' => ∃ v, e = .returned v ∧ Nums w.heap.size w' v (uppL P p) ∧ Below w.heap.size w w' := by
  obtain ⟨A1, hA1⟩ : ∃ A1, w.alloc (.cells p.cells 134) = A1 := ⟨_, rfl⟩
  obtain ⟨A2, hA2⟩ : ∃ A2, A1.alloc (.cells #[.slice none 0 0] 23) = A2 := ⟨_, rfl⟩
  obtain ⟨A3, hA3⟩ : ∃ A3, A2.alloc (.cells Tryz.zeroCells168 168) = A3 := ⟨_, rfl⟩
  obtain ⟨A4, hA4⟩ : ∃ A4, A3.alloc (.cells #[.int .i64 (p.bs.length : Int)] 3) = A4 := ⟨_, rfl⟩
  have s1 : A1.heap.size = w.heap.size + 1 := by rw [← hA1]; simp
  have s2 : A2.heap.size = w.heap.size + 1 + 1 := by rw [← hA2]; simp [s1]
  have s3 : A3.heap.size = w.heap.size + 1 + 1 + 1 := by rw [← hA3]; simp [s2]
  have s4 : A4.heap.size = w.heap.size + 1 + 1 + 1 + 1 := by rw [← hA4]; simp [s3]
  have r1 : A1.heap[w.heap.size]? = some (.cells p.cells 134 (0, 0)) := by rw [← hA1]; exact at_new rfl
  have r2 : A2.heap[w.heap.size + 1]? = some (.cells #[.slice none 0 0] 23 (0, 0)) := by rw [← hA2]; exact at_new s1.symm
  have r3 : A3.heap[w.heap.size + 1 + 1]? = some (.cells (covA cov0) 168 (0, 0)) := by rw [← hA3, ← zc106]; exact at_new s2.symm
  have r4 : A4.heap[w.heap.size + 1 + 1 + 1]? = some (.cells #[.int .i64 (p.bs.length : Int)] 3 (0, 0)) := by rw [← hA4]; exact at_new s3.symm
  have r1' : A3.heap[w.heap.size]? = some (.cells p.cells 134 (0, 0)) := by rw [← hA3, ← hA2]; exact at_old (at_old r1)
  have b3 : Below w.heap.size w A3 := by rw [← hA3, ← hA2, ← hA1]; exact (((Below.refl _ w).alloc (Nat.le_refl _) _).alloc (by simp) _).alloc (by simp; omega) _
  have b4 : Below w.heap.size w A4 := by rw [← hA4]; exact b3.alloc (by rw [s3]; omega) _
  have h0 : trs cov0 = 0 := trs_rep 128
  have hU : UP w.heap.size w A4 p (w.heap.size + 1 + 1 + 1) w.heap.size (w.heap.size + 1 + 1) (w.heap.size + 1) (.slice none 0 0) cov0 (p.bs.length : Int) [] :=
    ⟨b4, Nat.le_refl _, oth_below b4, r4, by rw [← hA4]; exact at_old r1', by rw [← hA4]; exact at_old r3, by rw [← hA4, ← hA3]; exact at_old (at_old r2), List.length_replicate, by rw [h0]; simp, Nums.nil _ _, by omega⟩
  have hcall := callsIn_wide.1 (eachBack_in h hU hp (p.blk : Int) ⟨by omega, by omega⟩)
  have c3 : A3.cell? ⟨w.heap.size, 3, none⟩ = some (.slice p.bp p.bs.length p.bc) := (cells5 r1').2.2.2.1
  have c1 : A4.cell? ⟨w.heap.size, 1, none⟩ = some (.int .i64 (p.blk : Int)) := (cells5 hU.rp).2.1
  have hv : p.v = .agg p.cells := rfl
  have HL : Hid (uppL P p = uppF p (ofB P (p.blk : Int)).reverse (cov0, (p.bs.length : Int)) []) := rfl
  clear hU r1 r2 r3 r4 r1' b3 b4 h0 s4 h
  go_enter Tryz.func103, Tryz.ntmps103
  go_wp2_with (first | (go_at_call 135; refine hcall.mono ?_; rintro _ w5 ⟨rfl, iv', cov', bare', hU5⟩; have c5 : w5.cell? ⟨w.heap.size + 1, 0, none⟩ = some iv' := (by rw [cell_of_row _ _ 0 _ 23 _ hU5.ri]; rfl)))
  go_ret
  refine ⟨iv', rfl, ?_, hU5.bel⟩
  rw [HL.out]
  exact hU5.ids.base (by omega)
end Go.Proofs.YtinigfidofgaiaaGreat.Pt

/- Numbers of the call's own behind one another; uppermost does not look at needs. -/
namespace Go.Proofs.YtinigfidofgaiaaGreat.Pt
open Go.RowKit Go.Maps
set_option maxRecDepth 100000
set_option linter.unusedVariables false

theorem run_append_none (v : Value) {w : World} {B n : Nat} {xs : List Value} (h : w.ownsRow B 3 1 v n xs) (c : Nat) (ty : TypeId) : (Builtin.append_ #[23, 23] ty #[v, .slice none 0 c]).run Tryz.prog w = .ok v w := by
  obtain ⟨i0, hi, hz0, hz1, hz2⟩ := info_parts info3
  have hs := Src.ofNil (P := Tryz.prog) w (size := 1) Tryz.underlying23 c
  rcases h.2 with ⟨rfl, _⟩ | ⟨g, cap, cur, rfl, _, _, h1, _⟩
  · simp [Builtin.append_, run_underlying Tryz.underlying23, sizeOf, typeInfo, hi, hz1, hs.cells, Builtin.lenOf]
  · have := run_append_room_src (P := Tryz.prog) w 23 23 ty 3 i0 Tryz.underlying23 hi g 0 n cap (.slice none 0 c) 0 [] (by rw [hz1]; exact hs) (by omega) (fun j hj => by simp at hj) (fun j hj => by simp at hj)
    rw [this]
    rfl

theorem nums_append {B B2 : Nat} {w : World} {v1 v2 : Value} {A C : List Int} (h1 : Nums B w v1 A) (h2 : Nums B2 w v2 C) (hB : B ≤ w.heap.size) (hl : (A.length + C.length) * 8 ≤ 140737488355328) (ty : TypeId) :
    ∃ v' w', (Builtin.append_ #[23, 23] ty #[v1, v2]).run Tryz.prog w = .ok v' w' ∧ Nums B w' v' (A ++ C) ∧ w.grownBy w' v1.ownBlock ∧ (v'.ownBlock = v1.ownBlock ∨ v'.ownBlock = some w.heap.size) := by
  obtain ⟨i0, hi, hz0, hz1, hz2⟩ := info_parts info3
  rcases h2.2 with ⟨rfl, h0⟩ | ⟨g, cap, cur, e, hBg, hg, hn, hm, hc, ht⟩
  · have : C = [] := List.length_eq_zero_iff.1 h0
    subst this
    exact ⟨v1, w, run_append_none v1 h1 0 ty, by rw [List.append_nil]; exact h1, World.grownBy.refl _ _, .inl rfl⟩
  · subst e
    have hcell : ∀ j u, (C.map (Value.int .i64))[j]? = some u → w.cell? ((⟨g, 0, none⟩ : Addr).add j) = some u := fun j u hu => by
      have hj : j < C.length := by have := (List.getElem?_eq_some_iff.1 hu).1; simpa using this
      have := World.ownsRow.cellAt h2 j (by omega)
      have e : (⟨g, 0, none⟩ : Addr).add j = ⟨g, j, none⟩ := by unfold Addr.add; split <;> simp_all
      rw [e, this]; exact hu
    obtain ⟨v', w', hr, ho, hgr, _, hb⟩ := run_append_own_at (P := Tryz.prog) w B 23 ty 3 i0 (.int .i64 0) 1 8 Tryz.underlying23 hi hz0 hz1 hz2 rfl (by decide) v1 A.length (A.map (Value.int .i64)) h1 ⟨g, 0, none⟩ C.length cap (C.map (Value.int .i64)) (by simp) hcell (fun u hu => by obtain ⟨x, _, rfl⟩ := List.mem_map.1 hu; rfl) (by unfold maxLen; omega) (by omega) hB
    refine ⟨v', w', hr, ?_, hgr, hb⟩
    unfold Nums
    rw [List.length_append, List.map_append]
    exact ho

theorem wp_append {P : Program} {o : Oper} {a : Act} {w w' : World} {K : Act → World → Prop} {Q : Exit → Act → World → Prop} {t u : TypeId} (s x : Operand) (ho : o.op = .call { callee := .builtin .append, args := #[s, x], argTypes := #[t, u] }) {v1 v2 v' : Value}
    (hs : a.eval s = v1) (hx : a.eval x = v2) (hr : (Builtin.append_ #[t, u] o.type #[v1, v2]).run P w = .ok v' w') (h : K (a.put o.dst v') w') : o.wp P a w K Q := by
  unfold Oper.wp execOp
  simp only [ho, resolve, invoke, builtin, Sem.run_bind, Sem.run_pure, Result.andThen_ok, List.map_toArray, List.map_cons, List.map_nil, hs, hx, hr]
  exact h

/-- Two patches of one place. -/
def Sit (p p' : Pv) : Prop := p.blk = p'.blk ∧ p.off = p'.off ∧ p.bs = p'.bs
theorem sit_upS {p p' : Pv} (h : Sit p p') (u : Pv) (s : List Bool × Int) : upS p u s = upS p' u s := by
  unfold upS kP loP endP
  rw [h.2.1, h.2.2]
theorem sit_upI {p p' : Pv} (h : Sit p p') (u : Pv) (s : List Bool × Int) (I : List Int) : upI p u s I = upI p' u s I := by
  unfold upI
  rw [sit_upS h]
theorem sit_uppF {p p' : Pv} (h : Sit p p') : ∀ (l : List Pv) (s : List Bool × Int) (I : List Int), uppF p l s I = uppF p' l s I
  | [], _, _ => rfl
  | u :: l, s, I => by
    unfold uppF
    rw [sit_upS h, sit_upI h, sit_uppF h l]
theorem sit_uppL {p p' : Pv} (h : Sit p p') (P : List Pv) : uppL P p = uppL P p' := by
  unfold uppL
  rw [sit_uppF h, h.1, h.2.2]
end Go.Proofs.YtinigfidofgaiaaGreat.Pt
