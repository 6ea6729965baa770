/- A row of numbers of the call's own that may begin within its block: pushed, cut, searched, compared. -/
import Derived.Test.YtemhhgpgpjiijaaEH
import Derived.ArgAppend
namespace Go.Proofs.Ytemhhgpgpjiijaa
open Go.RowKit Go.Maps
set_option linter.unusedVariables false

def ints (zs : List Int) : List Value := zs.map (Value.int .i64)
theorem ints_len (zs : List Int) : (ints zs).length = zs.length := by simp [ints]
theorem ints_one (zs : List Int) : ∀ u ∈ ints zs, u.oneCell' = true := by
  intro u hu
  obtain ⟨x, _, rfl⟩ := List.mem_map.1 hu
  rfl

theorem row_eq {cs ds : Array Value} (h : cs = ds) : some (Obj.cells cs 3 (0, 0)) = some (Obj.cells ds 3 (0, 0)) := by rw [h]

structure WinA (B : Nat) (w : World) (g : Nat) (pre suf : List Value) (k : Nat) (zs : List Int) : Prop where
  lo : B ≤ g
  row : w.heap[g]? = some (.cells (pre ++ ints zs ++ suf).toArray 3 (0, 0))
  kk : k ≤ suf.length
  cap : zs.length + k ≤ maxLen

/-- v stands for zs. -/
def Win (B : Nat) (w : World) (v : Value) (zs : List Int) : Prop :=
  (v = .slice none 0 0 ∧ zs = []) ∨ ∃ g pre suf k, v = .slice (some ⟨g, pre.length, none⟩) zs.length (zs.length + k) ∧ WinA B w g pre suf k zs

theorem Win.kept {B : Nat} {w w' : World} {v : Value} {zs : List Int} (h : Win B w v zs) (hk : ∀ g cs, v.ownBlock = some g → w.heap[g]? = some (.cells cs 3 (0, 0)) → w'.heap[g]? = w.heap[g]?) : Win B w' v zs := by
  rcases h with h | ⟨g, pre, suf, k, rfl, ha⟩
  · exact .inl h
  · exact .inr ⟨g, pre, suf, k, rfl, ha.lo, (hk g _ rfl ha.row).trans ha.row, ha.kk, ha.cap⟩
theorem Win.later {B : Nat} {w w' : World} {v : Value} {zs : List Int} (h : Win B w v zs) (hb : Below w.heap.size w w') : Win B w' v zs :=
  h.kept fun g cs _ hr => hb.block g (Array.getElem?_eq_some_iff.1 hr).1
theorem Win.lo {B : Nat} {w : World} {v : Value} {zs : List Int} (h : Win B w v zs) : ∀ k, v.ownBlock = some k → B ≤ k ∧ ∃ cs, w.heap[k]? = some (.cells cs 3 (0, 0)) := by
  rcases h with ⟨rfl, _⟩ | ⟨g, pre, suf, k, rfl, ha⟩
  · intro k hk; simp [Value.ownBlock] at hk
  · intro k' hk
    simp [Value.ownBlock] at hk
    subst hk
    exact ⟨ha.lo, _, ha.row⟩

theorem WinA.cell {B : Nat} {w : World} {g : Nat} {pre suf : List Value} {k : Nat} {zs : List Int} (h : WinA B w g pre suf k zs) (i : Nat) (hi : i < zs.length) : w.cell? ⟨g, pre.length + i, none⟩ = some (.int .i64 (zs.getD i 0)) := by
  rw [cell_of_row _ _ _ _ 3 _ h.row]
  rw [List.getElem?_toArray, List.append_assoc, List.getElem?_append_right (by omega), Nat.add_sub_cancel_left, List.getElem?_append_left (by rw [ints_len]; exact hi)]
  simp [ints, List.getD_eq_getElem?_getD, hi]

theorem Win.ii {B : Nat} {w : World} {v : Value} {zs : List Int} (h : Win B w v zs) (h8 : zs.length * 8 ≤ 140737488355328) (hr : ∀ x ∈ zs, -9223372036854775808 ≤ x ∧ x ≤ 9223372036854775807) : ∃ p c, v = .slice p zs.length c ∧ II w p zs.length zs := by
  rcases h with ⟨rfl, rfl⟩ | ⟨g, pre, suf, k, rfl, ha⟩
  · exact ⟨none, 0, rfl, rfl, by simp, by simp, fun h => by simp at h⟩
  · exact ⟨_, _, rfl, rfl, h8, hr, fun _ => ⟨g, pre.length, rfl, fun i hi => ha.cell i hi⟩⟩

theorem info3w : (Try.prog.info? 3).map (fun i => (i.zero, i.size, i.bytes)) = some (some (.int .i64 0), 1, 8) := by kernel_rfl

/-- append where there is room, in the middle of a block. -/
theorem run_append_mid {P : Program} (w : World) (t ty e : TypeId) (i : TypeInfo) (ht : P.underlying t = some (.slice e)) (hi : P.info? e = some i) (h1s : i.size = 1)
    (g off n cap : Nat) (cur : Array Value) (hg : w.heap[g]? = some (.cells cur e (0, 0)))
    (a : Addr) (m c : Nat) (news : List Value) (hl : news.length = m) (hnews : ∀ j u, news[j]? = some u → w.cell? (a.add j) = some u) (h1 : ∀ u ∈ news, u.oneCell' = true)
    (hroom : n + m ≤ cap) (hfit : off + n + news.length ≤ cur.size) :
    (Builtin.append_ #[t, t] ty #[.slice (some ⟨g, off, none⟩) n cap, .slice (some a) m c]).run P w =
      .ok (.slice (some ⟨g, off, none⟩) (n + m) cap) (w.setRow g (cur.toList.take (off + n) ++ news ++ cur.toList.drop (off + n + news.length)).toArray) := by
  have hf := run_firstCells_some (P := P) w 1 m a m c news (by omega) hnews
  have hst := run_storeCells_at P g (off + n) e news 0 cur w hg (by simpa using hfit) h1
  simp only [Nat.add_zero] at hst
  simp [Builtin.append_, run_underlying ht, sizeOf, typeInfo, hi, h1s, Builtin.lenOf, hroom, hf, Addr.add_lit, hst]

theorem WinA.win {B : Nat} {w : World} {g : Nat} {pre suf : List Value} {k : Nat} {zs : List Int} (h : WinA B w g pre suf k zs) : Win B w (.slice (some ⟨g, pre.length, none⟩) zs.length (zs.length + k)) zs := .inr ⟨g, pre, suf, k, rfl, h⟩
/-- Where a number stands first. -/
def Idx (zs : List Int) (x r : Int) : Prop := (x ∉ zs ∧ r = -1) ∨ ∃ i : Nat, r = (i : Int) ∧ i < zs.length ∧ zs.getD i 0 = x ∧ ∀ j, j < i → ¬ zs.getD j 0 = x

set_option maxHeartbeats 400000 in
theorem index_ok (p : Option Addr) (n c : Nat) (xs : List Int) (x : Int) (w : World) (h : II w p n xs) :
    Calls Try.prog 60 #[.slice p n c, .int .i64 x] w fun e w' => ∃ r, e = .returned (.int .i64 r) ∧ Idx xs x r ∧ w' = w := by
  have hl := h.len
  have hg := h.big
  go_enter Try.func60, Try.ntmps60
  go_wp2_with fail
  go_loopw [8] (fun i wr => ∃ j : Nat, j ≤ n ∧ i = .int .i64 (j : Int) ∧ (∀ k, k < j → ¬ xs.getD k 0 = x) ∧ wr = w) (fun i _ => n - (intOf i).toNat)
  case atStart => exact ⟨0, by omega, rfl, fun k hk => by omega, rfl⟩
  case round =>
    obtain ⟨j, hj, rfl, hno, rfl⟩ := hrel
    by_cases hlt : j < n
    · obtain ⟨b1, o1, rfl, hc1⟩ := h.cells (by omega)
      have e1 := hc1 j hlt
      have HN := (show Hid _ from hno)
      clear hc1 hno
      have hjI : (j : Int) < (n : Int) := by omega
      have hj0 : (0 : Int) ≤ (j : Int) := by omega
      by_cases heq : xs.getD j 0 = x
      · have HE := (show Hid _ from heq)
        rw [heq] at e1
        clear heq
        go_wp2
        go_ret
        exact ⟨_, rfl, .inr ⟨j, rfl, by omega, HE.out, HN.out⟩, rfl⟩
      · have HE := (show Hid _ from heq)
        obtain ⟨y, hy⟩ : ∃ y, xs.getD j 0 = y := ⟨_, rfl⟩
        rw [hy] at e1 heq
        have HY := (show Hid _ from hy)
        clear hy
        have hne : ¬ x = y := fun e => heq e.symm
        clear heq
        go_wp2
        go_roundw
        case rel =>
          refine ⟨j + 1, by omega, by go_num, fun k hk => ?_, trivial⟩
          rcases Nat.lt_or_eq_of_le (Nat.le_of_lt_succ hk) with h' | rfl
          · exact HN.out k h'
          · exact HE.out
        case measure => simp [intOf]; omega
    · obtain rfl : j = n := by omega
      have HN := (show Hid _ from hno)
      clear hno
      go_wp2
      go_ret
      refine ⟨_, rfl, .inl ⟨fun hm => ?_, rfl⟩, rfl⟩
      obtain ⟨i, hi, rfl⟩ := List.mem_iff_getElem.1 hm
      exact HN.out i (by omega) (by simp [List.getD_eq_getElem?_getD, hi])
/-- append within a block, from the middle of it, as one step of a region that draws. -/
theorem wpList_clear1 {ops : Array Oper} {rest : List Oper} {o : Oper} {a : Act} {w : World} {Q : Exit → Act → World → Prop} (hgd : o.guard = none) (x : Operand) (hop : o.op = Op.call { callee := Callee.builtin Builtin.clear, args := #[x], argTypes := #[37] })
    (g k c : Nat) (cur : Array Value) (hrow : w.heap[g]? = some (.cells cur 3 (0, 0))) (hx : a.eval x = .slice (some ⟨g, k, none⟩) 1 c) (hfit : k + 1 ≤ cur.size)
    (hK : wpList Try.prog ops Q rest (a.put o.dst (.tuple #[])) (w.setRow g (cur.toList.take k ++ [Value.int .i64 0] ++ cur.toList.drop (k + 1)).toArray)) : wpList Try.prog ops Q (o :: rest) a w := by
  obtain ⟨i0, hi, hz0, hz1, hz2⟩ := info_parts info3w
  exact wpList_clear_row hgd x 37 3 hop Try.underlying37 (.int .i64 0) (by simp [zeroValue, typeInfo, hi, hz0]) (by simp [Value.cells, Value.oneCell']) g k c cur hrow hx (by simpa [Value.cells] using hfit) (by simpa [Value.cells] using hK)

set_option maxRecDepth 10000 in
set_option maxHeartbeats 1000000 in
theorem idelete_core {w : World} {g o P N cap : Nat} {cur : Array Value} (hPN : P ≤ N) (hrow : w.heap[g]? = some (.cells cur 3 (0, 0))) (hNc : N + 1 ≤ cap) (hfit : o + cap ≤ cur.size) (hcm : cap ≤ 9223372036854775807) (h64 : N + 1 ≤ 64)
    (news : List Value) (hn : news.length = N - P) (hcell : ∀ j u, news[j]? = some u → w.cell? ⟨g, o + (P + 1) + j, none⟩ = some u) (h1 : ∀ u ∈ news, u.oneCell' = true)
    (c2 c3 : List Value) (hc2 : cur.toList.take (o + P) ++ news ++ cur.toList.drop (o + P + news.length) = c2) (hl2 : c2.length = cur.size) (hc3 : c2.take (o + N) ++ [.int .i64 0] ++ c2.drop (o + N + 1) = c3) :
    Calls Try.prog 61 #[.slice (some ⟨g, o, none⟩) (N + 1) cap, .int .i64 (P : Int), .int .i64 ((P : Int) + 1)] w fun e w' => e = .returned (.slice (some ⟨g, o, none⟩) N cap) ∧ w'.heap[g]? = some (.cells c3.toArray 3 (0, 0)) ∧ w.grownBy w' (some g) := by
  obtain ⟨i0, hi0, hz0, hz1, hz2⟩ := info_parts info3w
  obtain ⟨A, hA, hnews⟩ : ∃ A : Addr, (if cap = P + 1 then some (⟨g, o, none⟩ : Addr) else some ⟨g, o + (P + 1), none⟩) = some A ∧ (∀ j u, news[j]? = some u → w.drew.cell? (A.add j) = some u) := by
    by_cases hc : cap = P + 1
    · refine ⟨⟨g, o, none⟩, by simp [hc], fun j u hu => ?_⟩
      have : news.length = 0 := by omega
      have := (List.getElem?_eq_some_iff.1 hu).1
      omega
    · refine ⟨⟨g, o + (P + 1), none⟩, by simp [hc], fun j u hu => ?_⟩
      rw [Addr.add_mid]
      exact hcell j u hu
  have hrd : w.drew.heap[g]? = some (.cells cur 3 (0, 0)) := hrow
  have hik : P + (N - P) = N := by omega
  have hr := fun c ty => run_append_mid (P := Try.prog) w.drew 37 ty 3 i0 Try.underlying37 hi0 hz1 g o P cap cur hrd A (N - P) c news hn hnews h1 (by omega) (by omega)
  rw [hc2] at hr
  have HR := (show Hid _ from hr)
  have hr2 : (w.drew.setRow g c2.toArray).heap[g]? = some (.cells c2.toArray 3 (0, 0)) := setRow_heap _ g cur _ 3 _ hrow
  have hck : ¬ cap = N := by omega
  have hwr : IntKind.i64.wrap ((P : Int) + 1) = (P : Int) + 1 := by rw [IntKind.wrap_i64]; omega
  have hp0 : (0 : Int) ≤ (P : Int) + 1 := by omega
  have hp1 : (P : Int) + 1 ≤ (N : Int) + 1 := by omega
  have hic : P ≤ cap := by omega
  have hp2 : ((P : Int) + 1).toNat = P + 1 := by omega
  have hp3 : (N : Int) + 1 ≤ (cap : Int) := by omega
  have hne : ¬ (P : Int) = (P : Int) + 1 := by omega
  clear hnews hrd hrow hcell h1 hr hc2
  go_enter Try.func61, Try.ntmps61
  go_wp2_with fail
  go_region_law (refine step_append_run rfl (.tmp 22) (.tmp 25) 37 37 rfl (.slice (some ⟨g, o, none⟩) P cap) (.slice (some A) (N - P) (cap - (P + 1))) (by simp [Act.eval, Act.put]) (by simp [Act.eval, Act.put]) _ _ (HR.out _ _) ?_)
  clear HR hA
  go_wp2_with (refine wpList_clear1 rfl _ rfl g (o + N) (cap - N) c2.toArray hr2 rfl (by simp [hl2]; omega) ?_)
  go_ret
  refine ⟨rfl, ?_, ?_⟩
  · refine (setRow_heap _ g _ _ 3 _ hr2).trans (row_eq ?_)
    rw [← hc3]
  · exact ⟨rfl, rfl, rfl, by simp, fun j _ hj => by
      rw [setRow_other _ g j _ (fun e => hj (by rw [e])), setRow_other _ g j _ (fun e => hj (by rw [e]))]; rfl⟩

theorem idelete_ok {B : Nat} {w : World} {g : Nat} {pre suf : List Value} {k : Nat} {p q : List Int} {y : Int} (h : WinA B w g pre suf k (p ++ y :: q)) (h64 : (p ++ y :: q).length ≤ 64) :
    Calls Try.prog 61 #[.slice (some ⟨g, pre.length, none⟩) (p ++ y :: q).length ((p ++ y :: q).length + k), .int .i64 (p.length : Int), .int .i64 ((p.length : Int) + 1)] w fun e w' => (∃ v, e = .returned v ∧ v.ownBlock = some g ∧ Win B w' v (p ++ q)) ∧ w.grownBy w' (some g) := by
  have hcm := h.cap
  have hkk := h.kk
  have hln : (p ++ y :: q).length = (p.length + q.length) + 1 := by simp; omega
  unfold maxLen at hcm
  obtain ⟨z, hz⟩ : ∃ z, (ints (p ++ y :: q)).drop (p.length + q.length) = [z] := by
    have : ((ints (p ++ y :: q)).drop (p.length + q.length)).length = 1 := by rw [List.length_drop, ints_len]; omega
    exact List.length_eq_one_iff.1 this
  have hcore := idelete_core (w := w) (g := g) (o := pre.length) (P := p.length) (N := p.length + q.length) (cap := (p ++ y :: q).length + k) (by omega) h.row (by omega) (by simp [ints_len]; omega) (by omega) (by omega) (ints q) (by rw [ints_len]; omega) (by
      intro j u hu
      have hj := (List.getElem?_eq_some_iff.1 hu).1
      rw [ints_len] at hj
      rw [Nat.add_assoc, h.cell (p.length + 1 + j) (by omega), ← hu, List.getD_eq_getElem?_getD, List.getElem?_append_right (by omega), show p.length + 1 + j - p.length = j + 1 by omega]
      simp [ints, hj]) (ints_one q)
    (pre ++ ints (p ++ q) ++ z :: suf) (pre ++ ints (p ++ q) ++ .int .i64 0 :: suf)
    (by
      show _ = _
      have e1 : (pre ++ ints (p ++ y :: q) ++ suf).take (pre.length + p.length) = pre ++ ints p := by
        rw [show pre ++ ints (p ++ y :: q) ++ suf = (pre ++ ints p) ++ (ints (y :: q) ++ suf) by simp [ints]]
        exact List.take_left' (by simp [ints_len])
      have e2 : (pre ++ ints (p ++ y :: q) ++ suf).drop (pre.length + p.length + (ints q).length) = z :: suf := by
        rw [ints_len, Nat.add_assoc, List.append_assoc, ← List.drop_drop, List.drop_left, List.drop_append_of_le_length (by rw [ints_len]; omega), hz]
        rfl
      rw [e1, e2]
      simp [ints])
    (by simp [ints_len]; omega)
    (by
      have hl : (pre ++ ints (p ++ q)).length = pre.length + (p.length + q.length) := by simp [ints_len]
      rw [List.take_left' hl, show pre ++ ints (p ++ q) ++ z :: suf = (pre ++ ints (p ++ q) ++ [z]) ++ suf by simp, List.drop_left' (by rw [List.length_append, hl]; rfl)]
      simp)
  rw [← hln] at hcore
  refine hcore.mono ?_
  rintro e w' ⟨rfl, hr, hg⟩
  refine ⟨⟨_, rfl, rfl, .inr ⟨g, pre, .int .i64 0 :: suf, k + 1, ?_, h.lo, hr, by simp; omega, by unfold maxLen; simp; omega⟩⟩, hg⟩
  rw [hln, List.length_append]
  congr 1
  omega
end Go.Proofs.Ytemhhgpgpjiijaa
