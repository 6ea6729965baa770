/- A row of numbers of the call's own that may begin within its block: pushed, cut, searched, compared. -/
import Derived.Test.YtliljdencaocaaaBoth
import Derived.ArgAppend
namespace Go.Proofs.Ytliljdencaocaaa
open Go.RowKit Go.Maps
set_option linter.unusedVariables false

/-- A call of a cache, as it is handed in. -/
structure KV where
  op : Int
  b : Int
  n : Int
  bytes : List Int
/-- A call's four cells. -/
structure KAt (w : World) (b o : Nat) (x : KV) : Prop where
  c0 : w.cell? ⟨b, o, none⟩ = some (.int .i64 x.op)
  c1 : w.cell? ⟨b, o + 1, none⟩ = some (.int .i64 x.b)
  c2 : w.cell? ⟨b, o + 2, none⟩ = some (.int .i64 x.n)
  c3 : ∃ p m c, w.cell? ⟨b, o + 3, none⟩ = some (.slice p m c) ∧ m ≤ c ∧ c ≤ 9223372036854775807 ∧ BI w p m x.bytes
  r0 : -9223372036854775808 ≤ x.op ∧ x.op ≤ 9223372036854775807
  r1 : -9223372036854775808 ≤ x.b ∧ x.b ≤ 9223372036854775807
  r2 : -9223372036854775808 ≤ x.n ∧ x.n ≤ 9223372036854775807
/-- The slice at p, of n calls, holds D. -/
structure KI (w : World) (p : Option Addr) (n : Nat) (D : List KV) : Prop where
  len : D.length = n
  big : n ≤ 140737488355328
  cells : 0 < n → ∃ b o, p = some ⟨b, o, none⟩ ∧ ∀ i x, D[i]? = some x → KAt w b (o + i * 4) x
theorem KAt.kept {w w' : World} {b o : Nat} {x : KV} (h : KAt w b o x) (hb : Below w.heap.size w w') : KAt w' b o x := by
  have hlt := lt_of_cell h.c0
  have hk : ∀ j, w'.cell? ⟨b, j, none⟩ = w.cell? ⟨b, j, none⟩ := fun j => hb.cell (p := ⟨b, j, none⟩) hlt
  refine ⟨(hk _).trans h.c0, (hk _).trans h.c1, (hk _).trans h.c2, ?_, h.r0, h.r1, h.r2⟩
  obtain ⟨p, m, c, e, r1, r2, r3⟩ := h.c3
  exact ⟨p, m, c, (hk _).trans e, r1, r2, r3.kept hb⟩

def ints (zs : List Int) : List Value := zs.map (Value.int .i64)
theorem ints_len (zs : List Int) : (ints zs).length = zs.length := by simp [ints]
theorem ints_one (zs : List Int) : ∀ u ∈ ints zs, u.oneCell' = true := by
  intro u hu
  obtain ⟨x, _, rfl⟩ := List.mem_map.1 hu
  rfl

theorem row_eq {cs ds : Array Value} (h : cs = ds) : some (Obj.cells cs 3 (0, 0)) = some (Obj.cells ds 3 (0, 0)) := by rw [h]

structure WinA (B : Nat) (w : World) (g : Nat) (pre suf : List Value) (k : Nat) (zs : List Int) : Prop where
  lo : B ≤ g
  row : w.heap[g]? = some (.cells (pre ++ ints zs ++ suf).toArray 3 (0, 0))
  kk : k ≤ suf.length
  cap : zs.length + k ≤ maxLen

/-- v stands for zs. -/
def Win (B : Nat) (w : World) (v : Value) (zs : List Int) : Prop :=
  (v = .slice none 0 0 ∧ zs = []) ∨ ∃ g pre suf k, v = .slice (some ⟨g, pre.length, none⟩) zs.length (zs.length + k) ∧ WinA B w g pre suf k zs

theorem Win.kept {B : Nat} {w w' : World} {v : Value} {zs : List Int} (h : Win B w v zs) (hk : ∀ g cs, v.ownBlock = some g → w.heap[g]? = some (.cells cs 3 (0, 0)) → w'.heap[g]? = w.heap[g]?) : Win B w' v zs := by
  rcases h with h | ⟨g, pre, suf, k, rfl, ha⟩
  · exact .inl h
  · exact .inr ⟨g, pre, suf, k, rfl, ha.lo, (hk g _ rfl ha.row).trans ha.row, ha.kk, ha.cap⟩
theorem Win.later {B : Nat} {w w' : World} {v : Value} {zs : List Int} (h : Win B w v zs) (hb : Below w.heap.size w w') : Win B w' v zs :=
  h.kept fun g cs _ hr => hb.block g (Array.getElem?_eq_some_iff.1 hr).1
theorem Win.lo {B : Nat} {w : World} {v : Value} {zs : List Int} (h : Win B w v zs) : ∀ k, v.ownBlock = some k → B ≤ k ∧ ∃ cs, w.heap[k]? = some (.cells cs 3 (0, 0)) := by
  rcases h with ⟨rfl, _⟩ | ⟨g, pre, suf, k, rfl, ha⟩
  · intro k hk; simp [Value.ownBlock] at hk
  · intro k' hk
    simp [Value.ownBlock] at hk
    subst hk
    exact ⟨ha.lo, _, ha.row⟩

theorem WinA.cell {B : Nat} {w : World} {g : Nat} {pre suf : List Value} {k : Nat} {zs : List Int} (h : WinA B w g pre suf k zs) (i : Nat) (hi : i < zs.length) : w.cell? ⟨g, pre.length + i, none⟩ = some (.int .i64 (zs.getD i 0)) := by
  rw [cell_of_row _ _ _ _ 3 _ h.row]
  rw [List.getElem?_toArray, List.append_assoc, List.getElem?_append_right (by omega), Nat.add_sub_cancel_left, List.getElem?_append_left (by rw [ints_len]; exact hi)]
  simp [ints, List.getD_eq_getElem?_getD, hi]

theorem Win.ii {B : Nat} {w : World} {v : Value} {zs : List Int} (h : Win B w v zs) (h8 : zs.length * 8 ≤ 140737488355328) (hr : ∀ x ∈ zs, -9223372036854775808 ≤ x ∧ x ≤ 9223372036854775807) : ∃ p c, v = .slice p zs.length c ∧ II w p zs.length zs := by
  rcases h with ⟨rfl, rfl⟩ | ⟨g, pre, suf, k, rfl, ha⟩
  · exact ⟨none, 0, rfl, rfl, by simp, by simp, fun h => by simp at h⟩
  · exact ⟨_, _, rfl, rfl, h8, hr, fun _ => ⟨g, pre.length, rfl, fun i hi => ha.cell i hi⟩⟩

theorem info3w : (Try.prog.info? 3).map (fun i => (i.zero, i.size, i.bytes)) = some (some (.int .i64 0), 1, 8) := by kernel_rfl

/-- append where there is room, in the middle of a block. -/
theorem run_append_mid {P : Program} (w : World) (t ty e : TypeId) (i : TypeInfo) (ht : P.underlying t = some (.slice e)) (hi : P.info? e = some i) (h1s : i.size = 1)
    (g off n cap : Nat) (cur : Array Value) (hg : w.heap[g]? = some (.cells cur e (0, 0)))
    (a : Addr) (m c : Nat) (news : List Value) (hl : news.length = m) (hnews : ∀ j u, news[j]? = some u → w.cell? (a.add j) = some u) (h1 : ∀ u ∈ news, u.oneCell' = true)
    (hroom : n + m ≤ cap) (hfit : off + n + news.length ≤ cur.size) :
    (Builtin.append_ #[t, t] ty #[.slice (some ⟨g, off, none⟩) n cap, .slice (some a) m c]).run P w =
      .ok (.slice (some ⟨g, off, none⟩) (n + m) cap) (w.setRow g (cur.toList.take (off + n) ++ news ++ cur.toList.drop (off + n + news.length)).toArray) := by
  have hf := run_firstCells_some (P := P) w 1 m a m c news (by omega) hnews
  have hst := run_storeCells_at P g (off + n) e news 0 cur w hg (by simpa using hfit) h1
  simp only [Nat.add_zero] at hst
  simp [Builtin.append_, run_underlying ht, sizeOf, typeInfo, hi, h1s, Builtin.lenOf, hroom, hf, Addr.add_lit, hst]

theorem run_push {B : Nat} {w : World} {v : Value} {zs : List Int} (ty : TypeId) (h : Win B w v zs) (hB : B ≤ w.heap.size) (h8 : zs.length ≤ 4096) (a : Addr) (x : Int) (hx : w.cell? a = some (.int .i64 x)) :
    ∃ v' w', (Builtin.append_ #[34, 34] ty #[v, .slice (some a) 1 1]).run Try.prog w = .ok v' w' ∧ Win B w' v' (zs ++ [x]) ∧ w.grownBy w' v.ownBlock ∧ ∃ p c, v' = .slice (some p) (zs.length + 1) c := by
  obtain ⟨i0, hi, hz0, hz1, hz2⟩ := info_parts info3w
  have hnews : ∀ j u, [Value.int .i64 x][j]? = some u → w.cell? (a.add j) = some u := by
    intro j u hu
    cases j with
    | zero =>
      have e : a.add 0 = a := by unfold Addr.add; split <;> simp_all
      rw [e, hx]; simpa using hu
    | succ j => simp at hu
  rcases h with ⟨rfl, rfl⟩ | ⟨g, pre, suf, k, rfl, ha⟩
  · obtain ⟨v', w', hr, hown, hg, _⟩ := run_append_own (P := Try.prog) w B 34 ty 3 i0 (.int .i64 0) 1 8 Try.underlying34 hi hz0 hz1 hz2 rfl (by decide) (.slice none 0 0) 0 [] (World.ownsRow_nil w B 3 1) a 1 1 [.int .i64 x] rfl hnews (by simp [Value.oneCell']) (by unfold maxLen; omega) (by omega) hB
    refine ⟨v', w', hr, ?_, hg, ?_⟩
    · rcases hown.2 with ⟨_, h0⟩ | ⟨g, cap, cur, rfl, hBg, hgr, hc, hcm, hcs, htk⟩
      · omega
      · refine .inr ⟨g, [], cur.toList.drop 1, cap - 1, by simp; omega, hBg, ?_, by simp; omega, by simp; omega⟩
        refine hgr.trans (row_eq ?_)
        apply Array.ext'
        simp only [List.nil_append]
        conv => lhs; rw [← List.take_append_drop 1 cur.toList]
        rw [show cur.toList.take 1 = [.int .i64 x] by simpa using htk]
        rfl
    · rcases hown.2 with ⟨_, h0⟩ | ⟨g, cap, cur, rfl, _⟩
      · omega
      · exact ⟨_, _, rfl⟩
  · by_cases hk : 1 ≤ k
    · obtain ⟨s, suf', rfl⟩ : ∃ s suf', suf = s :: suf' := by
        cases suf with
        | nil => have := ha.kk; simp at this; omega
        | cons s r => exact ⟨s, r, rfl⟩
      have hk1 := ha.kk
      have hcp := ha.cap
      simp only [List.length_cons] at hk1
      have hl0 : (pre ++ ints zs).length = pre.length + zs.length := by simp [ints_len]
      have hr := run_append_mid (P := Try.prog) w 34 ty 3 i0 Try.underlying34 hi hz1 g pre.length zs.length (zs.length + k) _ ha.row a 1 1 [.int .i64 x] rfl hnews (by simp [Value.oneCell']) (by omega) (by simp [ints_len]; omega)
      refine ⟨_, _, hr, .inr ⟨g, pre, suf', k - 1, by simp; omega, ha.lo, ?_, by omega, by simp; omega⟩, ⟨rfl, rfl, rfl, by simp, fun j _ hj => setRow_other w g j _ (fun e => hj (by simp [Value.ownBlock, e]))⟩, _, _, rfl⟩
      refine (setRow_heap _ g _ _ 3 _ ha.row).trans (row_eq ?_)
      apply Array.ext'
      show _ = _
      rw [List.take_left' hl0, show (pre ++ ints zs ++ s :: suf').drop (pre.length + zs.length + [Value.int .i64 x].length) = suf' by
        rw [show pre ++ ints zs ++ s :: suf' = (pre ++ ints zs ++ [s]) ++ suf' by simp]
        exact List.drop_left' (by simp [ints_len]; omega)]
      simp [ints]
    · obtain rfl : k = 0 := by omega
      obtain ⟨v', w', hr, hown, hg⟩ := run_append_arg_grows (P := Try.prog) w 34 ty 3 i0 (.int .i64 0) 1 8 Try.underlying34 hi hz0 hz1 hz2 rfl (by decide) ⟨g, pre.length, none⟩ zs.length (zs.length + 0) (ints zs) (by simp [ints_len]) (by
        intro j u hu
        have hj : j < zs.length := by have := (List.getElem?_eq_some_iff.1 hu).1; rwa [ints_len] at this
        rw [Addr.add_mid, ha.cell j hj, ← hu]
        simp [ints, List.getD_eq_getElem?_getD, hj]) a 1 1 [.int .i64 x] rfl hnews (by omega) (by unfold maxLen; omega) (by omega)
      refine ⟨v', w', hr, ?_, ⟨hg.os, hg.tape, hg.output, hg.size, fun j hj _ => hg.block j hj (by simp)⟩, ?_⟩
      · rcases hown.2 with ⟨_, h0⟩ | ⟨g', cap, cur, rfl, hBg, hgr, hc, hcm, hcs, htk⟩
        · omega
        · refine .inr ⟨g', [], cur.toList.drop (zs.length + 1), cap - (zs.length + 1), by simp; omega, by omega, ?_, by simp; omega, by simp; omega⟩
          refine hgr.trans (row_eq ?_)
          apply Array.ext'
          simp only [List.nil_append]
          conv => lhs; rw [← List.take_append_drop (zs.length + 1) cur.toList]
          rw [show cur.toList.take (zs.length + 1) = ints (zs ++ [x]) by simpa [ints] using htk]
      · rcases hown.2 with ⟨_, h0⟩ | ⟨g, cap, cur, rfl, _⟩
        · omega
        · exact ⟨_, _, rfl⟩

theorem wpList_push {ops : Array Oper} {rest : List Oper} {o : Oper} {ac : Act} {Q : Exit → Act → World → Prop} (hgd : o.guard = none) (s x : Operand)
    (ho : o.op = .call { callee := .builtin .append, args := #[s, x], argTypes := #[34, 34] }) {B : Nat} {w : World} {v : Value} {zs : List Int} (h : Win B w v zs) (hB : B ≤ w.heap.size) (h8 : zs.length ≤ 4096) (a : Addr) (y : Int) (hy : w.cell? a = some (.int .i64 y))
    (hs : ac.eval s = v) (hx : ac.eval x = .slice (some a) 1 1)
    (hK : ∀ g pre suf k w', WinA B w' g pre suf k (zs ++ [y]) → w.grownBy w' v.ownBlock → wpList Try.prog ops Q rest (ac.put o.dst (.slice (some ⟨g, pre.length, none⟩) (zs.length + 1) (zs.length + 1 + k))) w') : wpList Try.prog ops Q (o :: rest) ac w := by
  obtain ⟨v', w', hr, hW, hg, p, c, rfl⟩ := run_push o.type h hB h8 a y hy
  rcases hW with ⟨e, _⟩ | ⟨g, pre, suf, k, e, ha⟩
  · cases e
  · rw [e] at hr
    rw [List.length_append] at hr
    exact wpList_plain hgd fun _ hK' => Lib.wp_append_run w s x 34 34 ho v _ hs hx _ w' hr (hK' _ _ (hK g pre suf k w' ha hg))

theorem WinA.win {B : Nat} {w : World} {g : Nat} {pre suf : List Value} {k : Nat} {zs : List Int} (h : WinA B w g pre suf k zs) : Win B w (.slice (some ⟨g, pre.length, none⟩) zs.length (zs.length + k)) zs := .inr ⟨g, pre, suf, k, rfl, h⟩
theorem WinA.tail {B : Nat} {w : World} {g : Nat} {pre suf : List Value} {k : Nat} {y : Int} {zs : List Int} (h : WinA B w g pre suf k (y :: zs)) : Win B w (.slice (some ⟨g, pre.length + 1, none⟩) zs.length (zs.length + k)) zs :=
  .inr ⟨g, pre ++ [.int .i64 y], suf, k, by simp, h.lo, by rw [h.row]; exact row_eq (by simp [ints]), h.kk, by have := h.cap; simp at this; omega⟩

set_option maxHeartbeats 400000 in
theorem iequal_same (p1 p2 : Option Addr) (n c1 c2 : Nat) (xs : List Int) (w : World) (h1 : II w p1 n xs) (h2 : II w p2 n xs) :
    Calls Try.prog 10 #[.slice p1 n c1, .slice p2 n c2] w fun e w' => e = .returned (.bool true) ∧ Below w.heap.size w w' := by
  have hl := h1.len
  have hg := h1.big
  go_enter Try.func10, Try.ntmps10
  go_wp2_with fail
  go_loopw [13] (fun i wr => ∃ j : Nat, j ≤ n ∧ i = .int .i64 (j : Int) ∧ Below w.heap.size w wr) (fun i _ => n - (intOf i).toNat)
  case atStart => exact ⟨0, by omega, rfl, Below.refl _ _⟩
  case round =>
    obtain ⟨j, hj, rfl, hb⟩ := hrel
    by_cases hlt : j < n
    · obtain ⟨b1, o1, rfl, hc1⟩ := (h1.kept hb).cells (by omega)
      obtain ⟨b2, o2, rfl, hc2⟩ := (h2.kept hb).cells (by omega)
      have e1 := hc1 j hlt
      have e2 := hc2 j hlt
      clear hc1 hc2
      generalize xs.getD j 0 = y at e1 e2
      have hjI : (j : Int) < (n : Int) := by omega
      have hj0 : (0 : Int) ≤ (j : Int) := by omega
      go_wp2_with fail
      go_quiet (fail)
      go_wp2
      go_roundw
      case rel => exact ⟨j + 1, by omega, by go_num, below_drewN hb _⟩
      case measure => simp [intOf]; omega
    · obtain rfl : j = n := by omega
      go_wp2
      go_ret
      exact ⟨rfl, hb⟩

/-- Where a number stands first. -/
def Idx (zs : List Int) (x r : Int) : Prop := (x ∉ zs ∧ r = -1) ∨ ∃ i : Nat, r = (i : Int) ∧ i < zs.length ∧ zs.getD i 0 = x ∧ ∀ j, j < i → ¬ zs.getD j 0 = x

set_option maxHeartbeats 400000 in
theorem index_ok (p : Option Addr) (n c : Nat) (xs : List Int) (x : Int) (w : World) (h : II w p n xs) :
    Calls Try.prog 28 #[.slice p n c, .int .i64 x] w fun e w' => ∃ r, e = .returned (.int .i64 r) ∧ Idx xs x r ∧ w' = w := by
  have hl := h.len
  have hg := h.big
  go_enter Try.func28, Try.ntmps28
  go_wp2_with fail
  go_loopw [8] (fun i wr => ∃ j : Nat, j ≤ n ∧ i = .int .i64 (j : Int) ∧ (∀ k, k < j → ¬ xs.getD k 0 = x) ∧ wr = w) (fun i _ => n - (intOf i).toNat)
  case atStart => exact ⟨0, by omega, rfl, fun k hk => by omega, rfl⟩
  case round =>
    obtain ⟨j, hj, rfl, hno, rfl⟩ := hrel
    by_cases hlt : j < n
    · obtain ⟨b1, o1, rfl, hc1⟩ := h.cells (by omega)
      have e1 := hc1 j hlt
      have HN := (show Hid _ from hno)
      clear hc1 hno
      have hjI : (j : Int) < (n : Int) := by omega
      have hj0 : (0 : Int) ≤ (j : Int) := by omega
      by_cases heq : xs.getD j 0 = x
      · have HE := (show Hid _ from heq)
        rw [heq] at e1
        clear heq
        go_wp2
        go_ret
        exact ⟨_, rfl, .inr ⟨j, rfl, by omega, HE.out, HN.out⟩, rfl⟩
      · have HE := (show Hid _ from heq)
        obtain ⟨y, hy⟩ : ∃ y, xs.getD j 0 = y := ⟨_, rfl⟩
        rw [hy] at e1 heq
        have HY := (show Hid _ from hy)
        clear hy
        have hne : ¬ x = y := fun e => heq e.symm
        clear heq
        go_wp2
        go_roundw
        case rel =>
          refine ⟨j + 1, by omega, by go_num, fun k hk => ?_, trivial⟩
          rcases Nat.lt_or_eq_of_le (Nat.le_of_lt_succ hk) with h' | rfl
          · exact HN.out k h'
          · exact HE.out
        case measure => simp [intOf]; omega
    · obtain rfl : j = n := by omega
      have HN := (show Hid _ from hno)
      clear hno
      go_wp2
      go_ret
      refine ⟨_, rfl, .inl ⟨fun hm => ?_, rfl⟩, rfl⟩
      obtain ⟨i, hi, rfl⟩ := List.mem_iff_getElem.1 hm
      exact HN.out i (by omega) (by simp [List.getD_eq_getElem?_getD, hi])
/-- append within a block, from the middle of it, as one step of a region that draws. -/
theorem wpList_clear1 {ops : Array Oper} {rest : List Oper} {o : Oper} {a : Act} {w : World} {Q : Exit → Act → World → Prop} (hgd : o.guard = none) (x : Operand) (hop : o.op = Op.call { callee := Callee.builtin Builtin.clear, args := #[x], argTypes := #[34] })
    (g k c : Nat) (cur : Array Value) (hrow : w.heap[g]? = some (.cells cur 3 (0, 0))) (hx : a.eval x = .slice (some ⟨g, k, none⟩) 1 c) (hfit : k + 1 ≤ cur.size)
    (hK : wpList Try.prog ops Q rest (a.put o.dst (.tuple #[])) (w.setRow g (cur.toList.take k ++ [Value.int .i64 0] ++ cur.toList.drop (k + 1)).toArray)) : wpList Try.prog ops Q (o :: rest) a w := by
  obtain ⟨i0, hi, hz0, hz1, hz2⟩ := info_parts info3w
  exact wpList_clear_row hgd x 34 3 hop Try.underlying34 (.int .i64 0) (by simp [zeroValue, typeInfo, hi, hz0]) (by simp [Value.cells, Value.oneCell']) g k c cur hrow hx (by simpa [Value.cells] using hfit) (by simpa [Value.cells] using hK)

set_option maxRecDepth 10000 in
set_option maxHeartbeats 1000000 in
theorem idelete_core {w : World} {g o P N cap : Nat} {cur : Array Value} (hPN : P ≤ N) (hrow : w.heap[g]? = some (.cells cur 3 (0, 0))) (hNc : N + 1 ≤ cap) (hfit : o + cap ≤ cur.size) (hcm : cap ≤ 9223372036854775807) (h64 : N + 1 ≤ 64)
    (news : List Value) (hn : news.length = N - P) (hcell : ∀ j u, news[j]? = some u → w.cell? ⟨g, o + (P + 1) + j, none⟩ = some u) (h1 : ∀ u ∈ news, u.oneCell' = true)
    (c2 c3 : List Value) (hc2 : cur.toList.take (o + P) ++ news ++ cur.toList.drop (o + P + news.length) = c2) (hl2 : c2.length = cur.size) (hc3 : c2.take (o + N) ++ [.int .i64 0] ++ c2.drop (o + N + 1) = c3) :
    Calls Try.prog 29 #[.slice (some ⟨g, o, none⟩) (N + 1) cap, .int .i64 (P : Int), .int .i64 ((P : Int) + 1)] w fun e w' => e = .returned (.slice (some ⟨g, o, none⟩) N cap) ∧ w'.heap[g]? = some (.cells c3.toArray 3 (0, 0)) ∧ w.grownBy w' (some g) := by
  obtain ⟨i0, hi0, hz0, hz1, hz2⟩ := info_parts info3w
  obtain ⟨A, hA, hnews⟩ : ∃ A : Addr, (if cap = P + 1 then some (⟨g, o, none⟩ : Addr) else some ⟨g, o + (P + 1), none⟩) = some A ∧ (∀ j u, news[j]? = some u → w.drew.cell? (A.add j) = some u) := by
    by_cases hc : cap = P + 1
    · refine ⟨⟨g, o, none⟩, by simp [hc], fun j u hu => ?_⟩
      have : news.length = 0 := by omega
      have := (List.getElem?_eq_some_iff.1 hu).1
      omega
    · refine ⟨⟨g, o + (P + 1), none⟩, by simp [hc], fun j u hu => ?_⟩
      rw [Addr.add_mid]
      exact hcell j u hu
  have hrd : w.drew.heap[g]? = some (.cells cur 3 (0, 0)) := hrow
  have hik : P + (N - P) = N := by omega
  have hr := fun c ty => run_append_mid (P := Try.prog) w.drew 34 ty 3 i0 Try.underlying34 hi0 hz1 g o P cap cur hrd A (N - P) c news hn hnews h1 (by omega) (by omega)
  rw [hc2] at hr
  have HR := (show Hid _ from hr)
  have hr2 : (w.drew.setRow g c2.toArray).heap[g]? = some (.cells c2.toArray 3 (0, 0)) := setRow_heap _ g cur _ 3 _ hrow
  have hck : ¬ cap = N := by omega
  have hwr : IntKind.i64.wrap ((P : Int) + 1) = (P : Int) + 1 := by rw [IntKind.wrap_i64]; omega
  have hp0 : (0 : Int) ≤ (P : Int) + 1 := by omega
  have hp1 : (P : Int) + 1 ≤ (N : Int) + 1 := by omega
  have hic : P ≤ cap := by omega
  have hp2 : ((P : Int) + 1).toNat = P + 1 := by omega
  have hp3 : (N : Int) + 1 ≤ (cap : Int) := by omega
  have hne : ¬ (P : Int) = (P : Int) + 1 := by omega
  clear hnews hrd hrow hcell h1 hr hc2
  go_enter Try.func29, Try.ntmps29
  go_wp2_with fail
  go_region_law (refine step_append_run rfl (.tmp 22) (.tmp 25) 34 34 rfl (.slice (some ⟨g, o, none⟩) P cap) (.slice (some A) (N - P) (cap - (P + 1))) (by simp [Act.eval, Act.put]) (by simp [Act.eval, Act.put]) _ _ (HR.out _ _) ?_)
  clear HR hA
  go_wp2_with (refine wpList_clear1 rfl _ rfl g (o + N) (cap - N) c2.toArray hr2 rfl (by simp [hl2]; omega) ?_)
  go_ret
  refine ⟨rfl, ?_, ?_⟩
  · refine (setRow_heap _ g _ _ 3 _ hr2).trans (row_eq ?_)
    rw [← hc3]
  · exact ⟨rfl, rfl, rfl, by simp, fun j _ hj => by
      rw [setRow_other _ g j _ (fun e => hj (by rw [e])), setRow_other _ g j _ (fun e => hj (by rw [e]))]; rfl⟩

theorem idelete_ok {B : Nat} {w : World} {g : Nat} {pre suf : List Value} {k : Nat} {p q : List Int} {y : Int} (h : WinA B w g pre suf k (p ++ y :: q)) (h64 : (p ++ y :: q).length ≤ 64) :
    Calls Try.prog 29 #[.slice (some ⟨g, pre.length, none⟩) (p ++ y :: q).length ((p ++ y :: q).length + k), .int .i64 (p.length : Int), .int .i64 ((p.length : Int) + 1)] w fun e w' => (∃ v, e = .returned v ∧ v.ownBlock = some g ∧ Win B w' v (p ++ q)) ∧ w.grownBy w' (some g) := by
  have hcm := h.cap
  have hkk := h.kk
  have hln : (p ++ y :: q).length = (p.length + q.length) + 1 := by simp; omega
  unfold maxLen at hcm
  obtain ⟨z, hz⟩ : ∃ z, (ints (p ++ y :: q)).drop (p.length + q.length) = [z] := by
    have : ((ints (p ++ y :: q)).drop (p.length + q.length)).length = 1 := by rw [List.length_drop, ints_len]; omega
    exact List.length_eq_one_iff.1 this
  have hcore := idelete_core (w := w) (g := g) (o := pre.length) (P := p.length) (N := p.length + q.length) (cap := (p ++ y :: q).length + k) (by omega) h.row (by omega) (by simp [ints_len]; omega) (by omega) (by omega) (ints q) (by rw [ints_len]; omega) (by
      intro j u hu
      have hj := (List.getElem?_eq_some_iff.1 hu).1
      rw [ints_len] at hj
      rw [Nat.add_assoc, h.cell (p.length + 1 + j) (by omega), ← hu, List.getD_eq_getElem?_getD, List.getElem?_append_right (by omega), show p.length + 1 + j - p.length = j + 1 by omega]
      simp [ints, hj]) (ints_one q)
    (pre ++ ints (p ++ q) ++ z :: suf) (pre ++ ints (p ++ q) ++ .int .i64 0 :: suf)
    (by
      show _ = _
      have e1 : (pre ++ ints (p ++ y :: q) ++ suf).take (pre.length + p.length) = pre ++ ints p := by
        rw [show pre ++ ints (p ++ y :: q) ++ suf = (pre ++ ints p) ++ (ints (y :: q) ++ suf) by simp [ints]]
        exact List.take_left' (by simp [ints_len])
      have e2 : (pre ++ ints (p ++ y :: q) ++ suf).drop (pre.length + p.length + (ints q).length) = z :: suf := by
        rw [ints_len, Nat.add_assoc, List.append_assoc, ← List.drop_drop, List.drop_left, List.drop_append_of_le_length (by rw [ints_len]; omega), hz]
        rfl
      rw [e1, e2]
      simp [ints])
    (by simp [ints_len]; omega)
    (by
      have hl : (pre ++ ints (p ++ q)).length = pre.length + (p.length + q.length) := by simp [ints_len]
      rw [List.take_left' hl, show pre ++ ints (p ++ q) ++ z :: suf = (pre ++ ints (p ++ q) ++ [z]) ++ suf by simp, List.drop_left' (by rw [List.length_append, hl]; rfl)]
      simp)
  rw [← hln] at hcore
  refine hcore.mono ?_
  rintro e w' ⟨rfl, hr, hg⟩
  refine ⟨⟨_, rfl, rfl, .inr ⟨g, pre, .int .i64 0 :: suf, k + 1, ?_, h.lo, hr, by simp; omega, by unfold maxLen; simp; omega⟩⟩, hg⟩
  rw [hln, List.length_append]
  congr 1
  omega
end Go.Proofs.Ytliljdencaocaaa
