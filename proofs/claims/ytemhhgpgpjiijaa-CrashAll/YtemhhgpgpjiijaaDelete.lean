/- slices.Delete of one write of the queue. -/
import Derived.Test.YtemhhgpgpjiijaaBuild
import Derived.Deep.RegionLaw
namespace Go.Proofs.Ytemhhgpgpjiijaa
open Go.RowKit Go.Maps

theorem flat_append (p q : List Wr) : flat (p ++ q) = flat p ++ flat q := by simp [flat]
theorem flat_len : ∀ (q : List Wr), (∀ x ∈ q, Sect x.bytes) → (flat q).length = q.length * 130
  | [], _ => rfl
  | x :: r, h => by
    have := flat_len r (fun y hy => h y (by simp [hy]))
    have hx := cells_len x (h x (by simp))
    simp only [flat, List.flatMap_cons, List.length_append, List.length_cons] at this ⊢
    omega
theorem flat_take {q : List Wr} (h : ∀ x ∈ q, Sect x.bytes) {k : Nat} (hk : k ≤ q.length) : flat (q.take k) = (flat q).take (k * 130) := by
  have h1 := flat_len (q.take k) (fun x hx => h x (List.mem_of_mem_take hx))
  conv => rhs; rw [← List.take_append_drop k q, flat_append]
  rw [List.take_left' (by rw [h1]; simp; omega)]
theorem flat_drop {q : List Wr} (h : ∀ x ∈ q, Sect x.bytes) {k : Nat} (hk : k ≤ q.length) : flat (q.drop k) = (flat q).drop (k * 130) := by
  have h1 := flat_len (q.take k) (fun x hx => h x (List.mem_of_mem_take hx))
  conv => rhs; rw [← List.take_append_drop k q, flat_append]
  rw [List.drop_left' (by rw [h1]; simp; omega)]

/-- append within the row that holds the slice, as one step of a region that draws. -/
theorem step_append_row {P : Program} {ops : Array Oper} {o : Oper} {a : Act} {w : World} {K : Act → World → Prop} {Q : Exit → Act → World → Prop} {E : Prop}
    (hg : o.guard = none) (s x : Operand) (t : TypeId) (hop : o.op = Op.call { callee := Callee.builtin Builtin.append, args := #[s, x], argTypes := #[t, t] })
    (e : TypeId) (i : TypeInfo) (h1 : P.underlying t = some (.slice e)) (h2 : P.info? e = some i)
    (g n cap : Nat) (cur : Array Value) (hrow : w.heap[g]? = some (.cells cur e (0, 0))) (hs : a.eval s = .slice (some ⟨g, 0, none⟩) n cap)
    (ad : Addr) (m c : Nat) (news : List Value) (hx : a.eval x = .slice (some ad) m c) (hn : news.length = m * i.size) (hc : ∀ j u, news[j]? = some u → w.cell? (ad.add j) = some u) (h1c : ∀ u ∈ news, u.oneCell' = true)
    (hroom : n + m ≤ cap) (hfit : n * i.size + news.length ≤ cur.size)
    (hK : K (a.put o.dst (.slice (some ⟨g, 0, none⟩) (n + m) cap)) (w.setRow g (cur.toList.take (n * i.size) ++ news ++ cur.toList.drop (n * i.size + news.length)).toArray)) :
    if Region.wanted o (yielded ops a.tmps) = true then Oper.wp P o a w K Q else E := by
  have hw : Region.wanted o (yielded ops a.tmps) = true := by simp [Region.wanted, hg]
  rw [if_pos hw]
  have hrun := run_append_room (P := P) w t o.type e i h1 h2 g n cap cur hrow ad m c news hn hc h1c hroom hfit
  unfold Oper.wp
  simp [execOp, hop, resolve, invoke, builtin, hs, hx, hrun, Result.andThen]
  rw [List.append_assoc] at hK
  exact hK

/-- clear of one element of a row. -/
theorem wpList_clear_row {P : Program} {ops : Array Oper} {rest : List Oper} {o : Oper} {a : Act} {w : World} {Q : Exit → Act → World → Prop} (hgd : o.guard = none) (x : Operand) (t e : TypeId) (hop : o.op = Op.call { callee := Callee.builtin Builtin.clear, args := #[x], argTypes := #[t] })
    (ht : P.underlying t = some (.slice e)) (z : Value) (hz : (zeroValue e).run P w = .ok z w) (h1 : ∀ u ∈ z.cells.toList, u.oneCell' = true) (g k c : Nat) (cur : Array Value) (hrow : w.heap[g]? = some (.cells cur e (0, 0))) (hx : a.eval x = .slice (some ⟨g, k, none⟩) 1 c) (hfit : k + z.cells.size ≤ cur.size)
    (hK : wpList P ops Q rest (a.put o.dst (.tuple #[])) (w.setRow g (cur.toList.take k ++ z.cells.toList ++ cur.toList.drop (k + z.cells.size)).toArray)) : wpList P ops Q (o :: rest) a w := by
  refine wpList_plain hgd fun K hK' => ?_
  have e1 : (Builtin.zeroCells z.cells 1).toList = z.cells.toList := by
    apply List.ext_getElem
    · simp [Builtin.zeroCells]
    · intro i h1 h2
      simp only [Array.length_toList] at h2
      simp [Builtin.zeroCells, Nat.mod_eq_of_lt h2, h2]
  have hst := run_storeCells_at P g k e z.cells.toList 0 cur w hrow (by simpa using hfit) h1
  unfold Oper.wp
  simp [execOp, hop, resolve, invoke, builtin, hx, Builtin.clear_, run_underlying ht, hz, e1, hst, Result.andThen]
  exact hK' _ _ (by simpa using hK)

theorem zero_wr2 (w : World) : (zeroValue 71).run Try.prog w = .ok (.agg zwr.toArray) w := by
  obtain ⟨it, hit, hz⟩ := Option.bind_eq_some_iff.1 zero86
  simp [zeroValue, typeInfo, hit, hz]

theorem flat_one {q : List Wr} : ∀ u ∈ flat q, u.oneCell' = true := by
  intro u hu
  obtain ⟨x, _, hx⟩ := List.mem_flatMap.1 hu
  simp only [Wr.cells, List.mem_cons, List.mem_map] at hx
  rcases hx with rfl | rfl | ⟨y, _, rfl⟩ <;> rfl

theorem zwr_one : ∀ u ∈ zwr, u.oneCell' = true := by
  intro u hu
  simp only [zwr, List.mem_cons, List.mem_map] at hu
  rcases hu with rfl | rfl | ⟨y, _, rfl⟩ <;> rfl

set_option maxRecDepth 10000 in
set_option maxHeartbeats 1000000 in
theorem delete_ok {B : Nat} {w : World} {g n cap : Nat} {q : List Wr} (h : w.ownsRow B 71 130 (.slice (some ⟨g, 0, none⟩) n cap) n (flat q)) (hn : q.length = n) (ha : ∀ x ∈ q, Sect x.bytes) (i : Nat) (hi : i < n) (h64 : n ≤ 64) :
    Calls Try.prog 38 #[.slice (some ⟨g, 0, none⟩) n cap, .int .i64 (i : Int), .int .i64 ((i : Int) + 1)] w fun e w' => e = .returned (.slice (some ⟨g, 0, none⟩) (n - 1) cap) ∧ w'.ownsRow B 71 130 (.slice (some ⟨g, 0, none⟩) (n - 1) cap) (n - 1) (flat (q.eraseIdx i)) ∧ w.grownBy w' (some g) := by
  obtain ⟨cur, hBg, hrow, hcap, hcm, hcs, htk⟩ : ∃ cur, B ≤ g ∧ w.heap[g]? = some (.cells cur 71 (0, 0)) ∧ n ≤ cap ∧ cap ≤ maxLen ∧ cur.size = cap * 130 ∧ cur.toList.take (n * 130) = flat q := by
    rcases h.2 with ⟨h', _⟩ | ⟨g', cap', cur, h', r⟩
    · simp at h'
    · simp only [Value.slice.injEq, Option.some.injEq, Addr.mk.injEq, and_true, true_and] at h'
      obtain ⟨rfl, rfl⟩ := h'
      exact ⟨cur, r⟩
  obtain ⟨i0, hi0, hz0, hz1, hz2⟩ := info_parts (show (Try.prog.info? 71).map (fun i => (i.zero, i.size, i.bytes)) = some (some (.agg zwr.toArray), 130, 144) by kernel_rfl)
  obtain ⟨A, hA, hnews⟩ : ∃ A : Addr, (if cap = i + 1 then some (⟨g, 0, none⟩ : Addr) else some ⟨g, (i + 1) * 130, none⟩) = some A ∧ Hid (∀ j u, (flat (q.drop (i + 1)))[j]? = some u → w.drew.cell? (A.add j) = some u) := by
    by_cases hc : cap = i + 1
    · refine ⟨⟨g, 0, none⟩, by simp [hc], fun j u hu => ?_⟩
      rw [List.drop_eq_nil_of_le (by omega)] at hu
      simp [flat] at hu
    · refine ⟨⟨g, (i + 1) * 130, none⟩, by simp [hc], fun j u hu => ?_⟩
      rw [flat_drop ha (by omega), List.getElem?_drop] at hu
      rw [Addr.add_mid]
      have hlt := (List.getElem?_eq_some_iff.1 hu).1
      rw [flat_len q ha] at hlt
      exact (h.cellAt _ (by omega)).trans hu
  unfold maxLen at hcm
  obtain ⟨k, rfl⟩ : ∃ k, n = k + 1 := ⟨n - 1, by omega⟩
  have hik : i + (k - i) = k := by omega
  have hqd : (q.drop (i + 1)).length = k - i := by rw [List.length_drop]; omega
  have s0 : (flat (q.drop (i + 1))).length = (k - i) * 130 := by rw [flat_len _ (fun x hx => ha x (List.mem_of_mem_drop hx)), hqd]
  have s1 : Hid ((flat (q.drop (i + 1))).length = (k - i) * i0.size) := by rw [hz1]; exact s0
  have s2 : Hid (∀ u ∈ flat (q.drop (i + 1)), u.oneCell' = true) := flat_one
  have s3 : Hid (i * i0.size + (flat (q.drop (i + 1))).length ≤ cur.size) := by rw [hz1, s0, hcs]; show i * 130 + (k - i) * 130 ≤ cap * 130; omega
  have hrd : Hid (w.drew.heap[g]? = some (.cells cur 71 (0, 0))) := hrow
  obtain ⟨cur2, hc2⟩ : ∃ cur2, cur2 = cur.toList.take (i * 130) ++ (flat (q.drop (i + 1)) ++ cur.toList.drop (i * 130 + (k - i) * 130)) := ⟨_, rfl⟩
  have hcur2 : cur2.length = cap * 130 := by
    rw [hc2]; simp only [List.length_append, List.length_take, List.length_drop, Array.length_toList, hcs, s0]; omega
  have hcur2t : cur2.take (k * 130) = flat (q.eraseIdx i) := by
    rw [hc2, ← List.append_assoc, List.take_left' (by simp only [List.length_append, List.length_take, Array.length_toList, hcs, s0]; omega)]
    rw [List.eraseIdx_eq_take_drop_succ, flat_append, flat_take ha (by omega), ← htk, List.take_take, Nat.min_eq_left (by omega)]
  have hr2 : (w.drew.setRow g cur2.toArray).heap[g]? = some (.cells cur2.toArray 71 (0, 0)) := setRow_heap _ g cur _ 71 _ hrow
  have hg2 : w.grownBy (w.drew.setRow g cur2.toArray) (some g) := ⟨rfl, rfl, rfl, by simp, fun j _ hj => setRow_other w.drew g j _ (fun e => hj (by rw [e]))⟩
  have hck : ¬ cap = k := by omega
  have hwr : IntKind.i64.wrap ((i : Int) + 1) = (i : Int) + 1 := by rw [IntKind.wrap_i64]; omega
  have hp0 : (0 : Int) ≤ (i : Int) + 1 := by omega
  have hp1 : (i : Int) + 1 ≤ (k : Int) + 1 := by omega
  have hic : i ≤ cap := by omega
  have hik1 : i ≤ k := by omega
  have hp2 : ((i : Int) + 1).toNat = i + 1 := by omega
  have hp3 : (k : Int) + 1 ≤ (cap : Int) := by omega
  have hne : ¬ (i : Int) = (i : Int) + 1 := by omega
  clear h
  go_enter Try.func38, Try.ntmps38
  go_wp2_with fail
  go_region_law (refine step_append_row rfl (.tmp 22) (.tmp 25) 64 rfl 71 i0 Try.underlying64 hi0 g i cap cur hrd.out (by simp [Act.eval, Act.put]) A (k - i) (cap - (i + 1)) (flat (q.drop (i + 1))) (by simp [Act.eval, Act.put]) s1.out hnews.out s2.out (by omega) s3.out ?_)
  rw [← hc2]
  clear hc2 hnews hA hrd s0 s1 s2 s3 hqd htk hrow hcs hz0 hz1 hz2 hi0 hn ha
  go_wp2_with (refine wpList_clear_row rfl _ 64 71 rfl Try.underlying64 (.agg zwr.toArray) (zero_wr2 _) (by simpa [Value.cells] using zwr_one) g (k * 130) (cap - k) cur2.toArray hr2 rfl (by simp only [Value.cells, List.size_toArray, zwr_len, hcur2]; omega) ?_)
  go_ret
  have hfl : (flat (q.eraseIdx i)).length = k * 130 := by rw [← hcur2t, List.length_take, hcur2]; omega
  refine ⟨rfl, ⟨hfl, .inr ⟨g, cap, _, rfl, hBg, setRow_heap _ g _ _ 71 _ hr2, by omega, by unfold maxLen; omega, ?_, ?_⟩⟩, ?_⟩
  · simp only [List.size_toArray, List.length_append, List.length_drop, hfl, zwr_len, hcur2]; omega
  · simp only [Nat.add_sub_cancel]
    exact List.take_left' hfl
  · exact ⟨rfl, rfl, rfl, by simp, fun j _ hj => by
      rw [setRow_other _ g j _ (fun e => hj (by rw [e])), setRow_other _ g j _ (fun e => hj (by rw [e]))]; rfl⟩
end Go.Proofs.Ytemhhgpgpjiijaa
