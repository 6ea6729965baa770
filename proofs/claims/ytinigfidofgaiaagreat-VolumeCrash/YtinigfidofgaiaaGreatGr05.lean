/- Queue Delete Complete Fails -/
import Derived.Test.YtinigfidofgaiaaGreatGr03
import Derived.Deep.RegionHeld3
import Derived.Deep.RegionLaw
import Derived.Test.YtinigfidofgaiaaGreatGr04

/- Queue: all writes that are not done yet, as lists of their own. -/
namespace Go.Proofs.YtinigfidofgaiaaGreat
open Go.RowKit Go.Maps
set_option maxRecDepth 100000

def sent (g : Nat) (x : Wr) : List Value := [.int .i64 x.id, .int .i64 (x.block : Int), sl g]
def sflat (gs : List Nat) (q : List Wr) : List Value := (gs.zip q).flatMap (fun p => sent p.1 p.2)
theorem info52 : (Tryz.prog.info? 62).map (fun i => (i.zero, i.size, i.bytes)) = some (some (.agg #[.int .i64 0, .int .i64 0, .slice none 0 0]), 3, 40) := by kernel_rfl
theorem size86 : (Tryz.prog.info? 108).map (·.size) = some 130 := info86

/-- Block g holds the writes q as Sents, their bytes in the blocks gs. -/
structure Sents (B : Nat) (w : World) (g : Nat) (gs : List Nat) (q : List Wr) : Prop where
  row : w.ownsRow B 62 3 (.slice (some ⟨g, 0, none⟩) q.length q.length) q.length (sflat gs q)
  len : gs.length = q.length
  el : ∀ i x, q[i]? = some x → Own B w (gs.getD i 0) 128 128 x.bytes

theorem zero_wr' (w : World) : (zeroValue 108).run Tryz.prog w = .ok (.agg zwr.toArray) w := by
  obtain ⟨it, hit, hz⟩ := Option.bind_eq_some_iff.1 zero86
  simp [zeroValue, typeInfo, hit, hz]

theorem wr_one' (x : Wr) : ∀ u ∈ x.cells, u.oneCell' = true := by
  intro u hu
  simp only [Wr.cells, List.mem_cons, List.mem_map] at hu
  rcases hu with rfl | rfl | ⟨y, _, rfl⟩ <;> rfl

theorem range_later {w w' : World} {T o : Nat} {cs : List Value} (hb : Below w.heap.size w w') (hT : T < w.heap.size) (h : w.rangeAt T o cs) : w'.rangeAt T o cs := fun i v hv => (hb.cell (p := ⟨T, o + i, none⟩) hT).trans (h i v hv)

theorem three_cells {w : World} {B g n : Nat} {L : List Value} (h : w.ownsRow B 62 3 (.slice (some ⟨g, 0, none⟩) n n) n L) {j : Nat} (hj : j < n) : ∃ v0 v1 v2, w.cell? ⟨g, j * 3, none⟩ = some v0 ∧ w.cell? ⟨g, j * 3 + 1, none⟩ = some v1 ∧ w.cell? ⟨g, j * 3 + 2, none⟩ = some v2 := by
  have hl := h.1
  refine ⟨L[j * 3]'(by omega), L[j * 3 + 1]'(by omega), L[j * 3 + 2]'(by omega), ?_, ?_, ?_⟩ <;> rw [h.cellAt _ (by omega), List.getElem?_eq_getElem]

theorem range_set {w : World} {R T j o : Nat} {cs : List Value} {u : Value} (hne : R ≠ T) (h : w.rangeAt T o cs) : (w.setCell ⟨R, j, none⟩ u).rangeAt T o cs := fun i v hv =>
  (World.cell?_of_block (w := w) (Below.heap_setCell w ⟨R, j, none⟩ u T (Ne.symm hne))).trans (h i v hv)

theorem take_set3 {α : Type} (L : List α) (k : Nat) (x y z : α) (h : k + 3 ≤ L.length) : (((L.set k x).set (k + 1) y).set (k + 2) z).take (k + 3) = L.take k ++ [x, y, z] := by
  apply List.ext_getElem?
  intro i
  by_cases hi : i < k
  · rw [List.getElem?_take_of_lt (by omega), List.getElem?_set_ne (by omega), List.getElem?_set_ne (by omega), List.getElem?_set_ne (by omega), List.getElem?_append_left (by simp; omega), List.getElem?_take_of_lt hi]
  · rw [List.getElem?_append_right (by simp; omega)]
    have e : (L.take k).length = k := by simp; omega
    rw [e]
    rcases (by omega : i = k ∨ i = k + 1 ∨ i = k + 2 ∨ k + 3 ≤ i) with rfl | rfl | rfl | h3
    · rw [List.getElem?_take_of_lt (by omega), List.getElem?_set_ne (by omega), List.getElem?_set_ne (by omega), List.getElem?_set_self (by omega)]; simp
    · rw [List.getElem?_take_of_lt (by omega), List.getElem?_set_ne (by omega), List.getElem?_set_self (by simp; omega)]; simp
    · rw [List.getElem?_take_of_lt (by omega), List.getElem?_set_self (by simp; omega)]; simp
    · rw [List.getElem?_eq_none (by simp; omega), List.getElem?_eq_none (by simp; omega)]

theorem sflat_snoc (gs : List Nat) (q : List Wr) (g : Nat) (x : Wr) (h : gs.length = q.length) : sflat (gs ++ [g]) (q ++ [x]) = sflat gs q ++ sent g x := by
  simp [sflat, List.zip_append h]

theorem take_snoc {q : List Wr} {j : Nat} {x : Wr} (h : q[j]? = some x) : q.take (j + 1) = q.take j ++ [x] := by
  rw [List.take_add_one, h]; rfl

end Go.Proofs.YtinigfidofgaiaaGreat

/- slices.Delete of one write of the queue. -/
namespace Go.Proofs.YtinigfidofgaiaaGreat
open Go.RowKit Go.Maps
set_option maxRecDepth 100000

theorem flat_append (p q : List Wr) : flat (p ++ q) = flat p ++ flat q := by simp [flat]
theorem flat_len : ∀ (q : List Wr), (∀ x ∈ q, Sect x.bytes) → (flat q).length = q.length * 130
  | [], _ => rfl
  | x :: r, h => by
    have := flat_len r (fun y hy => h y (by simp [hy]))
    have hx := cells_len x (h x (by simp))
    simp only [flat, List.flatMap_cons, List.length_append, List.length_cons] at this ⊢
    omega
theorem flat_take {q : List Wr} (h : ∀ x ∈ q, Sect x.bytes) {k : Nat} (hk : k ≤ q.length) : flat (q.take k) = (flat q).take (k * 130) := by
  have h1 := flat_len (q.take k) (fun x hx => h x (List.mem_of_mem_take hx))
  conv => rhs; rw [← List.take_append_drop k q, flat_append]
  rw [List.take_left' (by rw [h1]; simp; omega)]
theorem flat_drop {q : List Wr} (h : ∀ x ∈ q, Sect x.bytes) {k : Nat} (hk : k ≤ q.length) : flat (q.drop k) = (flat q).drop (k * 130) := by
  have h1 := flat_len (q.take k) (fun x hx => h x (List.mem_of_mem_take hx))
  conv => rhs; rw [← List.take_append_drop k q, flat_append]
  rw [List.drop_left' (by rw [h1]; simp; omega)]

/-- append within the row that holds the slice, as one step of a region that draws. -/
theorem step_append_row {P : Program} {ops : Array Oper} {o : Oper} {a : Act} {w : World} {K : Act → World → Prop} {Q : Exit → Act → World → Prop} {E : Prop}
    (hg : o.guard = none) (s x : Operand) (t : TypeId) (hop : o.op = Op.call { callee := Callee.builtin Builtin.append, args := #[s, x], argTypes := #[t, t] })
    (e : TypeId) (i : TypeInfo) (h1 : P.underlying t = some (.slice e)) (h2 : P.info? e = some i)
    (g n cap : Nat) (cur : Array Value) (hrow : w.heap[g]? = some (.cells cur e (0, 0))) (hs : a.eval s = .slice (some ⟨g, 0, none⟩) n cap)
    (ad : Addr) (m c : Nat) (news : List Value) (hx : a.eval x = .slice (some ad) m c) (hn : news.length = m * i.size) (hc : ∀ j u, news[j]? = some u → w.cell? (ad.add j) = some u) (h1c : ∀ u ∈ news, u.oneCell' = true)
    (hroom : n + m ≤ cap) (hfit : n * i.size + news.length ≤ cur.size)
    (hK : K (a.put o.dst (.slice (some ⟨g, 0, none⟩) (n + m) cap)) (w.setRow g (cur.toList.take (n * i.size) ++ news ++ cur.toList.drop (n * i.size + news.length)).toArray)) :
    if Region.wanted o (yielded ops a.tmps) = true then Oper.wp P o a w K Q else E := by
  have hw : Region.wanted o (yielded ops a.tmps) = true := by simp [Region.wanted, hg]
  rw [if_pos hw]
  have hrun := run_append_room (P := P) w t o.type e i h1 h2 g n cap cur hrow ad m c news hn hc h1c hroom hfit
  unfold Oper.wp
  simp [execOp, hop, resolve, invoke, builtin, hs, hx, hrun, Result.andThen]
  rw [List.append_assoc] at hK
  exact hK

/-- clear of one element of a row. -/
theorem wpList_clear_row {P : Program} {ops : Array Oper} {rest : List Oper} {o : Oper} {a : Act} {w : World} {Q : Exit → Act → World → Prop} (hgd : o.guard = none) (x : Operand) (t e : TypeId) (hop : o.op = Op.call { callee := Callee.builtin Builtin.clear, args := #[x], argTypes := #[t] })
    (ht : P.underlying t = some (.slice e)) (z : Value) (hz : (zeroValue e).run P w = .ok z w) (h1 : ∀ u ∈ z.cells.toList, u.oneCell' = true) (g k c : Nat) (cur : Array Value) (hrow : w.heap[g]? = some (.cells cur e (0, 0))) (hx : a.eval x = .slice (some ⟨g, k, none⟩) 1 c) (hfit : k + z.cells.size ≤ cur.size)
    (hK : wpList P ops Q rest (a.put o.dst (.tuple #[])) (w.setRow g (cur.toList.take k ++ z.cells.toList ++ cur.toList.drop (k + z.cells.size)).toArray)) : wpList P ops Q (o :: rest) a w := by
  refine wpList_plain hgd fun K hK' => ?_
  have e1 : (Builtin.zeroCells z.cells 1).toList = z.cells.toList := by
    apply List.ext_getElem
    · simp [Builtin.zeroCells]
    · intro i h1 h2
      simp only [Array.length_toList] at h2
      simp [Builtin.zeroCells, Nat.mod_eq_of_lt h2, h2]
  have hst := run_storeCells_at P g k e z.cells.toList 0 cur w hrow (by simpa using hfit) h1
  unfold Oper.wp
  simp [execOp, hop, resolve, invoke, builtin, hx, Builtin.clear_, run_underlying ht, hz, e1, hst, Result.andThen]
  exact hK' _ _ (by simpa using hK)

theorem zero_wr2 (w : World) : (zeroValue 108).run Tryz.prog w = .ok (.agg zwr.toArray) w := by
  obtain ⟨it, hit, hz⟩ := Option.bind_eq_some_iff.1 zero86
  simp [zeroValue, typeInfo, hit, hz]

theorem flat_one {q : List Wr} : ∀ u ∈ flat q, u.oneCell' = true := by
  intro u hu
  obtain ⟨x, _, hx⟩ := List.mem_flatMap.1 hu
  simp only [Wr.cells, List.mem_cons, List.mem_map] at hx
  rcases hx with rfl | rfl | ⟨y, _, rfl⟩ <;> rfl

theorem zwr_one : ∀ u ∈ zwr, u.oneCell' = true := by
  intro u hu
  simp only [zwr, List.mem_cons, List.mem_map] at hu
  rcases hu with rfl | rfl | ⟨y, _, rfl⟩ <;> rfl

set_option maxRecDepth 10000 in
set_option maxHeartbeats 1000000 in
theorem delete_ok {B : Nat} {w : World} {g n cap : Nat} {q : List Wr} (h : w.ownsRow B 108 130 (.slice (some ⟨g, 0, none⟩) n cap) n (flat q)) (hn : q.length = n) (ha : ∀ x ∈ q, Sect x.bytes) (i : Nat) (hi : i < n) (h64 : n ≤ 64) :
    Calls Tryz.prog 123 #[.slice (some ⟨g, 0, none⟩) n cap, .int .i64 (i : Int), .int .i64 ((i : Int) + 1)] w fun e w' => e = .returned (.slice (some ⟨g, 0, none⟩) (n - 1) cap) ∧ w'.ownsRow B 108 130 (.slice (some ⟨g, 0, none⟩) (n - 1) cap) (n - 1) (flat (q.eraseIdx i)) ∧ w.grownBy w' (some g) := by
  obtain ⟨cur, hBg, hrow, hcap, hcm, hcs, htk⟩ : ∃ cur, B ≤ g ∧ w.heap[g]? = some (.cells cur 108 (0, 0)) ∧ n ≤ cap ∧ cap ≤ maxLen ∧ cur.size = cap * 130 ∧ cur.toList.take (n * 130) = flat q := by
    rcases h.2 with ⟨h', _⟩ | ⟨g', cap', cur, h', r⟩
    · simp at h'
    · simp only [Value.slice.injEq, Option.some.injEq, Addr.mk.injEq, and_true, true_and] at h'
      obtain ⟨rfl, rfl⟩ := h'
      exact ⟨cur, r⟩
  obtain ⟨i0, hi0, hz0, hz1, hz2⟩ := info_parts (show (Tryz.prog.info? 108).map (fun i => (i.zero, i.size, i.bytes)) = some (some (.agg zwr.toArray), 130, 144) by kernel_rfl)
  obtain ⟨A, hA, hnews⟩ : ∃ A : Addr, (if cap = i + 1 then some (⟨g, 0, none⟩ : Addr) else some ⟨g, (i + 1) * 130, none⟩) = some A ∧ Hid (∀ j u, (flat (q.drop (i + 1)))[j]? = some u → w.drew.cell? (A.add j) = some u) := by
    by_cases hc : cap = i + 1
    · refine ⟨⟨g, 0, none⟩, by simp [hc], fun j u hu => ?_⟩
      rw [List.drop_eq_nil_of_le (by omega)] at hu
      simp [flat] at hu
    · refine ⟨⟨g, (i + 1) * 130, none⟩, by simp [hc], fun j u hu => ?_⟩
      rw [flat_drop ha (by omega), List.getElem?_drop] at hu
      rw [Addr.add_mid]
      have hlt := (List.getElem?_eq_some_iff.1 hu).1
      rw [flat_len q ha] at hlt
      exact (h.cellAt _ (by omega)).trans hu
  unfold maxLen at hcm
  obtain ⟨k, rfl⟩ : ∃ k, n = k + 1 := ⟨n - 1, by omega⟩
  have hik : i + (k - i) = k := by omega
  have hqd : (q.drop (i + 1)).length = k - i := by rw [List.length_drop]; omega
  have s0 : (flat (q.drop (i + 1))).length = (k - i) * 130 := by rw [flat_len _ (fun x hx => ha x (List.mem_of_mem_drop hx)), hqd]
  have s1 : Hid ((flat (q.drop (i + 1))).length = (k - i) * i0.size) := by rw [hz1]; exact s0
  have s2 : Hid (∀ u ∈ flat (q.drop (i + 1)), u.oneCell' = true) := flat_one
  have s3 : Hid (i * i0.size + (flat (q.drop (i + 1))).length ≤ cur.size) := by rw [hz1, s0, hcs]; show i * 130 + (k - i) * 130 ≤ cap * 130; omega
  have hrd : Hid (w.drew.heap[g]? = some (.cells cur 108 (0, 0))) := hrow
  obtain ⟨cur2, hc2⟩ : ∃ cur2, cur2 = cur.toList.take (i * 130) ++ (flat (q.drop (i + 1)) ++ cur.toList.drop (i * 130 + (k - i) * 130)) := ⟨_, rfl⟩
  have hcur2 : cur2.length = cap * 130 := by
    rw [hc2]; simp only [List.length_append, List.length_take, List.length_drop, Array.length_toList, hcs, s0]; omega
  have hcur2t : cur2.take (k * 130) = flat (q.eraseIdx i) := by
    rw [hc2, ← List.append_assoc, List.take_left' (by simp only [List.length_append, List.length_take, Array.length_toList, hcs, s0]; omega)]
    rw [List.eraseIdx_eq_take_drop_succ, flat_append, flat_take ha (by omega), ← htk, List.take_take, Nat.min_eq_left (by omega)]
  have hr2 : (w.drew.setRow g cur2.toArray).heap[g]? = some (.cells cur2.toArray 108 (0, 0)) := setRow_heap _ g cur _ 108 _ hrow
  have hg2 : w.grownBy (w.drew.setRow g cur2.toArray) (some g) := ⟨rfl, rfl, rfl, by simp, fun j _ hj => setRow_other w.drew g j _ (fun e => hj (by rw [e]))⟩
  have hck : ¬ cap = k := by omega
  have hwr : IntKind.i64.wrap ((i : Int) + 1) = (i : Int) + 1 := by rw [IntKind.wrap_i64]; omega
  have hp0 : (0 : Int) ≤ (i : Int) + 1 := by omega
  have hp1 : (i : Int) + 1 ≤ (k : Int) + 1 := by omega
  have hic : i ≤ cap := by omega
  have hik1 : i ≤ k := by omega
  have hp2 : ((i : Int) + 1).toNat = i + 1 := by omega
  have hp3 : (k : Int) + 1 ≤ (cap : Int) := by omega
  have hne : ¬ (i : Int) = (i : Int) + 1 := by omega
  clear h
  go_enter Tryz.func123, Tryz.ntmps123
  go_wp2_with fail
  go_region_law (refine step_append_row rfl (.tmp 22) (.tmp 25) 81 rfl 108 i0 Tryz.underlying81 hi0 g i cap cur hrd.out (by simp [Act.eval, Act.put]) A (k - i) (cap - (i + 1)) (flat (q.drop (i + 1))) (by simp [Act.eval, Act.put]) s1.out hnews.out s2.out (by omega) s3.out ?_)
  rw [← hc2]
  clear hc2 hnews hA hrd s0 s1 s2 s3 hqd htk hrow hcs hz0 hz1 hz2 hi0 hn ha
  go_wp2_with (refine wpList_clear_row rfl _ 81 108 rfl Tryz.underlying81 (.agg zwr.toArray) (zero_wr2 _) (by simpa [Value.cells] using zwr_one) g (k * 130) (cap - k) cur2.toArray hr2 rfl (by simp only [Value.cells, List.size_toArray, zwr_len, hcur2]; omega) ?_)
  go_ret
  have hfl : (flat (q.eraseIdx i)).length = k * 130 := by rw [← hcur2t, List.length_take, hcur2]; omega
  refine ⟨rfl, ⟨hfl, .inr ⟨g, cap, _, rfl, hBg, setRow_heap _ g _ _ 108 _ hr2, by omega, by unfold maxLen; omega, ?_, ?_⟩⟩, ?_⟩
  · simp only [List.size_toArray, List.length_append, List.length_drop, hfl, zwr_len, hcur2]; omega
  · simp only [Nat.add_sub_cancel]
    exact List.take_left' hfl
  · exact ⟨rfl, rfl, rfl, by simp, fun j _ hj => by
      rw [setRow_other _ g j _ (fun e => hj (by rw [e])), setRow_other _ g j _ (fun e => hj (by rw [e]))]; rfl⟩
end Go.Proofs.YtinigfidofgaiaaGreat

/- Complete: a write of the queue is done, or fails. -/
namespace Go.Proofs.YtinigfidofgaiaaGreat
open Go.RowKit Go.Maps
set_option maxRecDepth 100000

def St.done (S : St) (i : Nat) (x : Wr) (ok : Bool) : St := { S with q := S.q.eraseIdx i, f := if ok then upd S.f x.block x.bytes else S.f }

section
variable {B : Nat} {w : World} {a mb fb : Nat} {qv : Value} {S : St}

set_option maxHeartbeats 400000 in
theorem complete_none (h : DI B w a mb fb qv S) (id : Int) (ok : Bool) (hi : S.q.findIdx? (fun y => y.id == id) = none) : Calls Tryz.prog 83 #[.pointer (some ⟨a, 0, none⟩), .int .i64 id, .bool ok] w fun e w' => e = .returned (.int .i64 20) ∧ Below w.heap.size w w' := by
  have c := place_ok h id
  rw [idx_none hi] at c
  have HC := (show Hid _ from c)
  clear c
  go_enter Tryz.func83, Tryz.ntmps83
  go_wp2_with fail
  refine same_at (made_ok h) ?_
  go_wp2_with fail
  refine Calls.mono HC.out ?_
  rintro e w1 ⟨rfl, hb1⟩
  go_wp2
  go_ret
  exact ⟨rfl, hb1⟩

/-- Behind Delete, and the store of what it gave: the disk with one write less. -/
theorem DI.erase (h : DI B w a mb fb qv S) {g n cap i : Nat} (hqv : qv = .slice (some ⟨g, 0, none⟩) n cap) (hn : n = S.q.length) {w' : World} (hown : w'.ownsRow B 108 130 (.slice (some ⟨g, 0, none⟩) (n - 1) cap) (n - 1) (flat (S.q.eraseIdx i))) (hi : i < n) (hg : w.grownBy w' (some g)) :
    DI B (w'.setCell ⟨a, 2, none⟩ (.slice (some ⟨g, 0, none⟩) (n - 1) cap)) a mb fb (.slice (some ⟨g, 0, none⟩) (n - 1) cap) { S with q := S.q.eraseIdx i } := by
  subst hqv
  obtain ⟨n1, n2, n3, n4, n5⟩ := h.apart
  simp only [Value.ownBlock, ne_eq, Option.some.injEq] at n3 n4 n5
  have ho : ∀ k, k < w.heap.size → k ≠ a → k ≠ g → (w'.setCell ⟨a, 2, none⟩ (.slice (some ⟨g, 0, none⟩) (n - 1) cap)).heap[k]? = w.heap[k]? := fun k hk h1 h2 => (Below.heap_setCell w' ⟨a, 2, none⟩ _ k h1).trans (hg.block k hk (by simpa using h2))
  have hrow : w'.heap[a]? = w.heap[a]? := hg.block a (Array.getElem?_eq_some_iff.1 h.row).1 (by simp; omega)
  have hlen : (S.q.eraseIdx i).length = n - 1 := by rw [List.length_eraseIdx_of_lt (by omega)]; omega
  have hq := h.q64
  refine { row := row_set2 (hrow.trans h.row) _, secs := h.secs.kept (ho mb h.secs.lt n1.symm (by omega)), que := ?_, fls := h.fls.kept (ho fb h.fls.lt n2.symm (by omega)), lo := h.lo, ne := h.ne, N1 := h.N1, N2 := h.N2, q64 := ?_, qok := ?_, lok := h.lok }
  · show World.ownsRow _ B 108 130 _ (S.q.eraseIdx i).length (flat (S.q.eraseIdx i))
    rw [hlen]
    exact ownsRow_kept hown (fun k hk => by cases hk; exact Below.heap_setCell w' ⟨a, 2, none⟩ _ g n3)
  · show (S.q.eraseIdx i).length ≤ 64
    omega
  · intro x hx
    exact h.qok x (List.mem_of_mem_eraseIdx hx)

theorem DI.turnSec (h : DI B w a mb fb qv S) {w' : World} {f' : Nat → List Int} (hs : Secs w' mb S.N f') (hg : w.grownBy w' (some mb)) : DI B w' a mb fb qv { S with f := f' } := by
  obtain ⟨n1, n2, n3, n4, n5⟩ := h.apart
  have ho : ∀ k, k < w.heap.size → k ≠ mb → w'.heap[k]? = w.heap[k]? := fun k hk h1 => hg.block k hk (by simpa using h1)
  exact { row := (ho a (Array.getElem?_eq_some_iff.1 h.row).1 n1).trans h.row, secs := hs, que := ownsRow_kept h.que (fun k hk => ho k (h.que.lt k hk).2 (by rintro rfl; exact n4 hk)), fls := h.fls.kept (ho fb h.fls.lt h.ne.symm), lo := h.lo, ne := h.ne, N1 := h.N1, N2 := h.N2, q64 := h.q64, qok := h.qok, lok := h.lok }

theorem wr_c1 {T : Nat} {x : Wr} (h : w.heap[T]? = some (.cells (wrA x) 108 (0, 0))) : w.cell? ⟨T, 1, none⟩ = some (.int .i64 (x.block : Int)) := by rw [cell_of_row w T 1 _ _ _ h]; exact wrA_1 x
theorem wr_c0 {T : Nat} {x : Wr} (h : w.heap[T]? = some (.cells (wrA x) 108 (0, 0))) : w.cell? ⟨T, 0, none⟩ = some (.int .i64 x.id) := by rw [cell_of_row w T 0 _ _ _ h]; exact wrA_0 x
theorem wr_c2 {T : Nat} {x : Wr} (h : w.heap[T]? = some (.cells (wrA x) 108 (0, 0))) : w.rangeAt T 2 (x.bytes.map (Value.int .u8)) := by
  intro i v hv
  rw [cell_of_row w T (2 + i) _ _ _ h]
  simp only [wrA, Wr.cells, List.getElem?_toArray]
  rw [Nat.add_comm]
  exact hv

set_option maxRecDepth 10000 in
set_option maxHeartbeats 1000000 in
theorem complete_some (h : DI B w a mb fb qv S) (id : Int) (ok : Bool) (i : Nat) (x : Wr) (hi : S.q.findIdx? (fun y => y.id == id) = some i) (hx : S.q[i]? = some x) :
    Calls Tryz.prog 83 #[.pointer (some ⟨a, 0, none⟩), .int .i64 id, .bool ok] w fun e w' => ∃ qv', e = .returned (.int .i64 (if ok then 0 else 4)) ∧ DI B w' a mb fb qv' (S.done i x ok) ∧ Frame (foot a mb fb qv) w w' ∧ qv'.ownBlock = qv.ownBlock := by
  have c := place_ok h id
  rw [idx_some hi] at c
  have HC := (show Hid _ from c)
  clear c
  have hil := (List.getElem?_eq_some_iff.1 hx).1
  have hxm := List.mem_of_getElem? hx
  have hxs := h.sects x hxm
  have hxb := (h.qok x hxm).1
  obtain ⟨g, cap, hqv⟩ : ∃ g cap, qv = .slice (some ⟨g, 0, none⟩) S.q.length cap := by
    rcases h.qcase with ⟨_, e⟩ | e
    · rw [e] at hil; simp at hil
    · exact e
  obtain ⟨n, hn⟩ : ∃ n, n = S.q.length := ⟨_, rfl⟩
  rw [← hn] at hqv
  subst hqv
  have h64 := h.q64
  rw [← hn] at h64 hil
  have hzr : ∀ w, (zeroValue 108).run Tryz.prog w = .ok (.agg zwr.toArray) w := zero_wr
  have hZ : zwr.toArray.size = 130 := by simp [zwr_len]
  generalize zwr.toArray = Z at hzr hZ
  have hAs := wrA_size x hxs
  have hsz : (Tryz.prog.info? 108).map (·.size) = some x.cells.length := by rw [cells_len x hxs]; exact info86
  have hp0 : (i : Int) < (n : Int) := by omega
  go_enter Tryz.func83, Tryz.ntmps83
  go_wp2_with fail
  refine same_at (made_ok h) ?_
  go_wp2_with fail
  refine Calls.mono HC.out ?_
  rintro e w1 ⟨rfl, hb1⟩
  have h1 := h.later hb1
  have hc2 := h1.c2
  have hq1 := h1.que
  rw [← hn] at hq1
  have hr := range_at hq1 hn.symm h1.sects hx
  clear HC
  have hc2a : (w1.alloc (.cells Z 108)).cell? ⟨a, 2, none⟩ = some (.slice (some ⟨g, 0, none⟩) n cap) := (h1.later ((Below.refl _ _).alloc (Nat.le_refl _) _)).c2
  have hb6 : Below w1.heap.size w1 ((w1.alloc (.cells Z 108)).setRow w1.heap.size (wrA x)) := below_setRow ((Below.refl _ _).alloc (Nat.le_refl _) _) (Nat.le_refl _) _
  have hc2b : ((w1.alloc (.cells Z 108)).setRow w1.heap.size (wrA x)).cell? ⟨a, 2, none⟩ = some (.slice (some ⟨g, 0, none⟩) n cap) := (h1.later hb6).c2
  have hr6 : ((w1.alloc (.cells Z 108)).setRow w1.heap.size (wrA x)).heap[w1.heap.size]? = some (.cells (wrA x) 108 (0, 0)) := setRow_heap _ _ Z _ 108 _ (at_new rfl)
  have hs6 : ((w1.alloc (.cells Z 108)).setRow w1.heap.size (wrA x)).heap.size = w1.heap.size + 1 := by simp
  go_wp2_with (first
    | (refine wpList_load_mid rfl 108 _ rfl g (i * 130) rfl x.cells _ hr Tryz.underlying108 rfl hsz ?_)
    | (refine wpList_store_row rfl 108 _ _ rfl w1.heap.size (wrA x) rfl rfl 108 Z (at_new rfl) (by rw [hAs]; exact info86) (by rw [hZ, hAs]) (all_oneCell_toArray (wr_one' x)) ?_))
  generalize (w1.alloc (.cells Z 108)).setRow w1.heap.size (wrA x) = w6 at hb6 hc2b hr6 hs6 ⊢
  have h6 := h1.later hb6
  have hq6 := h6.que
  rw [← hn] at hq6
  clear hc2 hc2a hr hq1 hsz hAs hzr hZ
  subst hn
  refine (delete_ok hq6 rfl h6.sects i hil h64).mono ?_
  rintro e w7 ⟨rfl, hown7, hg7⟩
  have n3 := h6.apart.2.2.1
  simp only [Value.ownBlock, ne_eq, Option.some.injEq] at n3
  have ha6 := (Array.getElem?_eq_some_iff.1 h6.row).1
  have hrow7 : w7.heap[a]? = _ := (hg7.block a ha6 (by simp; omega)).trans h6.row
  have hc7 := cell_of_row w7 a 2 _ _ _ hrow7
  simp at hc7
  have hf7 := row_froz hrow7 2
  have h8 := h6.erase rfl rfl hown7 hil hg7
  have hgT : g ≠ w1.heap.size := by have := (h1.in g (.inr (.inr (.inr rfl)))).2; omega
  have haT : a ≠ w1.heap.size := by have := (Array.getElem?_eq_some_iff.1 h1.row).1; omega
  have hT8 : (w7.setCell ⟨a, 2, none⟩ (.slice (some ⟨g, 0, none⟩) (S.q.length - 1) cap)).heap[w1.heap.size]? = some (.cells (wrA x) 108 (0, 0)) := by
    rw [Below.heap_setCell w7 ⟨a, 2, none⟩ _ _ (by show w1.heap.size ≠ a; omega), hg7.block _ (by omega) (by simp; omega)]
    exact hr6
  have hf8 : Frame (foot a mb fb (.slice (some ⟨g, 0, none⟩) S.q.length cap)) w (w7.setCell ⟨a, 2, none⟩ (.slice (some ⟨g, 0, none⟩) (S.q.length - 1) cap)) :=
    (((frame_of_below hb1).trans (frame_of_below hb6)).trans (frame_of_grown hg7 (fun k hk => .inr (.inr (.inr hk))))).trans (Frame.setCell w7 _ (.inl rfl))
  clear hown7 hg7 hrow7 hr6 hc2b h6 hq6 hb6 ha6
  cases ok with
  | false =>
    go_wp2
    go_ret
    first | exact ⟨_, rfl, h8, hf8, rfl⟩ | exact ⟨rfl, _, h8, hf8, rfl⟩
  | true =>
    go_wp2_with fail
    generalize w7.setCell ⟨a, 2, none⟩ (.slice (some ⟨g, 0, none⟩) (S.q.length - 1) cap) = w8 at h8 hT8 hf8 ⊢
    have h8d : DI B w8.drew a mb fb (.slice (some ⟨g, 0, none⟩) (S.q.length - 1) cap) { S with q := S.q.eraseIdx i } := h8.kept (fun _ _ => rfl)
    obtain ⟨w9, hrun, hs9, hg9⟩ := h8d.secs.update h8d.N2 x.block hxb x.bytes hxs
    have hmu : (Instr.mapUpdate 80 (.map (some mb)) (.int .i64 (x.block : Int)) (.agg (List.map (Value.int .u8) x.bytes).toArray)).run Tryz.prog w8.drew = .ok () w9 := hrun
    have h9 := h8d.turnSec hs9 hg9
    have hf9 : Frame (foot a mb fb (.slice (some ⟨g, 0, none⟩) S.q.length cap)) w w9 := (frame_drew hf8).trans (frame_of_grown hg9 (fun k hk => .inr (.inl (by cases hk; rfl))))
    have hmT : mb ≠ w1.heap.size := by have := h1.secs.lt; omega
    obtain ⟨T, hT⟩ : ∃ T, w1.heap.size = T := ⟨_, rfl⟩
    rw [hT] at hT8 hmT ⊢
    have hT9 : w9.heap[T]? = some (.cells (wrA x) 108 (0, 0)) := (hg9.block T (Array.getElem?_eq_some_iff.1 hT8).1 (by simp; omega)).trans hT8
    have c1 := h8d.c1
    have c1' := h9.c1
    have k1 := wr_c1 (w := w8.drew) hT8
    have k1' := wr_c1 hT9
    have k2 := wr_c2 (w := w8.drew) hT8
    have k2' := wr_c2 hT9
    have hu79 := Tryz.underlying106
    have hi79 : (Tryz.prog.info? 106).map (·.size) = some (x.bytes.map (Value.int .u8)).length := by rw [List.length_map, hxs.1]; exact info79
    clear h8 h8d hT8 hT9 hs9 hg9 hrun h1 h hb1 hf7 hc7
    go_region_held3 (fun w' => w'.cell? ⟨a, 1, none⟩ = some (.map (some mb)) ∧ w'.cell? ⟨T, 1, none⟩ = some (.int .i64 (x.block : Int)) ∧ w'.rangeAt T 2 (x.bytes.map (Value.int .u8))) (refine ⟨?_, ?_, ?_⟩ <;> assumption) (fail)
    go_wp2
    go_ret
    first | exact ⟨_, rfl, h9, hf9, rfl⟩ | exact ⟨rfl, _, h9, hf9, rfl⟩
end
end Go.Proofs.YtinigfidofgaiaaGreat

/- Reads that fail: setFails, Fail, Read; a crash that is refused. -/
namespace Go.Proofs.YtinigfidofgaiaaGreat
open Go.RowKit Go.Maps
set_option maxRecDepth 100000

theorem zero3 (w : World) : (zeroValue 3).run Tryz.prog w = .ok (.int .i64 0) w := by kernel_rfl

theorem filter_one {p q : Nat → Bool} {b : Nat} (h : ∀ x, q x = (p x || x == b)) : ∀ l : List Nat, l.Nodup → (l.filter q).length ≤ (l.filter p).length + 1
  | [], _ => by simp
  | y :: r, hn => by
    have hr := (List.nodup_cons.1 hn).2
    by_cases e : y = b
    · subst e
      have hy := (List.nodup_cons.1 hn).1
      have hf : r.filter q = r.filter p := by
        apply List.filter_congr
        intro z hz
        have : z ≠ y := by rintro rfl; exact hy hz
        simp [h z, this]
      have l1 : ((y :: r).filter q).length ≤ (r.filter p).length + 1 := by
        rw [← hf, List.filter_cons]
        split <;> simp
      have l2 : (r.filter p).length ≤ ((y :: r).filter p).length := by
        rw [List.filter_cons]
        split <;> simp
      omega
    · have ih := filter_one h r hr
      have hq : q y = p y := by simp [h y, e]
      simp only [List.filter_cons, hq]
      cases p y <;> simp <;> omega

theorem miss_del {D : DataW Unit} {N b : Nat} (ht : Tidy D) (h : size D + miss D N ≤ N) : size (D.del (key b)) + miss (D.del (key b)) N ≤ N := by
  have hs := size_del (k := key b) ht
  have hn : ∀ x, (!has (D.del (key b)) (key x)) = ((!has D (key x)) || x == b) := by
    intro x
    by_cases e : x = b
    · subst e
      rw [has_del_same]; simp
    · rw [has_del_other (fun h => e (key_inj h))]; simp [e]
  by_cases hh : has D (key b) = true
  · rw [if_pos hh] at hs
    have := filter_one (q := fun x => !has (D.del (key b)) (key x)) (p := fun x => !has D (key x)) (b := b) hn (List.range N) List.nodup_range
    unfold miss at h ⊢
    omega
  · have e : D.del (key b) = D := del_of_not_has (by simpa using hh)
    rw [e]
    exact h

theorem lit_wf {n : Int} (h : 0 ≤ n ∧ n ≤ 1000) : (Lit.int .i64 n).wf = true := by
  simp [Lit.wf, IntKind.min, IntKind.max, IntKind.signed, IntKind.bits]
  omega

theorem Fls.lookup {w : World} {mb N : Nat} {f : Nat → Int} (h : Fls w mb N f) (hN : N ≤ 2048) (b : Nat) (hb : b < N) :
    (Instr.lookup 82 (.map (some mb)) (.int .i64 (b : Int)) false).run Tryz.prog w = .ok (.int .i64 (f b)) w := by
  obtain ⟨D, ho, _, hat⟩ := h.ex
  obtain ⟨c, hr, hv, _⟩ := ho.lookup_int keyed3 Tryz.underlying82 Tryz.underlying3 (zero3 w) (key_of (b := b) (by omega))
  rw [hat b hb] at hv
  simp only [DataW.lit.injEq, Lit.int.injEq, true_and] at hv
  rw [hr, ← hv]

theorem Fls.update {w : World} {mb N : Nat} {f : Nat → Int} (h : Fls w mb N f) (hN : N ≤ 2048) (b : Nat) (hb : b < N) (t : Int) (ht : 0 ≤ t ∧ t ≤ 1000) :
    ∃ w', (Instr.mapUpdate 82 (.map (some mb)) (.int .i64 (b : Int)) (.int .i64 t)).run Tryz.prog w = .ok () w' ∧ Fls w' mb N (upd f b t) ∧ w.grownBy w' (some mb) := by
  obtain ⟨D, ho, hm, hat⟩ := h.ex
  obtain ⟨w', hr, ho', hg⟩ := ho.update keyed3 Tryz.underlying82 (show size D < maxLen by unfold maxLen; omega) (key_of (b := b) (by omega)) (plainElem_int Tryz.underlying3 (lit_wf ht))
  refine ⟨w', hr, ⟨⟨_, tight ho', miss_put (ho.tidy keyed3) hb _ hm, ?_⟩, ?_⟩, hg⟩
  · intro y hy
    unfold upd
    by_cases e : y = b
    · subst e; rw [if_pos rfl, atKey_put_same ho.isMap (key_is y)]
    · rw [if_neg e, atKey_put_other (fun h => e (key_inj h))]; exact hat y hy
  · intro y; unfold upd; split
    · exact ht
    · exact h.all y

theorem Fls.delete {w : World} {mb N : Nat} {f : Nat → Int} (h : Fls w mb N f) (hN : N ≤ 2048) (b : Nat) (hb : b < N) (ty : TypeId) :
    ∃ w', (Builtin.delete_ #[82, 3] ty #[.map (some mb), .int .i64 (b : Int)]).run Tryz.prog w = .ok (.tuple #[]) w' ∧ Fls w' mb N (upd f b 0) ∧ w.grownBy w' (some mb) := by
  obtain ⟨D, ho, hm, hat⟩ := h.ex
  obtain ⟨w', hr, ho', hg⟩ := ho.drop keyed3 Tryz.underlying82 (key_of (b := b) (by omega)) ty
  refine ⟨w', hr, ⟨⟨_, tight ho', miss_del (ho.tidy keyed3) hm, ?_⟩, ?_⟩, hg.grown⟩
  · intro y hy
    unfold upd
    by_cases e : y = b
    · subst e; rw [if_pos rfl, atKey_del_same]
    · rw [if_neg e, atKey_del_other (fun h => e (key_inj h))]; exact hat y hy
  · intro y; unfold upd; split
    · omega
    · exact h.all y

section
variable {B : Nat} {w : World} {a mb fb : Nat} {qv : Value} {S : St}

theorem DI.turnFl (h : DI B w a mb fb qv S) {w' : World} {f' : Nat → Int} (hs : Fls w' fb S.N f') (hg : w.grownBy w' (some fb)) : DI B w' a mb fb qv { S with fl := f' } := by
  obtain ⟨n1, n2, n3, n4, n5⟩ := h.apart
  have ho : ∀ k, k < w.heap.size → k ≠ fb → w'.heap[k]? = w.heap[k]? := fun k hk h1 => hg.block k hk (by simpa using h1)
  exact { row := (ho a (Array.getElem?_eq_some_iff.1 h.row).1 n2).trans h.row, secs := h.secs.kept (ho mb h.secs.lt h.ne), que := ownsRow_kept h.que (fun k hk => ho k (h.que.lt k hk).2 (by rintro rfl; exact n5 hk)), fls := hs, lo := h.lo, ne := h.ne, N1 := h.N1, N2 := h.N2, q64 := h.q64, qok := h.qok, lok := h.lok }

set_option maxRecDepth 10000 in
set_option maxHeartbeats 400000 in
theorem setFails_ok (h : DI B w a mb fb qv S) (b : Nat) (hb : b < S.N) (t : Int) (ht : 0 ≤ t ∧ t ≤ 1000) : Calls Tryz.prog 171 #[.pointer (some ⟨a, 0, none⟩), .int .i64 (b : Int), .int .i64 t] w fun e w' => (∃ v, e = .returned v) ∧ DI B w' a mb fb qv { S with fl := upd S.fl b t } ∧ Frame (foot a mb fb qv) w w' := by
  have hc := h.c4
  by_cases h0 : t = 0
  · subst h0
    obtain ⟨w', hr, hf, hg⟩ := h.fls.delete h.N2 b hb 0
    have hd := h.turnFl hf hg
    have hfr : Frame (foot a mb fb qv) w w' := frame_of_grown hg (fun k hk => .inr (.inr (.inl (by cases hk; rfl))))
    clear hf hg h
    go_enter Tryz.func171, Tryz.ntmps171
    go_wp2
    first | go_end0 | (refine bodyPost_ret (results_none rfl _ _ _) rfl ?_)
    exact ⟨⟨_, rfl⟩, hd, hfr⟩
  · obtain ⟨w', hr, hf, hg⟩ := h.fls.update h.N2 b hb t ht
    have hd := h.turnFl hf hg
    have hfr : Frame (foot a mb fb qv) w w' := frame_of_grown hg (fun k hk => .inr (.inr (.inl (by cases hk; rfl))))
    clear hf hg h
    go_enter Tryz.func171, Tryz.ntmps171
    go_wp2
    first | go_end0 | (refine bodyPost_ret (results_none rfl _ _ _) rfl ?_)
    exact ⟨⟨_, rfl⟩, hd, hfr⟩

set_option maxHeartbeats 400000 in
theorem read_arg (h : DI B w a mb fb qv S) (b : Int) (hb : ¬ (0 ≤ b ∧ b < S.N)) : Calls Tryz.prog 158 #[.pointer (some ⟨a, 0, none⟩), .int .i64 b] w fun e w' => e = .returned (.tuple #[.slice none 0 0, .int .i64 1]) ∧ w' = w := by
  have c := has_false h b hb
  go_enter Tryz.func158, Tryz.ntmps158
  go_wp2_with fail
  refine same_at (made_ok h) ?_
  go_wp2_with fail
  refine same_at c ?_
  go_wp2
  go_ret2
  exact ⟨rfl, rfl⟩

set_option maxHeartbeats 400000 in
theorem read_ok (h : DI B w a mb fb qv S) (b : Nat) (hb : b < S.N) (h0 : S.fl b = 0) : Calls Tryz.prog 158 #[.pointer (some ⟨a, 0, none⟩), .int .i64 (b : Int)] w fun e w' => ∃ g, e = .returned (.tuple #[.slice (some ⟨g, 0, none⟩) 128 128, .int .i64 0]) ∧ Own w.heap.size w' g 128 128 (S.f b) ∧ Below w.heap.size w w' := by
  have c := has_true h b hb
  have hc := h.c4
  have hl := h.fls.lookup h.N2 b hb
  rw [h0] at hl
  go_enter Tryz.func158, Tryz.ntmps158
  go_wp2_with fail
  refine same_at (made_ok h) ?_
  go_wp2_with fail
  refine same_at c ?_
  go_wp2_with fail
  refine (bytesOf_ok h b hb).mono ?_
  rintro e w1 ⟨g, rfl, ho, hb1⟩
  go_wp2
  go_ret2
  exact ⟨g, rfl, ho, hb1⟩

set_option maxHeartbeats 400000 in
theorem read_fails (h : DI B w a mb fb qv S) (b : Nat) (hb : b < S.N) (h0 : 0 < S.fl b) : Calls Tryz.prog 158 #[.pointer (some ⟨a, 0, none⟩), .int .i64 (b : Int)] w fun e w' => e = .returned (.tuple #[.slice none 0 0, .int .i64 4]) ∧ DI B w' a mb fb qv { S with fl := upd S.fl b (S.fl b - 1) } ∧ Frame (foot a mb fb qv) w w' := by
  have c := has_true h b hb
  have hc := h.c4
  have hl := h.fls.lookup h.N2 b hb
  have ha := h.fls.all b
  have hs := setFails_ok h b hb (S.fl b - 1) (by omega)
  generalize S.fl b = t at h0 hl ha hs
  have hw : IntKind.i64.wrap (t - 1) = t - 1 := by rw [IntKind.wrap_i64]; omega
  have HS := (show Hid _ from hs)
  clear hs
  go_enter Tryz.func158, Tryz.ntmps158
  go_wp2_with fail
  refine same_at (made_ok h) ?_
  go_wp2_with fail
  refine same_at c ?_
  go_wp2_with fail
  refine Calls.mono HS.out ?_
  rintro e w1 ⟨⟨v, rfl⟩, hd, hf⟩
  go_wp2
  go_ret2
  exact ⟨rfl, hd, hf⟩

end
end Go.Proofs.YtinigfidofgaiaaGreat
