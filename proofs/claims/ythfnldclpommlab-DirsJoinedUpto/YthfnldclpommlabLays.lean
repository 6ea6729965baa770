/- The document's inodes out of bytes. -/
import Derived.Test.YthfnldclpommlabBase
import Derived.Lib.BufferWrite
import Derived.Lib.SlBuf
import Derived.Deep.RegionHeld3
import Derived.Lib.SmallJoins
import Derived.Deep.Strs
import Derived.Lib.AppendZerosOnto
import Derived.Deep.MidRow
import Derived.Laws.ResultCell
import Derived.Deep.AppendSrc
import Derived.DeepKeys2

/- A page: a structure's bytes while its fields are written, one behind the other. -/
namespace Go.Proofs.Ythfnldclpommlab
open Go.RowKit

/-- Block pb is a page of N bytes, xs, that lie in block g; the next field begins at a. Both blocks are new since B. -/
structure Pg (B : Nat) (w : World) (pb g N a : Nat) (xs : List Int) : Prop where
  hp : w.heap[pb]? = some (.cells #[.slice (some ⟨g, 0, none⟩) N N, .int .i64 (a : Int)] 94 (0, 0))
  row : w.heap[g]? = some (.cells (xs.map (Value.int .u8)).toArray 5 (0, 0))
  len : xs.length = N
  byt : Num.Byt xs
  lop : B ≤ pb
  log : B ≤ g
  ne : pb ≠ g
  big : N ≤ 128

theorem cell_row {w : World} {g : Nat} {cs : Array Value} {t : TypeId} (h : w.heap[g]? = some (.cells cs t (0, 0))) (i : Nat) (v : Value) (hv : cs[i]? = some v) : w.cell? ⟨g, i, none⟩ = some v := by
  simp [World.cell?, h, hv]

theorem Pg.c0 {B : Nat} {w : World} {pb g N a : Nat} {xs : List Int} (h : Pg B w pb g N a xs) : w.cell? ⟨pb, 0, none⟩ = some (.slice (some ⟨g, 0, none⟩) N N) := cell_row h.hp 0 _ rfl
theorem Pg.c1 {B : Nat} {w : World} {pb g N a : Nat} {xs : List Int} (h : Pg B w pb g N a xs) : w.cell? ⟨pb, 1, none⟩ = some (.int .i64 (a : Int)) := cell_row h.hp 1 _ rfl
theorem Pg.bi {B : Nat} {w : World} {pb g N a : Nat} {xs : List Int} (h : Pg B w pb g N a xs) : BI w (some ⟨g, 0, none⟩) N xs :=
  ⟨h.len, by have := h.big; omega, h.byt, fun _ => ⟨g, 0, rfl, fun i hi => by
    rw [Nat.zero_add]
    refine cell_row h.row i _ ?_
    have hl := h.len
    simp [List.getD_eq_getElem?_getD, List.getElem?_eq_getElem (show i < xs.length by omega)]⟩⟩

theorem Pg.kept {B : Nat} {w w' : World} {pb g N a : Nat} {xs : List Int} (h : Pg B w pb g N a xs) (hb : Below w.heap.size w w') : Pg B w' pb g N a xs := by
  have h1 : pb < w.heap.size := (Array.getElem?_eq_some_iff.1 h.hp).1
  have h2 : g < w.heap.size := (Array.getElem?_eq_some_iff.1 h.row).1
  exact ⟨by rw [hb.block _ h1]; exact h.hp, by rw [hb.block _ h2]; exact h.row, h.len, h.byt, h.lop, h.log, h.ne, h.big⟩

theorem Pg.base {B B' : Nat} {w : World} {pb g N a : Nat} {xs : List Int} (h : Pg B w pb g N a xs) (hB : B' ≤ B) : Pg B' w pb g N a xs :=
  ⟨h.hp, h.row, h.len, h.byt, Nat.le_trans hB h.lop, Nat.le_trans hB h.log, h.ne, h.big⟩

theorem heap_set {w : World} {b i : Nat} {cs : Array Value} {t : TypeId} (h : w.heap[b]? = some (.cells cs t (0, 0))) (v : Value) : (w.setCell ⟨b, i, none⟩ v).heap[b]? = some (.cells (cs.setIfInBounds i v) t (0, 0)) := by
  simp [World.setCell, Array.getElem?_modify, h]

theorem Pg.moved {B : Nat} {w : World} {pb g N a : Nat} {xs : List Int} (h : Pg B w pb g N a xs) (b : Nat) : Pg B (w.setCell ⟨pb, 1, none⟩ (.int .i64 (b : Int))) pb g N b xs := by
  refine ⟨?_, ?_, h.len, h.byt, h.lop, h.log, h.ne, h.big⟩
  · rw [heap_set h.hp]; rfl
  · rw [Below.heap_setCell _ _ _ _ h.ne.symm]; exact h.row

/-- A list of noughts. -/
def zers (n : Nat) : List Int := List.replicate n 0
theorem zers_len (n : Nat) : (zers n).length = n := by simp [zers]
theorem zers_byt (n : Nat) : Num.Byt (zers n) := fun i => by
  unfold zers
  rw [List.getD_eq_getElem?_getD, List.getElem?_replicate]
  split <;> simp

theorem made_zers (N : Nat) : (madeCells (Value.int .u8 0).cells (N * 1)).toList = (zers N).map (Value.int .u8) := by
  unfold zers
  apply List.ext_getElem
  · simp [madeCells, Value.cells]
  · intro i h1 h2
    simp [madeCells, Value.cells, Nat.mod_one]

theorem newPage_ok (N : Nat) (hN : N ≤ 128) (B : Nat) (w : World) (hB : B ≤ w.heap.size) : Calls Try.prog 64 #[.int .i64 (N : Int)] w fun e w' => ∃ pb g, e = .returned (.pointer (some ⟨pb, 0, none⟩)) ∧ Pg B w' pb g N 0 (zers N) ∧ Below B w w' := by
  obtain ⟨i0, hi, hz0, hz1, hz2⟩ := info_parts info5
  go_enter Try.func64, Try.ntmps64
  go_wp2_with (first
    | (at_make; refine wpList_make_full _ rfl _ _ 22 rfl w.heap.size 5 i0 (.int .u8 0) 1 Try.underlying22 hi hz0 hz1 .i64 .i64 _ _ N rfl rfl rfl rfl (by rw [hz2]; omega) (by unfold maxLen; omega) (Nat.le_refl _) ?_; intro w1 hown1 hgrow1; have hb1 := (Below.refl w.heap.size w).grown hgrow1 (Nat.le_refl _) (by intro k hk; cases hk)))
  go_ret
  have hrow := own_row hown1
  rw [made_zers N] at hrow
  have hlt : w.heap.size < w1.heap.size := (Array.getElem?_eq_some_iff.1 hrow).1
  refine ⟨w1.heap.size, w.heap.size, rfl, ⟨at_new rfl, at_old hrow, zers_len N, zers_byt N, by omega, hB, by omega, hN⟩, ?_⟩
  exact (hb1.mono hB).alloc (by omega) _

set_option maxHeartbeats 400000 in
theorem field_ok {B : Nat} {w : World} {pb g N a : Nat} {xs : List Int} (h : Pg B w pb g N a xs) (n : Nat) (h1 : 1 ≤ n) (h2 : a + n ≤ N) :
    Calls Try.prog 78 #[.pointer (some ⟨pb, 0, none⟩), .int .i64 (n : Int)] w fun e w' => e = .returned (.slice (some ⟨g, a, none⟩) n n) ∧ Pg B w' pb g N (a + n) xs ∧ Below B w w' := by
  have c0 := h.c0
  have c1 := h.c1
  have hbig := h.big
  have hm := h.moved (a + n)
  have hf := frozen_of_row w pb 1 _ _ h.hp
  have hbw := (Below.refl B w).setCell (p := ⟨pb, 1, none⟩) h.lop (.int .i64 ((a + n : Nat) : Int))
  have d0 := hm.c0
  have d1 := hm.c1
  simp only [Int.natCast_add] at hbw d0 d1 hm
  go_enter Try.func78, Try.ntmps78
  go_wp2_with fail
  generalize w.setCell ⟨pb, 1, none⟩ (.int .i64 ((a : Int) + (n : Int))) = w1 at *
  have e1 : (a : Int) ≤ (a : Int) + (n : Int) := by omega
  have e2 : (a : Int) + (n : Int) ≤ (N : Int) := by omega
  go_quiet (fail)
  go_wp2
  go_ret
  refine ⟨?_, hm.kept (below_drewN (Below.refl _ _) _), below_drewN hbw _⟩
  show Ending.returned (.slice (some ⟨g, a, none⟩) (a + n - a) (a + n - a)) = _
  rw [show a + n - a = n by omega]

set_option maxHeartbeats 400000 in
theorem field_zero {B : Nat} {w : World} {pb g N a : Nat} {xs : List Int} (h : Pg B w pb g N a xs) (h2 : a ≤ N) :
    Calls Try.prog 78 #[.pointer (some ⟨pb, 0, none⟩), .int .i64 0] w fun e w' => e = .returned (.slice (some ⟨g, 0, none⟩) 0 0) ∧ Pg B w' pb g N a xs ∧ Below B w w' := by
  have c0 := h.c0
  have c1 := h.c1
  have hbig := h.big
  have hm := h.moved a
  have hf := frozen_of_row w pb 1 _ _ h.hp
  have hbw := (Below.refl B w).setCell (p := ⟨pb, 1, none⟩) h.lop (.int .i64 (a : Int))
  have d0 := hm.c0
  have d1 := hm.c1
  go_enter Try.func78, Try.ntmps78
  go_wp2_with fail
  generalize w.setCell ⟨pb, 1, none⟩ (.int .i64 (a : Int)) = w1 at *
  have e2 : (a : Int) ≤ (N : Int) := by omega
  go_quiet (fail)
  go_wp2
  go_ret
  exact ⟨rfl, hm.kept (below_drewN (Below.refl _ _) _), below_drewN hbw _⟩

theorem getD_splice (xs ys : List Int) (a : Nat) (h : a + ys.length ≤ xs.length) (i : Nat) : (splice xs a ys).getD i 0 = if i < a then xs.getD i 0 else if i < a + ys.length then ys.getD (i - a) 0 else xs.getD i 0 := by
  have ht : (xs.take a).length = a := by simp; omega
  unfold splice
  simp only [List.getD_eq_getElem?_getD]
  by_cases h1 : i < a
  · rw [if_pos h1, List.getElem?_append_left (by omega), List.getElem?_take_of_lt h1]
  · rw [if_neg h1, List.getElem?_append_right (by omega), ht]
    by_cases h2 : i < a + ys.length
    · rw [if_pos h2, List.getElem?_append_left (by omega)]
    · rw [if_neg h2, List.getElem?_append_right (by omega), List.getElem?_drop, show a + ys.length + (i - a - ys.length) = i by omega]

/-- A number put into a part of a list is one put into the list. -/
theorem splice_put (xs : List Int) (a k : Nat) (v : Int) (h : a + k ≤ xs.length) : splice xs a (Num.putTo ((xs.drop a).take k) 0 v k) = Num.putTo xs a v k := by
  have hl : (Num.putTo ((xs.drop a).take k) 0 v k).length = k := by rw [Num.putTo_length]; simp; omega
  apply ext_getD
  · rw [length_splice _ _ _ (by omega), Num.putTo_length]
  intro i _
  rw [getD_splice _ _ _ (by omega), hl]
  by_cases h1 : i < a
  · rw [if_pos h1, Num.putTo_out _ _ _ _ _ (by omega)]
  · rw [if_neg h1]
    by_cases h2 : i < a + k
    · obtain ⟨j, rfl⟩ : ∃ j, i = a + j := ⟨i - a, by omega⟩
      have := Num.putTo_in ((xs.drop a).take k) 0 v k (by simp; omega) j (by omega)
      rw [Nat.zero_add] at this
      rw [if_pos h2, Num.putTo_in xs a v k h j (by omega), show a + j - a = j by omega, this]
    · rw [if_neg h2, Num.putTo_out _ _ _ _ _ (by omega)]

theorem splice_map (xs ys : List Int) (a : Nat) : splice (xs.map (Value.int .u8)) a (ys.map (Value.int .u8)) = (splice xs a ys).map (Value.int .u8) := by
  simp [splice, List.map_take, List.map_drop]
theorem splice_len (xs ys : List Int) (a : Nat) (h : a + ys.length ≤ xs.length) : (splice xs a ys).length = xs.length := length_splice xs a ys h
theorem splice_byt {xs ys : List Int} (hx : Num.Byt xs) (hy : Num.Byt ys) (a : Nat) : Num.Byt (splice xs a ys) := by
  have key : ∀ l : List Int, Num.Byt l ↔ ∀ n ∈ l, 0 ≤ n ∧ n < 256 := by
    intro l
    constructor
    · intro h n hn
      obtain ⟨i, hi, rfl⟩ := List.getElem_of_mem hn
      have := h i
      simpa [List.getD_eq_getElem?_getD, List.getElem?_eq_getElem hi] using this
    · intro h i
      rw [List.getD_eq_getElem?_getD]
      by_cases hi : i < l.length
      · rw [List.getElem?_eq_getElem hi]; exact h _ (List.getElem_mem hi)
      · rw [List.getElem?_eq_none (by omega)]; simp
  rw [key] at hx hy ⊢
  intro n hn
  unfold splice at hn
  rcases List.mem_append.1 hn with h | h
  · exact hx n (List.mem_of_mem_take h)
  · rcases List.mem_append.1 h with h | h
    · exact hy n h
    · exact hx n (List.mem_of_mem_drop h)

/-- A page whose row was turned, behind a copy into it. -/
theorem Pg.turned {B : Nat} {w w' : World} {pb g N a : Nat} {xs ys : List Int} (h : Pg B w pb g N a xs) (hpb : w'.heap[pb]? = w.heap[pb]?) (hr : w'.heap[g]? = some (.cells (ys.map (Value.int .u8)).toArray 5 (0, 0))) (hl : ys.length = N) (hy : Num.Byt ys) : Pg B w' pb g N a ys :=
  ⟨hpb.trans h.hp, hr, hl, hy, h.lop, h.log, h.ne, h.big⟩

theorem Pg.spliced {B : Nat} {w : World} {pb g N a : Nat} {xs : List Int} (h : Pg B w pb g N a xs) (o : Nat) (ys : List Int) (hy : Num.Byt ys) (hf : o + ys.length ≤ N) (L : List Value) (hL : L = (splice xs o ys).map (Value.int .u8)) :
    Pg B (w.setRow g L.toArray) pb g N a (splice xs o ys) ∧ Below B w (w.setRow g L.toArray) := by
  subst hL
  have hl := h.len
  refine ⟨h.turned (setRow_other _ _ _ _ h.ne) (setRow_heap _ _ _ _ _ _ h.row) (by rw [length_splice _ _ _ (by omega)]; exact hl) (splice_byt h.byt hy o), below_setRow (Below.refl _ _) h.log _⟩

theorem wpList_copy_page {w : World} {ops : Array Oper} {rest : List Oper} {o : Oper} {a : Act} {Q : Exit → Act → World → Prop} (hgd : o.guard = none) (d s : Operand)
    (ho : o.op = .call { callee := .builtin .copy, args := #[d, s], argTypes := #[22, 22] }) {B pb g N at_ : Nat} {xs ys : List Int} (hp : Pg B w pb g N at_ xs) (off k c : Nat) (p : Option Addr) (hk : 1 ≤ k) (hf : off + k ≤ N)
    (hb : BI w p k ys) (hd : a.eval d = .slice (some ⟨g, off, none⟩) k k) (hs : a.eval s = .slice p k c)
    (h : ∀ w', Pg B w' pb g N at_ (splice xs off ys) → Below B w w' → wpList Try.prog ops Q rest (a.put o.dst (goInt k)) w') : wpList Try.prog ops Q (o :: rest) a w := by
  obtain ⟨ad, rfl, hsrc⟩ := hb.src (by omega)
  have hyl := hb.len
  have hl := hp.len
  refine wpList_copy_own hgd d s 22 22 ho 5 Try.underlying22 size5 g off k k ad k c hd hs _ 5 hp.row (ys.map (Value.int .u8)) (by simp [hyl]) hsrc (by simp; omega) (one_cells ys) ?_
  have hsp := hp.spliced off ys hb.byt (by omega) (((xs.map (Value.int .u8)).toArray).toList.take off ++ (ys.map (Value.int .u8) ++ ((xs.map (Value.int .u8)).toArray).toList.drop (off + (ys.map (Value.int .u8)).length))) (by rw [← splice_map]; rfl)
  have e : goInt (ys.map (Value.int .u8)).length = goInt k := by simp [hyl]
  rw [e]
  exact h _ hsp.1 hsp.2

set_option maxHeartbeats 400000 in
theorem pnum_ok {B : Nat} {w : World} {pb g N a : Nat} {xs : List Int} (h : Pg B w pb g N a xs) (k : Nat) (v : Int) (h1 : 1 ≤ k) (h4 : k ≤ 4) (h2 : a + k ≤ N) (hv0 : 0 ≤ v) (hv1 : v < 256 ^ k) :
    Calls Try.prog 65 #[.pointer (some ⟨pb, 0, none⟩), .int .i64 (k : Int), .int .i64 v] w fun e w' => e = .returned (.tuple #[]) ∧ Pg B w' pb g N (a + k) (Num.putTo xs a v k) ∧ Below B w w' := by
  have hf := field_ok h k h1 h2
  have hlen := h.len
  have hbig := h.big
  have HV : Hid (v < 256 ^ k) := hv1
  have hB : B ≤ w.heap.size := Nat.le_of_lt (Nat.lt_of_le_of_lt h.lop (Array.getElem?_eq_some_iff.1 h.hp).1)
  clear hv1
  go_enter Try.func65, Try.ntmps65
  go_wp2_with fail
  refine hf.mono ?_
  rintro e w1 ⟨rfl, p1, b1⟩
  have hbi := p1.bi
  have hd : BI w1 (some ⟨g, a, none⟩) k ((xs.drop a).take k) := by
    have := (hbi.drop a (by omega)).take k (by omega)
    rwa [Nat.zero_add] at this
  have hp0 : Num.pE k (0 : Int) (k : Int) v = 0 := by
    unfold Num.pE
    rw [Int.toNat_natCast, if_neg (by have := HV.out; omega), if_neg (by omega)]
  have hput := put_yes (some ⟨g, a, none⟩) k k _ 0 k v w1 hd hp0
  rw [Int.toNat_natCast] at hput
  simp only [Int.toNat_zero] at hput
  clear hf hp0
  go_wp2_with fail
  refine hput.mono ?_
  rintro e w2 ⟨g2, cap, rfl, ho2, hb2⟩
  have p2 := p1.kept hb2
  have hpb : Num.Byt (Num.putTo ((xs.drop a).take k) 0 v k) := Num.putTo_byt hd.byt _ _ _
  have hsrc := (ho2.bi (by omega) hpb)
  go_wp2_with (refine wpList_copy_page rfl _ _ rfl p2 a k cap _ h1 h2 hsrc rfl rfl ?_)
  intro w3 p3 b3
  rw [splice_put _ _ _ _ (by omega)] at p3
  go_wp2
  go_end0
  exact ⟨rfl, p3, b1.trans ((hb2.mono (Nat.le_trans hB b1.size)).trans b3)⟩

/-- A text's bytes, as numbers. -/
def numsOf (s : ByteArray) : List Int := s.data.toList.map (fun b => (b.toNat : Int))
theorem numsOf_len (s : ByteArray) : (numsOf s).length = s.size := by
  unfold numsOf
  rw [List.length_map, Array.length_toList]
  rfl
theorem numsOf_byt (s : ByteArray) : Num.Byt (numsOf s) := by
  intro i
  unfold numsOf
  rw [List.getD_eq_getElem?_getD, List.getElem?_map]
  cases s.data.toList[i]? with
  | none => simp
  | some b =>
    simp
    have := b.toNat_lt
    omega

theorem wpList_copy_text {w : World} {ops : Array Oper} {rest : List Oper} {o : Oper} {a : Act} {Q : Exit → Act → World → Prop} (hgd : o.guard = none) (d s : Operand)
    (ho : o.op = .call { callee := .builtin .copy, args := #[d, s], argTypes := #[22, 9] }) {B pb g N at_ : Nat} {xs : List Int} (hp : Pg B w pb g N at_ xs) (off : Nat) (t : ByteArray) (hf : off + t.size ≤ N)
    (hd : a.eval d = .slice (some ⟨g, off, none⟩) t.size t.size) (hs : a.eval s = .string t)
    (h : ∀ w', Pg B w' pb g N at_ (splice xs off (numsOf t)) → Below B w w' → wpList Try.prog ops Q rest (a.put o.dst (goInt t.size)) w') : wpList Try.prog ops Q (o :: rest) a w := by
  have hl := hp.len
  have hrun := Lib.run_copy_row_string (P := Try.prog) w 22 9 o.type 5 g off t.size t.size t _ 5 Try.underlying22 size5 hp.row (Nat.le_refl _) (by simp; omega)
  have hsp := hp.spliced off (numsOf t) (numsOf_byt t) (by rw [numsOf_len]; omega) (((xs.map (Value.int .u8)).toArray).toList.take off ++ Lib.byteCells t.data.toList ++ ((xs.map (Value.int .u8)).toArray).toList.drop (off + t.size)) (by
    rw [← splice_map]; unfold splice; rw [List.length_map, numsOf_len, List.append_assoc]
    simp [Lib.byteCells, numsOf])
  exact Lib.wpList_copy_run w hgd d s 22 9 ho _ _ hd hs hrun (h _ hsp.1 hsp.2)

set_option maxHeartbeats 400000 in
theorem ptext_ok {B : Nat} {w : World} {pb g N a : Nat} {xs : List Int} (h : Pg B w pb g N a xs) (t : ByteArray) (h1 : 1 ≤ t.size) (h2 : a + t.size ≤ N) :
    Calls Try.prog 66 #[.pointer (some ⟨pb, 0, none⟩), .string t] w fun e w' => e = .returned (.tuple #[]) ∧ Pg B w' pb g N (a + t.size) (splice xs a (numsOf t)) ∧ Below B w w' := by
  have hf := field_ok h t.size h1 h2
  go_enter Try.func66, Try.ntmps66
  go_wp2_with fail
  refine hf.mono ?_
  rintro e w1 ⟨rfl, p1, b1⟩
  go_wp2_with (refine wpList_copy_text rfl _ _ rfl p1 a t h2 rfl rfl ?_)
  intro w2 p2 b2
  go_wp2
  go_end0
  exact ⟨rfl, p2, b1.trans b2⟩

set_option maxHeartbeats 400000 in
theorem ptext_none {B : Nat} {w : World} {pb g N a : Nat} {xs : List Int} (h : Pg B w pb g N a xs) (t : ByteArray) (h1 : t.size = 0) (h2 : a ≤ N) :
    Calls Try.prog 66 #[.pointer (some ⟨pb, 0, none⟩), .string t] w fun e w' => e = .returned (.tuple #[]) ∧ Pg B w' pb g N a xs ∧ Below B w w' := by
  have hf := field_zero h h2
  have hts : (t.size : Int) = 0 := by omega
  go_enter Try.func66, Try.ntmps66
  go_wp2_with fail
  refine hf.mono ?_
  rintro e w1 ⟨rfl, p1, b1⟩
  have hrun := fun ty => Lib.run_copy_empty_string (P := Try.prog) w1 22 9 ty 5 (some ⟨g, 0, none⟩) 0 0 t Try.underlying22 (by rw [size5]; rfl) h1
  go_wp2_with (refine Lib.wpList_copy_run w1 rfl (.tmp 7) (.tmp 8) 22 9 rfl (.slice (some ⟨g, 0, none⟩) 0 0) (.string t) rfl rfl (hrun _) ?_)
  go_wp2
  go_end0
  exact ⟨rfl, p1, b1⟩
end Go.Proofs.Ythfnldclpommlab

/- Numbers that are written one behind the other, and lists of numbers in memory. -/
namespace Go.Proofs.Ythfnldclpommlab
open Go.RowKit

/-- The slice at p, of n numbers, holds zs. -/
structure II (w : World) (p : Option Addr) (n : Nat) (zs : List Int) : Prop where
  len : zs.length = n
  big : n ≤ 140737488355328
  cells : 0 < n → ∃ b o, p = some ⟨b, o, none⟩ ∧ ∀ i, i < n → w.cell? ⟨b, o + i, none⟩ = some (.int .i64 (zs.getD i 0))

theorem II.kept {w w' : World} {p : Option Addr} {n : Nat} {xs : List Int} (h : II w p n xs) (hb : Below w.heap.size w w') : II w' p n xs := by
  refine ⟨h.len, h.big, fun hn => ?_⟩
  obtain ⟨b, o, rfl, hc⟩ := h.cells hn
  refine ⟨b, o, rfl, fun i hi => ?_⟩
  rw [hb.cell (p := ⟨b, o + i, none⟩) (lt_of_cell (hc i hi))]
  exact hc i hi

/-- xs with the first j numbers of zs put from a on, each k bytes wide. -/
def putsTo (xs : List Int) (a k : Nat) (zs : List Int) : Nat → List Int
  | 0 => xs
  | j + 1 => Num.putTo (putsTo xs a k zs j) (a + k * j) (zs.getD j 0) k

end Go.Proofs.Ythfnldclpommlab

/- Superblocks as bytes, by the program and by the document. -/
namespace Go.Proofs.Ythfnldclpommlab
open Go.RowKit

abbrev superO (G B I M : Int) : Obj := .cells #[.int .i64 G, .int .i64 B, .int .i64 I, .int .i64 M] 25

theorem size_alloc (w : World) (o : Obj) : (w.alloc o).heap.size = w.heap.size + 1 := by simp
theorem heap_new (w : World) (o : Obj) : (w.alloc o).heap[w.heap.size]? = some o := by
  show (w.heap.push o)[w.heap.size]? = some o
  simp
theorem grew_at {P : Program} {f : FuncId} {args : Array Value} {w : World} {v : Value} {Q : Ending → World → Prop} (h : Calls P f args w fun e w' => e = .returned v ∧ Below w.heap.size w w') (hq : ∀ w1, Below w.heap.size w w1 → Q (.returned v) w1) : Calls P f args w Q :=
  h.mono (by rintro e w' ⟨rfl, hb⟩; exact hq w' hb)
theorem cell_kept {w w1 : World} {b i : Nat} {v : Value} (h : w.cell? ⟨b, i, none⟩ = some v) (hb : Below w.heap.size w w1) : w1.cell? ⟨b, i, none⟩ = some v := by
  rw [hb.cell (p := ⟨b, i, none⟩) (lt_of_cell h)]; exact h
theorem grew_trans {w0 w w1 : World} (h : Below w0.heap.size w0 w) (hb : Below w.heap.size w w1) : Below w0.heap.size w0 w1 := h.trans (hb.mono h.size)
theorem grew_alloc (w : World) (o : Obj) : Below w.heap.size w (w.alloc o) := (Below.refl _ _).alloc (Nat.le_refl _) _
theorem drew_cell {w : World} {a : Addr} {v : Value} (h : w.cell? a = some v) : w.drew.cell? a = some v := h

namespace Gm
def May (G B I : Int) : Prop := 1 ≤ G ∧ G ≤ 8 ∧ 8 ≤ B ∧ B ≤ 256 ∧ 4 ≤ I ∧ I ≤ 64 ∧ I % 4 = 0 ∧ 3 + I / 4 ≤ B
instance (G B I : Int) : Decidable (May G B I) := by unfold May; infer_instance
end Gm
def SMay (G B I M : Int) : Prop := Gm.May G B I ∧ 0 ≤ M ∧ M ≤ 4294967295
instance (G B I M : Int) : Decidable (SMay G B I M) := by unfold SMay; infer_instance

theorem within_ok (n l h : Int) (w : World) : Calls Try.prog 49 #[.int .i64 n, .int .i64 l, .int .i64 h] w fun e w' => e = .returned (.bool (decide (l ≤ n ∧ n ≤ h))) ∧ w' = w := by
  go_enter Try.func49, Try.ntmps49
  go_wp2
  all_goals
    go_ret
    exact ⟨by simp [*]; try omega, rfl⟩

/-- A superblock's bytes, but for the sum. -/
def superL (G B I M : Int) : List Int := Num.putTo (Num.putTo (Num.putTo (Num.putTo (splice (zers 128) 0 [98, 111, 108, 108]) 4 G 1) 5 (B - 1) 1) 6 I 1) 8 M 4
/-- Bytes sealed. -/
def sealL (xs : List Int) : List Int := Num.putTo xs (xs.length - 4) (Num.sum xs (xs.length - 4)) 4
def superS (G B I M : Int) : List Int := sealL (superL G B I M)

theorem rnumber_ok (p : Option Addr) (n c : Nat) (xs : List Int) (a k : Nat) (v : Int) (w : World) (h : BI w p n xs) (h1 : 1 ≤ k) (h4 : k ≤ 4) (h2 : a + k ≤ n) (hv0 : 0 ≤ v) (hv1 : v < 256 ^ k) :
    Calls Try.prog 46 #[.slice p n c, .int .i64 (a : Int), .int .i64 (k : Int), .int .i64 v] w fun e w' => ∃ g cap, e = .returned (.slice (some ⟨g, 0, none⟩) n cap) ∧ Own w.heap.size w' g n cap (Num.putTo xs a v k) ∧ Below w.heap.size w w' := by
  have hp0 : Num.pE n (a : Int) (k : Int) v = 0 := by
    unfold Num.pE
    rw [Int.toNat_natCast, if_neg (by omega), if_neg (by omega)]
  have hput := rput_yes p n c xs a k v w h hp0
  rw [Int.toNat_natCast, Int.toNat_natCast] at hput
  clear hp0 hv1
  go_enter Try.func46, Try.ntmps46
  go_wp2_with fail
  refine hput.mono ?_
  rintro e w2 ⟨g2, cap, rfl, ho2, hb2⟩
  go_wp2
  go_ret
  exact ⟨g2, cap, rfl, ho2, hb2⟩

end Go.Proofs.Ythfnldclpommlab

/- Superblocks that came in as arguments. -/
namespace Go.Proofs.Ythfnldclpommlab
open Go.ChangeShapes Go.WideShapes Go.ChangeAt Go.RowKit Go.Joins
set_option linter.unusedVariables false

theorem cells3 : Try.prog.cellsOf 3 = 1 := by kernel_rfl

end Go.Proofs.Ythfnldclpommlab

/- append(s, make([]byte, m)...). -/
namespace Go.Proofs.Ythfnldclpommlab
open Go.RowKit

end Go.Proofs.Ythfnldclpommlab

/- A text that is written out, as bytes of the call's own. -/
namespace Go.Proofs.Ythfnldclpommlab
open Go.RowKit

/-- Block b, behind B, holds the bytes xs, and none that turn. -/
def Lit8 (B : Nat) (w : World) (b : Nat) (xs : List Int) : Prop := B ≤ b ∧ ∃ mk, w.heap[b]? = some (.cells (xs.map (Value.int .u8)).toArray 5 mk)

theorem Lit8.bi {B : Nat} {w : World} {b : Nat} {xs : List Int} (h : Lit8 B w b xs) (hx : Num.Byt xs) (hn : xs.length ≤ 140737488355328) : BI w (some ⟨b, 0, none⟩) xs.length xs := by
  obtain ⟨_, mk, hm⟩ := h
  refine ⟨rfl, hn, hx, fun _ => ⟨b, 0, rfl, fun i hi => ?_⟩⟩
  rw [Nat.zero_add]
  simp [World.cell?, hm, List.getD_eq_getElem?_getD, List.getElem?_eq_getElem hi]

end Go.Proofs.Ythfnldclpommlab

/- The document's superblocks as bytes. -/
namespace Go.Proofs.Ythfnldclpommlab
open Go.RowKit

end Go.Proofs.Ythfnldclpommlab

/- Superblocks out of bytes, by the program. -/
namespace Go.Proofs.Ythfnldclpommlab
open Go.RowKit

theorem numD_drop (xs : List Int) (a : Nat) (k : Nat) : ∀ i, Num.numD (xs.drop a) i k = Num.numD xs (a + i) k := by
  induction k with
  | zero => intro i; rfl
  | succ k ih =>
    intro i
    show (xs.drop a).getD i 0 + 256 * Num.numD (xs.drop a) (i + 1) k = xs.getD (a + i) 0 + 256 * Num.numD xs (a + i + 1) k
    rw [ih, getD_drop', Nat.add_assoc]

theorem bi_ne_size {w : World} {b o n : Nat} {xs : List Int} (h : BI w (some ⟨b, o, none⟩) n xs) {g : Nat} {cs : Array Value} {t : TypeId} {mk : Nat × Nat} (hg : w.heap[g]? = some (.cells cs t mk)) (hn : cs.size < n) : b ≠ g := by
  rintro rfl
  obtain ⟨b', o', e, hc⟩ := h.cells (by omega)
  cases e
  have := hc (n - 1) (by omega)
  simp only [World.cell?, hg] at this
  rw [Array.getElem?_eq_none (by omega)] at this
  cases this

theorem rest_at {w w' : World} {rb n : Nat} {xs : List Int} {E : Int} (h : Rest w rb n xs E) (hr : w'.heap[rb]? = w.heap[rb]?) (hs : ∀ b o, BI w (some ⟨b, o, none⟩) n xs → 0 < n → w'.heap[b]? = w.heap[b]?) : Rest w' rb n xs E := by
  obtain ⟨b, o, c, h1, h2, h3⟩ := h
  refine ⟨b, o, c, hr.trans h1, h2, bi_same h3 (fun b' o' e hn => ?_)⟩
  cases e
  exact hs b o h3 hn

theorem grown_cells {w w' : World} {rb g : Nat} {o : Obj} (hb : w.grownBy w' (some rb)) (hg : w.heap[g]? = some o) (hne : g ≠ rb) : w'.heap[g]? = some o := by
  rw [hb.block g (Array.getElem?_eq_some_iff.1 hg).1 (by simpa using hne)]; exact hg

/-- What stands while a superblock is read: the reader, the structure, the place of the answer. -/
structure SR (w w' : World) (rb n : Nat) (xs : List Int) (a b c d : Int) : Prop where
  r : Rest w' rb n xs 0
  s : w'.heap[w.heap.size + 1]? = some (superO a b c d)
  z : w'.heap[w.heap.size]? = some (superO 0 0 0 0)
  lo : w.heap.size + 2 ≤ rb
  bw : Below w.heap.size w w'

theorem SR.grown {w w' w2 : World} {rb n m : Nat} {xs ys : List Int} {a b c d : Int} (h : SR w w' rb n xs a b c d) (hg : w'.grownBy w2 (some rb)) (hr : Rest w2 rb m ys 0) : SR w w2 rb m ys a b c d := by
  have hl := h.lo
  exact ⟨hr, grown_cells hg h.s (by omega), grown_cells hg h.z (by omega), h.lo, h.bw.grown hg h.bw.size (by intro k hk; cases hk; omega)⟩

theorem SR.cell {w w' : World} {rb n : Nat} {xs : List Int} {a b c d : Int} (h : SR w w' rb n xs a b c d) (i : Nat) (v : Value) (hv : (#[.int .i64 a, .int .i64 b, .int .i64 c, .int .i64 d] : Array Value)[i]? = some v) : w'.cell? ⟨w.heap.size + 1, i, none⟩ = some v := cell_row h.s i v hv

end Go.Proofs.Ythfnldclpommlab

/- Superblocks out of bytes: whether they are in form. -/
namespace Go.Proofs.Ythfnldclpommlab
open Go.RowKit
set_option linter.unusedVariables false

theorem results_cell_tmp_row {P : Program} {fn : Func} {p u : Tmp} {ty : TypeId} (h : fn.results = #[.cell p ty, .tmp u]) (tmps : Array Value) (w : World) (g : Nat) (t : TypeId) (cs : Array Value) (fr : Nat × Nat) (d : TypeDesc)
    (hp : tmps.getD p undef = .pointer (some ⟨g, 0, none⟩)) (hg : w.heap[g]? = some (.cells cs t fr))
    (hu : P.underlying ty = some d) (hd : (match d with | .struct _ | .array _ _ => true | _ => false) = true) (hi : (P.info? ty).map (·.size) = some cs.size) :
    (results fn tmps).run P w = .ok (.tuple #[.agg cs, tmps.getD u undef]) w := by
  rw [results_cell_tmp h, hp]
  simp [asAddr, run_loadVar_row w g t ty cs fr d hg hu hd hi]

/-- The bytes are those that are written for what they say. -/
def SGood (xs : List Int) (a b c d : Int) : Prop := SMay a b c d ∧ superS a b c d = xs
instance (xs : List Int) (a b c d : Int) : Decidable (SGood xs a b c d) := by unfold SGood; infer_instance

end Go.Proofs.Ythfnldclpommlab

/- The document's superblocks out of bytes. -/
namespace Go.Proofs.Ythfnldclpommlab
open Go.RowKit
set_option linter.unusedVariables false

theorem gE_ok (n a k : Nat) (h1 : 1 ≤ k) (h4 : k ≤ 4) (h2 : a + k ≤ n) : Num.gE n (a : Int) (k : Int) = 0 := by
  unfold Num.gE
  rw [if_neg (by omega), if_neg (by omega)]

theorem rget_ok' (p : Option Addr) (n c : Nat) (xs : List Int) (a k : Nat) (w : World) (h : BI w p n xs) (h1 : 1 ≤ k) (h4 : k ≤ 4) (h2 : a + k ≤ n) :
    Calls Try.prog 56 #[.slice p n c, .int .i64 (a : Int), .int .i64 (k : Int)] w fun e w' => e = .returned (.int .i64 (Num.numD xs a k)) ∧ w' = w := by
  have hg := rget_any p n c xs a k w h
  rw [Num.gN, gE_ok n a k h1 h4 h2, if_pos rfl, Int.toNat_natCast, Int.toNat_natCast] at hg
  generalize Num.numD xs a k = v at *
  go_enter Try.func56, Try.ntmps56
  go_wp2_with fail
  refine same_at hg ?_
  go_wp2
  go_ret
  exact ⟨rfl, rfl⟩

theorem same_any (p q : Option Addr) (n c m d : Nat) (xs ys : List Int) (w : World) (h : BI w p n xs) (k : BI w q m ys) :
    Calls Try.prog 57 #[.slice p n c, .slice q m d] w fun e w' => e = .returned (.bool (xs == ys)) ∧ w' = w := by
  have h1 := h.conv c
  have h2 := k.conv d
  go_enter Try.func57, Try.ntmps57
  go_wp2
  go_ret
  exact ⟨ret_bool (str_beq h.byt k.byt), rfl⟩

end Go.Proofs.Ythfnldclpommlab

/- Headers as bytes, by the program. -/
namespace Go.Proofs.Ythfnldclpommlab
open Go.RowKit
set_option linter.unusedVariables false

/-- A header's cells: its number, and 40 bytes. -/
def groupA (N : Int) (ys : List Int) : Array Value := (Value.int .i64 N :: ys.map (Value.int .u8)).toArray
abbrev groupO (N : Int) (ys : List Int) : Obj := .cells (groupA N ys) 38
theorem groupA_size (N : Int) (ys : List Int) (h : ys.length = 40) : (groupA N ys).size = 41 := by simp [groupA, h]
def GMay (N : Int) : Prop := 0 ≤ N ∧ N ≤ 7
instance (N : Int) : Decidable (GMay N) := by unfold GMay; infer_instance
/-- A header's bytes. -/
def groupL (N : Int) (ys : List Int) : List Int := splice (splice (Num.putTo (splice (zers 128) 0 [104, 100]) 2 N 1) 4 (ys.take 8)) 12 (ys.drop 8)

end Go.Proofs.Ythfnldclpommlab

/- The document's headers as bytes. -/
namespace Go.Proofs.Ythfnldclpommlab
open Go.RowKit
set_option linter.unusedVariables false

end Go.Proofs.Ythfnldclpommlab

/- Headers out of bytes, by the program. -/
namespace Go.Proofs.Ythfnldclpommlab
open Go.RowKit
set_option linter.unusedVariables false

/-- What stands while a header is read. -/
structure GR (w w' : World) (rb n : Nat) (xs : List Int) (N : Int) (ys : List Int) : Prop where
  r : Rest w' rb n xs 0
  s : w'.heap[w.heap.size + 1]? = some (groupO N ys)
  z : w'.heap[w.heap.size]? = some (groupO 0 (zers 40))
  lo : w.heap.size + 2 ≤ rb
  bw : Below w.heap.size w w'
  yl : ys.length = 40

theorem GR.grown {w w' w2 : World} {rb n m : Nat} {xs zs ys : List Int} {N : Int} (h : GR w w' rb n xs N ys) (hg : w'.grownBy w2 (some rb)) (hr : Rest w2 rb m zs 0) : GR w w2 rb m zs N ys := by
  have hl := h.lo
  exact ⟨hr, grown_cells hg h.s (by omega), grown_cells hg h.z (by omega), h.lo, h.bw.grown hg h.bw.size (by intro k hk; cases hk; omega), h.yl⟩

theorem GR.turn {w w' w2 : World} {rb n : Nat} {xs ys ys' : List Int} {N N' : Int} (h : GR w w' rb n xs N ys) (hn : 41 < n) (hs : w2.heap[w.heap.size + 1]? = some (groupO N' ys')) (ho : ∀ k, k ≠ w.heap.size + 1 → w2.heap[k]? = w'.heap[k]?) (hb : Below w.heap.size w w2) (hl : ys'.length = 40) : GR w w2 rb n xs N' ys' := by
  have hlo := h.lo
  exact ⟨rest_at h.r (ho _ (by omega)) (fun b o hb hn' => ho _ (bi_ne_size hb h.s (by rw [groupA_size _ _ h.yl]; exact hn))), hs, (ho _ (by omega)).trans h.z, h.lo, hb, hl⟩

theorem GR.row {w w' : World} {rb n : Nat} {xs ys : List Int} {N : Int} (h : GR w w' rb n xs N ys) (hn : 41 < n) (ys' : List Int) (hl : ys'.length = 40) : GR w (w'.setRow (w.heap.size + 1) (groupA N ys')) rb n xs N ys' :=
  h.turn hn (setRow_heap _ _ _ _ _ _ h.s) (fun k hk => setRow_other _ _ _ _ hk) (below_setRow h.bw (by omega) _) hl

end Go.Proofs.Ythfnldclpommlab

/- Headers out of bytes: whether they are in form. -/
namespace Go.Proofs.Ythfnldclpommlab
open Go.RowKit
set_option linter.unusedVariables false

/-- The bytes are those that are written for what they say. -/
def GGood (xs : List Int) (N : Int) (ys : List Int) : Prop := GMay N ∧ groupL N ys = xs
instance (xs : List Int) (N : Int) (ys : List Int) : Decidable (GGood xs N ys) := by unfold GGood; infer_instance

end Go.Proofs.Ythfnldclpommlab

/- Headers out of bytes, by the program. -/
namespace Go.Proofs.Ythfnldclpommlab
open Go.RowKit
set_option linter.unusedVariables false

end Go.Proofs.Ythfnldclpommlab

/- The document's headers out of bytes. -/
namespace Go.Proofs.Ythfnldclpommlab
open Go.RowKit
set_option linter.unusedVariables false

end Go.Proofs.Ythfnldclpommlab

/- Arrays of bytes, and headers, compared. -/
namespace Go.Proofs.Ythfnldclpommlab
open Go.RowKit
set_option linter.unusedVariables false

theorem cells5' : Try.prog.cellsOf 5 = 1 := by kernel_rfl
theorem lit_byte (d : Nat) (v : Int) (h : 0 ≤ v ∧ v < 256) : Try.prog.keyLits (d + 1) 5 [.int .u8 v] = some [Lit.int .u8 v] := by
  unfold Program.keyLits
  simp only [Try.underlying5]
  rw [if_pos ⟨trivial, by simp [Lit.wf, IntKind.min, IntKind.max, IntKind.signed, IntKind.bits]; omega⟩]
theorem mapM_some {α β : Type} (f : α → Option β) : ∀ l : List α, (∀ x ∈ l, ∃ y, f x = some y) → ∃ ys, l.mapM f = some ys
  | [], _ => ⟨[], rfl⟩
  | x :: l, h => by
    obtain ⟨y, hy⟩ := h x (by simp)
    obtain ⟨ys, hys⟩ := mapM_some f l (fun z hz => h z (by simp [hz]))
    exact ⟨y :: ys, by rw [List.mapM_cons, hy, hys]; rfl⟩

/-- Bytes of an array are a key's parts. -/
theorem lits_bytes {t : TypeId} {n : Nat} (ht : Try.prog.underlying t = some (.array n 5)) (hc : Try.prog.cellsOf t = n) (d : Nat) (ys : List Int) (hl : ys.length = n) (hy : Num.Byt ys) : ∃ l, Try.prog.keyLits (d + 2) t (ys.map (Value.int .u8)) = some l := by
  rw [show d + 2 = (d + 1) + 1 from rfl]
  unfold Program.keyLits
  simp only [ht]
  rw [if_pos (by rw [hc, List.length_map, hl])]
  obtain ⟨ls, hls⟩ := mapM_some (fun i => Try.prog.keyLits (d + 1) 5 (((ys.map (Value.int .u8)).drop (i * Try.prog.cellsOf 5)).take (Try.prog.cellsOf 5))) (List.range n) (by
    intro i hi
    have hi := List.mem_range.1 hi
    rw [cells5', Nat.mul_one]
    have e : ((ys.map (Value.int .u8)).drop i).take 1 = [Value.int .u8 (ys.getD i 0)] := by
      rw [List.drop_eq_getElem_cons (by simp; omega)]
      simp [List.getD_eq_getElem?_getD, List.getElem?_eq_getElem (show i < ys.length by omega)]
    rw [e]
    exact ⟨_, lit_byte d _ (hy i)⟩)
  rw [hls]
  exact ⟨_, rfl⟩

end Go.Proofs.Ythfnldclpommlab

/- Inodes as bytes, by the program. -/
namespace Go.Proofs.Ythfnldclpommlab
open Go.RowKit
set_option linter.unusedVariables false

def Ads (zs : List Int) : Prop := ∀ z ∈ zs, 0 ≤ z ∧ z ≤ 2047
instance (zs : List Int) : Decidable (Ads zs) := by unfold Ads; infer_instance

abbrev dinO (m l s a b c d i j : Int) : Obj := .cells #[.int .i64 m, .int .i64 l, .int .i64 s, .int .i64 a, .int .i64 b, .int .i64 c, .int .i64 d, .int .i64 i, .int .i64 j] 45

/-- What files and directories have in common. -/
def UMay (l s a b c d i j : Int) : Prop := (0 ≤ l ∧ l ≤ 1000) ∧ (0 ≤ s ∧ s ≤ 532992) ∧ Ads [a, b, c, d] ∧ Ads [i, j]
instance (l s a b c d i j : Int) : Decidable (UMay l s a b c d i j) := by unfold UMay; infer_instance

/-- Whether an inode may be. -/
def DMay (m l s a b c d i j : Int) : Prop := (m = 0 ∧ l = 0 ∧ s = 0 ∧ a = 0 ∧ b = 0 ∧ c = 0 ∧ d = 0 ∧ i = 0 ∧ j = 0) ∨ (m = 1 ∧ UMay l s a b c d i j) ∨ (m = 2 ∧ UMay l s a b c d i j ∧ s % 128 = 0)
instance (m l s a b c d i j : Int) : Decidable (DMay m l s a b c d i j) := by unfold DMay; infer_instance

end Go.Proofs.Ythfnldclpommlab

/- Inodes as bytes, by the program. -/
namespace Go.Proofs.Ythfnldclpommlab
open Go.RowKit
set_option linter.unusedVariables false

/-- An inode's bytes, but for the sum. -/
def dinL (m l s a b c d i j : Int) : List Int := Num.putTo (Num.putTo (putsTo (Num.putTo (Num.putTo (Num.putTo (zers 32) 0 m 1) 2 l 2) 4 s 4) 8 2 [a, b, c, d] 4) 16 i 2) 18 j 2
def dinS (m l s a b c d i j : Int) : List Int := sealL (dinL m l s a b c d i j)
/-- An inode's bytes: a free one's are all 0. -/
def dinB (m l s a b c d i j : Int) : List Int := if m = 0 then zers 32 else dinS m l s a b c d i j

end Go.Proofs.Ythfnldclpommlab

/- The document's inodes as bytes. -/
namespace Go.Proofs.Ythfnldclpommlab
open Go.RowKit
set_option linter.unusedVariables false

end Go.Proofs.Ythfnldclpommlab

/- The document's inodes as bytes. -/
namespace Go.Proofs.Ythfnldclpommlab
open Go.RowKit
set_option linter.unusedVariables false

end Go.Proofs.Ythfnldclpommlab

/- Numbers taken one behind the other. -/
namespace Go.Proofs.Ythfnldclpommlab
open Go.RowKit
set_option linter.unusedVariables false

/-- Nothing but two blocks has turned. -/
structure Two (w w' : World) (rb ib : Nat) : Prop where
  os : w'.os = w.os
  tape : w'.tape = w.tape
  output : w'.output = w.output
  size : w.heap.size ≤ w'.heap.size
  block : ∀ k, k < w.heap.size → k ≠ rb → k ≠ ib → w'.heap[k]? = w.heap[k]?
theorem Two.refl (w : World) (rb ib : Nat) : Two w w rb ib := ⟨rfl, rfl, rfl, Nat.le_refl _, fun _ _ _ _ => rfl⟩
theorem Two.grown {w w1 w2 : World} {rb ib : Nat} (h : Two w w1 rb ib) (g : w1.grownBy w2 (some rb)) : Two w w2 rb ib :=
  ⟨g.os.trans h.os, g.tape.trans h.tape, g.output.trans h.output, Nat.le_trans h.size g.size, fun k hk h1 h2 => (g.block k (Nat.lt_of_lt_of_le hk h.size) (by simpa using h1)).trans (h.block k hk h1 h2)⟩
end Go.Proofs.Ythfnldclpommlab

/- Inodes out of bytes, by the program. -/
namespace Go.Proofs.Ythfnldclpommlab
open Go.RowKit
set_option linter.unusedVariables false

/-- What stands while an inode is read. -/
structure DR (w w' : World) (rb n : Nat) (xs : List Int) (m l s a b c d i j : Int) : Prop where
  r : Rest w' rb n xs 0
  s : w'.heap[w.heap.size + 1]? = some (dinO m l s a b c d i j)
  z : w'.heap[w.heap.size]? = some (dinO 0 0 0 0 0 0 0 0 0)
  lo : w.heap.size + 2 ≤ rb
  bw : Below w.heap.size w w'

theorem DR.grown {w w' w2 : World} {rb n n2 : Nat} {xs zs : List Int} {m l s a b c d i j : Int} (h : DR w w' rb n xs m l s a b c d i j) (hg : w'.grownBy w2 (some rb)) (hr : Rest w2 rb n2 zs 0) : DR w w2 rb n2 zs m l s a b c d i j := by
  have hl := h.lo
  exact ⟨hr, grown_cells hg h.s (by omega), grown_cells hg h.z (by omega), h.lo, h.bw.grown hg h.bw.size (by intro k hk; cases hk; omega)⟩

end Go.Proofs.Ythfnldclpommlab

/- Inodes out of bytes: whether they are in form. -/
namespace Go.Proofs.Ythfnldclpommlab
open Go.RowKit
set_option linter.unusedVariables false

/-- The bytes are those that are written for what they say. -/
def DGood (xs : List Int) (m l s a b c d i j : Int) : Prop := DMay m l s a b c d i j ∧ dinB m l s a b c d i j = xs
instance (xs : List Int) (m l s a b c d i j : Int) : Decidable (DGood xs m l s a b c d i j) := by unfold DGood; infer_instance

end Go.Proofs.Ythfnldclpommlab

/- Inodes out of bytes, by the program. -/
namespace Go.Proofs.Ythfnldclpommlab
open Go.RowKit
set_option linter.unusedVariables false

theorem map_byte_inj : ∀ {xs ys : List Int}, xs.map (Value.int .u8) = ys.map (Value.int .u8) → xs = ys
  | [], [], _ => rfl
  | [], _ :: _, h => by simp at h
  | _ :: _, [], h => by simp at h
  | x :: xs, y :: ys, h => by
    simp only [List.map_cons, List.cons.injEq] at h
    rw [map_byte_inj h.2]
    have := h.1
    injection this with _ e
    rw [e]

def RGood (xs : List Int) : Prop := DGood xs (Num.numD xs 0 1) (Num.numD xs 2 2) (Num.numD xs 4 4) (Num.numD xs 8 2) (Num.numD xs 10 2) (Num.numD xs 12 2) (Num.numD xs 14 2) (Num.numD xs 16 2) (Num.numD xs 18 2)
instance (xs : List Int) : Decidable (RGood xs) := by unfold RGood; infer_instance
theorem bi_range {w : World} {b o n : Nat} {xs : List Int} (h : BI w (some ⟨b, o, none⟩) n xs) : w.rangeAt b o (xs.map (Value.int .u8)) := by
  intro j v hv
  have hj : j < n := by have := (List.getElem?_eq_some_iff.1 hv).1; simpa [h.len] using this
  obtain ⟨b', o', e, hc⟩ := h.cells (by omega)
  cases e
  rw [hc j hj]
  rw [List.getElem?_map] at hv
  rw [List.getD_eq_getElem?_getD]
  cases hx : xs[j]? with
  | none => rw [hx] at hv; cases hv
  | some x => rw [hx] at hv; simpa using hv

end Go.Proofs.Ythfnldclpommlab

namespace Go.Proofs.Ythfnldclpommlab
open Go.RowKit
set_option linter.unusedVariables false

end Go.Proofs.Ythfnldclpommlab
