/- Disk Image Same RefNew DOf VVoid VNew -/
import Derived.Test.YtinigfidofgaiaaGreatGr01
import Derived.Deep.RegionHeld3

/- A disk in memory, and what only reads it: Blocks, made, has, bytesOf. -/
namespace Go.Proofs.YtinigfidofgaiaaGreat
open Go.RowKit Go.Maps

/-- A write of the queue. -/
structure Wr where
  id : Int
  block : Nat
  bytes : List Int

/-- What a disk has. -/
structure St where
  N : Nat
  f : Nat → List Int
  q : List Wr
  last : Int
  fl : Nat → Int

def Wr.cells (x : Wr) : List Value := .int .i64 x.id :: .int .i64 (x.block : Int) :: x.bytes.map (Value.int .u8)
def flat (q : List Wr) : List Value := q.flatMap Wr.cells

/-- Block fb is a map of how many reads fail. -/
structure Fls (w : World) (fb N : Nat) (g : Nat → Int) : Prop where
  ex : ∃ D : DataW Unit, w.ownsMap Tryz.prog 3 (plainElem Tryz.prog 3) fb (size D) D ∧ size D + miss D N ≤ N ∧ ∀ b, b < N → D.atKey (key b) (.lit (.int .i64 0)) = .lit (.int .i64 (g b))
  all : ∀ b, 0 ≤ g b ∧ g b ≤ 1000

theorem Fls.lt {w : World} {mb N : Nat} {f : Nat → Int} (h : Fls w mb N f) : mb < w.heap.size := by
  obtain ⟨D, ho, _⟩ := h.ex
  exact ho.lt

theorem Fls.kept {w w' : World} {mb N : Nat} {f : Nat → Int} (h : Fls w mb N f) (hb : w'.heap[mb]? = w.heap[mb]?) : Fls w' mb N f := by
  obtain ⟨D, ⟨es, c, ho, r⟩, k⟩ := h.ex
  exact ⟨⟨D, ⟨es, c, hb.trans ho, r⟩, k⟩, h.all⟩

theorem fls_made (w : World) (N : Nat) : Fls (w.alloc (.map #[] 0)) w.heap.size N (fun _ => 0) := by
  refine ⟨⟨.map [], w.ownsMap_made _ _ _, ?_, fun b _ => rfl⟩, fun _ => by omega⟩
  have := List.length_filter_le (fun b => !has (.map [] : DataW Unit) (key b)) (List.range N)
  rw [List.length_range] at this
  show 0 + miss (.map []) N ≤ N
  unfold miss
  omega

/-- Block a is a disk that has S; its blocks lie from B on. -/
structure DI (B : Nat) (w : World) (a mb fb : Nat) (qv : Value) (S : St) : Prop where
  row : w.heap[a]? = some (.cells #[.int .i64 (S.N : Int), .map (some mb), qv, .int .i64 S.last, .map (some fb)] 84 (0, 0))
  secs : Secs w mb S.N S.f
  que : w.ownsRow B 108 130 qv S.q.length (flat S.q)
  fls : Fls w fb S.N S.fl
  lo : B ≤ a ∧ B ≤ mb ∧ B ≤ fb
  ne : mb ≠ fb
  N1 : 1 ≤ S.N
  N2 : S.N ≤ 2048
  q64 : S.q.length ≤ 64
  qok : ∀ x ∈ S.q, x.block < S.N ∧ Sect x.bytes ∧ -9223372036854775808 ≤ x.id ∧ x.id ≤ 9223372036854775807
  lok : 0 ≤ S.last ∧ S.last ≤ 9223372036854775807

/-- A disk's own blocks. -/
def foot (a mb fb : Nat) (qv : Value) (k : Nat) : Prop := k = a ∨ k = mb ∨ k = fb ∨ qv.ownBlock = some k

theorem ownsRow_kept {w w' : World} {B : Nat} {e : TypeId} {s : Nat} {v : Value} {n : Nat} {L : List Value} (h : w.ownsRow B e s v n L) (hb : ∀ k, v.ownBlock = some k → w'.heap[k]? = w.heap[k]?) : w'.ownsRow B e s v n L := by
  refine ⟨h.1, ?_⟩
  rcases h.2 with h' | ⟨g', cap', cur, rfl, hbg, hg, rest⟩
  · exact .inl h'
  · exact .inr ⟨g', cap', cur, rfl, hbg, (hb g' rfl).trans hg, rest⟩

theorem DI.in {B : Nat} {w : World} {a mb fb : Nat} {qv : Value} {S : St} (h : DI B w a mb fb qv S) : ∀ k, foot a mb fb qv k → B ≤ k ∧ k < w.heap.size := by
  rintro k (rfl | rfl | rfl | hk)
  · exact ⟨h.lo.1, (Array.getElem?_eq_some_iff.1 h.row).1⟩
  · exact ⟨h.lo.2.1, h.secs.lt⟩
  · exact ⟨h.lo.2.2, h.fls.lt⟩
  · exact h.que.lt k hk

/-- A disk stays where none of its blocks turns. -/
theorem DI.kept {B : Nat} {w w' : World} {a mb fb : Nat} {qv : Value} {S : St} (h : DI B w a mb fb qv S) (hb : ∀ k, foot a mb fb qv k → w'.heap[k]? = w.heap[k]?) : DI B w' a mb fb qv S :=
  { h with
    row := (hb a (.inl rfl)).trans h.row
    secs := h.secs.kept (hb mb (.inr (.inl rfl)))
    que := ownsRow_kept h.que (fun k hk => hb k (.inr (.inr (.inr hk))))
    fls := h.fls.kept (hb fb (.inr (.inr (.inl rfl)))) }

theorem DI.later {B : Nat} {w w' : World} {a mb fb : Nat} {qv : Value} {S : St} (h : DI B w a mb fb qv S) (hb : Below w.heap.size w w') : DI B w' a mb fb qv S :=
  h.kept (fun k hk => hb.block k (h.in k hk).2)

theorem DI.c0 {B : Nat} {w : World} {a mb fb : Nat} {qv : Value} {S : St} (h : DI B w a mb fb qv S) : w.cell? ⟨a, 0, none⟩ = some (.int .i64 (S.N : Int)) := by
  rw [cell_of_row _ _ 0 _ _ _ h.row]; rfl
theorem DI.c1 {B : Nat} {w : World} {a mb fb : Nat} {qv : Value} {S : St} (h : DI B w a mb fb qv S) : w.cell? ⟨a, 1, none⟩ = some (.map (some mb)) := by
  rw [cell_of_row _ _ 1 _ _ _ h.row]; rfl
theorem DI.c2 {B : Nat} {w : World} {a mb fb : Nat} {qv : Value} {S : St} (h : DI B w a mb fb qv S) : w.cell? ⟨a, 2, none⟩ = some qv := by
  rw [cell_of_row _ _ 2 _ _ _ h.row]; rfl
theorem DI.c3 {B : Nat} {w : World} {a mb fb : Nat} {qv : Value} {S : St} (h : DI B w a mb fb qv S) : w.cell? ⟨a, 3, none⟩ = some (.int .i64 S.last) := by
  rw [cell_of_row _ _ 3 _ _ _ h.row]; rfl
theorem DI.c4 {B : Nat} {w : World} {a mb fb : Nat} {qv : Value} {S : St} (h : DI B w a mb fb qv S) : w.cell? ⟨a, 4, none⟩ = some (.map (some fb)) := by
  rw [cell_of_row _ _ 4 _ _ _ h.row]; rfl

section
variable {B : Nat} {w : World} {a mb fb : Nat} {qv : Value} {S : St}

theorem blocks_ok (h : DI B w a mb fb qv S) : Calls Tryz.prog 56 #[.pointer (some ⟨a, 0, none⟩)] w fun e w' => e = .returned (.int .i64 (S.N : Int)) ∧ w' = w := blocks_some w a _ h.c0

set_option maxHeartbeats 400000 in
theorem made_ok (h : DI B w a mb fb qv S) : Calls Tryz.prog 54 #[.pointer (some ⟨a, 0, none⟩)] w fun e w' => e = .returned (.bool true) ∧ w' = w := by
  have h1 := h.N1
  go_enter Tryz.func54, Tryz.ntmps54
  go_wp2_with fail
  refine same_at (blocks_ok h) ?_
  go_wp2
  go_ret
  exact ⟨ret_bool (by simp; omega), rfl⟩

set_option maxHeartbeats 400000 in
theorem has_ok (h : DI B w a mb fb qv S) (b : Int) : Calls Tryz.prog 121 #[.pointer (some ⟨a, 0, none⟩), .int .i64 b] w fun e w' => e = .returned (.bool (decide (0 ≤ b) && decide (b < S.N))) ∧ w' = w := by
  have hc := h.c0
  clear h
  go_enter Tryz.func121, Tryz.ntmps121
  by_cases hb : 0 ≤ b
  · go_wp2
    go_ret
    exact ⟨ret_bool (by simp [hb]), rfl⟩
  · go_wp2
    go_ret
    exact ⟨ret_bool (by simp; intro; omega), rfl⟩

set_option maxHeartbeats 400000 in
theorem bytesOf_ok (h : DI B w a mb fb qv S) (b : Nat) (hb : b < S.N) : Calls Tryz.prog 55 #[.pointer (some ⟨a, 0, none⟩), .int .i64 (b : Int)] w fun e w' => ∃ g, e = .returned (.slice (some ⟨g, 0, none⟩) 128 128) ∧ Own w.heap.size w' g 128 128 (S.f b) ∧ Below w.heap.size w w' := by
  have hc := h.c1
  have hl := h.secs.lookup h.N2 b hb
  have hs := (h.secs.all b).1
  clear h
  go_enter Tryz.func55, Tryz.ntmps55
  go_wp2_with fail
  refine (list_ok (S.f b) hs w).mono ?_
  rintro e w1 ⟨g, rfl, ho, hb1⟩
  go_wp2
  go_ret
  exact ⟨g, rfl, ho, hb1⟩
end
end Go.Proofs.YtinigfidofgaiaaGreat

/- Images: a list of blocks, each a list of bytes of its own. -/
namespace Go.Proofs.YtinigfidofgaiaaGreat
open Go.RowKit Go.Maps

/-- A whole block's bytes as a slice. -/
def sl (g : Nat) : Value := .slice (some ⟨g, 0, none⟩) 128 128
theorem info30 : (Tryz.prog.info? 42).map (fun i => (i.zero, i.size, i.bytes)) = some (some (.slice none 0 0), 1, 24) := by kernel_rfl

/-- Block g holds n slices, of the blocks gs, whose bytes are L. -/
structure Img (B : Nat) (w : World) (g n : Nat) (gs : List Nat) (L : Nat → List Int) : Prop where
  row : w.ownsRow B 42 1 (.slice (some ⟨g, 0, none⟩) n n) n (gs.map sl)
  el : ∀ i, i < n → Own B w (gs.getD i 0) 128 128 (L i)

theorem Img.len {B : Nat} {w : World} {g n : Nat} {gs : List Nat} {L : Nat → List Int} (h : Img B w g n gs L) : gs.length = n := by
  have := h.row.1; simpa using this

theorem Img.kept {B : Nat} {w w' : World} {g n : Nat} {gs : List Nat} {L : Nat → List Int} (h : Img B w g n gs L) (hb : ∀ k, B ≤ k → k < w.heap.size → w'.heap[k]? = w.heap[k]?) : Img B w' g n gs L := by
  refine ⟨ownsRow_kept h.row (fun k hk => ?_), fun i hi => ownsRow_kept (h.el i hi) (fun k hk => ?_)⟩
  · have := h.row.lt k hk
    exact hb k this.1 this.2
  · have := World.ownsRow.lt (h.el i hi) k hk
    exact hb k this.1 this.2

theorem Img.base {B B' : Nat} {w : World} {g n : Nat} {gs : List Nat} {L : Nat → List Int} (h : Img B w g n gs L) (hB : B' ≤ B) : Img B' w g n gs L := by
  refine ⟨⟨h.row.1, ?_⟩, fun i hi => (h.el i hi).base hB⟩
  rcases h.row.2 with ⟨h', _⟩ | ⟨g', cap', cur, h', hbg, rest⟩
  · simp at h'
  · exact .inr ⟨g', cap', cur, h', by omega, rest⟩

theorem made_list (z : Value) (n : Nat) (hz : z.cells = #[z]) : (madeCells z.cells (n * 1)).toList = List.replicate n z := by
  rw [hz]
  apply List.ext_getElem
  · simp [madeCells]
  · intro i h1 h2
    simp [madeCells, Nat.mod_one]

theorem set_mid (gs : List Nat) (N : Nat) (g : Nat) (h : gs.length < N) : (gs.map sl ++ List.replicate (N - gs.length) (Value.slice none 0 0)).set gs.length (sl g) = (gs ++ [g]).map sl ++ List.replicate (N - (gs.length + 1)) (Value.slice none 0 0) := by
  obtain ⟨m, hm⟩ : ∃ m, N - gs.length = m + 1 := ⟨N - gs.length - 1, by omega⟩
  have hm' : N - (gs.length + 1) = m := by omega
  rw [hm, hm', List.set_append_right _ _ (by simp)]
  simp [List.replicate_succ]

/-- Rows of two types are two blocks. -/
theorem rows_ne {w : World} {B B' : Nat} {e e' : TypeId} {s s' : Nat} {g g' n c n' c' : Nat} {L L' : List Value} (h : w.ownsRow B e s (.slice (some ⟨g, 0, none⟩) n c) n L) (h' : w.ownsRow B' e' s' (.slice (some ⟨g', 0, none⟩) n' c') n' L') (hne : e ≠ e') : g ≠ g' := by
  rintro rfl
  rcases h.2 with ⟨k, _⟩ | ⟨g1, cap1, cur1, k, _, hg1, _⟩
  · simp at k
  rcases h'.2 with ⟨k', _⟩ | ⟨g2, cap2, cur2, k', _, hg2, _⟩
  · simp at k'
  simp only [Value.slice.injEq, Option.some.injEq, Addr.mk.injEq, and_true, true_and] at k k'
  obtain ⟨rfl, _⟩ := k
  obtain ⟨rfl, _⟩ := k'
  rw [hg1] at hg2
  simp only [Option.some.injEq, Obj.cells.injEq] at hg2
  exact hne hg2.2.1

theorem Own.setOther {B : Nat} {w : World} {g n cap : Nat} {xs : List Int} (h : Own B w g n cap xs) {k j : Nat} (hne : g ≠ k) (u : Value) : Own B (w.setCell ⟨k, j, none⟩ u) g n cap xs :=
  ownsRow_kept h (fun i hi => by cases hi; exact Below.heap_setCell w ⟨k, j, none⟩ u g hne)

set_option maxRecDepth 10000 in
set_option maxHeartbeats 1000000 in
theorem image_ok {B : Nat} {w : World} {a mb fb : Nat} {qv : Value} {S : St} (h : DI B w a mb fb qv S) : Calls Tryz.prog 19 #[.pointer (some ⟨a, 0, none⟩)] w fun e w' => ∃ g gs, e = .returned (.slice (some ⟨g, 0, none⟩) S.N S.N) ∧ Img w.heap.size w' g S.N gs S.f ∧ Below w.heap.size w w' := by
  obtain ⟨i0, hi, hz0, hz1, hz2⟩ := info_parts info30
  have hN := h.N2
  have hc := h.c0
  go_enter Tryz.func19, Tryz.ntmps19
  go_wp2_with fail
  refine same_at (made_ok h) ?_
  go_wp2_with (first
    | (at_make; refine wpList_make_full _ rfl _ _ 28 rfl w.heap.size 42 i0 (.slice none 0 0) 1 Tryz.underlying28 hi hz0 hz1 .i64 .i64 _ _ S.N rfl rfl rfl rfl (by rw [hz2]; omega) (by unfold maxLen; omega) (Nat.le_refl _) ?_; intro w1 hown1 hgrow1; rw [made_list _ _ rfl] at hown1; have hb1 := (Below.refl w.heap.size w).grown hgrow1 (Nat.le_refl _) (by intro k hk; cases hk); clear hgrow1))
  clear hc
  go_loopw [15] (fun i wr => ∃ j gs, j ≤ S.N ∧ i = .int .i64 (j : Int) ∧ List.length gs = j ∧ wr.ownsRow w.heap.size 42 1 (.slice (some ⟨w.heap.size, 0, none⟩) S.N S.N) S.N (gs.map sl ++ List.replicate (S.N - j) (.slice none 0 0)) ∧ (∀ i, i < j → Own w.heap.size wr (gs.getD i 0) 128 128 (S.f i)) ∧ Below w.heap.size w wr) (fun i _ => S.N - (intOf i).toNat)
  case atStart => exact ⟨0, [], by omega, rfl, rfl, by simpa using hown1, by intro i hi; omega, hb1⟩
  case round =>
    clear hown1 hb1
    obtain ⟨j, gs, hj, rfl, hgs, hown, hel, hb⟩ := hrel
    have hd := h.later hb
    by_cases hlt : j < S.N
    · go_wp2_with fail
      refine (bytesOf_ok hd j hlt).mono ?_
      rintro e w2 ⟨g2, rfl, ho2, hb2⟩
      have hr2 := ownsRow_kept hown (fun k hk => hb2.block k (hown.lt k hk).2)
      have hcw : w2.cell? ⟨w.heap.size, j, none⟩ = some (.slice none 0 0) := by
        rw [hr2.cellAt j (by omega), List.getElem?_append_right (by simp [hgs]), List.getElem?_replicate]
        simp [hgs]; omega
      have hfw := hr2.frozenAt j
      go_wp2
      go_roundw
      case rel =>
        subst hgs
        refine ⟨gs.length + 1, gs ++ [g2], by omega, by go_num, by simp, ?_, ?_, ?_⟩
        · have := (hr2.stored gs.length (sl g2)).1
          rw [set_mid _ _ _ hlt] at this
          exact this
        · intro i hi
          by_cases e : i = gs.length
          · subst e
            have ho := ho2.base hb.size
            have e1 : (gs ++ [g2]).getD gs.length 0 = g2 := by simp
            rw [e1]
            exact ho.setOther (rows_ne ho hr2 (by decide)) _
          · have e1 : (gs ++ [g2]).getD i 0 = gs.getD i 0 := by
              simp [List.getD_eq_getElem?_getD, List.getElem?_append_left (show i < gs.length by omega)]
            rw [e1]
            have ho := (hel i (by omega)).kept hb2
            exact ho.setOther (rows_ne ho hr2 (by decide)) _
        · exact (hb.trans (hb2.mono hb.size)).setCell (Nat.le_refl _) _
      case measure => simp [intOf]; omega
    · obtain rfl : j = S.N := by omega
      go_wp2
      go_ret
      exact ⟨_, gs, rfl, ⟨by simpa using hown, hel⟩, hb⟩
end Go.Proofs.YtinigfidofgaiaaGreat

/- A new disk; images compared. -/
namespace Go.Proofs.YtinigfidofgaiaaGreat
open Go.RowKit Go.Maps

set_option maxHeartbeats 400000 in
theorem new_ok (n : Nat) (h1 : 1 ≤ n) (h2 : n ≤ 2048) (w : World) : Calls Tryz.prog 28 #[.int .i64 (n : Int)] w fun e w' => ∃ a mb fb, e = .returned (.tuple #[.pointer (some ⟨a, 0, none⟩), .int .i64 0]) ∧ DI w.heap.size w' a mb fb (.slice none 0 0) ⟨n, fun _ => zer, [], 0, fun _ => 0⟩ ∧ Below w.heap.size w w' := by
  have hmm := @run_makeMap Tryz.prog
  have hi1 : (1 : Int) ≤ (n : Int) := by omega
  have hi2 : (n : Int) ≤ 2048 := by omega
  go_enter Tryz.func28, Tryz.ntmps28
  go_wp2
  go_ret2
  refine ⟨w.heap.size + 1 + 1, w.heap.size, w.heap.size + 1, rfl, ?_, ?_⟩
  · refine { row := at_new (by simp), secs := (secs_made w n).kept ?_, que := World.ownsRow_nil _ _ _ _, fls := ?_, lo := ⟨by omega, by omega, by omega⟩, ne := by omega, N1 := h1, N2 := h2, q64 := by simp, qok := by simp, lok := by simp }
    · rw [Below.heap_alloc _ _ _ (by simp; omega), Below.heap_alloc _ _ _ (by simp)]
    · have := fls_made (w.alloc (.map #[] 0)) n
      simp only [World.size_alloc] at this
      exact this.kept (Below.heap_alloc _ _ _ (by simp))
  · exact (((Below.refl _ _).alloc (Nat.le_refl _) _).alloc (by simp) _).alloc (by simp; omega) _

/-- The slice at p, of n slices of bytes, holds L. -/
structure IB (w : World) (p : Option Addr) (n : Nat) (L : List (List Int)) : Prop where
  len : L.length = n
  big : n ≤ 140737488355328
  cells : 0 < n → ∃ b o, p = some ⟨b, o, none⟩ ∧ ∀ i x, L[i]? = some x → ∃ q m c, w.cell? ⟨b, o + i, none⟩ = some (.slice q m c) ∧ BI w q m x

theorem call22 (args : Array Value) (w : World) : (callFunc 25 args).run Tryz.prog w = .ok (.enter 25 args) w := by kernel_rfl

set_option maxHeartbeats 1000000 in
theorem equalFunc_ok (p1 p2 : Option Addr) (n1 c1 n2 c2 : Nat) (L1 L2 : List (List Int)) (w : World) (h1 : IB w p1 n1 L1) (h2 : IB w p2 n2 L2) :
    Calls Tryz.prog 44 #[.slice p1 n1 c1, .slice p2 n2 c2, .func (.func 25) #[] #[]] w fun e w' => e = .returned (.bool (L1 == L2)) ∧ w' = w := by
  have hl1 := h1.len
  have hl2 := h2.len
  have hg1 := h1.big
  by_cases hne : n1 = n2
  · subst hne
    go_enter Tryz.func44, Tryz.ntmps44
    go_wp2_with fail
    go_loopw [17] (fun i wr => wr = w ∧ ∃ j : Nat, j ≤ n1 ∧ i = .int .i64 (j : Int) ∧ ∀ k, k < j → L1[k]? = L2[k]?) (fun i _ => n1 - (intOf i).toNat)
    case atStart => exact ⟨rfl, 0, by omega, rfl, by intro k hk; omega⟩
    case round =>
      obtain ⟨rfl, j, hj, rfl, heq⟩ := hrel
      by_cases hlt : j < n1
      · obtain ⟨b1, o1, rfl, hc1⟩ := h1.cells (by omega)
        obtain ⟨b2, o2, rfl, hc2⟩ := h2.cells (by omega)
        obtain ⟨x, hx⟩ : ∃ x, L1[j]? = some x := ⟨L1[j], List.getElem?_eq_getElem (by omega)⟩
        obtain ⟨y, hy⟩ : ∃ y, L2[j]? = some y := ⟨L2[j], List.getElem?_eq_getElem (by omega)⟩
        obtain ⟨q1, m1, d1, e1, hb1⟩ := hc1 j x hx
        obtain ⟨q2, m2, d2, e2, hb2⟩ := hc2 j y hy
        clear hc1 hc2
        go_wp2_with fail
        refine same_at (equal_any q1 q2 m1 d1 m2 d2 x y wr hb1 hb2) ?_
        cases hxy : (x == y) with
        | true =>
          have hxy' : x = y := by simpa using hxy
          go_wp2
          go_roundw
          case rel =>
            refine ⟨trivial, j + 1, by omega, by go_num, ?_⟩
            intro k hk
            by_cases e : k = j
            · subst e; rw [hx, hy, hxy']
            · exact heq k (by omega)
          case measure => simp [intOf]; omega
        | false =>
          have hxy' : ¬ x = y := by simpa using hxy
          go_wp2
          go_ret
          refine ⟨ret_bool ?_, rfl⟩
          symm
          rw [beq_eq_false_iff_ne]
          rintro rfl
          rw [hx] at hy
          cases hy
          exact hxy' rfl
      · obtain rfl : j = n1 := by omega
        go_wp2
        go_ret
        refine ⟨ret_bool ?_, rfl⟩
        symm
        rw [beq_iff_eq]
        apply List.ext_getElem?
        intro k
        by_cases hk : k < j
        · exact heq k hk
        · rw [List.getElem?_eq_none (by omega), List.getElem?_eq_none (by omega)]
  · have hne' : ¬ (n1 : Int) = (n2 : Int) := by omega
    go_enter Tryz.func44, Tryz.ntmps44
    go_wp2
    go_ret
    refine ⟨ret_bool ?_, rfl⟩
    symm
    rw [beq_eq_false_iff_ne]
    rintro rfl
    omega

set_option maxHeartbeats 400000 in
theorem sameImage_ok (p1 p2 : Option Addr) (n1 c1 n2 c2 : Nat) (L1 L2 : List (List Int)) (w : World) (h1 : IB w p1 n1 L1) (h2 : IB w p2 n2 L2) :
    Calls Tryz.prog 13 #[.slice p1 n1 c1, .slice p2 n2 c2] w fun e w' => e = .returned (.bool (L1 == L2)) ∧ w' = w := by
  go_enter Tryz.func13, Tryz.ntmps13
  go_wp2_with fail
  refine same_at (equalFunc_ok p1 p2 n1 c1 n2 c2 L1 L2 w h1 h2) ?_
  go_wp2
  go_ret
  exact ⟨rfl, rfl⟩

/-- The bytes of blocks 0 to n - 1. -/
def imgL (f : Nat → List Int) (n : Nat) : List (List Int) := (List.range n).map f

theorem Img.ib {B : Nat} {w : World} {g n : Nat} {gs : List Nat} {L : Nat → List Int} (h : Img B w g n gs L) (hn : n ≤ 2048) (hs : ∀ i, i < n → Num.Byt (L i)) : IB w (some ⟨g, 0, none⟩) n (imgL L n) := by
  refine ⟨by simp [imgL], by omega, fun _ => ⟨g, 0, rfl, fun i x hx => ?_⟩⟩
  have hi : i < n := by have := (List.getElem?_eq_some_iff.1 hx).1; simpa [imgL] using this
  have ex : x = L i := by simpa [imgL, hi] using hx.symm
  subst ex
  refine ⟨some ⟨gs.getD i 0, 0, none⟩, 128, 128, ?_, (h.el i hi).bi (by omega) (hs i hi)⟩
  have hl := h.len
  rw [Nat.zero_add, h.row.cellAt i (by omega), List.getElem?_map, List.getD_eq_getElem?_getD, List.getElem?_eq_getElem (by omega)]
  rfl
end Go.Proofs.YtinigfidofgaiaaGreat

/- The document's disk: New. -/
namespace Go.Proofs.YtinigfidofgaiaaGreat
open Go.RowKit Go.Maps

set_option maxHeartbeats 400000 in
theorem new_arg (n : Int) (h : n < 1 ∨ 2048 < n) (w : World) : Calls Tryz.prog 28 #[.int .i64 n] w fun e w' => e = .returned (.tuple #[.pointer none, .int .i64 1]) ∧ w' = w := by
  by_cases h1 : n < 1
  · go_enter Tryz.func28, Tryz.ntmps28
    go_wp2
    go_ret2
    exact ⟨rfl, rfl⟩
  · have h2 : 2048 < n := by omega
    go_enter Tryz.func28, Tryz.ntmps28
    go_wp2
    go_ret2
    exact ⟨rfl, rfl⟩

section
variable {B : Nat} {w w' : World} {x n j : Nat} {bv fv : Value} {gB : List (Nat × Nat)} {L : Nat → List Int}

end

end Go.Proofs.YtinigfidofgaiaaGreat

/- disk.Of: a disk of an image. -/
namespace Go.Proofs.YtinigfidofgaiaaGreat
open Go.RowKit Go.Maps
set_option linter.unusedVariables false

theorem DI.apartO {B : Nat} {w : World} {a mb fb : Nat} {qv : Value} {S : St} (h : DI B w a mb fb qv S) : a ≠ mb ∧ a ≠ fb ∧ qv.ownBlock ≠ some a ∧ qv.ownBlock ≠ some mb ∧ qv.ownBlock ≠ some fb := by
  have hr := h.row
  obtain ⟨D, ⟨es, ck, hm, _⟩, _⟩ := h.secs.ex
  obtain ⟨D', ⟨es', ck', hf, _⟩, _⟩ := h.fls.ex
  refine ⟨?_, ?_, ?_⟩
  · rintro rfl; rw [hr] at hm; cases hm
  · rintro rfl; rw [hr] at hf; cases hf
  rcases h.que.2 with ⟨rfl, _⟩ | ⟨g, cap, cur, rfl, _, hg, _⟩
  · simp [Value.ownBlock]
  · simp only [Value.ownBlock, ne_eq, Option.some.injEq]
    refine ⟨?_, ?_, ?_⟩
    · rintro rfl; rw [hr] at hg; simp at hg
    · rintro rfl; rw [hm] at hg; cases hg
    · rintro rfl; rw [hf] at hg; cases hg

theorem DI.turnSecO {B : Nat} {w : World} {a mb fb : Nat} {qv : Value} {S : St} (h : DI B w a mb fb qv S) {w' : World} {f' : Nat → List Int} (hs : Secs w' mb S.N f') (hg : w.grownBy w' (some mb)) : DI B w' a mb fb qv { S with f := f' } := by
  obtain ⟨n1, n2, n3, n4, n5⟩ := h.apartO
  have ho : ∀ k, k < w.heap.size → k ≠ mb → w'.heap[k]? = w.heap[k]? := fun k hk h1 => hg.block k hk (by simpa using h1)
  exact { row := (ho a (Array.getElem?_eq_some_iff.1 h.row).1 n1).trans h.row, secs := hs, que := ownsRow_kept h.que (fun k hk => ho k (h.que.lt k hk).2 (by rintro rfl; exact n4 hk)), fls := h.fls.kept (ho fb h.fls.lt h.ne.symm), lo := h.lo, ne := h.ne, N1 := h.N1, N2 := h.N2, q64 := h.q64, qok := h.qok, lok := h.lok }

/-- The first j blocks of an image. -/
def part (L : List (List Int)) (j : Nat) : Nat → List Int := fun i => if i < j then L.getD i zer else zer

theorem part_step (L : List (List Int)) (j : Nat) (xs : List Int) (h : L[j]? = some xs) : upd (part L j) j xs = part L (j + 1) := by
  funext i
  unfold upd part
  by_cases e : i = j
  · subst e
    rw [if_pos rfl, if_pos (by omega), List.getD_eq_getElem?_getD, h]
    rfl
  · rw [if_neg e]
    by_cases hi : i < j
    · rw [if_pos hi, if_pos (by omega)]
    · rw [if_neg hi, if_neg (by omega)]

theorem part_zero (L : List (List Int)) : part L 0 = fun _ => zer := by
  funext i
  simp [part]

set_option maxHeartbeats 400000 in
theorem of_range (p : Option Addr) (n c : Nat) (hn : n < 1 ∨ 2048 < n) (w : World) : Calls Tryz.prog 36 #[.slice p n c] w fun e w' => e = .returned (.tuple #[.pointer none, .int .i64 1]) ∧ w' = w := by
  have hc := new_arg (n : Int) (by omega) w
  go_enter Tryz.func36, Tryz.ntmps36
  go_wp2_with fail
  refine same_at hc ?_
  go_wp2
  go_ret2
  exact ⟨rfl, rfl⟩

set_option maxRecDepth 10000 in
set_option maxHeartbeats 2000000 in
theorem of_ok (p : Option Addr) (n c : Nat) (L : List (List Int)) (w : World) (h : IB w p n L) (h1 : 1 ≤ n) (h2 : n ≤ 2048) : Calls Tryz.prog 36 #[.slice p n c] w fun e w' => Below w.heap.size w w' ∧ (((∀ xs ∈ L, xs.length = 128) ∧ ∃ a mb fb, e = .returned (.tuple #[.pointer (some ⟨a, 0, none⟩), .int .i64 0]) ∧ DI w.heap.size w' a mb fb (.slice none 0 0) ⟨n, part L n, [], 0, fun _ => 0⟩) ∨ ((∃ xs ∈ L, xs.length ≠ 128) ∧ e = .returned (.tuple #[.pointer none, .int .i64 1]))) := by
  have hlen := h.len
  go_enter Tryz.func36, Tryz.ntmps36
  go_wp2_with fail
  refine (new_ok n h1 h2 w).mono ?_
  rintro e w1 ⟨a, mb, fb, rfl, hd1, hb1⟩
  rw [← part_zero L] at hd1
  go_wp2_with fail
  go_loopw [19] (fun i wr => ∃ j : Nat, j ≤ n ∧ i = .int .i64 (j : Int) ∧ DI w.heap.size wr a mb fb (.slice none 0 0) ⟨n, part L j, [], 0, fun _ => 0⟩ ∧ (∀ xs ∈ L.take j, xs.length = 128) ∧ Below w.heap.size w wr) (fun i _ => n - (intOf i).toNat)
  case atStart => exact ⟨0, by omega, rfl, hd1, by simp, hb1⟩
  case round =>
    clear hd1 hb1
    obtain ⟨j, hj, rfl, hd, hall, hb⟩ := hrel
    by_cases hlt : j < n
    · obtain ⟨bb, oo, rfl, hic⟩ := h.cells (by omega)
      obtain ⟨xs, hxs⟩ : ∃ xs, L[j]? = some xs := ⟨L[j], List.getElem?_eq_getElem (by omega)⟩
      obtain ⟨q, m, d, hcell, hbi⟩ := hic j xs hxs
      have hcell' := (hb.cell (p := ⟨bb, oo + j, none⟩) (lt_of_cell hcell)).trans hcell
      have hbi' := hbi.kept hb
      have hml := hbi.len
      clear hic hcell
      have hjI : (j : Int) < (n : Int) := by omega
      by_cases hm : m = 128
      · subst hm
        have hsx : Sect xs := ⟨hml, hbi.byt⟩
        have hdd := hd.later (Below.refl _ _).drew
        have c1 := hdd.c1
        have hbid := hbi'.kept (Below.refl _ _).drew
        go_wp2_with fail
        go_region_held3 (fun w' => w'.cell? ⟨a, 1, none⟩ = some (.map (some mb))) (first | exact c1 | exact c1' | exact c1'')
          ((go_at_call 71; refine Calls.mono (sectorOf_ok _ d xs _ hbid) ?_; rintro e w3 ⟨rfl, hb3⟩; have hd3 := hdd.later hb3; have c1' := hd3.c1; obtain ⟨w4, hrun, hs4, hg4⟩ := hd3.secs.update h2 j hlt xs hsx; have hd4 := hd3.turnSecO hs4 hg4; have c1'' := hd4.c1))
        have hbw := (hb.drew.trans (hb3.mono hb.size)).grown hg4 (Nat.le_trans hb.size hb3.size) (fun k hk => by cases hk; exact hd.lo.2.1)
        rw [part_step L j xs hxs] at hd4
        clear c1 c1' c1'' hrun hs4 hg4 hd3 hdd
        go_wp2
        go_roundw
        case rel =>
          refine ⟨j + 1, by omega, by go_num, hd4, fun ys hy => ?_, hbw⟩
          rw [List.take_add_one, hxs] at hy
          rcases List.mem_append.1 hy with h' | h'
          · exact hall ys h'
          · simp at h'
            subst h'
            exact hml
        case measure => simp [intOf]; omega
      · have hmI : ¬ (m : Int) = 128 := by omega
        go_wp2
        go_ret2
        exact ⟨hb, .inr ⟨⟨xs, List.mem_of_getElem? hxs, by omega⟩, rfl⟩⟩
    · obtain rfl : n = j := by omega
      rw [List.take_of_length_le (by omega)] at hall
      go_wp2
      go_ret2
      exact ⟨hb, .inl ⟨hall, _, _, _, rfl, hd⟩⟩
end Go.Proofs.YtinigfidofgaiaaGreat

/- A volume that no call made. -/
namespace Go.Proofs.YtinigfidofgaiaaGreat
open Go.RowKit
set_option linter.unusedVariables false

/-- v stands for a volume that no call made. -/
def VVoid (w : World) (v : Value) : Prop := v = .pointer none ∨ ∃ z, v = .pointer (some ⟨z, 0, none⟩) ∧ w.cell? ⟨z, 2, none⟩ = some (.pointer none)

section
variable {w : World} {v : Value}
set_option maxHeartbeats 400000 in
theorem vmade_void (h : VVoid w v) : Calls Tryz.prog 38 #[v] w fun e w' => e = .returned (.bool false) ∧ w' = w := by
  rcases h with rfl | ⟨z, rfl, hc⟩
  · go_enter Tryz.func38, Tryz.ntmps38
    go_wp2
    go_ret
    exact ⟨rfl, rfl⟩
  · go_enter Tryz.func38, Tryz.ntmps38
    go_wp2
    go_ret
    exact ⟨rfl, rfl⟩
set_option maxHeartbeats 400000 in
theorem vread_void (h : VVoid w v) (b : Int) : Calls Tryz.prog 33 #[v, .int .i64 b] w fun e w' => e = .returned (.tuple #[.slice none 0 0, .int .i64 2]) ∧ w' = w := by
  have hm := vmade_void h
  go_enter Tryz.func33, Tryz.ntmps33
  go_wp2_with (first | (go_at_call 38; refine same_at hm ?_))
  go_ret2
  exact ⟨rfl, rfl⟩
set_option maxHeartbeats 400000 in
theorem vchange_void (h : VVoid w v) (b : Int) (s : Value) : Calls Tryz.prog 30 #[v, .int .i64 b, .int .i64 0, s, .slice none 0 0] w fun e w' => e = .returned (.tuple #[.int .i64 0, .int .i64 2]) ∧ w' = w := by
  have hm := vmade_void h
  go_enter Tryz.func30, Tryz.ntmps30
  go_wp2_with (first | (go_at_call 38; refine same_at hm ?_))
  go_ret2
  exact ⟨rfl, rfl⟩
set_option maxHeartbeats 400000 in
theorem vold_void (h : VVoid w v) (b : Int) : Calls Tryz.prog 24 #[v, .int .i64 b] w fun e w' => e = .returned (.tuple #[.slice none 0 0, .int .i64 2]) ∧ w' = w := by
  have hm := vmade_void h
  go_enter Tryz.func24, Tryz.ntmps24
  go_wp2_with (first | (go_at_call 38; refine same_at hm ?_))
  go_ret2
  exact ⟨rfl, rfl⟩
set_option maxHeartbeats 400000 in
theorem vundo_void (h : VVoid w v) (b : Int) : Calls Tryz.prog 23 #[v, .int .i64 b] w fun e w' => e = .returned (.int .i64 2) ∧ w' = w := by
  have hm := vmade_void h
  go_enter Tryz.func23, Tryz.ntmps23
  go_wp2_with (first | (go_at_call 38; refine same_at hm ?_))
  go_ret
  exact ⟨rfl, rfl⟩
set_option maxHeartbeats 400000 in
theorem vwrite_void (h : VVoid w v) (b : Int) : Calls Tryz.prog 12 #[v, .int .i64 b] w fun e w' => e = .returned (.int .i64 2) ∧ w' = w := by
  have hm := vmade_void h
  go_enter Tryz.func12, Tryz.ntmps12
  go_wp2_with (first | (go_at_call 38; refine same_at hm ?_))
  go_ret
  exact ⟨rfl, rfl⟩
set_option maxHeartbeats 400000 in
theorem vcomplete_void (h : VVoid w v) (b : Int) (k : Bool) : Calls Tryz.prog 15 #[v, .int .i64 b, .bool k] w fun e w' => e = .returned (.int .i64 2) ∧ w' = w := by
  have hm := vmade_void h
  go_enter Tryz.func15, Tryz.ntmps15
  go_wp2_with (first | (go_at_call 38; refine same_at hm ?_))
  go_ret
  exact ⟨rfl, rfl⟩
set_option maxHeartbeats 400000 in
theorem vsync_void (h : VVoid w v)  : Calls Tryz.prog 17 #[v, .slice none 0 0] w fun e w' => e = .returned (.int .i64 2) ∧ w' = w := by
  have hm := vmade_void h
  go_enter Tryz.func17, Tryz.ntmps17
  go_wp2_with (first | (go_at_call 38; refine same_at hm ?_))
  go_ret
  exact ⟨rfl, rfl⟩
set_option maxHeartbeats 400000 in
theorem vfreeze_void (h : VVoid w v) (b : Int) : Calls Tryz.prog 20 #[v, .int .i64 b] w fun e w' => e = .returned (.int .i64 2) ∧ w' = w := by
  have hm := vmade_void h
  go_enter Tryz.func20, Tryz.ntmps20
  go_wp2_with (first | (go_at_call 38; refine same_at hm ?_))
  go_ret
  exact ⟨rfl, rfl⟩
set_option maxHeartbeats 400000 in
theorem vthaw_void (h : VVoid w v)  : Calls Tryz.prog 34 #[v] w fun e w' => e = .returned (.int .i64 2) ∧ w' = w := by
  have hm := vmade_void h
  go_enter Tryz.func34, Tryz.ntmps34
  go_wp2_with (first | (go_at_call 38; refine same_at hm ?_))
  go_ret
  exact ⟨rfl, rfl⟩
set_option maxHeartbeats 400000 in
theorem visDone_void (h : VVoid w v) (b : Int) : Calls Tryz.prog 18 #[v, .int .i64 b] w fun e w' => e = .returned (.bool false) ∧ w' = w := by
  have hm := vmade_void h
  go_enter Tryz.func18, Tryz.ntmps18
  go_wp2_with (first | (go_at_call 38; refine same_at hm ?_))
  go_ret
  exact ⟨rfl, rfl⟩
set_option maxHeartbeats 400000 in
theorem vbroken_void (h : VVoid w v)  : Calls Tryz.prog 26 #[v] w fun e w' => e = .returned (.bool false) ∧ w' = w := by
  have hm := vmade_void h
  go_enter Tryz.func26, Tryz.ntmps26
  go_wp2_with (first | (go_at_call 38; refine same_at hm ?_))
  go_ret
  exact ⟨rfl, rfl⟩
set_option maxHeartbeats 400000 in
theorem vkept_void (h : VVoid w v)  : Calls Tryz.prog 27 #[v] w fun e w' => e = .returned (.int .i64 0) ∧ w' = w := by
  have hm := vmade_void h
  go_enter Tryz.func27, Tryz.ntmps27
  go_wp2_with (first | (go_at_call 38; refine same_at hm ?_))
  go_ret
  exact ⟨rfl, rfl⟩
set_option maxHeartbeats 400000 in
theorem vlast_void (h : VVoid w v)  : Calls Tryz.prog 16 #[v] w fun e w' => e = .returned (.int .i64 0) ∧ w' = w := by
  have hm := vmade_void h
  go_enter Tryz.func16, Tryz.ntmps16
  go_wp2_with (first | (go_at_call 38; refine same_at hm ?_))
  go_ret
  exact ⟨rfl, rfl⟩
set_option maxHeartbeats 400000 in
theorem vblocks_void (h : VVoid w v)  : Calls Tryz.prog 21 #[v] w fun e w' => e = .returned (.int .i64 0) ∧ w' = w := by
  have hm := vmade_void h
  go_enter Tryz.func21, Tryz.ntmps21
  go_wp2_with (first | (go_at_call 38; refine same_at hm ?_))
  go_ret
  exact ⟨rfl, rfl⟩
set_option maxHeartbeats 400000 in
theorem vdirty_void (h : VVoid w v)  : Calls Tryz.prog 10 #[v] w fun e w' => e = .returned (.slice none 0 0) ∧ w' = w := by
  have hm := vmade_void h
  go_enter Tryz.func10, Tryz.ntmps10
  go_wp2_with (first | (go_at_call 38; refine same_at hm ?_))
  go_ret
  exact ⟨rfl, rfl⟩
set_option maxHeartbeats 400000 in
theorem vpending_void (h : VVoid w v) (b : Int) : Calls Tryz.prog 35 #[v, .int .i64 b] w fun e w' => e = .returned (.slice none 0 0) ∧ w' = w := by
  have hm := vmade_void h
  go_enter Tryz.func35, Tryz.ntmps35
  go_wp2_with (first | (go_at_call 38; refine same_at hm ?_))
  go_ret
  exact ⟨rfl, rfl⟩
set_option maxHeartbeats 400000 in
theorem vready_void (h : VVoid w v)  : Calls Tryz.prog 11 #[v] w fun e w' => e = .returned (.slice none 0 0) ∧ w' = w := by
  have hm := vmade_void h
  go_enter Tryz.func11, Tryz.ntmps11
  go_wp2_with (first | (go_at_call 38; refine same_at hm ?_))
  go_ret
  exact ⟨rfl, rfl⟩
set_option maxHeartbeats 400000 in
theorem vway_void (h : VVoid w v)  : Calls Tryz.prog 14 #[v] w fun e w' => e = .returned (.slice none 0 0) ∧ w' = w := by
  have hm := vmade_void h
  go_enter Tryz.func14, Tryz.ntmps14
  go_wp2_with (first | (go_at_call 38; refine same_at hm ?_))
  go_ret
  exact ⟨rfl, rfl⟩
end
end Go.Proofs.YtinigfidofgaiaaGreat

/- volume.Open: over no disk, and over a disk. -/
namespace Go.Proofs.YtinigfidofgaiaaGreat
open Go.RowKit Go.Maps
set_option linter.unusedVariables false

section
variable {w : World}
set_option maxHeartbeats 400000 in
/-- A cache over no disk: New tells that there is none. -/
theorem cnew_void (d : Value) (bd : Int) (hd : Calls Tryz.prog 56 #[d] w fun e w' => e = .returned (.int .i64 0) ∧ w' = w) : Calls Tryz.prog 62 #[d, .int .i64 bd] w fun e w' => e = .returned (.tuple #[.pointer none, .int .i64 2]) ∧ w' = w := by
  go_enter Tryz.func62, Tryz.ntmps62
  go_wp2_with (first | (go_at_call 56; refine same_at hd ?_))
  go_ret2
  exact ⟨rfl, rfl⟩
set_option maxHeartbeats 400000 in
theorem vopen_void (d : Value) (bd : Int) (hd : Calls Tryz.prog 56 #[d] w fun e w' => e = .returned (.int .i64 0) ∧ w' = w) : Calls Tryz.prog 29 #[d, .int .i64 bd] w fun e w' => e = .returned (.tuple #[.pointer none, .int .i64 2]) ∧ w' = w := by
  have hc := cnew_void d bd hd
  go_enter Tryz.func29, Tryz.ntmps29
  go_wp2_with (first | (go_at_call 62; refine same_at hc ?_))
  go_ret2
  exact ⟨rfl, rfl⟩

/-- What a call that makes a cache, a set of patches leaves: a pointer, and memory that has grown. -/
theorem cnew64_ok {B d dm df : Nat} {dq : Value} {S : St} (h : DI B w d dm df dq S) : Calls Tryz.prog 62 #[.pointer (some ⟨d, 0, none⟩), .int .i64 64] w fun e w' => ∃ c, e = .returned (.tuple #[.pointer (some ⟨c, 0, none⟩), .int .i64 0]) ∧ Below w.heap.size w w' := by
  have hd := blocks_ok h
  have hN := h.N1
  have hN2 : ((S.N : Int) == 0) = false := by rw [beq_eq_false_iff_ne]; omega
  have hN3 : ¬ (S.N : Int) = 0 := by omega
  have hmm := @run_makeMap Tryz.prog
  go_enter Tryz.func62, Tryz.ntmps62
  go_wp2_with (first | (go_at_call 56; refine same_at hd ?_))
  go_ret2
  have hb0 : Below w.heap.size w (w.alloc (.map #[] 0)) := (Below.refl _ w).alloc (Nat.le_refl _) _
  have hb1 := hb0.alloc (show w.heap.size ≤ (w.alloc (.map #[] 0)).heap.size by simp) (.cells #[.pointer (some ⟨d, 0, none⟩), .int .i64 64, .map (some w.heap.size), .int .i64 0, .int .i64 0] 140)
  exact ⟨_, rfl, hb1⟩
set_option maxHeartbeats 400000 in
theorem pnew_ok (w : World) : Calls Tryz.prog 63 #[] w fun e w' => ∃ c, e = .returned (.pointer (some ⟨c, 0, none⟩)) ∧ Below w.heap.size w w' := by
  have hmm := @run_makeMap Tryz.prog
  go_enter Tryz.func63, Tryz.ntmps63
  go_wp2
  go_ret
  refine ⟨_, rfl, ?_⟩
  exact (((Below.refl _ w).alloc (Nat.le_refl _) _).alloc (by simp) _).alloc (by simp; omega) _
set_option maxHeartbeats 400000 in
theorem vopen_ok {B d dm df : Nat} {dq : Value} {S : St} (h : DI B w d dm df dq S) : Calls Tryz.prog 29 #[.pointer (some ⟨d, 0, none⟩), .int .i64 64] w fun e w' => ∃ v, e = .returned (.tuple #[.pointer (some ⟨v, 0, none⟩), .int .i64 0]) ∧ w'.cell? ⟨v, 2, none⟩ = some (.pointer (some ⟨d, 0, none⟩)) ∧ Below w.heap.size w w' := by
  have hc := cnew64_ok h
  have hmm := @run_makeMap Tryz.prog
  go_enter Tryz.func29, Tryz.ntmps29
  go_wp2_with (first | (go_at_call 62; refine Calls.mono hc ?_; rintro e w1 ⟨c, rfl, hb1⟩) | (go_at_call 63; refine Calls.mono (pnew_ok _) ?_; rintro e w2 ⟨p, rfl, hb2⟩))
  go_ret2
  have hb := hb1.trans (hb2.mono hb1.size)
  have hs := hb.size
  refine ⟨w2.heap.size + 1, rfl, ?_, ?_⟩
  · rw [cell_of_row _ _ 2 _ 76 _ (at_new (by simp))]; rfl
  · exact (hb.alloc hs _).alloc (by simp; omega) _
set_option maxHeartbeats 400000 in
theorem vmade_ok {v d : Nat} (hv : w.cell? ⟨v, 2, none⟩ = some (.pointer (some ⟨d, 0, none⟩))) : Calls Tryz.prog 38 #[.pointer (some ⟨v, 0, none⟩)] w fun e w' => e = .returned (.bool true) ∧ w' = w := by
  go_enter Tryz.func38, Tryz.ntmps38
  go_wp2
  go_ret
  exact ⟨rfl, rfl⟩
set_option maxHeartbeats 400000 in
theorem vblocks_ok {v d : Nat} {k : Int} (hv : w.cell? ⟨v, 2, none⟩ = some (.pointer (some ⟨d, 0, none⟩))) (hd : w.cell? ⟨d, 0, none⟩ = some (.int .i64 k)) : Calls Tryz.prog 21 #[.pointer (some ⟨v, 0, none⟩)] w fun e w' => e = .returned (.int .i64 k) ∧ w' = w := by
  have hm := vmade_ok hv
  have hb := blocks_some w d k hd
  go_enter Tryz.func21, Tryz.ntmps21
  go_wp2_with (first | (go_at_call 38; refine same_at hm ?_) | (go_at_call 56; refine same_at hb ?_))
  go_ret
  exact ⟨rfl, rfl⟩
end
end Go.Proofs.YtinigfidofgaiaaGreat
