/- A disk in memory, and what only reads it: Blocks, made, has, bytesOf. -/
import Derived.Test.YtemhhgpgpjiijaaMap
namespace Go.Proofs.Ytemhhgpgpjiijaa
open Go.RowKit Go.Maps

/-- A write of the queue. -/
structure Wr where
  id : Int
  block : Nat
  bytes : List Int

/-- What a disk has. -/
structure St where
  N : Nat
  f : Nat → List Int
  q : List Wr
  last : Int
  fl : Nat → Int

def Wr.cells (x : Wr) : List Value := .int .i64 x.id :: .int .i64 (x.block : Int) :: x.bytes.map (Value.int .u8)
def flat (q : List Wr) : List Value := q.flatMap Wr.cells

/-- Block fb is a map of how many reads fail. -/
structure Fls (w : World) (fb N : Nat) (g : Nat → Int) : Prop where
  ex : ∃ D : DataW Unit, w.ownsMap Try.prog 3 (plainElem Try.prog 3) fb (size D) D ∧ size D + miss D N ≤ N ∧ ∀ b, b < N → D.atKey (key b) (.lit (.int .i64 0)) = .lit (.int .i64 (g b))
  all : ∀ b, 0 ≤ g b ∧ g b ≤ 1000

theorem Fls.lt {w : World} {mb N : Nat} {f : Nat → Int} (h : Fls w mb N f) : mb < w.heap.size := by
  obtain ⟨D, ho, _⟩ := h.ex
  exact ho.lt

theorem Fls.kept {w w' : World} {mb N : Nat} {f : Nat → Int} (h : Fls w mb N f) (hb : w'.heap[mb]? = w.heap[mb]?) : Fls w' mb N f := by
  obtain ⟨D, ⟨es, c, ho, r⟩, k⟩ := h.ex
  exact ⟨⟨D, ⟨es, c, hb.trans ho, r⟩, k⟩, h.all⟩

theorem fls_made (w : World) (N : Nat) : Fls (w.alloc (.map #[] 0)) w.heap.size N (fun _ => 0) := by
  refine ⟨⟨.map [], w.ownsMap_made _ _ _, ?_, fun b _ => rfl⟩, fun _ => by omega⟩
  have := List.length_filter_le (fun b => !has (.map [] : DataW Unit) (key b)) (List.range N)
  rw [List.length_range] at this
  show 0 + miss (.map []) N ≤ N
  unfold miss
  omega

/-- Block a is a disk that has S; its blocks lie from B on. -/
structure DI (B : Nat) (w : World) (a mb fb : Nat) (qv : Value) (S : St) : Prop where
  row : w.heap[a]? = some (.cells #[.int .i64 (S.N : Int), .map (some mb), qv, .int .i64 S.last, .map (some fb)] 67 (0, 0))
  secs : Secs w mb S.N S.f
  que : w.ownsRow B 71 130 qv S.q.length (flat S.q)
  fls : Fls w fb S.N S.fl
  lo : B ≤ a ∧ B ≤ mb ∧ B ≤ fb
  ne : mb ≠ fb
  N1 : 1 ≤ S.N
  N2 : S.N ≤ 2048
  q64 : S.q.length ≤ 64
  qok : ∀ x ∈ S.q, x.block < S.N ∧ Sect x.bytes ∧ -9223372036854775808 ≤ x.id ∧ x.id ≤ 9223372036854775807
  lok : 0 ≤ S.last ∧ S.last ≤ 9223372036854775807

/-- A disk's own blocks. -/
def foot (a mb fb : Nat) (qv : Value) (k : Nat) : Prop := k = a ∨ k = mb ∨ k = fb ∨ qv.ownBlock = some k

theorem ownsRow_kept {w w' : World} {B : Nat} {e : TypeId} {s : Nat} {v : Value} {n : Nat} {L : List Value} (h : w.ownsRow B e s v n L) (hb : ∀ k, v.ownBlock = some k → w'.heap[k]? = w.heap[k]?) : w'.ownsRow B e s v n L := by
  refine ⟨h.1, ?_⟩
  rcases h.2 with h' | ⟨g', cap', cur, rfl, hbg, hg, rest⟩
  · exact .inl h'
  · exact .inr ⟨g', cap', cur, rfl, hbg, (hb g' rfl).trans hg, rest⟩

theorem DI.in {B : Nat} {w : World} {a mb fb : Nat} {qv : Value} {S : St} (h : DI B w a mb fb qv S) : ∀ k, foot a mb fb qv k → B ≤ k ∧ k < w.heap.size := by
  rintro k (rfl | rfl | rfl | hk)
  · exact ⟨h.lo.1, (Array.getElem?_eq_some_iff.1 h.row).1⟩
  · exact ⟨h.lo.2.1, h.secs.lt⟩
  · exact ⟨h.lo.2.2, h.fls.lt⟩
  · exact h.que.lt k hk

/-- A disk stays where none of its blocks turns. -/
theorem DI.kept {B : Nat} {w w' : World} {a mb fb : Nat} {qv : Value} {S : St} (h : DI B w a mb fb qv S) (hb : ∀ k, foot a mb fb qv k → w'.heap[k]? = w.heap[k]?) : DI B w' a mb fb qv S :=
  { h with
    row := (hb a (.inl rfl)).trans h.row
    secs := h.secs.kept (hb mb (.inr (.inl rfl)))
    que := ownsRow_kept h.que (fun k hk => hb k (.inr (.inr (.inr hk))))
    fls := h.fls.kept (hb fb (.inr (.inr (.inl rfl)))) }

theorem DI.later {B : Nat} {w w' : World} {a mb fb : Nat} {qv : Value} {S : St} (h : DI B w a mb fb qv S) (hb : Below w.heap.size w w') : DI B w' a mb fb qv S :=
  h.kept (fun k hk => hb.block k (h.in k hk).2)

theorem DI.c0 {B : Nat} {w : World} {a mb fb : Nat} {qv : Value} {S : St} (h : DI B w a mb fb qv S) : w.cell? ⟨a, 0, none⟩ = some (.int .i64 (S.N : Int)) := by
  rw [cell_of_row _ _ 0 _ _ _ h.row]; rfl
theorem DI.c1 {B : Nat} {w : World} {a mb fb : Nat} {qv : Value} {S : St} (h : DI B w a mb fb qv S) : w.cell? ⟨a, 1, none⟩ = some (.map (some mb)) := by
  rw [cell_of_row _ _ 1 _ _ _ h.row]; rfl
theorem DI.c2 {B : Nat} {w : World} {a mb fb : Nat} {qv : Value} {S : St} (h : DI B w a mb fb qv S) : w.cell? ⟨a, 2, none⟩ = some qv := by
  rw [cell_of_row _ _ 2 _ _ _ h.row]; rfl
theorem DI.c3 {B : Nat} {w : World} {a mb fb : Nat} {qv : Value} {S : St} (h : DI B w a mb fb qv S) : w.cell? ⟨a, 3, none⟩ = some (.int .i64 S.last) := by
  rw [cell_of_row _ _ 3 _ _ _ h.row]; rfl
theorem DI.c4 {B : Nat} {w : World} {a mb fb : Nat} {qv : Value} {S : St} (h : DI B w a mb fb qv S) : w.cell? ⟨a, 4, none⟩ = some (.map (some fb)) := by
  rw [cell_of_row _ _ 4 _ _ _ h.row]; rfl

section
variable {B : Nat} {w : World} {a mb fb : Nat} {qv : Value} {S : St}

theorem blocks_ok (h : DI B w a mb fb qv S) : Calls Try.prog 47 #[.pointer (some ⟨a, 0, none⟩)] w fun e w' => e = .returned (.int .i64 (S.N : Int)) ∧ w' = w := blocks_some w a _ h.c0

set_option maxHeartbeats 400000 in
theorem made_ok (h : DI B w a mb fb qv S) : Calls Try.prog 24 #[.pointer (some ⟨a, 0, none⟩)] w fun e w' => e = .returned (.bool true) ∧ w' = w := by
  have h1 := h.N1
  go_enter Try.func24, Try.ntmps24
  go_wp2_with fail
  refine same_at (blocks_ok h) ?_
  go_wp2
  go_ret
  exact ⟨ret_bool (by simp; omega), rfl⟩

set_option maxHeartbeats 400000 in
theorem has_ok (h : DI B w a mb fb qv S) (b : Int) : Calls Try.prog 44 #[.pointer (some ⟨a, 0, none⟩), .int .i64 b] w fun e w' => e = .returned (.bool (decide (0 ≤ b) && decide (b < S.N))) ∧ w' = w := by
  have hc := h.c0
  clear h
  go_enter Try.func44, Try.ntmps44
  by_cases hb : 0 ≤ b
  · go_wp2
    go_ret
    exact ⟨ret_bool (by simp [hb]), rfl⟩
  · go_wp2
    go_ret
    exact ⟨ret_bool (by simp; intro; omega), rfl⟩

set_option maxHeartbeats 400000 in
theorem bytesOf_ok (h : DI B w a mb fb qv S) (b : Nat) (hb : b < S.N) : Calls Try.prog 37 #[.pointer (some ⟨a, 0, none⟩), .int .i64 (b : Int)] w fun e w' => ∃ g, e = .returned (.slice (some ⟨g, 0, none⟩) 128 128) ∧ Own w.heap.size w' g 128 128 (S.f b) ∧ Below w.heap.size w w' := by
  have hc := h.c1
  have hl := h.secs.lookup h.N2 b hb
  have hs := (h.secs.all b).1
  clear h
  go_enter Try.func37, Try.ntmps37
  go_wp2_with fail
  refine (list_ok (S.f b) hs w).mono ?_
  rintro e w1 ⟨g, rfl, ho, hb1⟩
  go_wp2
  go_ret
  exact ⟨g, rfl, ho, hb1⟩
end
end Go.Proofs.Ytemhhgpgpjiijaa
