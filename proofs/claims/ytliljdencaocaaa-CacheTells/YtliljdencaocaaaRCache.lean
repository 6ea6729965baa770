/- The document's cache in memory; New. -/
import Derived.Test.YtliljdencaocaaaFar
import Derived.Test.YtliljdencaocaaaCVoid
namespace Go.Proofs.Ytliljdencaocaaa
open Go.RowKit Go.Maps
set_option linter.unusedVariables false

/-- A buffer as both caches have it. -/
structure Bu where
  b : Nat
  p : Nat
  xs : List Int
/-- What both caches have: how many may be held, hits, misses, buffers, the one that was used longest ago first. -/
structure Ca where
  bd : Nat
  hi : Nat
  mi : Nat
  l : List Bu
def Bf.abs (f : Bf) : Bu := ⟨f.b, f.p, f.xs⟩
def Ch.abs (C : Ch) : Ca := ⟨C.bd, C.hi, C.mi, C.L.map Bf.abs⟩

/-- A buffer of the document's cache: its three cells; its bytes lie at g. -/
def bu3 (u : Bu) (g : Nat × Nat) : List Value := [.int .i64 (u.b : Int), .int .i64 (u.p : Int), .slice (some ⟨g.1, 0, none⟩) 128 g.2]
def flat3 (l : List (Bu × (Nat × Nat))) : List Value := l.flatMap (fun z => bu3 z.1 z.2)

/-- Block y is the document's cache over the disk x: l its buffers, each with where its bytes lie. -/
structure RC (B : Nat) (w : World) (y x : Nat) (lv : Value) (l : List (Bu × (Nat × Nat))) (A : Ca) : Prop where
  row : w.heap[y]? = some (.cells #[.pointer (some ⟨x, 0, none⟩), .int .i64 (A.bd : Int), lv, .int .i64 (A.hi : Int), .int .i64 (A.mi : Int)] 93 (0, 0))
  lst : w.ownsRow B 95 3 lv l.length (flat3 l)
  eq : A.l = l.map (·.1)
  byt : ∀ z ∈ l, Own B w z.2.1 128 z.2.2 z.1.xs ∧ Sect z.1.xs
  lo : B ≤ y
  bd : 1 ≤ A.bd ∧ A.bd ≤ 64
  len : l.length ≤ 64
  cnt : A.hi + A.mi ≤ 4611686018427387904
  ps : ∀ z ∈ l, z.1.p ≤ 100

section
variable {B : Nat} {w w' : World} {x : Nat}
set_option maxHeartbeats 400000 in
theorem rcnew_arg (bd : Int) (hb : bd < 1 ∨ 64 < bd) : Calls Try.prog 36 #[.pointer (some ⟨x, 0, none⟩), .int .i64 bd] w fun e w' => e = .returned (.tuple #[.pointer none, .int .i64 1]) ∧ w' = w := by
  by_cases h0 : bd < 1
  · clear hb
    go_enter Try.func36, Try.ntmps36
    go_wp2
    go_ret2
    exact ⟨rfl, rfl⟩
  · have h1 : 64 < bd := by omega
    have h0 : 1 ≤ bd := by omega
    clear hb
    go_enter Try.func36, Try.ntmps36
    go_wp2
    go_ret2
    exact ⟨rfl, rfl⟩
set_option maxHeartbeats 400000 in
theorem rcnew_ok (hB : B ≤ w.heap.size) (bd : Nat) (hb : 1 ≤ bd ∧ bd ≤ 64) : Calls Try.prog 36 #[.pointer (some ⟨x, 0, none⟩), .int .i64 (bd : Int)] w fun e w' => ∃ y, e = .returned (.tuple #[.pointer (some ⟨y, 0, none⟩), .int .i64 0]) ∧ w.heap.size ≤ y ∧ RC B w' y x (.slice none 0 0) [] ⟨bd, 0, 0, []⟩ ∧ Below w.heap.size w w' := by
  have h1 : (1 : Int) ≤ (bd : Int) := by omega
  have h2 : (bd : Int) ≤ 64 := by omega
  go_enter Try.func36, Try.ntmps36
  go_wp2
  go_ret2
  refine ⟨w.heap.size, rfl, Nat.le_refl _, ?_, (Below.refl _ w).alloc (Nat.le_refl _) _⟩
  exact { row := World.alloc_heap_new w _, lst := World.ownsRow_nil _ _ _ _, eq := rfl, byt := fun z hz => (by cases hz), lo := hB, bd := hb, len := Nat.zero_le _, cnt := (by show 0 + 0 ≤ _; omega), ps := fun z hz => (by cases hz) }
end
end Go.Proofs.Ytliljdencaocaaa
