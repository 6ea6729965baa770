/- The document's inodes out of bytes. -/
import Derived.Test.YtfchclpglcogoaaBase
import Derived.Lib.BufferWrite
import Derived.Lib.SlBuf
import Derived.Deep.RegionHeld3
import Derived.Lib.SmallJoins
import Derived.Deep.Strs
import Derived.Lib.AppendZerosOnto
import Derived.Deep.MidRow
import Derived.Laws.ResultCell
import Derived.Deep.AppendSrc
import Derived.DeepKeys2

/- A page: a structure's bytes while its fields are written, one behind the other. -/
namespace Go.Proofs.Ytfchclpglcogoaa
open Go.RowKit

/-- Block pb is a page of N bytes, xs, that lie in block g; the next field begins at a. Both blocks are new since B. -/
structure Pg (B : Nat) (w : World) (pb g N a : Nat) (xs : List Int) : Prop where
  hp : w.heap[pb]? = some (.cells #[.slice (some ⟨g, 0, none⟩) N N, .int .i64 (a : Int)] 94 (0, 0))
  row : w.heap[g]? = some (.cells (xs.map (Value.int .u8)).toArray 5 (0, 0))
  len : xs.length = N
  byt : Num.Byt xs
  lop : B ≤ pb
  log : B ≤ g
  ne : pb ≠ g
  big : N ≤ 128

theorem cell_row {w : World} {g : Nat} {cs : Array Value} {t : TypeId} (h : w.heap[g]? = some (.cells cs t (0, 0))) (i : Nat) (v : Value) (hv : cs[i]? = some v) : w.cell? ⟨g, i, none⟩ = some v := by
  simp [World.cell?, h, hv]

theorem Pg.c0 {B : Nat} {w : World} {pb g N a : Nat} {xs : List Int} (h : Pg B w pb g N a xs) : w.cell? ⟨pb, 0, none⟩ = some (.slice (some ⟨g, 0, none⟩) N N) := cell_row h.hp 0 _ rfl
theorem Pg.kept {B : Nat} {w w' : World} {pb g N a : Nat} {xs : List Int} (h : Pg B w pb g N a xs) (hb : Below w.heap.size w w') : Pg B w' pb g N a xs := by
  have h1 : pb < w.heap.size := (Array.getElem?_eq_some_iff.1 h.hp).1
  have h2 : g < w.heap.size := (Array.getElem?_eq_some_iff.1 h.row).1
  exact ⟨by rw [hb.block _ h1]; exact h.hp, by rw [hb.block _ h2]; exact h.row, h.len, h.byt, h.lop, h.log, h.ne, h.big⟩

/-- A list of noughts. -/
def zers (n : Nat) : List Int := List.replicate n 0
/-- A page whose row was turned, behind a copy into it. -/
theorem Pg.turned {B : Nat} {w w' : World} {pb g N a : Nat} {xs ys : List Int} (h : Pg B w pb g N a xs) (hpb : w'.heap[pb]? = w.heap[pb]?) (hr : w'.heap[g]? = some (.cells (ys.map (Value.int .u8)).toArray 5 (0, 0))) (hl : ys.length = N) (hy : Num.Byt ys) : Pg B w' pb g N a ys :=
  ⟨hpb.trans h.hp, hr, hl, hy, h.lop, h.log, h.ne, h.big⟩

/-- A text's bytes, as numbers. -/
def numsOf (s : ByteArray) : List Int := s.data.toList.map (fun b => (b.toNat : Int))
theorem numsOf_len (s : ByteArray) : (numsOf s).length = s.size := by
  unfold numsOf
  rw [List.length_map, Array.length_toList]
  rfl
end Go.Proofs.Ytfchclpglcogoaa

/- Numbers that are written one behind the other, and lists of numbers in memory. -/
namespace Go.Proofs.Ytfchclpglcogoaa
open Go.RowKit

/-- The slice at p, of n numbers, holds zs. -/
structure II (w : World) (p : Option Addr) (n : Nat) (zs : List Int) : Prop where
  len : zs.length = n
  big : n ≤ 140737488355328
  cells : 0 < n → ∃ b o, p = some ⟨b, o, none⟩ ∧ ∀ i, i < n → w.cell? ⟨b, o + i, none⟩ = some (.int .i64 (zs.getD i 0))

theorem II.kept {w w' : World} {p : Option Addr} {n : Nat} {xs : List Int} (h : II w p n xs) (hb : Below w.heap.size w w') : II w' p n xs := by
  refine ⟨h.len, h.big, fun hn => ?_⟩
  obtain ⟨b, o, rfl, hc⟩ := h.cells hn
  refine ⟨b, o, rfl, fun i hi => ?_⟩
  rw [hb.cell (p := ⟨b, o + i, none⟩) (lt_of_cell (hc i hi))]
  exact hc i hi

/-- xs with the first j numbers of zs put from a on, each k bytes wide. -/
def putsTo (xs : List Int) (a k : Nat) (zs : List Int) : Nat → List Int
  | 0 => xs
  | j + 1 => Num.putTo (putsTo xs a k zs j) (a + k * j) (zs.getD j 0) k

end Go.Proofs.Ytfchclpglcogoaa

/- Superblocks as bytes, by the program and by the document. -/
namespace Go.Proofs.Ytfchclpglcogoaa
open Go.RowKit

abbrev superO (G B I M : Int) : Obj := .cells #[.int .i64 G, .int .i64 B, .int .i64 I, .int .i64 M] 25

theorem heap_new (w : World) (o : Obj) : (w.alloc o).heap[w.heap.size]? = some o := by
  show (w.heap.push o)[w.heap.size]? = some o
  simp
theorem grew_at {P : Program} {f : FuncId} {args : Array Value} {w : World} {v : Value} {Q : Ending → World → Prop} (h : Calls P f args w fun e w' => e = .returned v ∧ Below w.heap.size w w') (hq : ∀ w1, Below w.heap.size w w1 → Q (.returned v) w1) : Calls P f args w Q :=
  h.mono (by rintro e w' ⟨rfl, hb⟩; exact hq w' hb)
theorem grew_trans {w0 w w1 : World} (h : Below w0.heap.size w0 w) (hb : Below w.heap.size w w1) : Below w0.heap.size w0 w1 := h.trans (hb.mono h.size)
theorem grew_alloc (w : World) (o : Obj) : Below w.heap.size w (w.alloc o) := (Below.refl _ _).alloc (Nat.le_refl _) _
namespace Gm
def May (G B I : Int) : Prop := 1 ≤ G ∧ G ≤ 8 ∧ 8 ≤ B ∧ B ≤ 256 ∧ 4 ≤ I ∧ I ≤ 64 ∧ I % 4 = 0 ∧ 3 + I / 4 ≤ B
instance (G B I : Int) : Decidable (May G B I) := by unfold May; infer_instance
end Gm
def SMay (G B I M : Int) : Prop := Gm.May G B I ∧ 0 ≤ M ∧ M ≤ 4294967295
instance (G B I M : Int) : Decidable (SMay G B I M) := by unfold SMay; infer_instance

theorem within_ok (n l h : Int) (w : World) : Calls Try.prog 68 #[.int .i64 n, .int .i64 l, .int .i64 h] w fun e w' => e = .returned (.bool (decide (l ≤ n ∧ n ≤ h))) ∧ w' = w := by
  go_enter Try.func68, Try.ntmps68
  go_wp2
  all_goals
    go_ret
    exact ⟨by simp [*]; try omega, rfl⟩

/-- A superblock's bytes, but for the sum. -/
def superL (G B I M : Int) : List Int := Num.putTo (Num.putTo (Num.putTo (Num.putTo (splice (zers 128) 0 [98, 111, 108, 108]) 4 G 1) 5 (B - 1) 1) 6 I 1) 8 M 4
/-- Bytes sealed. -/
def sealL (xs : List Int) : List Int := Num.putTo xs (xs.length - 4) (Num.sum xs (xs.length - 4)) 4
def superS (G B I M : Int) : List Int := sealL (superL G B I M)

end Go.Proofs.Ytfchclpglcogoaa

/- Superblocks that came in as arguments. -/
namespace Go.Proofs.Ytfchclpglcogoaa
open Go.ChangeShapes Go.WideShapes Go.ChangeAt Go.RowKit Go.Joins
set_option linter.unusedVariables false

end Go.Proofs.Ytfchclpglcogoaa

/- append(s, make([]byte, m)...). -/
namespace Go.Proofs.Ytfchclpglcogoaa
open Go.RowKit

end Go.Proofs.Ytfchclpglcogoaa

/- A text that is written out, as bytes of the call's own. -/
namespace Go.Proofs.Ytfchclpglcogoaa
open Go.RowKit

end Go.Proofs.Ytfchclpglcogoaa

/- The document's superblocks as bytes. -/
namespace Go.Proofs.Ytfchclpglcogoaa
open Go.RowKit

end Go.Proofs.Ytfchclpglcogoaa

/- Superblocks out of bytes, by the program. -/
namespace Go.Proofs.Ytfchclpglcogoaa
open Go.RowKit

theorem bi_ne_size {w : World} {b o n : Nat} {xs : List Int} (h : BI w (some ⟨b, o, none⟩) n xs) {g : Nat} {cs : Array Value} {t : TypeId} {mk : Nat × Nat} (hg : w.heap[g]? = some (.cells cs t mk)) (hn : cs.size < n) : b ≠ g := by
  rintro rfl
  obtain ⟨b', o', e, hc⟩ := h.cells (by omega)
  cases e
  have := hc (n - 1) (by omega)
  simp only [World.cell?, hg] at this
  rw [Array.getElem?_eq_none (by omega)] at this
  cases this

theorem rest_at {w w' : World} {rb n : Nat} {xs : List Int} {E : Int} (h : Rest w rb n xs E) (hr : w'.heap[rb]? = w.heap[rb]?) (hs : ∀ b o, BI w (some ⟨b, o, none⟩) n xs → 0 < n → w'.heap[b]? = w.heap[b]?) : Rest w' rb n xs E := by
  obtain ⟨b, o, c, h1, h2, h3⟩ := h
  refine ⟨b, o, c, hr.trans h1, h2, bi_same h3 (fun b' o' e hn => ?_)⟩
  cases e
  exact hs b o h3 hn

/-- What stands while a superblock is read: the reader, the structure, the place of the answer. -/
structure SR (w w' : World) (rb n : Nat) (xs : List Int) (a b c d : Int) : Prop where
  r : Rest w' rb n xs 0
  s : w'.heap[w.heap.size + 1]? = some (superO a b c d)
  z : w'.heap[w.heap.size]? = some (superO 0 0 0 0)
  lo : w.heap.size + 2 ≤ rb
  bw : Below w.heap.size w w'

theorem SR.cell {w w' : World} {rb n : Nat} {xs : List Int} {a b c d : Int} (h : SR w w' rb n xs a b c d) (i : Nat) (v : Value) (hv : (#[.int .i64 a, .int .i64 b, .int .i64 c, .int .i64 d] : Array Value)[i]? = some v) : w'.cell? ⟨w.heap.size + 1, i, none⟩ = some v := cell_row h.s i v hv

end Go.Proofs.Ytfchclpglcogoaa

/- Superblocks out of bytes: whether they are in form. -/
namespace Go.Proofs.Ytfchclpglcogoaa
open Go.RowKit
set_option linter.unusedVariables false

/-- The bytes are those that are written for what they say. -/
def SGood (xs : List Int) (a b c d : Int) : Prop := SMay a b c d ∧ superS a b c d = xs
instance (xs : List Int) (a b c d : Int) : Decidable (SGood xs a b c d) := by unfold SGood; infer_instance

end Go.Proofs.Ytfchclpglcogoaa

/- The document's superblocks out of bytes. -/
namespace Go.Proofs.Ytfchclpglcogoaa
open Go.RowKit
set_option linter.unusedVariables false

end Go.Proofs.Ytfchclpglcogoaa

/- Headers as bytes, by the program. -/
namespace Go.Proofs.Ytfchclpglcogoaa
open Go.RowKit
set_option linter.unusedVariables false

/-- A header's cells: its number, and 40 bytes. -/
def groupA (N : Int) (ys : List Int) : Array Value := (Value.int .i64 N :: ys.map (Value.int .u8)).toArray
abbrev groupO (N : Int) (ys : List Int) : Obj := .cells (groupA N ys) 38
theorem groupA_size (N : Int) (ys : List Int) (h : ys.length = 40) : (groupA N ys).size = 41 := by simp [groupA, h]
def GMay (N : Int) : Prop := 0 ≤ N ∧ N ≤ 7
instance (N : Int) : Decidable (GMay N) := by unfold GMay; infer_instance
/-- A header's bytes. -/
def groupL (N : Int) (ys : List Int) : List Int := splice (splice (Num.putTo (splice (zers 128) 0 [104, 100]) 2 N 1) 4 (ys.take 8)) 12 (ys.drop 8)

end Go.Proofs.Ytfchclpglcogoaa

/- The document's headers as bytes. -/
namespace Go.Proofs.Ytfchclpglcogoaa
open Go.RowKit
set_option linter.unusedVariables false

end Go.Proofs.Ytfchclpglcogoaa

/- Headers out of bytes, by the program. -/
namespace Go.Proofs.Ytfchclpglcogoaa
open Go.RowKit
set_option linter.unusedVariables false

/-- What stands while a header is read. -/
structure GR (w w' : World) (rb n : Nat) (xs : List Int) (N : Int) (ys : List Int) : Prop where
  r : Rest w' rb n xs 0
  s : w'.heap[w.heap.size + 1]? = some (groupO N ys)
  z : w'.heap[w.heap.size]? = some (groupO 0 (zers 40))
  lo : w.heap.size + 2 ≤ rb
  bw : Below w.heap.size w w'
  yl : ys.length = 40

theorem GR.turn {w w' w2 : World} {rb n : Nat} {xs ys ys' : List Int} {N N' : Int} (h : GR w w' rb n xs N ys) (hn : 41 < n) (hs : w2.heap[w.heap.size + 1]? = some (groupO N' ys')) (ho : ∀ k, k ≠ w.heap.size + 1 → w2.heap[k]? = w'.heap[k]?) (hb : Below w.heap.size w w2) (hl : ys'.length = 40) : GR w w2 rb n xs N' ys' := by
  have hlo := h.lo
  exact ⟨rest_at h.r (ho _ (by omega)) (fun b o hb hn' => ho _ (bi_ne_size hb h.s (by rw [groupA_size _ _ h.yl]; exact hn))), hs, (ho _ (by omega)).trans h.z, h.lo, hb, hl⟩

theorem GR.row {w w' : World} {rb n : Nat} {xs ys : List Int} {N : Int} (h : GR w w' rb n xs N ys) (hn : 41 < n) (ys' : List Int) (hl : ys'.length = 40) : GR w (w'.setRow (w.heap.size + 1) (groupA N ys')) rb n xs N ys' :=
  h.turn hn (setRow_heap _ _ _ _ _ _ h.s) (fun k hk => setRow_other _ _ _ _ hk) (below_setRow h.bw (by omega) _) hl

end Go.Proofs.Ytfchclpglcogoaa

/- Headers out of bytes: whether they are in form. -/
namespace Go.Proofs.Ytfchclpglcogoaa
open Go.RowKit
set_option linter.unusedVariables false

/-- The bytes are those that are written for what they say. -/
def GGood (xs : List Int) (N : Int) (ys : List Int) : Prop := GMay N ∧ groupL N ys = xs
instance (xs : List Int) (N : Int) (ys : List Int) : Decidable (GGood xs N ys) := by unfold GGood; infer_instance

end Go.Proofs.Ytfchclpglcogoaa

/- Headers out of bytes, by the program. -/
namespace Go.Proofs.Ytfchclpglcogoaa
open Go.RowKit
set_option linter.unusedVariables false

end Go.Proofs.Ytfchclpglcogoaa

/- The document's headers out of bytes. -/
namespace Go.Proofs.Ytfchclpglcogoaa
open Go.RowKit
set_option linter.unusedVariables false

end Go.Proofs.Ytfchclpglcogoaa

/- Arrays of bytes, and headers, compared. -/
namespace Go.Proofs.Ytfchclpglcogoaa
open Go.RowKit
set_option linter.unusedVariables false

end Go.Proofs.Ytfchclpglcogoaa

/- Inodes as bytes, by the program. -/
namespace Go.Proofs.Ytfchclpglcogoaa
open Go.RowKit
set_option linter.unusedVariables false

def Ads (zs : List Int) : Prop := ∀ z ∈ zs, 0 ≤ z ∧ z ≤ 2047
instance (zs : List Int) : Decidable (Ads zs) := by unfold Ads; infer_instance

/-- What files and directories have in common. -/
def UMay (l s a b c d i j : Int) : Prop := (0 ≤ l ∧ l ≤ 1000) ∧ (0 ≤ s ∧ s ≤ 532992) ∧ Ads [a, b, c, d] ∧ Ads [i, j]
instance (l s a b c d i j : Int) : Decidable (UMay l s a b c d i j) := by unfold UMay; infer_instance

/-- Whether an inode may be. -/
def DMay (m l s a b c d i j : Int) : Prop := (m = 0 ∧ l = 0 ∧ s = 0 ∧ a = 0 ∧ b = 0 ∧ c = 0 ∧ d = 0 ∧ i = 0 ∧ j = 0) ∨ (m = 1 ∧ UMay l s a b c d i j) ∨ (m = 2 ∧ UMay l s a b c d i j ∧ s % 128 = 0)
instance (m l s a b c d i j : Int) : Decidable (DMay m l s a b c d i j) := by unfold DMay; infer_instance

end Go.Proofs.Ytfchclpglcogoaa

/- Inodes as bytes, by the program. -/
namespace Go.Proofs.Ytfchclpglcogoaa
open Go.RowKit
set_option linter.unusedVariables false

/-- An inode's bytes, but for the sum. -/
def dinL (m l s a b c d i j : Int) : List Int := Num.putTo (Num.putTo (putsTo (Num.putTo (Num.putTo (Num.putTo (zers 32) 0 m 1) 2 l 2) 4 s 4) 8 2 [a, b, c, d] 4) 16 i 2) 18 j 2
def dinS (m l s a b c d i j : Int) : List Int := sealL (dinL m l s a b c d i j)
/-- An inode's bytes: a free one's are all 0. -/
def dinB (m l s a b c d i j : Int) : List Int := if m = 0 then zers 32 else dinS m l s a b c d i j

end Go.Proofs.Ytfchclpglcogoaa

/- The document's inodes as bytes. -/
namespace Go.Proofs.Ytfchclpglcogoaa
open Go.RowKit
set_option linter.unusedVariables false

end Go.Proofs.Ytfchclpglcogoaa

/- The document's inodes as bytes. -/
namespace Go.Proofs.Ytfchclpglcogoaa
open Go.RowKit
set_option linter.unusedVariables false

end Go.Proofs.Ytfchclpglcogoaa

/- Numbers taken one behind the other. -/
namespace Go.Proofs.Ytfchclpglcogoaa
open Go.RowKit
set_option linter.unusedVariables false

/-- Nothing but two blocks has turned. -/
structure Two (w w' : World) (rb ib : Nat) : Prop where
  os : w'.os = w.os
  tape : w'.tape = w.tape
  output : w'.output = w.output
  size : w.heap.size ≤ w'.heap.size
  block : ∀ k, k < w.heap.size → k ≠ rb → k ≠ ib → w'.heap[k]? = w.heap[k]?
theorem Two.refl (w : World) (rb ib : Nat) : Two w w rb ib := ⟨rfl, rfl, rfl, Nat.le_refl _, fun _ _ _ _ => rfl⟩
end Go.Proofs.Ytfchclpglcogoaa

/- Inodes out of bytes, by the program. -/
namespace Go.Proofs.Ytfchclpglcogoaa
open Go.RowKit
set_option linter.unusedVariables false

end Go.Proofs.Ytfchclpglcogoaa

/- Inodes out of bytes: whether they are in form. -/
namespace Go.Proofs.Ytfchclpglcogoaa
open Go.RowKit
set_option linter.unusedVariables false

/-- The bytes are those that are written for what they say. -/
def DGood (xs : List Int) (m l s a b c d i j : Int) : Prop := DMay m l s a b c d i j ∧ dinB m l s a b c d i j = xs
instance (xs : List Int) (m l s a b c d i j : Int) : Decidable (DGood xs m l s a b c d i j) := by unfold DGood; infer_instance

end Go.Proofs.Ytfchclpglcogoaa

/- Inodes out of bytes, by the program. -/
namespace Go.Proofs.Ytfchclpglcogoaa
open Go.RowKit
set_option linter.unusedVariables false

def RGood (xs : List Int) : Prop := DGood xs (Num.numD xs 0 1) (Num.numD xs 2 2) (Num.numD xs 4 4) (Num.numD xs 8 2) (Num.numD xs 10 2) (Num.numD xs 12 2) (Num.numD xs 14 2) (Num.numD xs 16 2) (Num.numD xs 18 2)
instance (xs : List Int) : Decidable (RGood xs) := by unfold RGood; infer_instance
end Go.Proofs.Ytfchclpglcogoaa

namespace Go.Proofs.Ytfchclpglcogoaa
open Go.RowKit
set_option linter.unusedVariables false

end Go.Proofs.Ytfchclpglcogoaa
