/- Calls that were handed in; the set that made makes of them, without its memory. -/
import Derived.Test.YteapkfnklbhdfaaBlk
import Derived.Test.YteapkfnklbhdfaaAdd
namespace Go.Proofs.Yteapkfnklbhdfaa
open Go.RowKit Go.Maps
set_option linter.unusedVariables false

/-- A call. -/
structure Dv where
  op : Int
  blk : Int
  off : Int
  bytes : List Int
  ids : List Int
/-- A call's five cells. -/
structure DAt (w : World) (b o : Nat) (x : Dv) : Prop where
  c0 : w.cell? ⟨b, o, none⟩ = some (.int .i64 x.op)
  c1 : w.cell? ⟨b, o + 1, none⟩ = some (.int .i64 x.blk)
  c2 : w.cell? ⟨b, o + 2, none⟩ = some (.int .i64 x.off)
  c3 : ∃ p m c, w.cell? ⟨b, o + 3, none⟩ = some (.slice p m c) ∧ m ≤ c ∧ c ≤ 9223372036854775807 ∧ BI w p m x.bytes
  c4 : ∃ p m c, w.cell? ⟨b, o + 4, none⟩ = some (.slice p m c) ∧ m ≤ c ∧ c ≤ 9223372036854775807 ∧ m * 8 ≤ 140737488351232 ∧ II w p m x.ids
  r0 : I64 x.op
  r1 : I64 x.blk
  r2 : I64 x.off
/-- The slice at p, of n calls, holds D. -/
structure DI (w : World) (p : Option Addr) (n : Nat) (D : List Dv) : Prop where
  len : D.length = n
  big : n ≤ 140737488355328
  cells : 0 < n → ∃ b o, p = some ⟨b, o, none⟩ ∧ ∀ i x, D[i]? = some x → DAt w b (o + i * 5) x
theorem DAt.kept {w w' : World} {b o : Nat} {x : Dv} (h : DAt w b o x) (hb : Below w.heap.size w w') : DAt w' b o x := by
  have hlt := lt_of_cell h.c0
  have hk : ∀ j, w'.cell? ⟨b, j, none⟩ = w.cell? ⟨b, j, none⟩ := fun j => hb.cell (p := ⟨b, j, none⟩) hlt
  refine ⟨(hk _).trans h.c0, (hk _).trans h.c1, (hk _).trans h.c2, ?_, ?_, h.r0, h.r1, h.r2⟩
  · obtain ⟨p, m, c, e, r1, r2, r3⟩ := h.c3
    exact ⟨p, m, c, (hk _).trans e, r1, r2, r3.kept hb⟩
  · obtain ⟨p, m, c, e, r1, r2, r3, r4⟩ := h.c4
    exact ⟨p, m, c, (hk _).trans e, r1, r2, r3, r4.kept hb⟩
theorem DI.kept {w w' : World} {p : Option Addr} {n : Nat} {D : List Dv} (h : DI w p n D) (hb : Below w.heap.size w w') : DI w' p n D :=
  ⟨h.len, h.big, fun hn => by
    obtain ⟨b, o, e, hc⟩ := h.cells hn
    exact ⟨b, o, e, fun i x hx => (hc i x hx).kept hb⟩⟩

theorem u64_range (b : Int) : 0 ≤ IntKind.u64.wrap b ∧ IntKind.u64.wrap b < 18446744073709551616 := by
  rw [IntKind.wrap_u64]; omega
/-- A number modulo K, as it is told. -/
def mq (K : Nat) (b : Int) : Nat := ((IntKind.u64.wrap b).tmod (K : Int)).toNat
theorem mq_lt {K : Nat} (hK : 1 ≤ K) (b : Int) : mq K b < K := by
  have h := u64_range b
  unfold mq
  generalize IntKind.u64.wrap b = u at *
  have h1 := Int.tmod_lt_of_pos u (show (0 : Int) < (K : Int) by omega)
  have h2 := Int.tmod_nonneg (K : Int) h.1
  omega
theorem mq_eq {K : Nat} (hK : 1 ≤ K) (b : Int) : (IntKind.u64.wrap b).tmod (K : Int) = (mq K b : Int) := by
  have h := u64_range b
  unfold mq
  generalize IntKind.u64.wrap b = u at *
  have h2 := Int.tmod_nonneg (K : Int) h.1
  omega
theorem mq_wrap {K : Nat} (hK : 1 ≤ K) (hK2 : K ≤ 4611686018427387904) (b : Int) : wrap64 ((IntKind.u64.wrap b).tmod (K : Int)) = (mq K b : Int) := by
  have h1 := mq_lt hK b
  rw [mq_eq hK]
  unfold wrap64
  omega

/-- A patch without its memory. -/
def strip (p : Pv) : Pv := { p with bp := none, bc := 0, np := none, nc := 0 }
theorem fP_strip (P : List Pv) (k : Int) : fP (P.map strip) k = (fP P k).map strip := by
  unfold fP
  rw [List.find?_map]
  rfl
theorem still_strip (P : List Pv) (zs : List Int) : still (P.map strip) zs = still P zs := by
  unfold still
  apply List.filter_congr
  intro k _
  rw [fP_strip, Option.isSome_map]
theorem ofB_strip (P : List Pv) (b : Int) : ofB (P.map strip) b = (ofB P b).map strip := by
  unfold ofB
  rw [List.filter_map]
  rfl
theorem upS_strip (p u : Pv) (s : List Bool × Int) : upS p (strip u) s = upS p u s := rfl
theorem upI_strip (p u : Pv) (s : List Bool × Int) (I : List Int) : upI p (strip u) s I = upI p u s I := rfl
theorem uppF_strip (p : Pv) : ∀ (l : List Pv) (s : List Bool × Int) (I : List Int), uppF p (l.map strip) s I = uppF p l s I
  | [], _, _ => rfl
  | u :: l, s, I => by
    rw [List.map_cons]
    unfold uppF
    rw [upS_strip, upI_strip, uppF_strip p l]
theorem uppL_strip (P : List Pv) (p : Pv) : uppL (P.map strip) p = uppL P p := by
  unfold uppL
  rw [ofB_strip, ← List.map_reverse, uppF_strip]

/-- What a call's patch has. -/
def bsOf (d : Dv) : List Int := if d.bytes.take 128 = [] then [1] else d.bytes.take 128
def zsOf (n : Nat) (ids : List Int) : List Int := if n = 0 then [] else ids.map (fun x => 1 + (mq n x : Int))
def newP (n : Nat) (d : Dv) : Pv := { id := n + 1, blk := mq 5 d.blk, off := mq (129 - (bsOf d).length) d.off, bs := bsOf d, nd := [], bp := none, bc := 0, np := none, nc := 0 }
def mk1 (S : List Pv) (d : Dv) : List Pv := S ++ [{ newP S.length d with nd := rs (still S (zsOf S.length d.ids) ++ uppL S (newP S.length d)) }]
def mkS (D : List Dv) : List Pv := D.foldl mk1 []
theorem mkS_snoc (D : List Dv) (d : Dv) : mkS (D ++ [d]) = mk1 (mkS D) d := by unfold mkS; rw [List.foldl_append]; rfl
theorem mk1_len (S : List Pv) (d : Dv) : (mk1 S d).length = S.length + 1 := by simp [mk1]
theorem mkS_len : ∀ (D : List Dv) (S : List Pv), (D.foldl mk1 S).length = S.length + D.length
  | [], S => rfl
  | d :: D, S => by
    rw [List.foldl_cons, mkS_len D, mk1_len, List.length_cons]
    omega
theorem bsOf_len (d : Dv) : 1 ≤ (bsOf d).length ∧ (bsOf d).length ≤ 128 := by
  unfold bsOf
  split
  · simp
  · rename_i h
    have : (d.bytes.take 128).length ≠ 0 := fun e => h (List.length_eq_zero_iff.1 e)
    simp only [List.length_take] at this ⊢
    omega
end Go.Proofs.Yteapkfnklbhdfaa
