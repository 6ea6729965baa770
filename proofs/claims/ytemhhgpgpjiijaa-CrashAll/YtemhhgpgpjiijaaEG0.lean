/- Blocks of two disks are told apart by their types. -/
import Derived.Test.YtemhhgpgpjiijaaEF
import Derived.Test.YtemhhgpgpjiijaaROf
import Derived.Test.YtemhhgpgpjiijaaPImage
namespace Go.Proofs.Ytemhhgpgpjiijaa
open Go.RowKit Go.Maps

theorem DI.notin {B : Nat} {w : World} {a mb fb : Nat} {dq : Value} {S : St} (hd : DI B w a mb fb dq S) {k : Nat} {cs : Array Value} {t : TypeId} (h : w.heap[k]? = some (.cells cs t (0, 0))) (h1 : t ≠ 67) (h2 : t ≠ 71) : ¬ foot a mb fb dq k := by
  rintro (rfl | rfl | rfl | hf)
  · have := hd.row
    rw [h] at this
    simp only [Option.some.injEq, Obj.cells.injEq] at this
    exact h1 this.2.1
  · obtain ⟨D, ⟨es, c, ho, _⟩, _⟩ := hd.secs.ex
    rw [h] at ho
    simp at ho
  · obtain ⟨D, ⟨es, c, ho, _⟩, _⟩ := hd.fls.ex
    rw [h] at ho
    simp at ho
  · obtain ⟨cs', e'⟩ := own_ty hd.que hf
    rw [h] at e'
    simp only [Option.some.injEq, Obj.cells.injEq] at e'
    exact h2 e'.2.1

theorem RI.notin {B : Nat} {w : World} {x : Nat} {bv qv fv : Value} {gB gQ : List (Nat × Nat)} {S : St} (hr : RI B w x bv qv fv gB gQ S) {k : Nat} {cs : Array Value} {t : TypeId} (h : w.heap[k]? = some (.cells cs t (0, 0))) (h1 : t ≠ 92) (h2 : t ≠ 42) (h3 : t ≠ 44) (h4 : t ≠ 3) : ¬ rfoot x bv qv fv k := by
  rintro (rfl | hf | hf | hf)
  · have := hr.row
    rw [h] at this
    simp only [Option.some.injEq, Obj.cells.injEq] at this
    exact h1 this.2.1
  · obtain ⟨cs', e'⟩ := own_ty hr.bs hf
    rw [h] at e'
    simp only [Option.some.injEq, Obj.cells.injEq] at e'
    exact h2 e'.2.1
  · obtain ⟨cs', e'⟩ := own_ty hr.qs hf
    rw [h] at e'
    simp only [Option.some.injEq, Obj.cells.injEq] at e'
    exact h3 e'.2.1
  · obtain ⟨cs', e'⟩ := own_ty hr.fs hf
    rw [h] at e'
    simp only [Option.some.injEq, Obj.cells.injEq] at e'
    exact h4 e'.2.1

theorem RI.base {B B' : Nat} {w : World} {x : Nat} {bv qv fv : Value} {gB gQ : List (Nat × Nat)} {S : St} (h : RI B w x bv qv fv gB gQ S) (hB : B' ≤ B) : RI B' w x bv qv fv gB gQ S :=
  ⟨h.row, ownsRow_base h.bs hB, fun i p hp => ownsRow_base (h.bel i p hp) hB, ownsRow_base h.qs hB, h.qlen, fun i y p hy hp => ownsRow_base (h.qel i y p hy hp) hB, ownsRow_base h.fs hB, Nat.le_trans hB h.lo⟩

theorem row_bi {w : World} {H n c : Nat} {p : Option Addr} {xs : List Int} (h : w.ownsRow H 5 1 (.slice p n c) n (xs.map (Value.int .u8))) (hn : n ≤ 140737488355328) (hx : Num.Byt xs) : BI w p n xs := by
  have hl : xs.length = n := by have := h.1; simpa using this
  refine ⟨hl, hn, hx, fun h0 => ?_⟩
  rcases h.2 with ⟨e, e0⟩ | ⟨g, cap, cur, e, _⟩
  · omega
  · cases e
    exact ⟨g, 0, rfl, fun i hi => by rw [Nat.zero_add]; exact Own.cell (B := H) (cap := c) h i hi⟩

theorem row_ii {w : World} {H n c : Nat} {p : Option Addr} {xs : List Int} (h : w.ownsRow H 3 1 (.slice p n c) n (xs.map (Value.int .i64))) (hn : n * 8 ≤ 140737488355328) (hx : ∀ y ∈ xs, -9223372036854775808 ≤ y ∧ y ≤ 9223372036854775807) : II w p n xs := by
  have hl : xs.length = n := by have := h.1; simpa using this
  refine ⟨hl, hn, hx, fun h0 => ?_⟩
  rcases h.2 with ⟨e, e0⟩ | ⟨g, cap, cur, e, _⟩
  · omega
  · cases e
    refine ⟨g, 0, rfl, fun i hi => ?_⟩
    rw [Nat.zero_add, h.cellAt i (by omega), List.getElem?_map, List.getD_eq_getElem?_getD, List.getElem?_eq_getElem (by omega)]
    rfl

/-- What has turned since lies from the first world's end on. -/
theorem frame_far {K X : Nat → Prop} {a b c : World} (h : Frame K a b) (k : Frame X b c) (hx : ∀ i, X i → a.heap.size ≤ i) : Frame K a c :=
  ⟨k.os.trans h.os, k.tape.trans h.tape, k.output.trans h.output, Nat.le_trans h.size k.size, fun i hi hn => (k.block i (Nat.lt_of_lt_of_le hi h.size) (fun e => by have := hx i e; omega)).trans (h.block i hi hn)⟩

set_option maxHeartbeats 400000 in
theorem sclone_some (a : Addr) (n c : Nat) (xs : List Int) (w : World) (h : BI w (some a) n xs) :
    Calls Try.prog 21 #[.slice (some a) n c] w fun e w' => ∃ g cap, e = .returned (.slice (some ⟨g, 0, none⟩) n cap) ∧ Own w.heap.size w' g n cap xs ∧ Below w.heap.size w w' := by
  obtain ⟨i0, hi, hz0, hz1, hz2⟩ := info_parts info5
  have hbig := h.big
  have hlen := h.len
  have q42 := eqlNil
  have hb0 := (Below.refl w.heap.size w).alloc (Nat.le_refl _) (Obj.cells #[] 5)
  go_enter Try.func21, Try.ntmps21
  go_wp2_with (at_builtin; refine wpList_append_own _ rfl _ _ 42 rfl w.heap.size 5 i0 (.int .u8 0) 1 1 Try.underlying42 hi hz0 hz1 hz2 rfl (by decide) _ _ _ rfl (World.ownsRow_made w #[] 0 (Nat.le_refl _) (Nat.zero_le _) rfl) a n c (xs.map (Value.int .u8)) rfl ?c1 ?c2 ?c3 ?c4 ?c5 ?c6 ?_)
  case c1 => simp [hlen]
  case c2 => exact (h.kept hb0).src'
  case c3 => exact one_cells xs
  case c4 => unfold maxLen; omega
  case c5 => omega
  case c6 => simp
  intro v' w1 hown hgrow hnil
  obtain ⟨g, cap, hv, ho⟩ := own_shape hown (by first | exact hnil | (intro e; exact absurd (hnil.1 e).1 (by simp)))
  rw [hv]
  clear hown hnil
  have hb1 := hb0.grown hgrow (by simp) (by intro k hk; simp [Value.ownBlock] at hk; omega)
  go_wp2
  go_ret
  exact ⟨g, cap, rfl, ho, hb1⟩

set_option maxHeartbeats 400000 in
theorem sclone_nil (n c : Nat) (w : World) :
    Calls Try.prog 21 #[.slice none n c] w fun e w' => e = .returned (.slice none 0 0) ∧ w' = w := by
  have q42 := eqlNil
  go_enter Try.func21, Try.ntmps21
  go_wp2
  go_ret
  exact ⟨rfl, rfl⟩

/-- A copy, as a row of the call's own (or nil, of nil). -/
theorem sclone_any (p : Option Addr) (n c : Nat) (xs : List Int) (w : World) (h : BI w p n xs) :
    Calls Try.prog 21 #[.slice p n c] w fun e w' => ∃ v, e = .returned v ∧ w'.ownsRow w.heap.size 5 1 v n (xs.map (Value.int .u8)) ∧ Below w.heap.size w w' := by
  cases p with
  | none =>
    obtain ⟨rfl, rfl⟩ := h.nil_zero
    exact (sclone_nil 0 c w).mono fun e w' ⟨he, hw⟩ => ⟨_, he, World.ownsRow_nil _ _ _ _, by rw [hw]; exact Below.refl _ _⟩
  | some a =>
    exact (sclone_some a n c xs w h).mono fun e w' ⟨g, cap, he, ho, hb⟩ => ⟨_, he, ho, hb⟩
end Go.Proofs.Ytemhhgpgpjiijaa
