/- Sector Map Disk Image Same DOf VNew Mu Build -/
import Derived.Test.YthdlpeejmmobmaaGreatAi03
import Derived.Maps.OwnSet
import Derived.Maps.Views
import Derived.Maps.OwnOps
import Derived.Deep.RegionHeld3
import Derived.Conc.MuLone
import Derived.KernelRfl
import Derived.Laws.Tables

namespace Go.Proofs.YthdlpeejmmobmaaGreat
open Go.RowKit

/-- A sector's cells. -/
def secA (xs : List Int) : Array Value := (xs.map (Value.int .u8)).toArray
theorem secA_size (xs : List Int) : (secA xs).size = xs.length := by simp [secA]
theorem secA_one (xs : List Int) : (secA xs).all (·.oneCell') = true := all_oneCell_toArray (one_cells xs)
theorem info79 : (Tryz.prog.info? 294).map (·.size) = some 128 := by kernel_rfl

theorem made_row {w : World} {B g n : Nat} {L : List Value} (h : w.ownsRow B 5 1 (.slice (some ⟨g, 0, none⟩) n n) n L) : ∃ L' : List Value, L'.length = n ∧ w.heap[g]? = some (.cells L'.toArray 5 (0, 0)) :=
 ⟨L, by simpa using h.1, own_row h⟩

theorem sec_src {w : World} {g : Nat} {xs : List Int} {t : TypeId} (h : w.heap[g]? = some (.cells (secA xs) t (0, 0))) : ∀ j v, (xs.map (Value.int .u8))[j]? = some v → w.cell? ((⟨g, 0, none⟩ : Addr).add j) = some v := by
 intro j v hj
 rw [Addr.add_mid, Nat.zero_add, cell_of_row w g j _ t _ h]
 simpa [secA] using hj

set_option maxRecDepth 10000 in
set_option maxHeartbeats 400000 in
theorem list_ok (xs : List Int) (hl : xs.length = 128) (w : World) :
  Calls Tryz.prog 309 #[.agg (secA xs)] w fun e w' => ∃ g, e = .returned (.slice (some ⟨g, 0, none⟩) 128 128) ∧ Own w.heap.size w' g 128 128 xs ∧ Below w.heap.size w w' := by
 obtain ⟨i0, hi, hz0, hz1, hz2⟩ := info_parts info5
 have hsz := secA_size xs
 rw [hl] at hsz
 have hb0 := (Below.refl w.heap.size w).alloc (Nat.le_refl _) (.cells (secA xs) 294)
 have hs0 : (w.alloc (.cells (secA xs) 294)).heap[w.heap.size]? = some (.cells (secA xs) 294 (0, 0)) := heap_alloc_new w _
 go_enter Tryz.func309, Tryz.ntmps309
 go_wp2_with (first
  | (at_make; refine wpList_make_full _ rfl _ _ 42 rfl w.heap.size 5 i0 (.int .u8 0) 1 Tryz.underlying42 hi hz0 hz1 .i64 .i64 _ _ 128 rfl rfl (by omega) (by omega) (by rw [hz2]; omega) (by unfold maxLen; omega) (by simp) ?_; intro w1 hown1 hgrow1; obtain ⟨L, hL, hrow⟩ := made_row hown1; simp only [World.size_alloc] at hrow; have hb1 := hb0.grown hgrow1 (by simp) (by intro k hk; cases hk); have hs1 := (hgrow1.block w.heap.size (by simp) (by simp)).trans hs0; clear hown1 hgrow1)
  | (refine wpList_copy_splice rfl _ _ 42 42 rfl 5 Tryz.underlying42 size5 _ _ _ _ _ _ rfl rfl (w.heap.size + 1) 0 L 5 hrow (xs.map (Value.int .u8)) ?c1 ?c2 ?c3 ?c4 w.heap.size w hb1 (by omega) ?_))
 case c1 => simp [hl]
 case c2 =>
  intro j a ha
  have := sec_src hs1 j (.int .u8 a) (by simp [ha])
  simpa [Addr.add_mid] using this
 case c3 => simp [hL, hl]
 case c4 => exact one_cells xs
 intro w2 hg2 hb2
 go_wp2
 go_ret
 refine ⟨_, rfl, own_of_row (by omega) (by unfold maxLen; omega) hl ?_, hb2⟩
 have hg := hg2.out
 rw [splice_all _ _ (by simp [hL, hl])] at hg
 exact hg

/-- A sector of noughts. -/
def zer : List Int := List.replicate 128 0
theorem zer_len : zer.length = 128 := by simp [zer]
theorem zero79 (w : World) : (zeroValue 294).run Tryz.prog w = .ok (.agg (secA zer)) w := by kernel_rfl

set_option maxRecDepth 10000 in
set_option maxHeartbeats 400000 in
theorem sectorOf_ok (p : Option Addr) (c : Nat) (xs : List Int) (w : World) (h : BI w p 128 xs) :
  Calls Tryz.prog 189 #[.slice p 128 c] w fun e w' => e = .returned (.agg (secA xs)) ∧ Below w.heap.size w w' := by
 have hz := zero79
 have hlen := h.len
 have hb0 := (Below.refl w.heap.size w).alloc (Nat.le_refl _) (.cells (secA zer) 294)
 have hb1 : Below w.heap.size w ((w.alloc (.cells (secA zer) 294)).alloc (.cells (secA zer) 294)) := hb0.alloc (by simp) _
 have hr0 : ((w.alloc (.cells (secA zer) 294)).alloc (.cells (secA zer) 294)).heap[w.heap.size]? = some (.cells (secA zer) 294 (0, 0)) := at_old (at_new rfl)
 have hr1 : ((w.alloc (.cells (secA zer) 294)).alloc (.cells (secA zer) 294)).heap[w.heap.size + 1]? = some (.cells (zer.map (Value.int .u8)).toArray 294 (0, 0)) := at_new (by simp)
 go_enter Tryz.func189, Tryz.ntmps189
 go_wp2_with (refine wpList_copy_splice rfl _ _ 42 42 rfl 5 Tryz.underlying42 size5 _ _ _ _ _ _ rfl rfl (w.heap.size + 1) 0 (zer.map (Value.int .u8)) 294 hr1 (xs.map (Value.int .u8)) ?c1 ?c2 ?c3 ?c4 (w.heap.size + 1) _ (Below.refl _ _) (by omega) ?_)
 case c1 => simp [hlen]
 case c2 => simpa using (h.kept hb1).src (by omega)
 case c3 => simp [hlen, zer_len]
 case c4 => exact one_cells xs
 intro w2 hg2 hb2
 have hg := hg2.out
 rw [splice_all _ _ (by simp [hlen, zer_len])] at hg
 have hg1 : w2.heap[w.heap.size + 1]? = some (.cells (secA xs) 294 (0, 0)) := hg
 have hg0 : w2.heap[w.heap.size]? = some (.cells (secA zer) 294 (0, 0)) := (hb2.block w.heap.size (by omega)).trans hr0
 have hs1 := secA_size xs
 have hs0 := secA_size zer
 rw [hlen] at hs1
 rw [zer_len] at hs0
 have hbw : Below w.heap.size w w2 := hb1.trans (hb2.mono (by omega))
 clear hg hg2 hr0 hr1 hb2 hb0 hb1
 generalize hA : secA xs = A at *
 generalize secA zer = Z at *
 go_wp2_with (first
  | (refine wpList_load_row rfl 294 _ rfl (w.heap.size + 1) rfl 294 A (0, 0) _ hg1 Tryz.underlying294 rfl (by rw [hs1]; exact info79) ?_)
  | (refine wpList_store_row rfl 294 _ _ rfl w.heap.size A rfl rfl 294 Z hg0 (by rw [hs1]; exact info79) (by rw [hs0, hs1]) (by rw [← hA]; exact secA_one xs) ?_))
 refine bodyPost_ret (v := .agg A) (results_cell_row (p := 2) (ty := 294) Tryz.results189 _ _ w.heap.size 294 A (0, 0) _ (by simp [Act.put]) (setRow_heap w2 w.heap.size Z A 294 (0, 0) hg0) Tryz.underlying294 rfl (by rw [hs1]; exact info79)) rfl ?_
 exact ⟨by rw [hA], below_setRow hbw (Nat.le_refl _) A⟩
end Go.Proofs.YthdlpeejmmobmaaGreat

namespace Go.Proofs.YthdlpeejmmobmaaGreat
open Go.RowKit Go.Maps

/-- Only blocks of X have turned, of those that were. -/
structure Frame (X : Nat → Prop) (w w' : World) : Prop where
 os : w'.os = w.os
 tape : w'.tape = w.tape
 output : w'.output = w.output
 size : w.heap.size ≤ w'.heap.size
 block : ∀ k, k < w.heap.size → ¬ X k → w'.heap[k]? = w.heap[k]?

theorem Frame.refl (X : Nat → Prop) (w : World) : Frame X w w := ⟨rfl, rfl, rfl, Nat.le_refl _, fun _ _ _ => rfl⟩
theorem Frame.trans {X : Nat → Prop} {a b c : World} (h : Frame X a b) (k : Frame X b c) : Frame X a c :=
 ⟨k.os.trans h.os, k.tape.trans h.tape, k.output.trans h.output, Nat.le_trans h.size k.size, fun i hi hx => (k.block i (Nat.lt_of_lt_of_le hi h.size) hx).trans (h.block i hi hx)⟩
theorem Frame.mono {X Y : Nat → Prop} {a b : World} (h : Frame X a b) (hxy : ∀ k, k < a.heap.size → X k → Y k) : Frame Y a b :=
 ⟨h.os, h.tape, h.output, h.size, fun i hi hx => h.block i hi (fun x => hx (hxy i hi x))⟩
theorem Frame.below {X : Nat → Prop} {B : Nat} {a b : World} (h : Frame X a b) (hB : B ≤ a.heap.size) (hx : ∀ k, X k → B ≤ k) : Below B a b :=
 ⟨h.os, h.tape, h.output, h.size, fun i hi => h.block i (Nat.lt_of_lt_of_le hi hB) (fun x => by have := hx i x; omega)⟩
theorem frame_of_below {X : Nat → Prop} {a b : World} (h : Below a.heap.size a b) : Frame X a b := ⟨h.os, h.tape, h.output, h.size, fun i hi _ => h.block i hi⟩
theorem frame_of_grown {X : Nat → Prop} {a b : World} {row : Option Nat} (h : a.grownBy b row) (hx : ∀ k, row = some k → X k) : Frame X a b := ⟨h.os, h.tape, h.output, h.size, fun i hi hn => h.block i hi (fun e => hn (hx i e.symm))⟩
theorem Frame.setCell {X : Nat → Prop} (w : World) {p : Addr} (u : Value) (hx : X p.block) : Frame X w (w.setCell p u) :=
 ⟨rfl, rfl, rfl, by simp, fun i _ hn => Below.heap_setCell w p u i (fun e => hn (e ▸ hx))⟩

def Sect (xs : List Int) : Prop := xs.length = 128 ∧ Num.Byt xs
theorem sect_zer : Sect zer := ⟨zer_len, fun i => by
 unfold zer
 rw [List.getD_eq_getElem?_getD, List.getElem?_replicate]
 split <;> simp⟩

/-- The datum that stands for a sector. -/
def dat (xs : List Int) : DataW Unit := .lit (.string (Lib.bytesOf xs))
theorem dat_inj {xs ys : List Int} (hx : Num.Byt xs) (hy : Num.Byt ys) (h : dat xs = dat ys) : xs = ys := by
 simp only [dat, DataW.lit.injEq, Lit.string.injEq] at h
 rw [← back_bytes hx, ← back_bytes hy, h]

theorem secA_inj {xs ys : List Int} (h : secA xs = secA ys) : xs = ys := by
 have h1 : xs.map (Value.int .u8) = ys.map (Value.int .u8) := by simpa [secA] using h
 have e : ∀ l : List Int, (l.map (Value.int .u8)).map (fun v => match v with | .int _ n => n | _ => 0) = l := by
  intro l; rw [List.map_map]; conv => rhs; rw [← List.map_id l]
  rfl
 rw [← e xs, ← e ys, h1]

open Classical in
noncomputable def secR (v : Value) : Option (DataW Unit × List MemPlace) :=
 if h : ∃ xs, Sect xs ∧ v = .agg (secA xs) then some (dat h.choose, []) else none

theorem secR_mk {xs : List Int} (hs : Sect xs) : secR (.agg (secA xs)) = some (dat xs, []) := by
 have h : ∃ ys, Sect ys ∧ Value.agg (secA xs) = .agg (secA ys) := ⟨xs, hs, rfl⟩
 unfold secR
 rw [dif_pos h]
 have e : xs = h.choose := secA_inj (Value.agg.inj h.choose_spec.2)
 rw [← e]

theorem secR_inv {v : Value} {xs : List Int} {ps : List MemPlace} (hs : Sect xs) (h : secR v = some (dat xs, ps)) : v = .agg (secA xs) := by
 unfold secR at h
 split at h
 ·rename_i hx
  have e := hx.choose_spec
  simp only [Option.some.injEq, Prod.mk.injEq] at h
  have := dat_inj e.1.2 hs.2 h.1
  rw [e.2, this]
 ·cases h

def key (b : Nat) : Lit := .int .i64 (b : Int)
theorem key_inj {a b : Nat} (h : key a = key b) : a = b := by simp [key] at h; omega
theorem key_is (b : Nat) : WideAt.IsKeyLit (key b) := trivial
theorem key_of {b : Nat} (hb : b < 9223372036854775808) : keyOf Tryz.prog 3 (.int .i64 (b : Int)) = some (key b) := keyOf_int_mk Tryz.underlying3 (by simp [Lit.wf, IntKind.min, IntKind.max, IntKind.signed, IntKind.bits]; omega)

def miss (D : DataW Unit) (N : Nat) : Nat := ((List.range N).filter (fun b => !has D (key b))).length

theorem filter_lt {p q : Nat → Bool} {b : Nat} (h : ∀ x, q x = (p x && x != b)) (hp : p b = true) : ∀ l : List Nat, b ∈ l → (l.filter q).length + 1 ≤ (l.filter p).length
 | [], hb => by cases hb
 | y :: r, hb => by
  have le : (r.filter q).length ≤ (r.filter p).length := by
   clear hb
   induction r with
   | nil => simp
   | cons z r ih =>
    simp only [List.filter_cons, h z]
    cases p z <;> cases (z != b) <;> simp <;> omega
  by_cases e : y = b
  ·subst e
   simp [h y, hp]
   omega
  ·have hb' : b ∈ r := by
    rcases List.mem_cons.1 hb with e' | e'
    ·exact absurd e'.symm e
    ·exact e'
   have ih := filter_lt h hp r hb'
   have hy : (y != b) = true := by simp [e]
   simp only [List.filter_cons, h y, hy, Bool.and_true]
   cases p y <;> simp <;> omega

theorem miss_put {D : DataW Unit} {N b : Nat} (ht : Tidy D) (hb : b < N) (d : DataW Unit) (h : size D + miss D N ≤ N) : size (D.put (key b) d) + miss (D.put (key b) d) N ≤ N := by
 rw [size_put ht d]
 have hn : ∀ x, (!has (D.put (key b) d) (key x)) = ((!has D (key x)) && x != b) := by
  intro x
  by_cases e : x = b
  ·subst e; rw [has_put_same ht.isMap (key_is x)]; simp
  ·rw [has_put_other (fun h => e (key_inj h))]; simp [e]
 by_cases hh : has D (key b) = true
 ·rw [if_pos hh]
  have : miss (D.put (key b) d) N ≤ miss D N := by
   unfold miss
   have e : ∀ x, (!has (D.put (key b) d) (key x)) = (!has D (key x)) := by
    intro x; rw [hn x]
    by_cases e : x = b
    ·subst e; simp [hh]
    ·simp [e]
   simp only [e]; exact Nat.le_refl _
  omega
 ·rw [if_neg hh]
  have := filter_lt (q := fun x => !has (D.put (key b) d) (key x)) (p := fun x => !has D (key x)) (b := b) hn (by simpa using hh) (List.range N) (List.mem_range.2 hb)
  unfold miss at h ⊢
  omega

theorem tight {P : Program} {k : TypeId} {R : Value → Option (DataW Unit × List MemPlace)} {w : World} {b n : Nat} {D : DataW Unit} (h : w.ownsMap P k R b n D) : w.ownsMap P k R b (size D) D := by
 obtain ⟨es, clock, hb, F, hs, rfl⟩ := h
 refine ⟨es, clock, hb, F, ?_, rfl⟩
 rw [size_eq, length_sorted]; simp

/-- Block mb is a map of sectors: f at each block below N. -/
structure Secs (w : World) (mb N : Nat) (f : Nat → List Int) : Prop where
 ex : ∃ D, w.ownsMap Tryz.prog 3 secR mb (size D) D ∧ size D + miss D N ≤ N ∧ ∀ b, b < N → D.atKey (key b) (dat zer) = dat (f b)
 all : ∀ b, Sect (f b)

def upd {α : Type} (f : Nat → α) (b : Nat) (x : α) : Nat → α := fun y => if y = b then x else f y

theorem keyed3 : Keyed Tryz.prog 3 := int_keyed Tryz.underlying3

theorem secs_made (w : World) (N : Nat) : Secs (w.alloc (.map #[] 0)) w.heap.size N (fun _ => zer) := by
 refine ⟨⟨.map [], w.ownsMap_made _ _ _, ?_, fun b _ => rfl⟩, fun _ => sect_zer⟩
 have := List.length_filter_le (fun b => !has (.map [] : DataW Unit) (key b)) (List.range N)
 rw [List.length_range] at this
 show 0 + miss (.map []) N ≤ N
 unfold miss
 omega

theorem Secs.lt {w : World} {mb N : Nat} {f : Nat → List Int} (h : Secs w mb N f) : mb < w.heap.size := by
 obtain ⟨D, ho, _⟩ := h.ex
 exact ho.lt

theorem Secs.kept {w w' : World} {mb N : Nat} {f : Nat → List Int} (h : Secs w mb N f) (hb : w'.heap[mb]? = w.heap[mb]?) : Secs w' mb N f := by
 obtain ⟨D, ⟨es, c, ho, r⟩, k⟩ := h.ex
 exact ⟨⟨D, ⟨es, c, hb.trans ho, r⟩, k⟩, h.all⟩

theorem Secs.lookup {w : World} {mb N : Nat} {f : Nat → List Int} (h : Secs w mb N f) (hN : N ≤ 2048) (b : Nat) (hb : b < N) :
  (Instr.lookup 199 (.map (some mb)) (.int .i64 (b : Int)) false).run Tryz.prog w = .ok (.agg (secA (f b))) w := by
 obtain ⟨D, ho, _, hat⟩ := h.ex
 obtain ⟨v, ps, hr, hv⟩ := ho.lookup keyed3 Tryz.underlying199 (zero79 w) (secR_mk sect_zer) (key_of (b := b) (by omega))
 rw [hat b hb] at hv
 rw [hr, secR_inv (h.all b) hv]

theorem Secs.update {w : World} {mb N : Nat} {f : Nat → List Int} (h : Secs w mb N f) (hN : N ≤ 2048) (b : Nat) (hb : b < N) (xs : List Int) (hx : Sect xs) :
  ∃ w', (Instr.mapUpdate 199 (.map (some mb)) (.int .i64 (b : Int)) (.agg (secA xs))).run Tryz.prog w = .ok () w' ∧ Secs w' mb N (upd f b xs) ∧ w.grownBy w' (some mb) := by
 obtain ⟨D, ho, hm, hat⟩ := h.ex
 obtain ⟨w', hr, ho', hg⟩ := ho.update keyed3 Tryz.underlying199 (show size D < maxLen by unfold maxLen; omega) (key_of (b := b) (by omega)) (secR_mk hx)
 refine ⟨w', hr, ⟨⟨_, tight ho', miss_put (ho.tidy keyed3) hb _ hm, ?_⟩, ?_⟩, hg⟩
 ·intro y hy
  unfold upd
  by_cases e : y = b
  ·subst e; rw [if_pos rfl, atKey_put_same ho.isMap (key_is y)]
  ·rw [if_neg e, atKey_put_other (fun h => e (key_inj h))]; exact hat y hy
 ·intro y; unfold upd; split
  ·exact hx
  ·exact h.all y

end Go.Proofs.YthdlpeejmmobmaaGreat

namespace Go.Proofs.YthdlpeejmmobmaaGreat
open Go.RowKit Go.Maps

/-- A write of the queue. -/
structure Wr where
 id : Int
 block : Nat
 bytes : List Int

/-- What a disk has. -/
structure St where
 N : Nat
 f : Nat → List Int
 q : List Wr
 last : Int
 fl : Nat → Int

def Wr.cells (x : Wr) : List Value := .int .i64 x.id :: .int .i64 (x.block : Int) :: x.bytes.map (Value.int .u8)
def flat (q : List Wr) : List Value := q.flatMap Wr.cells

/-- Block fb is a map of how many reads fail. -/
structure Fls (w : World) (fb N : Nat) (g : Nat → Int) : Prop where
 ex : ∃ D : DataW Unit, w.ownsMap Tryz.prog 3 (plainElem Tryz.prog 3) fb (size D) D ∧ size D + miss D N ≤ N ∧ ∀ b, b < N → D.atKey (key b) (.lit (.int .i64 0)) = .lit (.int .i64 (g b))
 all : ∀ b, 0 ≤ g b ∧ g b ≤ 1000

theorem Fls.lt {w : World} {mb N : Nat} {f : Nat → Int} (h : Fls w mb N f) : mb < w.heap.size := by
 obtain ⟨D, ho, _⟩ := h.ex
 exact ho.lt

theorem Fls.kept {w w' : World} {mb N : Nat} {f : Nat → Int} (h : Fls w mb N f) (hb : w'.heap[mb]? = w.heap[mb]?) : Fls w' mb N f := by
 obtain ⟨D, ⟨es, c, ho, r⟩, k⟩ := h.ex
 exact ⟨⟨D, ⟨es, c, hb.trans ho, r⟩, k⟩, h.all⟩

theorem fls_made (w : World) (N : Nat) : Fls (w.alloc (.map #[] 0)) w.heap.size N (fun _ => 0) := by
 refine ⟨⟨.map [], w.ownsMap_made _ _ _, ?_, fun b _ => rfl⟩, fun _ => by omega⟩
 have := List.length_filter_le (fun b => !has (.map [] : DataW Unit) (key b)) (List.range N)
 rw [List.length_range] at this
 show 0 + miss (.map []) N ≤ N
 unfold miss
 omega

/-- Block a is a disk that has S; its blocks lie from B on. -/
structure DI (B : Nat) (w : World) (a mb fb : Nat) (qv : Value) (S : St) : Prop where
 row : w.heap[a]? = some (.cells #[.int .i64 (S.N : Int), .map (some mb), qv, .int .i64 S.last, .map (some fb)] 202 (0, 0))
 secs : Secs w mb S.N S.f
 que : w.ownsRow B 437 130 qv S.q.length (flat S.q)
 fls : Fls w fb S.N S.fl
 lo : B ≤ a ∧ B ≤ mb ∧ B ≤ fb
 ne : mb ≠ fb
 N1 : 1 ≤ S.N
 N2 : S.N ≤ 2048
 q64 : S.q.length ≤ 64
 qok : ∀ x ∈ S.q, x.block < S.N ∧ Sect x.bytes ∧ -9223372036854775808 ≤ x.id ∧ x.id ≤ 9223372036854775807
 lok : 0 ≤ S.last ∧ S.last ≤ 9223372036854775807

/-- A disk's own blocks. -/
def foot (a mb fb : Nat) (qv : Value) (k : Nat) : Prop := k = a ∨ k = mb ∨ k = fb ∨ qv.ownBlock = some k

theorem ownsRow_kept {w w' : World} {B : Nat} {e : TypeId} {s : Nat} {v : Value} {n : Nat} {L : List Value} (h : w.ownsRow B e s v n L) (hb : ∀ k, v.ownBlock = some k → w'.heap[k]? = w.heap[k]?) : w'.ownsRow B e s v n L := by
 refine ⟨h.1, ?_⟩
 rcases h.2 with h' | ⟨g', cap', cur, rfl, hbg, hg, rest⟩
 ·exact .inl h'
 ·exact .inr ⟨g', cap', cur, rfl, hbg, (hb g' rfl).trans hg, rest⟩

theorem DI.in {B : Nat} {w : World} {a mb fb : Nat} {qv : Value} {S : St} (h : DI B w a mb fb qv S) : ∀ k, foot a mb fb qv k → B ≤ k ∧ k < w.heap.size := by
 rintro k (rfl | rfl | rfl | hk)
 ·exact ⟨h.lo.1, (Array.getElem?_eq_some_iff.1 h.row).1⟩
 ·exact ⟨h.lo.2.1, h.secs.lt⟩
 ·exact ⟨h.lo.2.2, h.fls.lt⟩
 ·exact h.que.lt k hk

/-- A disk stays where none of its blocks turns. -/
theorem DI.kept {B : Nat} {w w' : World} {a mb fb : Nat} {qv : Value} {S : St} (h : DI B w a mb fb qv S) (hb : ∀ k, foot a mb fb qv k → w'.heap[k]? = w.heap[k]?) : DI B w' a mb fb qv S :=
 { h with
  row := (hb a (.inl rfl)).trans h.row
  secs := h.secs.kept (hb mb (.inr (.inl rfl)))
  que := ownsRow_kept h.que (fun k hk => hb k (.inr (.inr (.inr hk))))
  fls := h.fls.kept (hb fb (.inr (.inr (.inl rfl)))) }

theorem DI.later {B : Nat} {w w' : World} {a mb fb : Nat} {qv : Value} {S : St} (h : DI B w a mb fb qv S) (hb : Below w.heap.size w w') : DI B w' a mb fb qv S :=
 h.kept (fun k hk => hb.block k (h.in k hk).2)

theorem DI.c0 {B : Nat} {w : World} {a mb fb : Nat} {qv : Value} {S : St} (h : DI B w a mb fb qv S) : w.cell? ⟨a, 0, none⟩ = some (.int .i64 (S.N : Int)) := by
 rw [cell_of_row _ _ 0 _ _ _ h.row]; rfl
theorem DI.c1 {B : Nat} {w : World} {a mb fb : Nat} {qv : Value} {S : St} (h : DI B w a mb fb qv S) : w.cell? ⟨a, 1, none⟩ = some (.map (some mb)) := by
 rw [cell_of_row _ _ 1 _ _ _ h.row]; rfl
theorem DI.c2 {B : Nat} {w : World} {a mb fb : Nat} {qv : Value} {S : St} (h : DI B w a mb fb qv S) : w.cell? ⟨a, 2, none⟩ = some qv := by
 rw [cell_of_row _ _ 2 _ _ _ h.row]; rfl
theorem DI.c3 {B : Nat} {w : World} {a mb fb : Nat} {qv : Value} {S : St} (h : DI B w a mb fb qv S) : w.cell? ⟨a, 3, none⟩ = some (.int .i64 S.last) := by
 rw [cell_of_row _ _ 3 _ _ _ h.row]; rfl
theorem DI.c4 {B : Nat} {w : World} {a mb fb : Nat} {qv : Value} {S : St} (h : DI B w a mb fb qv S) : w.cell? ⟨a, 4, none⟩ = some (.map (some fb)) := by
 rw [cell_of_row _ _ 4 _ _ _ h.row]; rfl

section
variable {B : Nat} {w : World} {a mb fb : Nat} {qv : Value} {S : St}

theorem blocks_ok (h : DI B w a mb fb qv S) : Calls Tryz.prog 47 #[.pointer (some ⟨a, 0, none⟩)] w fun e w' => e = .returned (.int .i64 (S.N : Int)) ∧ w' = w := blocks_some w a _ h.c0

set_option maxHeartbeats 400000 in
theorem made_ok (h : DI B w a mb fb qv S) : Calls Tryz.prog 289 #[.pointer (some ⟨a, 0, none⟩)] w fun e w' => e = .returned (.bool true) ∧ w' = w := by
 have h1 := h.N1
 go_enter Tryz.func289, Tryz.ntmps289
 go_wp2_with fail
 refine same_at (blocks_ok h) ?_
 go_wp2
 go_ret
 exact ⟨ret_bool (by simp; omega), rfl⟩

set_option maxHeartbeats 400000 in
theorem has_ok (h : DI B w a mb fb qv S) (b : Int) : Calls Tryz.prog 290 #[.pointer (some ⟨a, 0, none⟩), .int .i64 b] w fun e w' => e = .returned (.bool (decide (0 ≤ b) && decide (b < S.N))) ∧ w' = w := by
 have hc := h.c0
 clear h
 go_enter Tryz.func290, Tryz.ntmps290
 by_cases hb : 0 ≤ b
 ·go_wp2
  go_ret
  exact ⟨ret_bool (by simp [hb]), rfl⟩
 ·go_wp2
  go_ret
  exact ⟨ret_bool (by simp; intro; omega), rfl⟩

set_option maxHeartbeats 400000 in
theorem bytesOf_ok (h : DI B w a mb fb qv S) (b : Nat) (hb : b < S.N) : Calls Tryz.prog 292 #[.pointer (some ⟨a, 0, none⟩), .int .i64 (b : Int)] w fun e w' => ∃ g, e = .returned (.slice (some ⟨g, 0, none⟩) 128 128) ∧ Own w.heap.size w' g 128 128 (S.f b) ∧ Below w.heap.size w w' := by
 have hc := h.c1
 have hl := h.secs.lookup h.N2 b hb
 have hs := (h.secs.all b).1
 clear h
 go_enter Tryz.func292, Tryz.ntmps292
 go_wp2_with fail
 refine (list_ok (S.f b) hs w).mono ?_
 rintro e w1 ⟨g, rfl, ho, hb1⟩
 go_wp2
 go_ret
 exact ⟨g, rfl, ho, hb1⟩
end
end Go.Proofs.YthdlpeejmmobmaaGreat

namespace Go.Proofs.YthdlpeejmmobmaaGreat
open Go.RowKit Go.Maps

/-- A whole block's bytes as a slice. -/
def sl (g : Nat) : Value := .slice (some ⟨g, 0, none⟩) 128 128
theorem info30 : (Tryz.prog.info? 42).map (fun i => (i.zero, i.size, i.bytes)) = some (some (.slice none 0 0), 1, 24) := by kernel_rfl

/-- Block g holds n slices, of the blocks gs, whose bytes are L. -/
structure Img (B : Nat) (w : World) (g n : Nat) (gs : List Nat) (L : Nat → List Int) : Prop where
 row : w.ownsRow B 42 1 (.slice (some ⟨g, 0, none⟩) n n) n (gs.map sl)
 el : ∀ i, i < n → Own B w (gs.getD i 0) 128 128 (L i)

theorem Img.len {B : Nat} {w : World} {g n : Nat} {gs : List Nat} {L : Nat → List Int} (h : Img B w g n gs L) : gs.length = n := by
 have := h.row.1; simpa using this

theorem Img.kept {B : Nat} {w w' : World} {g n : Nat} {gs : List Nat} {L : Nat → List Int} (h : Img B w g n gs L) (hb : ∀ k, B ≤ k → k < w.heap.size → w'.heap[k]? = w.heap[k]?) : Img B w' g n gs L := by
 refine ⟨ownsRow_kept h.row (fun k hk => ?_), fun i hi => ownsRow_kept (h.el i hi) (fun k hk => ?_)⟩
 ·have := h.row.lt k hk
  exact hb k this.1 this.2
 ·have := World.ownsRow.lt (h.el i hi) k hk
  exact hb k this.1 this.2

theorem Img.base {B B' : Nat} {w : World} {g n : Nat} {gs : List Nat} {L : Nat → List Int} (h : Img B w g n gs L) (hB : B' ≤ B) : Img B' w g n gs L := by
 refine ⟨⟨h.row.1, ?_⟩, fun i hi => (h.el i hi).base hB⟩
 rcases h.row.2 with ⟨h', _⟩ | ⟨g', cap', cur, h', hbg, rest⟩
 ·simp at h'
 ·exact .inr ⟨g', cap', cur, h', by omega, rest⟩

theorem made_list (z : Value) (n : Nat) (hz : z.cells = #[z]) : (madeCells z.cells (n * 1)).toList = List.replicate n z := by
 rw [hz]
 apply List.ext_getElem
 ·simp [madeCells]
 ·intro i h1 h2
  simp [madeCells, Nat.mod_one]

end Go.Proofs.YthdlpeejmmobmaaGreat

namespace Go.Proofs.YthdlpeejmmobmaaGreat
open Go.RowKit Go.Maps

set_option maxHeartbeats 400000 in
theorem new_ok (n : Nat) (h1 : 1 ≤ n) (h2 : n ≤ 2048) (w : World) : Calls Tryz.prog 188 #[.int .i64 (n : Int)] w fun e w' => ∃ a mb fb, e = .returned (.tuple #[.pointer (some ⟨a, 0, none⟩), .int .i64 0]) ∧ DI w.heap.size w' a mb fb (.slice none 0 0) ⟨n, fun _ => zer, [], 0, fun _ => 0⟩ ∧ Below w.heap.size w w' := by
 have hmm := @run_makeMap Tryz.prog
 have hi1 : (1 : Int) ≤ (n : Int) := by omega
 have hi2 : (n : Int) ≤ 2048 := by omega
 go_enter Tryz.func188, Tryz.ntmps188
 go_wp2
 go_ret2
 refine ⟨w.heap.size + 1 + 1, w.heap.size, w.heap.size + 1, rfl, ?_, ?_⟩
 ·refine { row := at_new (by simp), secs := (secs_made w n).kept ?_, que := World.ownsRow_nil _ _ _ _, fls := ?_, lo := ⟨by omega, by omega, by omega⟩, ne := by omega, N1 := h1, N2 := h2, q64 := by simp, qok := by simp, lok := by simp }
  ·rw [Below.heap_alloc _ _ _ (by simp; omega), Below.heap_alloc _ _ _ (by simp)]
  ·have := fls_made (w.alloc (.map #[] 0)) n
   simp only [World.size_alloc] at this
   exact this.kept (Below.heap_alloc _ _ _ (by simp))
 ·exact (((Below.refl _ _).alloc (Nat.le_refl _) _).alloc (by simp) _).alloc (by simp; omega) _

/-- The slice at p, of n slices of bytes, holds L. -/
structure IB (w : World) (p : Option Addr) (n : Nat) (L : List (List Int)) : Prop where
 len : L.length = n
 big : n ≤ 140737488355328
 cells : 0 < n → ∃ b o, p = some ⟨b, o, none⟩ ∧ ∀ i x, L[i]? = some x → ∃ q m c, w.cell? ⟨b, o + i, none⟩ = some (.slice q m c) ∧ BI w q m x

/-- The bytes of blocks 0 to n - 1. -/
def imgL (f : Nat → List Int) (n : Nat) : List (List Int) := (List.range n).map f

theorem Img.ib {B : Nat} {w : World} {g n : Nat} {gs : List Nat} {L : Nat → List Int} (h : Img B w g n gs L) (hn : n ≤ 2048) (hs : ∀ i, i < n → Num.Byt (L i)) : IB w (some ⟨g, 0, none⟩) n (imgL L n) := by
 refine ⟨by simp [imgL], by omega, fun _ => ⟨g, 0, rfl, fun i x hx => ?_⟩⟩
 have hi : i < n := by have := (List.getElem?_eq_some_iff.1 hx).1; simpa [imgL] using this
 have ex : x = L i := by simpa [imgL, hi] using hx.symm
 subst ex
 refine ⟨some ⟨gs.getD i 0, 0, none⟩, 128, 128, ?_, (h.el i hi).bi (by omega) (hs i hi)⟩
 have hl := h.len
 rw [Nat.zero_add, h.row.cellAt i (by omega), List.getElem?_map, List.getD_eq_getElem?_getD, List.getElem?_eq_getElem (by omega)]
 rfl
end Go.Proofs.YthdlpeejmmobmaaGreat

namespace Go.Proofs.YthdlpeejmmobmaaGreat
open Go.RowKit Go.Maps
set_option linter.unusedVariables false

theorem DI.apartO {B : Nat} {w : World} {a mb fb : Nat} {qv : Value} {S : St} (h : DI B w a mb fb qv S) : a ≠ mb ∧ a ≠ fb ∧ qv.ownBlock ≠ some a ∧ qv.ownBlock ≠ some mb ∧ qv.ownBlock ≠ some fb := by
 have hr := h.row
 obtain ⟨D, ⟨es, ck, hm, _⟩, _⟩ := h.secs.ex
 obtain ⟨D', ⟨es', ck', hf, _⟩, _⟩ := h.fls.ex
 refine ⟨?_, ?_, ?_⟩
 ·rintro rfl; rw [hr] at hm; cases hm
 ·rintro rfl; rw [hr] at hf; cases hf
 rcases h.que.2 with ⟨rfl, _⟩ | ⟨g, cap, cur, rfl, _, hg, _⟩
 ·simp [Value.ownBlock]
 ·simp only [Value.ownBlock, ne_eq, Option.some.injEq]
  refine ⟨?_, ?_, ?_⟩
  ·rintro rfl; rw [hr] at hg; simp at hg
  ·rintro rfl; rw [hm] at hg; cases hg
  ·rintro rfl; rw [hf] at hg; cases hg

theorem DI.turnSecO {B : Nat} {w : World} {a mb fb : Nat} {qv : Value} {S : St} (h : DI B w a mb fb qv S) {w' : World} {f' : Nat → List Int} (hs : Secs w' mb S.N f') (hg : w.grownBy w' (some mb)) : DI B w' a mb fb qv { S with f := f' } := by
 obtain ⟨n1, n2, n3, n4, n5⟩ := h.apartO
 have ho : ∀ k, k < w.heap.size → k ≠ mb → w'.heap[k]? = w.heap[k]? := fun k hk h1 => hg.block k hk (by simpa using h1)
 exact { row := (ho a (Array.getElem?_eq_some_iff.1 h.row).1 n1).trans h.row, secs := hs, que := ownsRow_kept h.que (fun k hk => ho k (h.que.lt k hk).2 (by rintro rfl; exact n4 hk)), fls := h.fls.kept (ho fb h.fls.lt h.ne.symm), lo := h.lo, ne := h.ne, N1 := h.N1, N2 := h.N2, q64 := h.q64, qok := h.qok, lok := h.lok }

/-- The first j blocks of an image. -/
def part (L : List (List Int)) (j : Nat) : Nat → List Int := fun i => if i < j then L.getD i zer else zer

theorem part_step (L : List (List Int)) (j : Nat) (xs : List Int) (h : L[j]? = some xs) : upd (part L j) j xs = part L (j + 1) := by
 funext i
 unfold upd part
 by_cases e : i = j
 ·subst e
  rw [if_pos rfl, if_pos (by omega), List.getD_eq_getElem?_getD, h]
  rfl
 ·rw [if_neg e]
  by_cases hi : i < j
  ·rw [if_pos hi, if_pos (by omega)]
  ·rw [if_neg hi, if_neg (by omega)]

theorem part_zero (L : List (List Int)) : part L 0 = fun _ => zer := by
 funext i
 simp [part]

set_option maxRecDepth 10000 in
set_option maxHeartbeats 2000000 in
theorem of_ok (p : Option Addr) (n c : Nat) (L : List (List Int)) (w : World) (h : IB w p n L) (h1 : 1 ≤ n) (h2 : n ≤ 2048) : Calls Tryz.prog 107 #[.slice p n c] w fun e w' => Below w.heap.size w w' ∧ (((∀ xs ∈ L, xs.length = 128) ∧ ∃ a mb fb, e = .returned (.tuple #[.pointer (some ⟨a, 0, none⟩), .int .i64 0]) ∧ DI w.heap.size w' a mb fb (.slice none 0 0) ⟨n, part L n, [], 0, fun _ => 0⟩) ∨ ((∃ xs ∈ L, xs.length ≠ 128) ∧ e = .returned (.tuple #[.pointer none, .int .i64 1]))) := by
 have hlen := h.len
 go_enter Tryz.func107, Tryz.ntmps107
 go_wp2_with fail
 refine (new_ok n h1 h2 w).mono ?_
 rintro e w1 ⟨a, mb, fb, rfl, hd1, hb1⟩
 rw [← part_zero L] at hd1
 go_wp2_with fail
 go_loopw [19] (fun i wr => ∃ j : Nat, j ≤ n ∧ i = .int .i64 (j : Int) ∧ DI w.heap.size wr a mb fb (.slice none 0 0) ⟨n, part L j, [], 0, fun _ => 0⟩ ∧ (∀ xs ∈ L.take j, xs.length = 128) ∧ Below w.heap.size w wr) (fun i _ => n - (intOf i).toNat)
 case atStart => exact ⟨0, by omega, rfl, hd1, by simp, hb1⟩
 case round =>
  clear hd1 hb1
  obtain ⟨j, hj, rfl, hd, hall, hb⟩ := hrel
  by_cases hlt : j < n
  ·obtain ⟨bb, oo, rfl, hic⟩ := h.cells (by omega)
   obtain ⟨xs, hxs⟩ : ∃ xs, L[j]? = some xs := ⟨L[j], List.getElem?_eq_getElem (by omega)⟩
   obtain ⟨q, m, d, hcell, hbi⟩ := hic j xs hxs
   have hcell' := (hb.cell (p := ⟨bb, oo + j, none⟩) (lt_of_cell hcell)).trans hcell
   have hbi' := hbi.kept hb
   have hml := hbi.len
   clear hic hcell
   have hjI : (j : Int) < (n : Int) := by omega
   by_cases hm : m = 128
   ·subst hm
    have hsx : Sect xs := ⟨hml, hbi.byt⟩
    have hdd := hd.later (Below.refl _ _).drew
    have c1 := hdd.c1
    have hbid := hbi'.kept (Below.refl _ _).drew
    go_wp2_with fail
    go_region_held3 (fun w' => w'.cell? ⟨a, 1, none⟩ = some (.map (some mb))) (first | exact c1 | exact c1' | exact c1'')
     ((go_at_call 189; refine Calls.mono (sectorOf_ok _ d xs _ hbid) ?_; rintro e w3 ⟨rfl, hb3⟩; have hd3 := hdd.later hb3; have c1' := hd3.c1; obtain ⟨w4, hrun, hs4, hg4⟩ := hd3.secs.update h2 j hlt xs hsx; have hd4 := hd3.turnSecO hs4 hg4; have c1'' := hd4.c1))
    have hbw := (hb.drew.trans (hb3.mono hb.size)).grown hg4 (Nat.le_trans hb.size hb3.size) (fun k hk => by cases hk; exact hd.lo.2.1)
    rw [part_step L j xs hxs] at hd4
    clear c1 c1' c1'' hrun hs4 hg4 hd3 hdd
    go_wp2
    go_roundw
    case rel =>
     refine ⟨j + 1, by omega, by go_num, hd4, fun ys hy => ?_, hbw⟩
     rw [List.take_add_one, hxs] at hy
     rcases List.mem_append.1 hy with h' | h'
     ·exact hall ys h'
     ·simp at h'
      subst h'
      exact hml
    case measure => simp [intOf]; omega
   ·have hmI : ¬ (m : Int) = 128 := by omega
    go_wp2
    go_ret2
    exact ⟨hb, .inr ⟨⟨xs, List.mem_of_getElem? hxs, by omega⟩, rfl⟩⟩
  ·obtain rfl : n = j := by omega
   rw [List.take_of_length_le (by omega)] at hall
   go_wp2
   go_ret2
   exact ⟨hb, .inl ⟨hall, _, _, _, rfl, hd⟩⟩
end Go.Proofs.YthdlpeejmmobmaaGreat

namespace Go.Proofs.YthdlpeejmmobmaaGreat
open Go.RowKit Go.Maps
set_option linter.unusedVariables false

section
variable {w : World}
set_option maxHeartbeats 400000 in
theorem vmade_ok {v d : Nat} (hv : w.cell? ⟨v, 2, none⟩ = some (.pointer (some ⟨d, 0, none⟩))) : Calls Tryz.prog 46 #[.pointer (some ⟨v, 0, none⟩)] w fun e w' => e = .returned (.bool true) ∧ w' = w := by
 go_enter Tryz.func46, Tryz.ntmps46
 go_wp2
 go_ret
 exact ⟨rfl, rfl⟩
set_option maxHeartbeats 400000 in
theorem vblocks_ok {v d : Nat} {k : Int} (hv : w.cell? ⟨v, 2, none⟩ = some (.pointer (some ⟨d, 0, none⟩))) (hd : w.cell? ⟨d, 0, none⟩ = some (.int .i64 k)) : Calls Tryz.prog 13 #[.pointer (some ⟨v, 0, none⟩)] w fun e w' => e = .returned (.int .i64 k) ∧ w' = w := by
 have hm := vmade_ok hv
 have hb := blocks_some w d k hd
 go_enter Tryz.func13, Tryz.ntmps13
 go_wp2_with (first | (go_at_call 46; refine same_at hm ?_) | (go_at_call 47; refine same_at hb ?_))
 go_ret
 exact ⟨rfl, rfl⟩
end
end Go.Proofs.YthdlpeejmmobmaaGreat

namespace Go.Proofs.YthdlpeejmmobmaaGreat
open Go.RowKit Go.Maps Go.MuLone
set_option linter.unusedVariables false

abbrev muLink : Go.Conc.Locks.MuLink := { lock := 52, unlock := 53, ilock := 115, iunlock := 116, lockSlow := 200, unlockSlow := 203, disable := 196, enable := 198, acquire := 199, relMerge := 201, cas32 := 197, add32 := 202, tMutex := 92, tIMutex := 90, tPMutex := 208, tPIMutex := 313, tPI32 := 315, tUP := 317, tNoCopy := 87, tU32 := 88 }
theorem muLib : Go.Conc.Locks.MuLib Tryz.prog muLink :=
 ⟨Tryz.func52, Tryz.func53, Tryz.func115, Tryz.func116, Tryz.func196, Tryz.func198, Tryz.func199, Tryz.func201, Tryz.func197, Tryz.func202, Tryz.underlying90, Tryz.runUnderlying90, Tryz.sizeOf90, Tryz.isAgg90, Tryz.zeroValue90, Tryz.underlying92, Tryz.runUnderlying92, Tryz.sizeOf92, Tryz.isAgg92, Tryz.zeroValue92, Tryz.underlying208, Tryz.runUnderlying208, Tryz.sizeOf208, Tryz.isAgg208, Tryz.zeroValue208, Tryz.underlying313, Tryz.runUnderlying313, Tryz.sizeOf313, Tryz.isAgg313, Tryz.zeroValue313, Tryz.underlying315, Tryz.runUnderlying315, Tryz.sizeOf315, Tryz.isAgg315, Tryz.zeroValue315, Tryz.underlying317, Tryz.runUnderlying317, Tryz.sizeOf317, Tryz.isAgg317, Tryz.zeroValue317, Tryz.underlying87, Tryz.runUnderlying87, Tryz.sizeOf87, Tryz.isAgg87, Tryz.zeroValue87, Tryz.underlying21, Tryz.runUnderlying21, Tryz.sizeOf21, Tryz.isAgg21, Tryz.zeroValue21, by kernel_rfl⟩

/-- Block v is a volume: its guard free; its disk d, cache c, patches s, way map m and view x. -/
def VRow (w : World) (v d c s m : Nat) (x : Option Addr) : Prop :=
 w.heap[v]? = some (.cells #[.int .i32 0, .int .u32 0, .pointer (some ⟨d, 0, none⟩), .pointer (some ⟨c, 0, none⟩), .pointer (some ⟨s, 0, none⟩), .map (some m), .pointer x] 98 (0, 0))
/-- The same while the guard is held. -/
def VHeld (w : World) (v d c s m : Nat) (x : Option Addr) : Prop :=
 w.heap[v]? = some (.cells #[.int .i32 1, .int .u32 0, .pointer (some ⟨d, 0, none⟩), .pointer (some ⟨c, 0, none⟩), .pointer (some ⟨s, 0, none⟩), .map (some m), .pointer x] 98 (0, 0))

section
variable {w : World} {v d c s m : Nat} {x : Option Addr}
theorem VRow.held (h : VRow w v d c s m x) : VHeld (w.setCell ⟨v, 0, none⟩ (.int .i32 1)) v d c s m x := heap_setCell_same w v 0 _ 98 _ h
theorem VHeld.free (h : VHeld w v d c s m x) : VRow (w.setCell ⟨v, 0, none⟩ (.int .i32 0)) v d c s m x := heap_setCell_same w v 0 _ 98 _ h
theorem VRow.made (h : VRow w v d c s m x) : w.cell? ⟨v, 2, none⟩ = some (.pointer (some ⟨d, 0, none⟩)) := cell_of_row w v 2 _ 98 _ h
theorem VRow.lock (h : VRow w v d c s m x) : Calls Tryz.prog 52 #[.pointer (some ⟨v, 0, none⟩)] w fun e w' => e = .returned (.tuple #[]) ∧ w' = w.setCell ⟨v, 0, none⟩ (.int .i32 1) :=
 lock_free muLib ⟨v, 0, none⟩ w (cell_of_row w v 0 _ 98 _ h) (by have h1 := h; unfold VRow at h1; simp [World.frozen?, h1])
theorem VHeld.unlock (h : VHeld w v d c s m x) (u : FrameMode) : CallsD Tryz.prog 53 #[.pointer (some ⟨v, 0, none⟩)] u w fun e u' w' => u' = u ∧ (e = .returned (.tuple #[]) ∧ w' = w.setCell ⟨v, 0, none⟩ (.int .i32 0)) :=
 unlock_deferred muLib ⟨v, 0, none⟩ u w (cell_of_row w v 0 _ 98 _ h) (by have h1 := h; unfold VHeld at h1; simp [World.frozen?, h1])

/-- Taken and let go, the guard is as it was. -/
theorem VRow.back (h : VRow w v d c s m x) : (w.setCell ⟨v, 0, none⟩ (.int .i32 1)).setCell ⟨v, 0, none⟩ (.int .i32 0) = w := by
 have hv := (Array.getElem?_eq_some_iff.1 h)
 obtain ⟨hlt, hv⟩ := hv
 have e : ((w.setCell ⟨v, 0, none⟩ (.int .i32 1)).setCell ⟨v, 0, none⟩ (.int .i32 0)).heap = w.heap := by
  apply Array.ext
  ·simp [World.setCell]
  ·intro i h1 h2
   simp only [World.setCell, Array.getElem_modify]
   by_cases hi : v = i
   ·subst hi
    rw [hv]
    simp
   ·simp [hi]
 cases w
 simp only [World.setCell] at e ⊢
 rw [e]

set_option maxHeartbeats 1000000 in
theorem vread_of (h : VRow w v d c s m x) (b : Int) {R : Value → Value → World → Prop} (hl : Calls Tryz.prog 58 #[.pointer (some ⟨v, 0, none⟩), .int .i64 b] (w.setCell ⟨v, 0, none⟩ (.int .i32 1)) fun e w1 => ∃ r q y, e = .returned (.tuple #[r, q]) ∧ VHeld w1 v d c s m y ∧ R r q w1) : Calls Tryz.prog 19 #[.pointer (some ⟨v, 0, none⟩), .int .i64 b] w fun e w' => ∃ r q y w1, e = .returned (.tuple #[r, q]) ∧ VHeld w1 v d c s m y ∧ R r q w1 ∧ w' = w1.setCell ⟨v, 0, none⟩ (.int .i32 0) := by
 have hm := vmade_ok h.made
 have hlk := h.lock
 go_enter_defers Tryz.func19, Tryz.ntmps19
 go_wp2_with (first
  | (go_at_call 46; refine same_at hm ?_)
  | (go_at_call 52; refine Calls.mono hlk ?_; rintro e w' ⟨rfl, rfl⟩)
  | (go_at_call 58; refine Calls.mono hl ?_; rintro e w1 ⟨r, q, y, rfl, h1, hr⟩))
 refine leaves_cons (f := 53) (args := #[.pointer (some ⟨v, 0, none⟩)]) (by simp) (by simp [go_sem]) ?_
 refine (h1.unlock .returning).mono ?_
 rintro e u' w'' ⟨rfl, rfl, rfl⟩
 exact ⟨_, results_tmp2 rfl _ _ _, r, q, y, w1, rfl, h1, hr, rfl⟩
end
end Go.Proofs.YthdlpeejmmobmaaGreat

namespace Go.Proofs.YthdlpeejmmobmaaGreat
open Go.RowKit Go.Maps
set_option maxRecDepth 100000

theorem put_list : ∀ (vs : List Value) (k off : Nat) (cs : List Value), off + k + vs.length ≤ cs.length →
  ((vs.zipIdx k).foldl (fun (c : Array Value) (p : Value × Nat) => c.setIfInBounds (off + p.2) p.1) cs.toArray).toList = splice cs (off + k) vs
 | [], k, off, cs, _ => by simp [splice]
 | v :: r, k, off, cs, h => by
  simp only [List.length_cons] at h
  simp only [List.zipIdx_cons, List.foldl_cons]
  have e : (cs.toArray.setIfInBounds (off + k) v) = (cs.set (off + k) v).toArray := by simp
  rw [e, put_list r (k + 1) off _ (by simp; omega)]
  unfold splice
  apply List.ext_getElem?
  intro i
  have hk : off + k < cs.length := by omega
  have e1 : (cs.set (off + k) v).take (off + (k + 1)) = cs.take (off + k) ++ [v] := by
   rw [← Nat.add_assoc, List.take_add_one]
   simp [List.take_set_of_le, hk]
  have e2 : (cs.set (off + k) v).drop (off + (k + 1) + r.length) = cs.drop (off + k + (v :: r).length) := by
   rw [List.drop_set_of_lt (by omega)]
   simp only [List.length_cons]
   congr 1; omega
  rw [e1, e2]
  simp

theorem put_arr (vs cs : List Value) (off : Nat) (h : off + vs.length ≤ cs.length) : vs.toArray.zipIdx.foldl (fun cs (c, j) => cs.setIfInBounds (off + j) c) cs.toArray = (splice cs off vs).toArray := by
 have := put_list vs 0 off cs (by simpa using h)
 apply Array.toList_inj.1
 rw [Nat.add_zero] at this
 rw [← Array.foldl_toList, Array.toList_zipIdx]
 exact this

theorem fill_step (place : Nat → Option (Nat × Nat)) (cs vs : List Value) (i off sz : Nat) (v : Value) (rest : List (Nat × Value)) (hp : place i = some (off, sz)) (hv : v.cells = vs.toArray) (hs : vs.length = sz) (hl : off + sz ≤ cs.length) :
  Instr.fill place cs.toArray ((i, v) :: rest) = Instr.fill place (splice cs off vs).toArray rest := by
 rw [Instr.fill, hp]
 simp only [hv, List.size_toArray]
 rw [if_neg (by simp [hs]; omega), put_arr vs cs off (by omega)]

end Go.Proofs.YthdlpeejmmobmaaGreat
