/- The disk's maps: block by block what a map of sectors holds, and how it is turned. -/
import Derived.Test.YtemhhgpgpjiijaaSector
import Derived.Maps.OwnSet
import Derived.Maps.Views
import Derived.Maps.OwnOps
namespace Go.Proofs.Ytemhhgpgpjiijaa
open Go.RowKit Go.Maps

/-- Only blocks of X have turned, of those that were. -/
structure Frame (X : Nat → Prop) (w w' : World) : Prop where
  os : w'.os = w.os
  tape : w'.tape = w.tape
  output : w'.output = w.output
  size : w.heap.size ≤ w'.heap.size
  block : ∀ k, k < w.heap.size → ¬ X k → w'.heap[k]? = w.heap[k]?

theorem Frame.refl (X : Nat → Prop) (w : World) : Frame X w w := ⟨rfl, rfl, rfl, Nat.le_refl _, fun _ _ _ => rfl⟩
theorem Frame.trans {X : Nat → Prop} {a b c : World} (h : Frame X a b) (k : Frame X b c) : Frame X a c :=
  ⟨k.os.trans h.os, k.tape.trans h.tape, k.output.trans h.output, Nat.le_trans h.size k.size, fun i hi hx => (k.block i (Nat.lt_of_lt_of_le hi h.size) hx).trans (h.block i hi hx)⟩
theorem Frame.mono {X Y : Nat → Prop} {a b : World} (h : Frame X a b) (hxy : ∀ k, k < a.heap.size → X k → Y k) : Frame Y a b :=
  ⟨h.os, h.tape, h.output, h.size, fun i hi hx => h.block i hi (fun x => hx (hxy i hi x))⟩
theorem Frame.below {X : Nat → Prop} {B : Nat} {a b : World} (h : Frame X a b) (hB : B ≤ a.heap.size) (hx : ∀ k, X k → B ≤ k) : Below B a b :=
  ⟨h.os, h.tape, h.output, h.size, fun i hi => h.block i (Nat.lt_of_lt_of_le hi hB) (fun x => by have := hx i x; omega)⟩
theorem frame_of_below {X : Nat → Prop} {a b : World} (h : Below a.heap.size a b) : Frame X a b := ⟨h.os, h.tape, h.output, h.size, fun i hi _ => h.block i hi⟩
theorem frame_of_grown {X : Nat → Prop} {a b : World} {row : Option Nat} (h : a.grownBy b row) (hx : ∀ k, row = some k → X k) : Frame X a b := ⟨h.os, h.tape, h.output, h.size, fun i hi hn => h.block i hi (fun e => hn (hx i e.symm))⟩
theorem Frame.setCell {X : Nat → Prop} (w : World) {p : Addr} (u : Value) (hx : X p.block) : Frame X w (w.setCell p u) :=
  ⟨rfl, rfl, rfl, by simp, fun i _ hn => Below.heap_setCell w p u i (fun e => hn (e ▸ hx))⟩

def Sect (xs : List Int) : Prop := xs.length = 128 ∧ Num.Byt xs
theorem sect_zer : Sect zer := ⟨zer_len, fun i => by
  unfold zer
  rw [List.getD_eq_getElem?_getD, List.getElem?_replicate]
  split <;> simp⟩

/-- The datum that stands for a sector. -/
def dat (xs : List Int) : DataW Unit := .lit (.string (Lib.bytesOf xs))
theorem dat_inj {xs ys : List Int} (hx : Num.Byt xs) (hy : Num.Byt ys) (h : dat xs = dat ys) : xs = ys := by
  simp only [dat, DataW.lit.injEq, Lit.string.injEq] at h
  rw [← back_bytes hx, ← back_bytes hy, h]

theorem secA_inj {xs ys : List Int} (h : secA xs = secA ys) : xs = ys := by
  have h1 : xs.map (Value.int .u8) = ys.map (Value.int .u8) := by simpa [secA] using h
  have e : ∀ l : List Int, (l.map (Value.int .u8)).map (fun v => match v with | .int _ n => n | _ => 0) = l := by
    intro l; rw [List.map_map]; conv => rhs; rw [← List.map_id l]
    rfl
  rw [← e xs, ← e ys, h1]

open Classical in
noncomputable def secR (v : Value) : Option (DataW Unit × List MemPlace) :=
  if h : ∃ xs, Sect xs ∧ v = .agg (secA xs) then some (dat h.choose, []) else none

theorem secR_mk {xs : List Int} (hs : Sect xs) : secR (.agg (secA xs)) = some (dat xs, []) := by
  have h : ∃ ys, Sect ys ∧ Value.agg (secA xs) = .agg (secA ys) := ⟨xs, hs, rfl⟩
  unfold secR
  rw [dif_pos h]
  have e : xs = h.choose := secA_inj (Value.agg.inj h.choose_spec.2)
  rw [← e]

theorem secR_inv {v : Value} {xs : List Int} {ps : List MemPlace} (hs : Sect xs) (h : secR v = some (dat xs, ps)) : v = .agg (secA xs) := by
  unfold secR at h
  split at h
  · rename_i hx
    have e := hx.choose_spec
    simp only [Option.some.injEq, Prod.mk.injEq] at h
    have := dat_inj e.1.2 hs.2 h.1
    rw [e.2, this]
  · cases h

def key (b : Nat) : Lit := .int .i64 (b : Int)
theorem key_inj {a b : Nat} (h : key a = key b) : a = b := by simp [key] at h; omega
theorem key_is (b : Nat) : WideAt.IsKeyLit (key b) := trivial
theorem key_of {b : Nat} (hb : b < 9223372036854775808) : keyOf Try.prog 3 (.int .i64 (b : Int)) = some (key b) := keyOf_int_mk Try.underlying3 (by simp [Lit.wf, IntKind.min, IntKind.max, IntKind.signed, IntKind.bits]; omega)

def miss (D : DataW Unit) (N : Nat) : Nat := ((List.range N).filter (fun b => !has D (key b))).length

theorem filter_lt {p q : Nat → Bool} {b : Nat} (h : ∀ x, q x = (p x && x != b)) (hp : p b = true) : ∀ l : List Nat, b ∈ l → (l.filter q).length + 1 ≤ (l.filter p).length
  | [], hb => by cases hb
  | y :: r, hb => by
    have le : (r.filter q).length ≤ (r.filter p).length := by
      clear hb
      induction r with
      | nil => simp
      | cons z r ih =>
        simp only [List.filter_cons, h z]
        cases p z <;> cases (z != b) <;> simp <;> omega
    by_cases e : y = b
    · subst e
      simp [h y, hp]
      omega
    · have hb' : b ∈ r := by
        rcases List.mem_cons.1 hb with e' | e'
        · exact absurd e'.symm e
        · exact e'
      have ih := filter_lt h hp r hb'
      have hy : (y != b) = true := by simp [e]
      simp only [List.filter_cons, h y, hy, Bool.and_true]
      cases p y <;> simp <;> omega

theorem miss_put {D : DataW Unit} {N b : Nat} (ht : Tidy D) (hb : b < N) (d : DataW Unit) (h : size D + miss D N ≤ N) : size (D.put (key b) d) + miss (D.put (key b) d) N ≤ N := by
  rw [size_put ht d]
  have hn : ∀ x, (!has (D.put (key b) d) (key x)) = ((!has D (key x)) && x != b) := by
    intro x
    by_cases e : x = b
    · subst e; rw [has_put_same ht.isMap (key_is x)]; simp
    · rw [has_put_other (fun h => e (key_inj h))]; simp [e]
  by_cases hh : has D (key b) = true
  · rw [if_pos hh]
    have : miss (D.put (key b) d) N ≤ miss D N := by
      unfold miss
      have e : ∀ x, (!has (D.put (key b) d) (key x)) = (!has D (key x)) := by
        intro x; rw [hn x]
        by_cases e : x = b
        · subst e; simp [hh]
        · simp [e]
      simp only [e]; exact Nat.le_refl _
    omega
  · rw [if_neg hh]
    have := filter_lt (q := fun x => !has (D.put (key b) d) (key x)) (p := fun x => !has D (key x)) (b := b) hn (by simpa using hh) (List.range N) (List.mem_range.2 hb)
    unfold miss at h ⊢
    omega

theorem tight {P : Program} {k : TypeId} {R : Value → Option (DataW Unit × List MemPlace)} {w : World} {b n : Nat} {D : DataW Unit} (h : w.ownsMap P k R b n D) : w.ownsMap P k R b (size D) D := by
  obtain ⟨es, clock, hb, F, hs, rfl⟩ := h
  refine ⟨es, clock, hb, F, ?_, rfl⟩
  rw [size_eq, length_sorted]; simp

/-- Block mb is a map of sectors: f at each block below N. -/
structure Secs (w : World) (mb N : Nat) (f : Nat → List Int) : Prop where
  ex : ∃ D, w.ownsMap Try.prog 3 secR mb (size D) D ∧ size D + miss D N ≤ N ∧ ∀ b, b < N → D.atKey (key b) (dat zer) = dat (f b)
  all : ∀ b, Sect (f b)

def upd {α : Type} (f : Nat → α) (b : Nat) (x : α) : Nat → α := fun y => if y = b then x else f y

theorem keyed3 : Keyed Try.prog 3 := int_keyed Try.underlying3

theorem secs_made (w : World) (N : Nat) : Secs (w.alloc (.map #[] 0)) w.heap.size N (fun _ => zer) := by
  refine ⟨⟨.map [], w.ownsMap_made _ _ _, ?_, fun b _ => rfl⟩, fun _ => sect_zer⟩
  have := List.length_filter_le (fun b => !has (.map [] : DataW Unit) (key b)) (List.range N)
  rw [List.length_range] at this
  show 0 + miss (.map []) N ≤ N
  unfold miss
  omega

theorem Secs.lt {w : World} {mb N : Nat} {f : Nat → List Int} (h : Secs w mb N f) : mb < w.heap.size := by
  obtain ⟨D, ho, _⟩ := h.ex
  exact ho.lt

theorem Secs.kept {w w' : World} {mb N : Nat} {f : Nat → List Int} (h : Secs w mb N f) (hb : w'.heap[mb]? = w.heap[mb]?) : Secs w' mb N f := by
  obtain ⟨D, ⟨es, c, ho, r⟩, k⟩ := h.ex
  exact ⟨⟨D, ⟨es, c, hb.trans ho, r⟩, k⟩, h.all⟩

theorem Secs.lookup {w : World} {mb N : Nat} {f : Nat → List Int} (h : Secs w mb N f) (hN : N ≤ 2048) (b : Nat) (hb : b < N) :
    (Instr.lookup 63 (.map (some mb)) (.int .i64 (b : Int)) false).run Try.prog w = .ok (.agg (secA (f b))) w := by
  obtain ⟨D, ho, _, hat⟩ := h.ex
  obtain ⟨v, ps, hr, hv⟩ := ho.lookup keyed3 Try.underlying63 (zero79 w) (secR_mk sect_zer) (key_of (b := b) (by omega))
  rw [hat b hb] at hv
  rw [hr, secR_inv (h.all b) hv]

theorem Secs.update {w : World} {mb N : Nat} {f : Nat → List Int} (h : Secs w mb N f) (hN : N ≤ 2048) (b : Nat) (hb : b < N) (xs : List Int) (hx : Sect xs) :
    ∃ w', (Instr.mapUpdate 63 (.map (some mb)) (.int .i64 (b : Int)) (.agg (secA xs))).run Try.prog w = .ok () w' ∧ Secs w' mb N (upd f b xs) ∧ w.grownBy w' (some mb) := by
  obtain ⟨D, ho, hm, hat⟩ := h.ex
  obtain ⟨w', hr, ho', hg⟩ := ho.update keyed3 Try.underlying63 (show size D < maxLen by unfold maxLen; omega) (key_of (b := b) (by omega)) (secR_mk hx)
  refine ⟨w', hr, ⟨⟨_, tight ho', miss_put (ho.tidy keyed3) hb _ hm, ?_⟩, ?_⟩, hg⟩
  · intro y hy
    unfold upd
    by_cases e : y = b
    · subst e; rw [if_pos rfl, atKey_put_same ho.isMap (key_is y)]
    · rw [if_neg e, atKey_put_other (fun h => e (key_inj h))]; exact hat y hy
  · intro y; unfold upd; split
    · exact hx
    · exact h.all y

theorem wpList_update_secs (w : World) {ops : Array Oper} {rest : List Oper} {o : Oper} {a : Act} {Q : Exit → Act → World → Prop}
    (hg : o.guard = none) (m x v : Operand) (hop : o.op = Op.mapUpdate 63 m x v) {mb N : Nat} {f : Nat → List Int} (h : Secs w mb N f) (hN : N ≤ 2048) (b : Nat) (hb : b < N) (xs : List Int) (hs : Sect xs)
    (hm : a.eval m = .map (some mb)) (hx : a.eval x = .int .i64 (b : Int)) (hv : a.eval v = .agg (secA xs))
    (hK : ∀ w', Secs w' mb N (upd f b xs) → w.grownBy w' (some mb) → wpList Try.prog ops Q rest (a.put o.dst undef) w') :
    wpList Try.prog ops Q (o :: rest) a w := by
  refine wpList_plain hg fun K' hK' => ?_
  obtain ⟨w', hrun, r1, r2⟩ := h.update hN b hb xs hs
  unfold Oper.wp
  simp [execOp, hop, hm, hx, hv, hrun, Result.andThen]
  exact hK' _ _ (hK w' r1 r2)

end Go.Proofs.Ytemhhgpgpjiijaa
