/- Sets in memory: maps to bools that a call made, and rows of numbers that say how often something was met. -/
import Derived.Test.YtkmijjipnepnoabApart
import Derived.Maps.OwnSet
import Derived.Maps.Views
import Derived.Maps.OwnOps
import Derived.WideKeyPair
import Derived.DeepKeys4
namespace Go.Proofs.Ytkmijjipnepnoab
open Go.RowKit Go.Maps Go.WideMaps
set_option linter.unusedVariables false

theorem laidOut : laidOutB Try.prog = true := by kernel_rfl
theorem row53 : (53 : TypeId) < Try.prog.types.size := of_decide_eq_true (by kernel_rfl)
theorem cells53 : Try.prog.cellsOf 53 = 2 := by kernel_rfl
theorem wide53 : (match Try.prog.underlying 53 with | some (.array _ _) | some (.struct _) => true | _ => false) = true := by rw [Try.underlying53]
theorem keyed53 : Keyed Try.prog 53 := Keyed.of_law (deep_law_laid laidOut (m := 2) (by omega) row53 (by kernel_rfl) wide53)
theorem keyed3 : Keyed Try.prog 3 := int_keyed Try.underlying3
theorem arr53 : ArrKey Try.prog 53 3 2 := ⟨Try.underlying53, by kernel_rfl, by kernel_rfl, cells53⟩
theorem sizeTypes : ∃ m, Try.prog.types.size = m + 1 := ⟨111, by kernel_rfl⟩
theorem wf_nat {b : Nat} (hb : b < 9223372036854775808) : (Lit.int .i64 (b : Int)).wf = true := by
  simp [Lit.wf, IntKind.min, IntKind.max, IntKind.signed, IntKind.bits]; omega
abbrev pairV (a b : Nat) : Value := .agg #[.int .i64 (a : Int), .int .i64 (b : Int)]
theorem key53 {a b : Nat} (ha : a < 9223372036854775808) (hb : b < 9223372036854775808) : ∃ l, keyOf Try.prog 53 (pairV a b) = some l := ⟨_, keyOf_pair arr53 Try.underlying3 sizeTypes (wf_nat ha) (wf_nat hb)⟩
theorem key3 {a : Nat} (ha : a < 9223372036854775808) : ∃ l, keyOf Try.prog 3 (.int .i64 (a : Int)) = some l := ⟨_, keyOf_int_mk Try.underlying3 (wf_nat ha)⟩
theorem zero4 (w : World) : (zeroValue 4).run Try.prog w = .ok (.bool false) w := by kernel_rfl

/-- A bool as a datum. -/
def boolR (v : Value) : Option (DataW Unit × List MemPlace) := match v with | .bool b => some (.lit (.bool b), []) | _ => none
theorem boolR_inv {v : Value} {b : Bool} {ps : List MemPlace} (h : boolR v = some (.lit (.bool b), ps)) : v = .bool b := by
  unfold boolR at h
  split at h
  · simp at h; rw [h.1]
  · cases h

theorem tight {P : Program} {k : TypeId} {R : Value → Option (DataW Unit × List MemPlace)} {w : World} {b n : Nat} {D : DataW Unit} (h : w.ownsMap P k R b n D) : w.ownsMap P k R b (size D) D := by
  obtain ⟨es, clock, hb, F, hs, rfl⟩ := h
  refine ⟨es, clock, hb, F, ?_, rfl⟩
  rw [size_eq, length_sorted]; simp

open Classical in
/-- Block mb is a set of n keys of type k: those of S. -/
def SetOf (w : World) (k : TypeId) (mb n : Nat) (S : Value → Prop) : Prop :=
  ∃ D, w.ownsMap Try.prog k boolR mb (size D) D ∧ size D = n ∧ ∀ v l, keyOf Try.prog k v = some l → (has D l = true ↔ S v) ∧ D.atKey l (.lit (.bool false)) = .lit (.bool (decide (S v)))

theorem set_made (w : World) (k : TypeId) : SetOf (w.alloc (.map #[] 0)) k w.heap.size 0 (fun _ => False) :=
  ⟨.map [], w.ownsMap_made _ _ _, rfl, fun v l _ => ⟨by simp [has], by simp; rfl⟩⟩

theorem SetOf.kept {w w' : World} {k : TypeId} {mb n : Nat} {S : Value → Prop} (h : SetOf w k mb n S) (hb : w'.heap[mb]? = w.heap[mb]?) : SetOf w' k mb n S := by
  obtain ⟨D, ⟨es, c, ho, r⟩, h2⟩ := h
  exact ⟨D, ⟨es, c, hb.trans ho, r⟩, h2⟩

theorem SetOf.lt {w : World} {k : TypeId} {mb n : Nat} {S : Value → Prop} (h : SetOf w k mb n S) : mb < w.heap.size := by
  obtain ⟨D, ho, _⟩ := h
  exact ho.lt

open Classical in
theorem SetOf.look {w : World} {k t : TypeId} {mb n : Nat} {S : Value → Prop} (h : SetOf w k mb n S) (K : Keyed Try.prog k) (ht : Try.prog.underlying t = some (.map k 4)) {v : Value} {l : Lit} (hk : keyOf Try.prog k v = some l) :
    (Instr.lookup t (.map (some mb)) v false).run Try.prog w = .ok (.bool (decide (S v))) w := by
  obtain ⟨D, ho, _, hat⟩ := h
  obtain ⟨u, ps, hr, hv⟩ := ho.lookup K ht (zero4 w) (zd := .lit (.bool false)) (zp := []) rfl hk
  rw [(hat v l hk).2] at hv
  rw [hr, boolR_inv hv]

open Classical in
theorem SetOf.add {w : World} {k t : TypeId} {mb n : Nat} {S : Value → Prop} (h : SetOf w k mb n S) (K : Keyed Try.prog k) (ht : Try.prog.underlying t = some (.map k 4)) (hn : n < 100000) {v : Value} {l : Lit} (hk : keyOf Try.prog k v = some l) :
    ∃ w', (Instr.mapUpdate t (.map (some mb)) v (.bool true)).run Try.prog w = .ok () w' ∧ SetOf w' k mb (if S v then n else n + 1) (fun u => S u ∨ u = v) ∧ w.grownBy w' (some mb) := by
  obtain ⟨D, ho, hs, hat⟩ := h
  obtain ⟨w', hr, ho', hg⟩ := ho.update K ht (show size D < maxLen by unfold maxLen; omega) (val := .bool true) hk (d := .lit (.bool true)) (ps := []) rfl
  refine ⟨w', hr, ⟨_, tight ho', ?_, ?_⟩, hg⟩
  · rw [size_put (ho.tidy K), hs]
    by_cases h1 : S v
    · rw [if_pos ((hat v l hk).1.2 h1), if_pos h1]
    · rw [if_neg (fun e => h1 ((hat v l hk).1.1 e)), if_neg h1]
  · intro u m hu
    by_cases e : m = l
    · subst e
      have : u = v := K.inj hu hk
      subst this
      refine ⟨?_, ?_⟩
      · rw [has_put_same ho.isMap (K.key hk)]; simp
      · rw [atKey_put_same ho.isMap (K.key hk)]; simp
    · have hne : ¬ u = v := by
        rintro rfl
        rw [hk] at hu
        exact e (Option.some.inj hu).symm
      refine ⟨?_, ?_⟩
      · rw [has_put_other e, (hat u m hu).1]; simp [hne]
      · rw [atKey_put_other e, (hat u m hu).2]; simp [hne]

theorem SetOf.len {w : World} {k t : TypeId} {mb n : Nat} {S : Value → Prop} (h : SetOf w k mb n S) (ht : Try.prog.underlying t = some (.map k 4)) (ty : TypeId) : (Builtin.len_ #[t] ty #[.map (some mb)]).run Try.prog w = .ok (.int .i64 (n : Int)) w := by
  obtain ⟨D, ho, hs, _⟩ := h
  rw [ho.len ht ty, hs]
end Go.Proofs.Ytkmijjipnepnoab
