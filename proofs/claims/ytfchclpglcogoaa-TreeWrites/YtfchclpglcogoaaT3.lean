/- A map whose keys are numbers, or texts, as a function of the key. -/
import Derived.Test.YtfchclpglcogoaaG5
import Derived.Maps.OwnSet
import Derived.Maps.Views
import Derived.Maps.OwnOps
import Derived.StringKeys
namespace Go.Proofs.Ytfchclpglcogoaa
open Go.RowKit Go.Maps
set_option linter.unusedVariables false
set_option maxRecDepth 100000

/-- A cell as data: numbers, bytes, pointers. -/
def cellD : Value → Option (DataW Unit)
  | .int .i64 x => some (.lit (.int .i64 x))
  | .int .u8 x => some (.lit (.int .u8 x))
  | .pointer none => some (.agg [])
  | .pointer (some ⟨b, o, none⟩) => some (.agg [.lit (.int .i64 b), .lit (.int .i64 o)])
  | _ => none

theorem cellD_inj {v v' : Value} {d : DataW Unit} (h : cellD v = some d) (h' : cellD v' = some d) : v = v' := by
  unfold cellD at h h'
  split at h <;> split at h' <;> first | (cases h; done) | (cases h'; done) | skip
  all_goals
    cases h
    simp only [Option.some.injEq, DataW.lit.injEq, Lit.int.injEq, DataW.agg.injEq, List.cons.injEq, reduceCtorEq, true_and, and_true, false_and] at h'
  all_goals first | exact h'.elim | skip
  · rw [h']
  · rw [h']
  · rfl
  · obtain ⟨h1, h2⟩ := h'
    have e1 := Int.ofNat.inj h1
    have e2 := Int.ofNat.inj h2
    rw [e1, e2]

def cellsD : List Value → Option (List (DataW Unit))
  | [] => some []
  | v :: r => match cellD v, cellsD r with
    | some d, some l => some (d :: l)
    | _, _ => none

theorem cellsD_inj : ∀ {l l' : List Value} {d : List (DataW Unit)}, cellsD l = some d → cellsD l' = some d → l = l'
  | [], [], _, _, _ => rfl
  | [], v :: r, d, h, h' => by
    cases h
    unfold cellsD at h'
    split at h' <;> cases h'
  | v :: r, [], d, h, h' => by
    cases h'
    unfold cellsD at h
    split at h <;> cases h
  | v :: r, v' :: r', d, h, h' => by
    unfold cellsD at h h'
    split at h
    · rename_i d1 l1 e1 e2
      cases h
      split at h'
      · rename_i d2 l2 e3 e4
        simp only [Option.some.injEq, List.cons.injEq] at h'
        obtain ⟨rfl, rfl⟩ := h'
        rw [cellD_inj e1 e3, cellsD_inj e2 e4]
      · cases h'
    · cases h

/-- A map's value as data. -/
def vR : Value → Option (DataW Unit × List MemPlace)
  | .agg vs => (cellsD vs.toList).map fun l => (.ptr (.agg l), [])
  | v => (cellD v).map fun d => (d, [])

theorem cellD_noptr {v : Value} {d : DataW Unit} (h : cellD v = some d) : ∀ x, d ≠ .ptr x := by
  unfold cellD at h
  intro x
  split at h <;> first | (cases h; done) | (cases h; intro e; cases e)

theorem vR_inj {v v' : Value} {d : DataW Unit} {ps ps' : List MemPlace} (h : vR v = some (d, ps)) (h' : vR v' = some (d, ps')) : v = v' := by
  unfold vR at h h'
  split at h
  · rename_i vs
    simp only [Option.map_eq_some_iff, Prod.mk.injEq] at h
    obtain ⟨l, hl, rfl, _⟩ := h
    split at h'
    · rename_i vs'
      simp only [Option.map_eq_some_iff, Prod.mk.injEq, DataW.ptr.injEq, DataW.agg.injEq] at h'
      obtain ⟨l', hl', rfl, _⟩ := h'
      have := cellsD_inj hl hl'
      rw [show vs = vs' from by cases vs; cases vs'; simpa using this]
    · simp only [Option.map_eq_some_iff, Prod.mk.injEq] at h'
      obtain ⟨d', hd', e, _⟩ := h'
      exact absurd e (cellD_noptr hd' _)
  · simp only [Option.map_eq_some_iff, Prod.mk.injEq] at h
    obtain ⟨d1, hd1, rfl, _⟩ := h
    split at h'
    · simp only [Option.map_eq_some_iff, Prod.mk.injEq] at h'
      obtain ⟨l', hl', e, _⟩ := h'
      exact absurd e.symm (cellD_noptr hd1 _)
    · simp only [Option.map_eq_some_iff, Prod.mk.injEq] at h'
      obtain ⟨d2, hd2, rfl, _⟩ := h'
      exact cellD_inj hd1 hd2

/-- A number that an int holds. -/
def I64 (k : Int) : Prop := -9223372036854775808 ≤ k ∧ k ≤ 9223372036854775807
/-- A kind of keys: how one is a value, and a literal. -/
structure Ky (κ : Type) where
  t : TypeId
  val : κ → Value
  lit : κ → Lit
  ok : κ → Prop
  inj : ∀ {a b}, lit a = lit b → a = b
  is : ∀ a, WideAt.IsKeyLit (lit a)
  of : ∀ {a}, ok a → keyOf Try.prog t (val a) = some (lit a)
  keyed : Keyed Try.prog t

theorem Ky.ne {κ : Type} (S : Ky κ) {a b : κ} (h : a ≠ b) : S.lit a ≠ S.lit b := fun e => h (S.inj e)

/-- Numbers as keys. -/
def kI : Ky Int where
  t := 3
  val k := .int .i64 k
  lit k := .int .i64 k
  ok := I64
  inj h := by simpa using h
  is k := trivial
  of {k} h := keyOf_int_mk Try.underlying3 (by
    have h1 : IntKind.i64.min = -9223372036854775808 := by decide
    have h2 : IntKind.i64.max = 9223372036854775807 := by decide
    simp only [Lit.wf, h1, h2]; simpa [I64] using h)
  keyed := int_keyed Try.underlying3

/-- Texts as keys. -/
def kS : Ky ByteArray where
  t := 9
  val s := .string s
  lit s := .string s.data.toList
  ok s := s.size ≤ maxLen
  inj {a b} h := by
    have h' : a.data.toList = b.data.toList := by simpa using h
    cases a; cases b; simpa using h'
  is s := trivial
  of h := Go.WideMaps.keyOf_string_mk Try.underlying9 h
  keyed := string_keyed Try.underlying9

theorem tight {P : Program} {k : TypeId} {R : Value → Option (DataW Unit × List MemPlace)} {w : World} {b n : Nat} {D : DataW Unit} (h : w.ownsMap P k R b n D) : w.ownsMap P k R b (size D) D := by
  obtain ⟨es, clock, hb, F, hs, rfl⟩ := h
  refine ⟨es, clock, hb, F, ?_, rfl⟩
  rw [size_eq, length_sorted]; simp

/-- Block mb is a map that leads from just the keys of f to its values; no more than N keys. -/
def Mf {κ : Type} (S : Ky κ) (w : World) (mb N : Nat) (f : κ → Option Value) : Prop :=
  ∃ D, w.ownsMap Try.prog S.t vR mb (size D) D ∧ size D ≤ N ∧ ∀ k, S.ok k → (f k = none → has D (S.lit k) = false) ∧ ∀ v, f k = some v → has D (S.lit k) = true ∧ ∃ d, vR v = some (d, []) ∧ ∀ z, D.atKey (S.lit k) z = d

theorem mf_made {κ : Type} (S : Ky κ) (w : World) (N : Nat) : Mf S (w.alloc (.map #[] 0)) w.heap.size N (fun _ => none) :=
  ⟨.map [], w.ownsMap_made _ _ _, Nat.zero_le _, fun k _ => ⟨fun _ => rfl, fun v h => by cases h⟩⟩

theorem Mf.lt {κ : Type} {S : Ky κ} {w : World} {mb N : Nat} {f : κ → Option Value} (h : Mf S w mb N f) : mb < w.heap.size := by
  obtain ⟨D, ho, _⟩ := h
  exact ho.lt
theorem Mf.kept {κ : Type} {S : Ky κ} {w w' : World} {mb N : Nat} {f : κ → Option Value} (h : Mf S w mb N f) (hb : w'.heap[mb]? = w.heap[mb]?) : Mf S w' mb N f := by
  obtain ⟨D, ⟨es, c, ho, r⟩, k⟩ := h
  exact ⟨D, ⟨es, c, hb.trans ho, r⟩, k⟩
theorem Mf.isMap {κ : Type} {S : Ky κ} {w : World} {mb N : Nat} {f : κ → Option Value} (h : Mf S w mb N f) : ∃ es c, w.heap[mb]? = some (.map es c) := by
  obtain ⟨D, ⟨es, c, ho, r⟩, k⟩ := h
  exact ⟨es, c, ho⟩
theorem Mf.congr {κ : Type} {S : Ky κ} {w : World} {mb N : Nat} {f g : κ → Option Value} (h : Mf S w mb N f) (e : ∀ k, S.ok k → g k = f k) : Mf S w mb N g := by
  obtain ⟨D, ho, hs, hp⟩ := h
  exact ⟨D, ho, hs, fun k hk => by rw [e k hk]; exact hp k hk⟩

/-- What a look-up tells. -/
theorem Mf.look {κ : Type} {S : Ky κ} {w : World} {mb N : Nat} {f : κ → Option Value} (h : Mf S w mb N f) {t e : TypeId} (ht : Try.prog.underlying t = some (.map S.t e)) {z : Value} (hz : (zeroValue e).run Try.prog w = .ok z w) {zd : DataW Unit} (hzd : vR z = some (zd, [])) (k : κ) (hk : S.ok k) :
    (Instr.lookup t (.map (some mb)) (S.val k) true).run Try.prog w = .ok (.tuple #[(f k).getD z, .bool (f k).isSome]) w := by
  obtain ⟨D, ho, _, hp⟩ := h
  obtain ⟨v, ps, hr, hv⟩ := ho.look_ok S.keyed ht hz hzd (S.of hk)
  rw [hr]
  cases e : f k with
  | none =>
    have hn := (hp k hk).1 e
    rw [atKey_of_not_has hn] at hv
    rw [vR_inj hv hzd, hn]
    rfl
  | some u =>
    obtain ⟨h1, d, hd, h2⟩ := (hp k hk).2 u e
    rw [h2] at hv
    rw [vR_inj hv hd, h1]
    rfl
theorem Mf.get {κ : Type} {S : Ky κ} {w : World} {mb N : Nat} {f : κ → Option Value} (h : Mf S w mb N f) {t e : TypeId} (ht : Try.prog.underlying t = some (.map S.t e)) {z : Value} (hz : (zeroValue e).run Try.prog w = .ok z w) {zd : DataW Unit} (hzd : vR z = some (zd, [])) (k : κ) (hk : S.ok k) :
    (Instr.lookup t (.map (some mb)) (S.val k) false).run Try.prog w = .ok ((f k).getD z) w := by
  obtain ⟨D, ho, _, hp⟩ := h
  obtain ⟨v, ps, hr, hv⟩ := ho.lookup S.keyed ht hz hzd (S.of hk)
  rw [hr]
  cases e : f k with
  | none =>
    have hn := (hp k hk).1 e
    rw [atKey_of_not_has hn] at hv
    rw [vR_inj hv hzd]
    rfl
  | some u =>
    obtain ⟨h1, d, hd, h2⟩ := (hp k hk).2 u e
    rw [h2] at hv
    rw [vR_inj hv hd]
    rfl

def fput {κ α : Type} [DecidableEq κ] (f : κ → Option α) (k : κ) (v : Option α) : κ → Option α := fun x => if x = k then v else f x
theorem fput_same {κ α : Type} [DecidableEq κ] (f : κ → Option α) (k : κ) (v : Option α) : fput f k v k = v := by unfold fput; rw [if_pos rfl]
theorem fput_other {κ α : Type} [DecidableEq κ] (f : κ → Option α) {k x : κ} (h : x ≠ k) (v : Option α) : fput f k v x = f x := by unfold fput; rw [if_neg h]

theorem Mf.put {κ : Type} [DecidableEq κ] {S : Ky κ} {w : World} {mb N : Nat} {f : κ → Option Value} (h : Mf S w mb N f) (hN : N < 1000000000000) {t e : TypeId} (ht : Try.prog.underlying t = some (.map S.t e)) (k : κ) (hk : S.ok k) (v : Value) {d : DataW Unit} (hd : vR v = some (d, [])) :
    ∃ w', (Instr.mapUpdate t (.map (some mb)) (S.val k) v).run Try.prog w = .ok () w' ∧ Mf S w' mb (if (f k).isSome then N else N + 1) (fput f k (some v)) ∧ w.grownBy w' (some mb) := by
  obtain ⟨D, ho, hs, hp⟩ := h
  obtain ⟨w', hr, ho', hg⟩ := ho.update S.keyed ht (show size D < maxLen by unfold maxLen; omega) (S.of hk) hd
  refine ⟨w', hr, ⟨_, tight ho', ?_, ?_⟩, hg⟩
  · rw [size_put (ho.tidy S.keyed)]
    cases e : f k with
    | none => rw [(hp k hk).1 e]; simp; omega
    | some u => rw [((hp k hk).2 u e).1]; simp; omega
  · intro x hx
    by_cases e : x = k
    · subst e
      rw [fput_same]
      refine ⟨fun h => (by cases h), fun u hu => ?_⟩
      cases hu
      exact ⟨has_put_same ho.isMap (S.is _) _, d, hd, fun z => atKey_put_same ho.isMap (S.is _) _ _⟩
    · rw [fput_other f e, has_put_other (S.ne e)]
      refine ⟨(hp x hx).1, fun u hu => ?_⟩
      obtain ⟨h1, d1, h2, h3⟩ := (hp x hx).2 u hu
      exact ⟨h1, d1, h2, fun z => by rw [atKey_put_other (S.ne e)]; exact h3 z⟩

theorem Mf.del {κ : Type} [DecidableEq κ] {S : Ky κ} {w : World} {mb N : Nat} {f : κ → Option Value} (h : Mf S w mb N f) {t e : TypeId} (ht : Try.prog.underlying t = some (.map S.t e)) (k : κ) (hk : S.ok k) (ty : TypeId) :
    ∃ w', (Builtin.delete_ #[t, S.t] ty #[.map (some mb), S.val k]).run Try.prog w = .ok (.tuple #[]) w' ∧ Mf S w' mb N (fput f k none) ∧ w.grownBy w' (some mb) := by
  obtain ⟨D, ho, hs, hp⟩ := h
  obtain ⟨w', hr, ho', hg⟩ := ho.drop S.keyed ht (S.of hk) ty
  refine ⟨w', hr, ⟨_, tight ho', ?_, ?_⟩, hg.grown⟩
  · have hsz := size_del (k := S.lit k) (ho.tidy S.keyed)
    split at hsz <;> omega
  · intro x hx
    by_cases e : x = k
    · subst e
      rw [fput_same]
      exact ⟨fun _ => has_del_same, fun u hu => (by cases hu)⟩
    · rw [fput_other f e, has_del_other (S.ne e)]
      refine ⟨(hp x hx).1, fun u hu => ?_⟩
      obtain ⟨h1, d1, h2, h3⟩ := (hp x hx).2 u hu
      exact ⟨h1, d1, h2, fun z => by rw [atKey_del_other (S.ne e)]; exact h3 z⟩
end Go.Proofs.Ytfchclpglcogoaa
