/- PMf -/
import Derived.Test.YtjecicjpplibaaaGreatNw16

/- A map whose keys are numbers, as a function of the key. -/
namespace Go.Proofs.YtjecicjpplibaaaGreat.Pt
open Go.RowKit Go.Maps
set_option maxRecDepth 100000
set_option linter.unusedVariables false

/-- A cell as data: numbers and slices. -/
def cellD : Value → Option (DataW Unit)
  | .int .i64 x => some (.lit (.int .i64 x))
  | .slice none n c => some (.agg [.lit (.int .i64 n), .lit (.int .i64 c)])
  | .slice (some ⟨b, o, none⟩) n c => some (.agg [.lit (.int .i64 b), .lit (.int .i64 o), .lit (.int .i64 n), .lit (.int .i64 c)])
  | _ => none

theorem cellD_inj {v v' : Value} {d : DataW Unit} (h : cellD v = some d) (h' : cellD v' = some d) : v = v' := by
  unfold cellD at h h'
  split at h <;> split at h' <;> first | (cases h; done) | (cases h'; done) | skip
  all_goals
    cases h
    simp only [Option.some.injEq, DataW.lit.injEq, Lit.int.injEq, DataW.agg.injEq, List.cons.injEq, reduceCtorEq, true_and, and_true, and_false] at h'
  all_goals first | exact h'.elim | skip
  · rw [h']
  · obtain ⟨h1, h2⟩ := h'
    have e1 := Int.ofNat.inj h1
    have e2 := Int.ofNat.inj h2
    rw [e1, e2]
  · obtain ⟨h1, h2, h3, h4⟩ := h'
    have e1 := Int.ofNat.inj h1
    have e2 := Int.ofNat.inj h2
    have e3 := Int.ofNat.inj h3
    have e4 := Int.ofNat.inj h4
    rw [e1, e2, e3, e4]

def cellsD : List Value → Option (List (DataW Unit))
  | [] => some []
  | v :: r => match cellD v, cellsD r with
    | some d, some l => some (d :: l)
    | _, _ => none

theorem cellsD_inj : ∀ {l l' : List Value} {d : List (DataW Unit)}, cellsD l = some d → cellsD l' = some d → l = l'
  | [], [], _, _, _ => rfl
  | [], v :: r, d, h, h' => by
    cases h
    unfold cellsD at h'
    split at h' <;> cases h'
  | v :: r, [], d, h, h' => by
    cases h'
    unfold cellsD at h
    split at h <;> cases h
  | v :: r, v' :: r', d, h, h' => by
    unfold cellsD at h h'
    split at h
    · rename_i d1 l1 e1 e2
      cases h
      split at h'
      · rename_i d2 l2 e3 e4
        simp only [Option.some.injEq, List.cons.injEq] at h'
        obtain ⟨rfl, rfl⟩ := h'
        rw [cellD_inj e1 e3, cellsD_inj e2 e4]
      · cases h'
    · cases h

/-- A map's value as data. -/
def vR : Value → Option (DataW Unit × List MemPlace)
  | .agg vs => (cellsD vs.toList).map fun l => (.ptr (.agg l), [])
  | v => (cellD v).map fun d => (d, [])

theorem cellD_noptr {v : Value} {d : DataW Unit} (h : cellD v = some d) : ∀ x, d ≠ .ptr x := by
  unfold cellD at h
  intro x
  split at h
  · cases h; intro e; cases e
  · cases h; intro e; cases e
  · cases h; intro e; cases e
  · cases h

theorem vR_inj {v v' : Value} {d : DataW Unit} {ps ps' : List MemPlace} (h : vR v = some (d, ps)) (h' : vR v' = some (d, ps')) : v = v' := by
  unfold vR at h h'
  split at h
  · rename_i vs
    simp only [Option.map_eq_some_iff, Prod.mk.injEq] at h
    obtain ⟨l, hl, rfl, _⟩ := h
    split at h'
    · rename_i vs'
      simp only [Option.map_eq_some_iff, Prod.mk.injEq, DataW.ptr.injEq, DataW.agg.injEq] at h'
      obtain ⟨l', hl', rfl, _⟩ := h'
      have := cellsD_inj hl hl'
      rw [show vs = vs' from by cases vs; cases vs'; simpa using this]
    · simp only [Option.map_eq_some_iff, Prod.mk.injEq] at h'
      obtain ⟨d', hd', e, _⟩ := h'
      exact absurd e (cellD_noptr hd' _)
  · simp only [Option.map_eq_some_iff, Prod.mk.injEq] at h
    obtain ⟨d1, hd1, rfl, _⟩ := h
    split at h'
    · simp only [Option.map_eq_some_iff, Prod.mk.injEq] at h'
      obtain ⟨l', hl', e, _⟩ := h'
      exact absurd e.symm (cellD_noptr hd1 _)
    · simp only [Option.map_eq_some_iff, Prod.mk.injEq] at h'
      obtain ⟨d2, hd2, rfl, _⟩ := h'
      exact cellD_inj hd1 hd2

/-- A number that an int holds. -/
def I64 (k : Int) : Prop := -9223372036854775808 ≤ k ∧ k ≤ 9223372036854775807
def ikey (k : Int) : Lit := .int .i64 k
theorem ikey_inj {a b : Int} (h : ikey a = ikey b) : a = b := by simpa [ikey] using h
theorem ikey_ne {a b : Int} (h : a ≠ b) : ikey a ≠ ikey b := fun e => h (ikey_inj e)
theorem ikey_is (k : Int) : WideAt.IsKeyLit (ikey k) := trivial
theorem ikey_of {k : Int} (h : I64 k) : keyOf Tryz.prog 3 (.int .i64 k) = some (ikey k) := keyOf_int_mk Tryz.underlying3 (by
  have h1 : IntKind.i64.min = -9223372036854775808 := by decide
  have h2 : IntKind.i64.max = 9223372036854775807 := by decide
  simp only [Lit.wf, h1, h2]; simpa [I64] using h)
theorem keyed3 : Keyed Tryz.prog 3 := int_keyed Tryz.underlying3

theorem tight {P : Program} {k : TypeId} {R : Value → Option (DataW Unit × List MemPlace)} {w : World} {b n : Nat} {D : DataW Unit} (h : w.ownsMap P k R b n D) : w.ownsMap P k R b (size D) D := by
  obtain ⟨es, clock, hb, F, hs, rfl⟩ := h
  refine ⟨es, clock, hb, F, ?_, rfl⟩
  rw [size_eq, length_sorted]; simp

/-- Block mb is a map that leads from just the keys of f to its values; no more than N keys. -/
def Mf (w : World) (mb N : Nat) (f : Int → Option Value) : Prop :=
  ∃ D, w.ownsMap Tryz.prog 3 vR mb (size D) D ∧ size D ≤ N ∧ ∀ k, I64 k → (f k = none → has D (ikey k) = false) ∧ ∀ v, f k = some v → has D (ikey k) = true ∧ ∃ d, vR v = some (d, []) ∧ ∀ z, D.atKey (ikey k) z = d

theorem mf_made (w : World) (N : Nat) : Mf (w.alloc (.map #[] 0)) w.heap.size N (fun _ => none) :=
  ⟨.map [], w.ownsMap_made _ _ _, Nat.zero_le _, fun k _ => ⟨fun _ => rfl, fun v h => by cases h⟩⟩

theorem Mf.lt {w : World} {mb N : Nat} {f : Int → Option Value} (h : Mf w mb N f) : mb < w.heap.size := by
  obtain ⟨D, ho, _⟩ := h
  exact ho.lt
theorem Mf.kept {w w' : World} {mb N : Nat} {f : Int → Option Value} (h : Mf w mb N f) (hb : w'.heap[mb]? = w.heap[mb]?) : Mf w' mb N f := by
  obtain ⟨D, ⟨es, c, ho, r⟩, k⟩ := h
  exact ⟨D, ⟨es, c, hb.trans ho, r⟩, k⟩
theorem Mf.isMap {w : World} {mb N : Nat} {f : Int → Option Value} (h : Mf w mb N f) : ∃ es c, w.heap[mb]? = some (.map es c) := by
  obtain ⟨D, ⟨es, c, ho, r⟩, k⟩ := h
  exact ⟨es, c, ho⟩
theorem Mf.congr {w : World} {mb N : Nat} {f g : Int → Option Value} (h : Mf w mb N f) (e : ∀ k, I64 k → g k = f k) : Mf w mb N g := by
  obtain ⟨D, ho, hs, hp⟩ := h
  exact ⟨D, ho, hs, fun k hk => by rw [e k hk]; exact hp k hk⟩

/-- What a look-up tells. -/
theorem Mf.look {w : World} {mb N : Nat} {f : Int → Option Value} (h : Mf w mb N f) {t e : TypeId} (ht : Tryz.prog.underlying t = some (.map 3 e)) {z : Value} (hz : (zeroValue e).run Tryz.prog w = .ok z w) {zd : DataW Unit} (hzd : vR z = some (zd, [])) (k : Int) (hk : I64 k) :
    (Instr.lookup t (.map (some mb)) (.int .i64 k) true).run Tryz.prog w = .ok (.tuple #[(f k).getD z, .bool (f k).isSome]) w := by
  obtain ⟨D, ho, _, hp⟩ := h
  obtain ⟨v, ps, hr, hv⟩ := ho.look_ok keyed3 ht hz hzd (ikey_of hk)
  rw [hr]
  cases e : f k with
  | none =>
    have hn := (hp k hk).1 e
    rw [atKey_of_not_has hn] at hv
    rw [vR_inj hv hzd, hn]
    rfl
  | some u =>
    obtain ⟨h1, d, hd, h2⟩ := (hp k hk).2 u e
    rw [h2] at hv
    rw [vR_inj hv hd, h1]
    rfl
theorem Mf.get {w : World} {mb N : Nat} {f : Int → Option Value} (h : Mf w mb N f) {t e : TypeId} (ht : Tryz.prog.underlying t = some (.map 3 e)) {z : Value} (hz : (zeroValue e).run Tryz.prog w = .ok z w) {zd : DataW Unit} (hzd : vR z = some (zd, [])) (k : Int) (hk : I64 k) :
    (Instr.lookup t (.map (some mb)) (.int .i64 k) false).run Tryz.prog w = .ok ((f k).getD z) w := by
  obtain ⟨D, ho, _, hp⟩ := h
  obtain ⟨v, ps, hr, hv⟩ := ho.lookup keyed3 ht hz hzd (ikey_of hk)
  rw [hr]
  cases e : f k with
  | none =>
    have hn := (hp k hk).1 e
    rw [atKey_of_not_has hn] at hv
    rw [vR_inj hv hzd]
    rfl
  | some u =>
    obtain ⟨h1, d, hd, h2⟩ := (hp k hk).2 u e
    rw [h2] at hv
    rw [vR_inj hv hd]
    rfl

def fput {α : Type} (f : Int → Option α) (k : Int) (v : Option α) : Int → Option α := fun x => if x = k then v else f x
theorem fput_same {α : Type} (f : Int → Option α) (k : Int) (v : Option α) : fput f k v k = v := by unfold fput; rw [if_pos rfl]
theorem fput_other {α : Type} (f : Int → Option α) {k x : Int} (h : x ≠ k) (v : Option α) : fput f k v x = f x := by unfold fput; rw [if_neg h]

theorem Mf.put {w : World} {mb N : Nat} {f : Int → Option Value} (h : Mf w mb N f) (hN : N < 100000) {t e : TypeId} (ht : Tryz.prog.underlying t = some (.map 3 e)) (k : Int) (hk : I64 k) (v : Value) {d : DataW Unit} (hd : vR v = some (d, [])) :
    ∃ w', (Instr.mapUpdate t (.map (some mb)) (.int .i64 k) v).run Tryz.prog w = .ok () w' ∧ Mf w' mb (if (f k).isSome then N else N + 1) (fput f k (some v)) ∧ w.grownBy w' (some mb) := by
  obtain ⟨D, ho, hs, hp⟩ := h
  obtain ⟨w', hr, ho', hg⟩ := ho.update keyed3 ht (show size D < maxLen by unfold maxLen; omega) (ikey_of hk) hd
  refine ⟨w', hr, ⟨_, tight ho', ?_, ?_⟩, hg⟩
  · rw [size_put (ho.tidy keyed3)]
    cases e : f k with
    | none => rw [(hp k hk).1 e]; simp; omega
    | some u => rw [((hp k hk).2 u e).1]; simp; omega
  · intro x hx
    by_cases e : x = k
    · subst e
      rw [fput_same]
      refine ⟨fun h => (by cases h), fun u hu => ?_⟩
      cases hu
      exact ⟨has_put_same ho.isMap (ikey_is _) _, d, hd, fun z => atKey_put_same ho.isMap (ikey_is _) _ _⟩
    · rw [fput_other f e, has_put_other (ikey_ne e)]
      refine ⟨(hp x hx).1, fun u hu => ?_⟩
      obtain ⟨h1, d1, h2, h3⟩ := (hp x hx).2 u hu
      exact ⟨h1, d1, h2, fun z => by rw [atKey_put_other (ikey_ne e)]; exact h3 z⟩

open Classical in
theorem Mf.del {w : World} {mb N : Nat} {f : Int → Option Value} (h : Mf w mb N f) {t e : TypeId} (ht : Tryz.prog.underlying t = some (.map 3 e)) (k : Int) (hk : I64 k) (ty : TypeId) :
    ∃ w', (Builtin.delete_ #[t, 3] ty #[.map (some mb), .int .i64 k]).run Tryz.prog w = .ok (.tuple #[]) w' ∧ Mf w' mb N (fput f k none) ∧ w.grownBy w' (some mb) := by
  obtain ⟨D, ho, hs, hp⟩ := h
  obtain ⟨w', hr, ho', hg⟩ := ho.drop keyed3 ht (ikey_of hk) ty
  refine ⟨w', hr, ⟨_, tight ho', ?_, ?_⟩, hg.grown⟩
  · have hsz := size_del (k := ikey k) (ho.tidy keyed3)
    split at hsz <;> omega
  · intro x hx
    by_cases e : x = k
    · subst e
      rw [fput_same]
      exact ⟨fun _ => has_del_same, fun u hu => (by cases hu)⟩
    · rw [fput_other f e, has_del_other (ikey_ne e)]
      refine ⟨(hp x hx).1, fun u hu => ?_⟩
      obtain ⟨h1, d1, h2, h3⟩ := (hp x hx).2 u hu
      exact ⟨h1, d1, h2, fun z => by rw [atKey_del_other (ikey_ne e)]; exact h3 z⟩
end Go.Proofs.YtjecicjpplibaaaGreat.Pt
