/- The map of a cache's buffers: which blocks have one, and where it lies. -/
import Derived.Test.YtliljdencaocaaaFails
namespace Go.Proofs.Ytliljdencaocaaa
open Go.RowKit Go.Maps
set_option linter.unusedVariables false

def adr (g : Nat) : DataW Unit := .lit (.int .i64 (g : Int))
def nilD : DataW Unit := .lit (.bool false)
def ptrR : Value → Option (DataW Unit × List MemPlace)
  | .pointer none => some (nilD, [])
  | .pointer (some ⟨g, 0, none⟩) => some (adr g, [])
  | _ => none
theorem ptrR_nil : ptrR (.pointer none) = some (nilD, []) := rfl
theorem ptrR_mk (g : Nat) : ptrR (.pointer (some ⟨g, 0, none⟩)) = some (adr g, []) := rfl
theorem ptrR_inv {v : Value} {g : Nat} {ps : List MemPlace} (h : ptrR v = some (adr g, ps)) : v = .pointer (some ⟨g, 0, none⟩) := by
  unfold ptrR at h
  split at h
  · simp [nilD, adr] at h
  · rename_i g'
    simp [adr] at h
    obtain rfl : g' = g := by omega
    rfl
  · cases h
theorem ptrR_inv0 {v : Value} {ps : List MemPlace} (h : ptrR v = some (nilD, ps)) : v = .pointer none := by
  unfold ptrR at h
  split at h
  · rfl
  · simp [nilD, adr] at h
  · cases h
theorem zero86p (w : World) : (zeroValue 86).run Try.prog w = .ok (.pointer none) w := by kernel_rfl

/-- Block mb is a map that leads from the blocks of M to where their buffers lie. -/
structure Bm (w : World) (mb : Nat) (M : List (Nat × Nat)) : Prop where
  ex : ∃ D, w.ownsMap Try.prog 3 ptrR mb (size D) D ∧ size D = M.length ∧ (∀ x, has D x = true → ∃ p ∈ M, x = key p.1) ∧ ∀ p ∈ M, has D (key p.1) = true ∧ D.atKey (key p.1) nilD = adr p.2
  nd : (M.map (·.1)).Nodup
  sm : M.length ≤ 2048

theorem bm_made (w : World) : Bm (w.alloc (.map #[] 0)) w.heap.size [] :=
  ⟨⟨.map [], w.ownsMap_made _ _ _, rfl, fun x h => by simp [has] at h, fun p hp => by cases hp⟩, List.nodup_nil, by simp⟩

theorem Bm.lt {w : World} {mb : Nat} {M : List (Nat × Nat)} (h : Bm w mb M) : mb < w.heap.size := by
  obtain ⟨D, ho, _⟩ := h.ex
  exact ho.lt
theorem Bm.kept {w w' : World} {mb : Nat} {M : List (Nat × Nat)} (h : Bm w mb M) (hb : w'.heap[mb]? = w.heap[mb]?) : Bm w' mb M := by
  obtain ⟨D, ⟨es, c, ho, r⟩, k⟩ := h.ex
  exact ⟨⟨D, ⟨es, c, hb.trans ho, r⟩, k⟩, h.nd, h.sm⟩

theorem Bm.hit {w : World} {mb : Nat} {M : List (Nat × Nat)} (h : Bm w mb M) (p : Nat × Nat) (hp : p ∈ M) (hb : p.1 < 9223372036854775808) :
    (Instr.lookup 54 (.map (some mb)) (.int .i64 (p.1 : Int)) false).run Try.prog w = .ok (.pointer (some ⟨p.2, 0, none⟩)) w := by
  obtain ⟨D, ho, _, _, hat⟩ := h.ex
  obtain ⟨v, ps, hr, hv⟩ := ho.lookup keyed3 Try.underlying54 (zero86p w) ptrR_nil (key_of (b := p.1) hb)
  rw [(hat p hp).2] at hv
  rw [hr, ptrR_inv hv]

theorem Bm.miss {w : World} {mb : Nat} {M : List (Nat × Nat)} (h : Bm w mb M) (b : Nat) (hp : ∀ p ∈ M, ¬ p.1 = b) (hb : b < 9223372036854775808) :
    (Instr.lookup 54 (.map (some mb)) (.int .i64 (b : Int)) false).run Try.prog w = .ok (.pointer none) w := by
  obtain ⟨D, ho, _, hk, hat⟩ := h.ex
  obtain ⟨v, ps, hr, hv⟩ := ho.lookup keyed3 Try.underlying54 (zero86p w) ptrR_nil (key_of (b := b) hb)
  have hn : has D (key b) = false := by
    cases e : has D (key b) with
    | false => rfl
    | true =>
      obtain ⟨p, hm, e'⟩ := hk _ e
      exact absurd (key_inj e').symm (hp p hm)
  rw [atKey_of_not_has hn] at hv
  rw [hr, ptrR_inv0 hv]

theorem Bm.update {w : World} {mb : Nat} {M : List (Nat × Nat)} (h : Bm w mb M) (b g : Nat) (hp : ∀ p ∈ M, ¬ p.1 = b) (hb : b < 9223372036854775808) (hl : M.length < 2048) :
    ∃ w', (Instr.mapUpdate 54 (.map (some mb)) (.int .i64 (b : Int)) (.pointer (some ⟨g, 0, none⟩))).run Try.prog w = .ok () w' ∧ Bm w' mb (M ++ [(b, g)]) ∧ w.grownBy w' (some mb) := by
  obtain ⟨D, ho, hs, hk, hat⟩ := h.ex
  obtain ⟨w', hr, ho', hg⟩ := ho.update keyed3 Try.underlying54 (show size D < maxLen by unfold maxLen; omega) (key_of (b := b) hb) (ptrR_mk g)
  have hn : has D (key b) = false := by
    cases e : has D (key b) with
    | false => rfl
    | true =>
      obtain ⟨p, hm, e'⟩ := hk _ e
      exact absurd (key_inj e').symm (hp p hm)
  refine ⟨w', hr, ⟨⟨_, tight ho', ?_, ?_, ?_⟩, ?_, ?_⟩, hg⟩
  · rw [size_put (ho.tidy keyed3), hn]; simp; omega
  · intro x hx
    by_cases e : x = key b
    · exact ⟨(b, g), by simp, e⟩
    · rw [has_put_other e] at hx
      obtain ⟨p, hm, e'⟩ := hk x hx
      exact ⟨p, by simp [hm], e'⟩
  · intro p hm
    rcases List.mem_append.1 hm with hm | hm
    · have e : key p.1 ≠ key b := fun e => hp p hm (key_inj e)
      rw [has_put_other e, atKey_put_other e]
      exact hat p hm
    · simp at hm
      subst hm
      exact ⟨has_put_same ho.isMap (key_is b) _, atKey_put_same ho.isMap (key_is b) _ _⟩
  · rw [List.map_append, List.nodup_append]
    refine ⟨h.nd, by simp, ?_⟩
    intro a ha c hc e
    simp at hc
    obtain ⟨p, hm, rfl⟩ := List.mem_map.1 ha
    exact hp p hm (by omega)
  · simp; omega

theorem filter_miss {M : List (Nat × Nat)} {b : Nat} (h : ∀ p ∈ M, ¬ p.1 = b) : M.filter (fun p => !(p.1 == b)) = M := by
  rw [List.filter_eq_self]
  intro p hp
  simpa using h p hp
theorem filter_hit {M : List (Nat × Nat)} (hd : (M.map (·.1)).Nodup) {p : Nat × Nat} (hp : p ∈ M) : (M.filter (fun q => !(q.1 == p.1))).length + 1 = M.length := by
  induction M with
  | nil => cases hp
  | cons q M ih =>
    rw [List.map_cons, List.nodup_cons] at hd
    by_cases e : q.1 = p.1
    · have hno : ∀ r ∈ M, ¬ r.1 = p.1 := fun r hm e2 => hd.1 (List.mem_map.2 ⟨r, hm, by rw [e2, e]⟩)
      rw [List.filter_cons, filter_miss hno]
      simp [e]
    · have hp' : p ∈ M := by
        rcases List.mem_cons.1 hp with h | h
        · subst h; exact absurd rfl e
        · exact h
      have ih := ih hd.2 hp'
      rw [List.filter_cons]
      have hb : (!(q.1 == p.1)) = true := by simpa using e
      rw [if_pos hb, List.length_cons, List.length_cons]
      omega

open Classical in
theorem Bm.delete {w : World} {mb : Nat} {M : List (Nat × Nat)} (h : Bm w mb M) (b : Nat) (hb : b < 9223372036854775808) (ty : TypeId) :
    ∃ w', (Builtin.delete_ #[54, 3] ty #[.map (some mb), .int .i64 (b : Int)]).run Try.prog w = .ok (.tuple #[]) w' ∧ Bm w' mb (M.filter (fun p => !(p.1 == b))) ∧ w.grownBy w' (some mb) := by
  obtain ⟨D, ho, hs, hk, hat⟩ := h.ex
  obtain ⟨w', hr, ho', hg⟩ := ho.drop keyed3 Try.underlying54 (key_of (b := b) hb) ty
  refine ⟨w', hr, ⟨⟨_, tight ho', ?_, ?_, ?_⟩, ?_, ?_⟩, hg.grown⟩
  · have hsz := size_del (k := key b) (ho.tidy keyed3)
    by_cases e : ∃ p ∈ M, p.1 = b
    · obtain ⟨p, hm, rfl⟩ := e
      rw [if_pos (hat p hm).1] at hsz
      have hfl := filter_hit h.nd hm
      omega
    · have hn : ¬ has D (key b) = true := fun hh => by
        obtain ⟨p, hm, e'⟩ := hk _ hh
        exact e ⟨p, hm, (key_inj e').symm⟩
      rw [if_neg hn] at hsz
      rw [filter_miss (fun p hm e2 => e ⟨p, hm, e2⟩)]
      omega
  · intro x hx
    by_cases e : x = key b
    · subst e
      rw [has_del_same] at hx
      cases hx
    · rw [has_del_other e] at hx
      obtain ⟨p, hm, e'⟩ := hk x hx
      refine ⟨p, List.mem_filter.2 ⟨hm, ?_⟩, e'⟩
      have : ¬ p.1 = b := fun e2 => e (by rw [e', e2])
      simpa using this
  · intro p hm
    obtain ⟨hm, hne⟩ := List.mem_filter.1 hm
    have e : key p.1 ≠ key b := fun e => by
      have := key_inj e
      simp [this] at hne
    rw [has_del_other e, atKey_del_other e]
    exact hat p hm
  · exact List.Nodup.sublist ((List.filter_sublist).map _) h.nd
  · have := List.length_filter_le (fun p : Nat × Nat => !(p.1 == b)) M
    have := h.sm
    omega
end Go.Proofs.Ytliljdencaocaaa
