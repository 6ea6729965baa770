/- A map of what was put: which blocks, and where the bytes lie. -/
import Derived.Test.YtliljdencaocaaaCOld
import Derived.Maps.RangeWalk
namespace Go.Proofs.Ytliljdencaocaaa
open Go.RowKit Go.Maps
set_option linter.unusedVariables false

def slR : Value → Option (DataW Unit × List MemPlace)
  | .slice none 0 0 => some (nilD, [])
  | .slice (some ⟨g, 0, none⟩) 128 128 => some (adr g, [])
  | _ => none
theorem slR_nil : slR (.slice none 0 0) = some (nilD, []) := rfl
theorem slR_mk (g : Nat) : slR (.slice (some ⟨g, 0, none⟩) 128 128) = some (adr g, []) := rfl
theorem slR_inv {v : Value} {g : Nat} {ps : List MemPlace} (h : slR v = some (adr g, ps)) : v = .slice (some ⟨g, 0, none⟩) 128 128 := by
  unfold slR at h
  split at h
  · simp [nilD, adr] at h
  · rename_i g'
    simp [adr] at h
    obtain rfl : g' = g := by omega
    rfl
  · cases h
theorem slR_inv0 {v : Value} {ps : List MemPlace} (h : slR v = some (nilD, ps)) : v = .slice none 0 0 := by
  unfold slR at h
  split at h
  · rfl
  · simp [nilD, adr] at h
  · cases h
theorem slR_sh {v : Value} {y : DataW Unit × List MemPlace} (h : slR v = some y) : ∃ c : Option Nat, v = (match c with | none => .slice none 0 0 | some g => .slice (some ⟨g, 0, none⟩) 128 128) := by
  unfold slR at h
  split at h
  · exact ⟨none, rfl⟩
  · rename_i g'
    exact ⟨some g', rfl⟩
  · cases h
theorem zero29 (w : World) : (zeroValue 29).run Try.prog w = .ok (.slice none 0 0) w := by kernel_rfl

/-- Its keys are numbers below twelve. -/
def Kb (D : DataW Unit) : Prop := ∀ x, has D x = true → ∃ b, b < 12 ∧ x = key b
theorem size12 {R : Value → Option (DataW Unit × List MemPlace)} {w : World} {mb n : Nat} {D : DataW Unit} (ho : w.ownsMap Try.prog 3 R mb n D) (hk : Kb D) : size D ≤ 12 := by
  obtain ⟨es, rfl, hp, hkl⟩ := ho.entries keyed3
  have h1 : (es.map (·.1)).Nodup := by
    rw [List.Nodup, List.pairwise_map]
    exact hp
  have h2 := List.Nodup.length_le_of_subset h1 (l₂ := (List.range 12).map key) (by
    intro x hx
    obtain ⟨p, hm, rfl⟩ := List.mem_map.1 hx
    obtain ⟨b, hb, e⟩ := hk p.1 (by
      simp only [has, List.any_eq_true]
      exact ⟨p, hm, WideAt.sameKey_self (hkl p hm)⟩)
    exact List.mem_map.2 ⟨b, List.mem_range.2 hb, e.symm⟩)
  simpa [size] using h2

def PtD (D : DataW Unit) (P : Nat → Option Nat) : Prop := Kb D ∧ ∀ b, b < 12 → (P b = none → has D (key b) = false) ∧ ∀ g, P b = some g → has D (key b) = true ∧ ∀ z, D.atKey (key b) z = adr g
/-- Block mb is a map that leads from each block b with P b = some g to the bytes at g. -/
def Pt (w : World) (mb : Nat) (P : Nat → Option Nat) : Prop := ∃ D, w.ownsMap Try.prog 3 slR mb (size D) D ∧ PtD D P

theorem pt_made (w : World) : Pt (w.alloc (.map #[] 0)) w.heap.size (fun _ => none) :=
  ⟨.map [], w.ownsMap_made _ _ _, fun x h => by simp [has] at h, fun b _ => ⟨fun _ => by simp [has], fun g h => by cases h⟩⟩
theorem Pt.lt {w : World} {mb : Nat} {P : Nat → Option Nat} (h : Pt w mb P) : mb < w.heap.size := by
  obtain ⟨D, ho, _⟩ := h
  exact ho.lt
theorem Pt.kept {w w' : World} {mb : Nat} {P : Nat → Option Nat} (h : Pt w mb P) (hb : w'.heap[mb]? = w.heap[mb]?) : Pt w' mb P := by
  obtain ⟨D, ⟨es, c, ho, r⟩, k⟩ := h
  exact ⟨D, ⟨es, c, hb.trans ho, r⟩, k⟩
theorem Pt.isMap {w : World} {mb : Nat} {P : Nat → Option Nat} (h : Pt w mb P) : ∃ es c, w.heap[mb]? = some (.map es c) := by
  obtain ⟨D, ⟨es, c, ho, r⟩, k⟩ := h
  exact ⟨es, c, ho⟩
def ptV : Option Nat → Value
  | none => .slice none 0 0
  | some g => .slice (some ⟨g, 0, none⟩) 128 128
theorem Pt.look {w : World} {mb : Nat} {P : Nat → Option Nat} (h : Pt w mb P) (b : Nat) (hb : b < 12) :
    (Instr.lookup 48 (.map (some mb)) (.int .i64 (b : Int)) true).run Try.prog w = .ok (.tuple #[ptV (P b), .bool (P b).isSome]) w := by
  obtain ⟨D, ho, _, hp⟩ := h
  obtain ⟨v, ps, hr, hv⟩ := ho.look_ok keyed3 Try.underlying48 (zero29 w) slR_nil (key_of (b := b) (by omega))
  rw [hr]
  cases e : P b with
  | none =>
    rw [atKey_of_not_has ((hp b hb).1 e)] at hv
    rw [slR_inv0 hv, (hp b hb).1 e]
    rfl
  | some g =>
    obtain ⟨h1, h2⟩ := (hp b hb).2 g e
    rw [h2] at hv
    rw [slR_inv hv, h1]
    rfl
theorem key_ne {a b : Nat} (h : a ≠ b) : key a ≠ key b := fun e => h (key_inj e)
theorem PtD.put {D : DataW Unit} {P : Nat → Option Nat} (h : PtD D P) (hm : IsMap D) (b g : Nat) (hb : b < 12) : PtD (D.put (key b) (adr g)) (fun k => if k = b then some g else P k) := by
  refine ⟨fun x hx => ?_, fun k hk => ?_⟩
  · by_cases e : x = key b
    · exact ⟨b, hb, e⟩
    · rw [has_put_other e] at hx
      exact h.1 x hx
  · by_cases e : k = b
    · subst e
      simp only [if_true]
      refine ⟨fun h => (by cases h), fun g' e => ?_⟩
      cases e
      exact ⟨has_put_same hm (key_is _) _, fun z => atKey_put_same hm (key_is _) _ _⟩
    · simp only [if_neg e]
      rw [has_put_other (key_ne e)]
      refine ⟨(h.2 k hk).1, fun g' e' => ?_⟩
      obtain ⟨h1, h2⟩ := (h.2 k hk).2 g' e'
      exact ⟨h1, fun z => by rw [atKey_put_other (key_ne e)]; exact h2 z⟩
theorem PtD.del {D : DataW Unit} {P : Nat → Option Nat} (h : PtD D P) (b : Nat) : PtD (D.del (key b)) (fun k => if k = b then none else P k) := by
  refine ⟨fun x hx => ?_, fun k hk => ?_⟩
  · by_cases e : x = key b
    · subst e; rw [has_del_same] at hx; cases hx
    · rw [has_del_other e] at hx
      exact h.1 x hx
  · by_cases e : k = b
    · subst e
      simp only [if_true]
      exact ⟨fun _ => has_del_same, fun g' e => (by cases e)⟩
    · simp only [if_neg e]
      rw [has_del_other (key_ne e)]
      refine ⟨(h.2 k hk).1, fun g' e' => ?_⟩
      obtain ⟨h1, h2⟩ := (h.2 k hk).2 g' e'
      exact ⟨h1, fun z => by rw [atKey_del_other (key_ne e)]; exact h2 z⟩
theorem Pt.store {w : World} {mb : Nat} {P : Nat → Option Nat} (h : Pt w mb P) (b g : Nat) (hb : b < 12) :
    ∃ w', (Instr.mapUpdate 48 (.map (some mb)) (.int .i64 (b : Int)) (.slice (some ⟨g, 0, none⟩) 128 128)).run Try.prog w = .ok () w' ∧ Pt w' mb (fun k => if k = b then some g else P k) ∧ w.grownBy w' (some mb) := by
  obtain ⟨D, ho, hp⟩ := h
  have h12 := size12 ho hp.1
  obtain ⟨w', hr, ho', hg⟩ := ho.update keyed3 Try.underlying48 (show size D < maxLen by unfold maxLen; omega) (key_of (b := b) (by omega)) (slR_mk g)
  exact ⟨w', hr, ⟨_, tight ho', hp.put ho.isMap b g hb⟩, hg⟩

set_option maxHeartbeats 400000 in
theorem icontains_ok (p : Option Addr) (n c : Nat) (xs : List Int) (x : Int) (w : World) (h : II w p n xs) :
    Calls Try.prog 18 #[.slice p n c, .int .i64 x] w fun e w' => e = .returned (.bool (decide (x ∈ xs))) ∧ w' = w := by
  have hi := index_ok p n c xs x w h
  obtain ⟨r, HR⟩ : ∃ f : Int → Bool, ∀ k, Idx xs x k → f k = decide (x ∈ xs) ∧ (decide (0 ≤ k) = f k) := by
    refine ⟨fun k => decide (0 ≤ k), fun k hk => ⟨?_, rfl⟩⟩
    rcases hk with ⟨hn, rfl⟩ | ⟨i, rfl, hl, hv, _⟩
    · simp [hn]
    · have : x ∈ xs := by rw [← hv]; exact getD_mem hl
      simp [this]
  have HH := (show Hid _ from HR)
  clear HR
  go_enter Try.func18, Try.ntmps18
  go_wp2_with (first | (go_at_call 28; refine Calls.mono hi ?_; rintro e w' ⟨k, rfl, hk, rfl⟩))
  go_ret
  obtain ⟨e1, e2⟩ := HH.out k hk
  exact ⟨by rw [← e1, ← e2]; first | rfl | exact ret_bool (by simp), rfl⟩
end Go.Proofs.Ytliljdencaocaaa
