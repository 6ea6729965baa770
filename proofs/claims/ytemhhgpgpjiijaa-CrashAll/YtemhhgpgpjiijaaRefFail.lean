/- The document's disk: Read, Fail. -/
import Derived.Test.YtemhhgpgpjiijaaRef
namespace Go.Proofs.Ytemhhgpgpjiijaa
open Go.RowKit Go.Maps

section
variable {B : Nat} {w w' : World} {x : Nat} {bv qv fv : Value} {gB gQ : List (Nat × Nat)} {S : St}

theorem RI.rows_ne (h : RI B w x bv qv fv gB gQ S) {B' : Nat} {e : TypeId} {s n : Nat} {v : Value} {L : List Value} (hv : w.ownsRow B' e s v n L) (hne : e ≠ 5) {g : Nat} (hg : v.ownBlock = some g) : ¬ rrows gB gQ g := by
  intro hr
  obtain ⟨c, xs, ho⟩ := h.rowOwn hr
  exact owns_ne hv ho hne hg rfl

theorem RI.x_ne (h : RI B w x bv qv fv gB gQ S) {B' : Nat} {e : TypeId} {s n : Nat} {v : Value} {L : List Value} (hv : w.ownsRow B' e s v n L) (hne : e ≠ 92) {g : Nat} (hg : v.ownBlock = some g) : x ≠ g := by
  rintro rfl
  obtain ⟨cs, hc⟩ := own_ty hv hg
  rw [h.row] at hc
  simp only [Option.some.injEq, Obj.cells.injEq] at hc
  exact hne hc.2.1.symm

/-- One count of failures is set. -/
theorem RI.setFl (h : RI B w x bv qv fv gB gQ S) {g cap : Nat} (hfv : fv = .slice (some ⟨g, 0, none⟩) S.N cap) (b : Nat) (t : Int) : RI B (w.setCell ⟨g, b, none⟩ (.int .i64 t)) x bv qv fv gB gQ { S with fl := upd S.fl b t } ∧ Frame (rfoot x bv qv fv) w (w.setCell ⟨g, b, none⟩ (.int .i64 t)) := by
  subst hfv
  have hk : ∀ k, k ≠ g → (w.setCell ⟨g, b, none⟩ (.int .i64 t)).heap[k]? = w.heap[k]? := fun k hk => Below.heap_setCell w ⟨g, b, none⟩ _ k hk
  have hr := h.rows_ne h.fs (by decide) (g := g) rfl
  have hx := h.x_ne h.fs (by decide) (g := g) rfl
  have hs := (h.fs.stored b (.int .i64 t)).1
  have hl : ((List.range S.N).map fun b => Value.int .i64 (S.fl b)).set b (.int .i64 t) = (List.range S.N).map fun y => Value.int .i64 (upd S.fl b t y) := by
    apply List.ext_getElem
    · simp
    · intro i h1 h2
      rw [List.getElem_set]
      by_cases e : b = i
      · subst e; simp [upd]
      · rw [if_neg e]
        simp [upd, Ne.symm e]
  rw [hl] at hs
  refine ⟨{ row := (hk x hx).trans h.row, bs := ownsRow_kept h.bs (fun k hk' => hk k (by rintro rfl; exact owns_ne h.bs h.fs (by decide) hk' rfl)), bel := fun i p hp => ownsRow_kept (h.bel i p hp) (fun k hk' => hk k (by rintro rfl; exact hr (.inl ⟨p, List.mem_of_getElem? hp, by simpa [Value.ownBlock] using hk'⟩))), qs := ownsRow_kept h.qs (fun k hk' => hk k (by rintro rfl; exact owns_ne h.qs h.fs (by decide) hk' rfl)), qlen := h.qlen, qel := fun i y p hy hp => ownsRow_kept (h.qel i y p hy hp) (fun k hk' => hk k (by rintro rfl; exact hr (.inr ⟨p, List.mem_of_getElem? hp, by simpa [Value.ownBlock] using hk'⟩))), fs := hs, lo := h.lo }, Frame.setCell w _ (.inr (.inr (.inr rfl)))⟩

theorem RI.fcell (h : RI B w x bv qv fv gB gQ S) {g cap : Nat} (hfv : fv = .slice (some ⟨g, 0, none⟩) S.N cap) {b : Nat} (hb : b < S.N) : w.cell? ⟨g, b, none⟩ = some (.int .i64 (S.fl b)) := by
  subst hfv
  rw [h.fs.cellAt b (by omega)]
  simp [hb]

theorem RI.bcell (h : RI B w x bv qv fv gB gQ S) {g cap : Nat} (hbv : bv = .slice (some ⟨g, 0, none⟩) S.N cap) {b : Nat} (hb : b < S.N) : ∃ p, gB[b]? = some p ∧ w.cell? ⟨g, b, none⟩ = some (slc p) ∧ Own B w p.1 128 p.2 (S.f b) := by
  subst hbv
  have hl := h.blen
  refine ⟨gB[b]'(by omega), List.getElem?_eq_getElem _, ?_, h.bel b _ (List.getElem?_eq_getElem (by omega))⟩
  rw [h.bs.cellAt b (by omega), List.getElem?_map, List.getElem?_eq_getElem (by omega)]
  rfl

theorem RI.bcase (h : RI B w x bv qv fv gB gQ S) (h1 : 1 ≤ S.N) : ∃ g cap, bv = .slice (some ⟨g, 0, none⟩) S.N cap := by
  obtain ⟨p, c, e, hp⟩ := row_case h.bs
  obtain ⟨g, rfl⟩ := hp (by omega)
  exact ⟨g, c, e⟩
theorem RI.fcase (h : RI B w x bv qv fv gB gQ S) (h1 : 1 ≤ S.N) : ∃ g cap, fv = .slice (some ⟨g, 0, none⟩) S.N cap := by
  obtain ⟨p, c, e, hp⟩ := row_case h.fs
  obtain ⟨g, rfl⟩ := hp (by omega)
  exact ⟨g, c, e⟩

theorem rhas_true (h : RI B w x bv qv fv gB gQ S) (b : Nat) (hb : b < S.N) : Calls Try.prog 46 #[.pointer (some ⟨x, 0, none⟩), .int .i64 (b : Int)] w fun e w' => e = .returned (.bool true) ∧ w' = w := by
  have := rhas_ok h b
  rwa [show (decide ((0 : Int) ≤ (b : Int)) && decide ((b : Int) < (S.N : Int))) = true by simp; omega] at this
theorem rhas_false (h : RI B w x bv qv fv gB gQ S) (b : Int) (hb : ¬ (0 ≤ b ∧ b < S.N)) : Calls Try.prog 46 #[.pointer (some ⟨x, 0, none⟩), .int .i64 b] w fun e w' => e = .returned (.bool false) ∧ w' = w := by
  have := rhas_ok h b
  rwa [show (decide ((0 : Int) ≤ b) && decide (b < (S.N : Int))) = false by simp; omega] at this

end
end Go.Proofs.Ytemhhgpgpjiijaa
