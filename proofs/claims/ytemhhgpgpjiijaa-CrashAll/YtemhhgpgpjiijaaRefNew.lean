/- The document's disk: New. -/
import Derived.Test.YtemhhgpgpjiijaaRefFail
namespace Go.Proofs.Ytemhhgpgpjiijaa
open Go.RowKit Go.Maps

set_option maxHeartbeats 400000 in
theorem new_arg (n : Int) (h : n < 1 ∨ 2048 < n) (w : World) : Calls Try.prog 40 #[.int .i64 n] w fun e w' => e = .returned (.tuple #[.pointer none, .int .i64 1]) ∧ w' = w := by
  by_cases h1 : n < 1
  · go_enter Try.func40, Try.ntmps40
    go_wp2
    go_ret2
    exact ⟨rfl, rfl⟩
  · have h2 : 2048 < n := by omega
    go_enter Try.func40, Try.ntmps40
    go_wp2
    go_ret2
    exact ⟨rfl, rfl⟩

theorem made128 (w : World) : (Instr.makeSlice 42 (.int .i64 128) (.int .i64 128)).run Try.prog w = .ok (.slice (some ⟨w.heap.size, 0, none⟩) 128 128) (w.alloc (.cells (secA zer) 5)) := by
  obtain ⟨i0, hi, hz0, hz1, hz2⟩ := info_parts info5
  have h := run_makeSlice (P := Try.prog) w 42 5 i0 (.int .u8 0) Try.underlying42 hi hz0 .i64 .i64 128 128 (by omega) (by omega) (by rw [hz1]; decide) (by rw [hz2]; decide) (by omega)
  rw [hz1] at h
  have e : madeCells (Value.int .u8 0).cells ((128 : Int).toNat * 1) = secA zer := by
    apply Array.toList_inj.1
    rw [show (128 : Int).toNat = 128 from rfl, made_list _ _ rfl]
    simp [secA, zer]
  rw [e] at h
  exact h

/-- A disk of the document that is being made: j of its blocks are there, whose bytes are L. -/
structure RN (B : Nat) (w : World) (x n j : Nat) (bv fv : Value) (gB : List (Nat × Nat)) (L : Nat → List Int) : Prop where
  row : w.heap[x]? = some (.cells #[bv, .slice none 0 0, fv, .int .i64 0] 92 (0, 0))
  bs : w.ownsRow B 42 1 bv j (gB.map slc)
  bel : ∀ (i : Nat) (p : Nat × Nat), gB[i]? = some p → Own B w p.1 128 p.2 (L i)
  fs : w.ownsRow B 3 1 fv n (List.replicate n (.int .i64 0))
  lo : B ≤ x

section
variable {B : Nat} {w w' : World} {x n j : Nat} {bv fv : Value} {gB : List (Nat × Nat)} {L : Nat → List Int}

theorem RN.len (h : RN B w x n j bv fv gB L) : gB.length = j := by have := h.bs.1; simpa using this

theorem RN.later (h : RN B w x n j bv fv gB L) (hb : Below w.heap.size w w') : RN B w' x n j bv fv gB L :=
  { row := (hb.block x (Array.getElem?_eq_some_iff.1 h.row).1).trans h.row
    bs := ownsRow_kept h.bs (fun k hk => hb.block k (h.bs.lt k hk).2)
    bel := fun i p hp => (h.bel i p hp).kept hb
    fs := ownsRow_kept h.fs (fun k hk => hb.block k (h.fs.lt k hk).2)
    lo := h.lo }

theorem row_set {cs : Array Value} {t : TypeId} (h : w.heap[x]? = some (.cells cs t (0, 0))) (i : Nat) (v : Value) : (w.setCell ⟨x, i, none⟩ v).heap[x]? = some (.cells (cs.setIfInBounds i v) t (0, 0)) :=
  heap_setCell_same w x i _ t v h

theorem not_row {cs : Array Value} {t : TypeId} (h : w.heap[x]? = some (.cells cs t (0, 0))) {e : TypeId} {s m : Nat} {v : Value} {Lx : List Value} (hv : w.ownsRow B e s v m Lx) (hne : e ≠ t) : v.ownBlock ≠ some x := by
  intro hg
  obtain ⟨cs', hc⟩ := own_ty hv hg
  rw [h] at hc
  simp only [Option.some.injEq, Obj.cells.injEq] at hc
  exact hne hc.2.1.symm

theorem RN.at0 (h : RN B w x n j bv fv gB L) (hg : w.grownBy w' bv.ownBlock) : w'.cell? ⟨x, 0, none⟩ = some bv ∧ w'.frozen? ⟨x, 0, none⟩ = false := by
  have hxb := not_row h.row h.bs (by decide)
  have hrow : w'.heap[x]? = _ := (hg.block x (Array.getElem?_eq_some_iff.1 h.row).1 (fun e => hxb e.symm)).trans h.row
  exact ⟨by rw [cell_of_row _ x 0 _ _ _ hrow]; rfl, by simp [World.frozen?, hrow]⟩

/-- One block more. -/
theorem RN.push (h : RN B w x n j bv fv gB L) {p : Nat × Nat} (hp : Own B w p.1 128 p.2 (L j)) {v : Value} (hown : w'.ownsRow B 42 1 v (j + 1) (gB.map slc ++ [slc p])) (hg : w.grownBy w' bv.ownBlock) : RN B (w'.setCell ⟨x, 0, none⟩ v) x n (j + 1) v fv (gB ++ [p]) L := by
  have hxb := not_row h.row h.bs (by decide)
  have hrow : w'.heap[x]? = _ := (hg.block x (Array.getElem?_eq_some_iff.1 h.row).1 (fun e => hxb e.symm)).trans h.row
  have hxv := not_row hrow hown (by decide)
  have hk : ∀ k, k ≠ x → (w'.setCell ⟨x, 0, none⟩ v).heap[k]? = w'.heap[k]? := fun k hk => Below.heap_setCell w' ⟨x, 0, none⟩ _ k hk
  have hk5 : ∀ {g c : Nat} {xs : List Int}, Own B w g 128 c xs → Own B (w'.setCell ⟨x, 0, none⟩ v) g 128 c xs := by
    intro g c xs ho
    refine ownsRow_kept ho (fun k hk' => ?_)
    have h1 : k ≠ x := by rintro rfl; exact not_row h.row ho (by decide) hk'
    rw [hk k h1]
    exact hg.block k (World.ownsRow.lt ho k hk').2 (fun e => owns_ne ho h.bs (by decide) hk' e.symm)
  refine ⟨row_set hrow 0 v, ?_, ?_, ?_, h.lo⟩
  · rw [List.map_append]
    exact ownsRow_kept hown (fun k hk' => hk k (by rintro rfl; exact hxv hk'))
  · intro i q hq
    have hl := h.len
    by_cases hi : i < j
    · rw [List.getElem?_append_left (by omega)] at hq
      exact hk5 (h.bel i q hq)
    · rw [List.getElem?_append_right (by omega)] at hq
      have hi0 : i - gB.length = 0 := by have := (List.getElem?_eq_some_iff.1 hq).1; simpa using this
      rw [hi0] at hq
      simp at hq
      subst hq
      obtain rfl : i = j := by omega
      exact hk5 hp
  · refine ownsRow_kept h.fs (fun k hk' => ?_)
    have h1 : k ≠ x := by rintro rfl; exact not_row h.row h.fs (by decide) hk'
    rw [hk k h1]
    exact hg.block k (h.fs.lt k hk').2 (fun e => owns_ne h.fs h.bs (by decide) hk' e.symm)

theorem RN.ri (h : RN B w x n n bv fv gB L) : RI B w x bv (.slice none 0 0) fv gB [] ⟨n, L, [], 0, fun _ => 0⟩ :=
  { row := h.row
    bs := h.bs
    bel := h.bel
    qs := World.ownsRow_nil _ _ _ _
    qlen := rfl
    qel := by simp
    fs := by
      have e : (List.range n).map (fun _ => Value.int .i64 0) = List.replicate n (.int .i64 0) := by simp [List.map_const']
      rw [e]
      exact h.fs
    lo := h.lo }
end

end Go.Proofs.Ytemhhgpgpjiijaa
