/- The document's disk: one block set, another queue. -/
import Derived.Test.YtemhhgpgpjiijaaRefWrite
import Derived.Test.YtemhhgpgpjiijaaComplete
namespace Go.Proofs.Ytemhhgpgpjiijaa
open Go.RowKit Go.Maps

theorem rflat_append (g1 g2 : List (Nat × Nat)) (q1 q2 : List Wr) (h : g1.length = q1.length) : rflat (g1 ++ g2) (q1 ++ q2) = rflat g1 q1 ++ rflat g2 q2 := by
  simp [rflat, List.zip_append h]
theorem rflat_len : ∀ (gs : List (Nat × Nat)) (q : List Wr), gs.length = q.length → (rflat gs q).length = q.length * 3
  | [], [], _ => rfl
  | g :: gs, y :: r, h => by
    have ih := rflat_len gs r (by simpa using h)
    have e : rflat (g :: gs) (y :: r) = rsent g y ++ rflat gs r := by simp [rflat]
    rw [e, List.length_append, ih]
    simp [rsent]; omega
  | [], y :: r, h => by simp at h
  | g :: gs, [], h => by simp at h
theorem rflat_one (gs : List (Nat × Nat)) (q : List Wr) : ∀ u ∈ rflat gs q, u.oneCell' = true := by
  intro u hu
  obtain ⟨p, _, hp⟩ := List.mem_flatMap.1 hu
  simp [rsent, slc] at hp
  rcases hp with rfl | rfl | rfl <;> rfl
theorem rflat_split (gs : List (Nat × Nat)) (q : List Wr) (h : gs.length = q.length) (i : Nat) (hi : i ≤ q.length) : rflat (gs.take i) (q.take i) = (rflat gs q).take (i * 3) ∧ rflat (gs.drop i) (q.drop i) = (rflat gs q).drop (i * 3) := by
  have e := rflat_append (gs.take i) (gs.drop i) (q.take i) (q.drop i) (by simp [h])
  rw [List.take_append_drop, List.take_append_drop] at e
  have hl : (rflat (gs.take i) (q.take i)).length = i * 3 := by rw [rflat_len _ _ (by simp [h])]; simp; omega
  rw [e]
  exact ⟨by rw [List.take_left' hl], by rw [List.drop_left' hl]⟩

section
variable {B : Nat} {w w' : World} {x : Nat} {bv qv fv : Value} {gB gQ : List (Nat × Nat)} {S : St}

/-- One block of the disk is set. -/
theorem RI.setB (h : RI B w x bv qv fv gB gQ S) {g cap : Nat} (hbv : bv = .slice (some ⟨g, 0, none⟩) S.N cap) {b : Nat} (hb : b < S.N) {p : Nat × Nat} {xs : List Int} (hp : Own B w p.1 128 p.2 xs) : RI B (w.setCell ⟨g, b, none⟩ (slc p)) x bv qv fv (gB.set b p) gQ { S with f := upd S.f b xs } ∧ Frame (rfoot x bv qv fv) w (w.setCell ⟨g, b, none⟩ (slc p)) := by
  subst hbv
  have hk : ∀ k, k ≠ g → (w.setCell ⟨g, b, none⟩ (slc p)).heap[k]? = w.heap[k]? := fun k hk => Below.heap_setCell w ⟨g, b, none⟩ _ k hk
  have hkr : ∀ {e : TypeId} {s m : Nat} {u : Value} {Lx : List Value}, w.ownsRow B e s u m Lx → e ≠ 42 → (w.setCell ⟨g, b, none⟩ (slc p)).ownsRow B e s u m Lx := fun ho h30 => ownsRow_kept ho (fun k hk' => hk k (by rintro rfl; exact owns_ne ho h.bs h30 hk' rfl))
  have hx := h.x_ne h.bs (by decide) (g := g) rfl
  have hs := (h.bs.stored b (slc p)).1
  rw [← List.map_set] at hs
  refine ⟨⟨(hk x hx).trans h.row, hs, ?_, hkr h.qs (by decide), h.qlen, fun i z q hz hq => hkr (h.qel i z q hz hq) (by decide), hkr h.fs (by decide), h.lo⟩, Frame.setCell w _ (.inr (.inl rfl))⟩
  intro i q hq
  have hl := h.blen
  unfold upd
  by_cases e : i = b
  · subst e
    rw [List.getElem?_set_self (by omega)] at hq
    cases hq
    show Own _ _ _ _ _ (if i = i then xs else S.f i)
    rw [if_pos rfl]
    exact hkr hp (by decide)
  · rw [List.getElem?_set_ne (Ne.symm e)] at hq
    show Own _ _ _ _ _ (if i = b then xs else S.f i)
    rw [if_neg e]
    exact hkr (h.bel i q hq) (by decide)

theorem rrows_set {b : Nat} {p : Nat × Nat} {H : Nat} (hp : H ≤ p.1) : ∀ k, rrows (gB.set b p) gQ k → rrows gB gQ k ∨ H ≤ k := by
  rintro k (⟨q, hq, rfl⟩ | h)
  · rcases List.mem_or_eq_of_mem_set hq with hq | rfl
    · exact .inl (.inl ⟨q, hq, rfl⟩)
    · exact .inr hp
  · exact .inl (.inr h)

/-- The queue is another row. -/
theorem RI.newQ (h : RI B w x bv qv fv gB gQ S) {v : Value} {gQ' : List (Nat × Nat)} {q' : List Wr} (hb : Below w.heap.size w w') (hown : w'.ownsRow B 44 3 v q'.length (rflat gQ' q')) (hl : gQ'.length = q'.length) (hel : ∀ (i : Nat) (y : Wr) (p : Nat × Nat), q'[i]? = some y → gQ'[i]? = some p → Own B w p.1 128 p.2 y.bytes) : RI B (w'.setCell ⟨x, 1, none⟩ v) x bv v fv gB gQ' { S with q := q' } := by
  have h' := h.later hb
  have hxv := not_row h'.row hown (by decide)
  have hk : ∀ k, k ≠ x → (w'.setCell ⟨x, 1, none⟩ v).heap[k]? = w'.heap[k]? := fun k hk => Below.heap_setCell w' ⟨x, 1, none⟩ _ k hk
  have hkr : ∀ {e : TypeId} {s m : Nat} {u : Value} {Lx : List Value}, w'.ownsRow B e s u m Lx → e ≠ 92 → (w'.setCell ⟨x, 1, none⟩ v).ownsRow B e s u m Lx := fun ho h71 => ownsRow_kept ho (fun k hk' => hk k (by rintro rfl; exact not_row h'.row ho h71 hk'))
  exact ⟨row_set h'.row 1 v, hkr h'.bs (by decide), fun i q hq => hkr (h'.bel i q hq) (by decide), hkr hown (by decide), hl, fun i y p hy hp => hkr ((hel i y p hy hp).kept hb) (by decide), hkr h'.fs (by decide), h.lo⟩

theorem ownsRow_base {B' : Nat} {e : TypeId} {s m : Nat} {u : Value} {Lx : List Value} (ho : w.ownsRow B e s u m Lx) (hB : B' ≤ B) : w.ownsRow B' e s u m Lx := by
  refine ⟨ho.1, ?_⟩
  rcases ho.2 with h' | ⟨g', cap', cur, h', hbg, rest⟩
  · exact .inl h'
  · exact .inr ⟨g', cap', cur, h', by omega, rest⟩

theorem cell_other (w : World) {g k i j : Nat} (hne : g ≠ k) (u : Value) : (w.setCell ⟨g, i, none⟩ u).cell? ⟨k, j, none⟩ = w.cell? ⟨k, j, none⟩ :=
  World.cell?_of_block (w := w) (Below.heap_setCell w ⟨g, i, none⟩ u k (Ne.symm hne))

theorem erase_split {α : Type} (l : List α) (i : Nat) : l.take i ++ l.drop (i + 1) = l.eraseIdx i := (List.eraseIdx_eq_take_drop_succ l i).symm

/-- Both appends: what stands before write i, and what stands behind it. -/
theorem two_appends (h : RI B w x bv qv fv gB gQ S) {g n qc i : Nat} (hqv : qv = .slice (some ⟨g, 0, none⟩) n qc) (hn : n = S.q.length) (hi : i < n) (h64 : n ≤ 64) (ad : Addr) (had : ad = ⟨g, (i + 1) * 3, none⟩ ∨ n = i + 1) (c2 : Nat) :
    ∃ v4 w4 v5 w5, (Builtin.append_ #[29, 29] 29 #[.slice (some ⟨w.heap.size, 0, none⟩) 0 0, .slice (some ⟨g, 0, none⟩) i qc]).run Try.prog (w.alloc (.cells #[] 44)).drew = .ok v4 w4 ∧ (Builtin.append_ #[29, 29] 29 #[v4, .slice (some ad) (n - (i + 1)) c2]).run Try.prog w4 = .ok v5 w5 ∧ Below w.heap.size w w4 ∧ Below w.heap.size w w5 ∧ w5.ownsRow w.heap.size 44 3 v5 (S.q.eraseIdx i).length (rflat (gQ.eraseIdx i) (S.q.eraseIdx i)) := by
  obtain ⟨i52, hi52, hz0, hz1, hz2⟩ := info_parts info52
  have hl := h.qlen
  have b0 : Below w.heap.size w (w.alloc (.cells #[] 44)).drew := ((Below.refl w.heap.size w).alloc (Nat.le_refl _) (.cells #[] 44)).drew
  have hq0 := h.qs_at hqv hn rfl
  have hgl := (hq0.lt g rfl).2
  have hcell : ∀ {W : World}, Below w.heap.size w W → ∀ (j : Nat) (u : Value), (rflat gQ S.q)[j]? = some u → W.cell? ⟨g, j, none⟩ = some u := fun hW j u hu => by
    rw [hW.cell (p := ⟨g, j, none⟩) hgl, hq0.cellAt j (by have := (List.getElem?_eq_some_iff.1 hu).1; have := hq0.1; omega), hu]
  have hsp1 := rflat_split gQ S.q hl i (by omega)
  have hsp2 := rflat_split gQ S.q hl (i + 1) (by omega)
  have hlen := rflat_len gQ S.q hl
  have hmade : ((w.alloc (.cells #[] 44)).drew).ownsRow w.heap.size 44 3 (.slice (some ⟨w.heap.size, 0, none⟩) 0 0) 0 [] := World.ownsRow_made w #[] 0 (Nat.le_refl _) (Nat.zero_le _) rfl
  obtain ⟨v4, w4, hr4, ho4, hg4, _⟩ := run_append_own (P := Try.prog) (w.alloc (.cells #[] 44)).drew w.heap.size 29 29 44 i52 _ 3 40 Try.underlying29 hi52 hz0 hz1 hz2 rfl (by decide) _ 0 [] hmade ⟨g, 0, none⟩ i qc ((rflat gQ S.q).take (i * 3)) (by rw [List.length_take, hlen]; omega)
    (fun j u hu => by
      rw [Addr.add_mid, Nat.zero_add]
      have hj : j < i * 3 := by have := (List.getElem?_eq_some_iff.1 hu).1; rw [List.length_take] at this; omega
      rw [List.getElem?_take_of_lt hj] at hu
      exact hcell b0 j u hu)
    (fun u hu => rflat_one gQ S.q u (List.mem_of_mem_take hu)) (by unfold maxLen; omega) (by omega) b0.size
  have b4 : Below w.heap.size w w4 := b0.grown hg4 b0.size (fun k hk => (hmade.lt k hk).1)
  rw [Nat.zero_add, List.nil_append] at ho4
  obtain ⟨v5, w5, hr5, ho5, hg5, _⟩ := run_append_own (P := Try.prog) w4 w.heap.size 29 29 44 i52 _ 3 40 Try.underlying29 hi52 hz0 hz1 hz2 rfl (by decide) v4 i _ ho4 ad (n - (i + 1)) c2 ((rflat gQ S.q).drop ((i + 1) * 3)) (by rw [List.length_drop, hlen]; omega)
    (fun j u hu => by
      rcases had with rfl | e
      · rw [Addr.add_mid]
        rw [List.getElem?_drop] at hu
        exact hcell b4 _ u hu
      · rw [List.drop_of_length_le (by rw [hlen]; omega)] at hu
        simp at hu)
    (fun u hu => rflat_one gQ S.q u (List.mem_of_mem_drop hu)) (by unfold maxLen; omega) (by omega) b4.size
  refine ⟨v4, w4, v5, w5, hr4, hr5, b4, b4.grown hg5 b4.size (fun k hk => (ho4.lt k hk).1), ?_⟩
  have e1 : (S.q.eraseIdx i).length = i + (n - (i + 1)) := by rw [List.length_eraseIdx_of_lt (by omega)]; omega
  rw [e1, ← erase_split, ← erase_split, rflat_append _ _ _ _ (by simp [hl]), hsp1.1, hsp2.2]
  exact ho5

theorem erase_at {α : Type} {l : List α} {i j : Nat} {z : α} (h : (l.eraseIdx i)[j]? = some z) : l[if j < i then j else j + 1]? = some z := by
  rw [List.getElem?_eraseIdx] at h
  split at h <;> rename_i hj
  · rw [if_pos hj]; exact h
  · rw [if_neg hj]; exact h

theorem rrows_erase {i : Nat} : ∀ k, rrows gB (gQ.eraseIdx i) k → rrows gB gQ k := by
  rintro k (h | ⟨q, hq, rfl⟩)
  · exact .inl h
  · exact .inr ⟨q, List.mem_of_mem_eraseIdx hq, rfl⟩

end
end Go.Proofs.Ytemhhgpgpjiijaa
