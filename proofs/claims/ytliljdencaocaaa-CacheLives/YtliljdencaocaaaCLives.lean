/- CacheLives: the statement's own call returns true. Ahead of it: each call on both caches. -/
import Derived.Test.YtliljdencaocaaaRDoc2
namespace Go.Proofs.Ytliljdencaocaaa
open Go.RowKit Go.Maps
set_option linter.unusedVariables false

theorem idx_of {L : List Bf} {f : Bf} (hf : f ∈ L) : ∃ i : Nat, L[i]? = some f := List.mem_iff_getElem?.1 hf
theorem nodup_ne {L : List Bf} (hd : (L.map (·.b)).Nodup) {i k : Nat} {f u : Bf} (hi : L[i]? = some f) (hk : L[k]? = some u) (hne : k ≠ i) : ¬ u.b = f.b := by
  intro e
  have h1 := (List.getElem?_eq_some_iff.1 hi)
  have h2 := (List.getElem?_eq_some_iff.1 hk)
  obtain ⟨l1, e1⟩ := h1
  obtain ⟨l2, e2⟩ := h2
  have := (List.getElem_inj (i := k) (j := i) (h₀ := by simpa using l2) (h₁ := by simpa using l1) hd).1 (by simp [e1, e2, e])
  exact hne this

/-- The document's buffers are the program's. -/
theorem side {L : List Bf} {l : List BZ} (h : L.map Bf.abs = l.map (·.1)) {i : Nat} {f : Bf} (hf : L[i]? = some f) : ∃ z : BZ, l[i]? = some z ∧ z.1 = f.abs := by
  have e : (L.map Bf.abs)[i]? = some f.abs := by rw [List.getElem?_map, hf]; rfl
  rw [h, List.getElem?_map] at e
  cases hz : l[i]? with
  | none => rw [hz] at e; cases e
  | some z => rw [hz] at e; exact ⟨z, rfl, by simpa using e⟩
theorem side' {L : List Bf} {l : List BZ} (h : L.map Bf.abs = l.map (·.1)) {i : Nat} {z : BZ} (hz : l[i]? = some z) : ∃ f : Bf, L[i]? = some f ∧ z.1 = f.abs := by
  have e : (l.map (·.1))[i]? = some z.1 := by rw [List.getElem?_map, hz]; rfl
  rw [← h, List.getElem?_map] at e
  cases hf : L[i]? with
  | none => rw [hf] at e; cases e
  | some f => rw [hf] at e; exact ⟨f, rfl, by simpa using e.symm⟩

theorem find_hit {L : List Bf} {l : List BZ} (h : L.map Bf.abs = l.map (·.1)) (hd : (L.map (·.b)).Nodup) {f : Bf} (hf : f ∈ L) : ∃ (i : Nat) (z : BZ), L[i]? = some f ∧ l[i]? = some z ∧ z.1 = f.abs ∧ fst? l (fun u => (u.b : Int) == (f.b : Int)) = (i : Int) := by
  obtain ⟨i, hi⟩ := idx_of hf
  obtain ⟨z, hz, ez⟩ := side h hi
  refine ⟨i, z, hi, hz, ez, fst_hit hz (by rw [ez]; simp [Bf.abs]) (fun k u hk hu => ?_)⟩
  obtain ⟨g, hg, eg⟩ := side' h hu
  have := nodup_ne hd hi hg (by omega)
  rw [eg]
  simp [Bf.abs]
  omega
theorem find_miss {L : List Bf} {l : List BZ} (h : L.map Bf.abs = l.map (·.1)) {b : Nat} (hno : ∀ f ∈ L, ¬ f.b = b) : fst? l (fun u => (u.b : Int) == (b : Int)) = -1 := by
  refine fst_miss fun k u hu => ?_
  obtain ⟨g, hg, eg⟩ := side' h hu
  have := hno g (List.mem_of_getElem? hg)
  rw [eg]
  simp [Bf.abs]
  omega
theorem vic_some {L : List Bf} {l : List BZ} (h : L.map Bf.abs = l.map (·.1)) {f : Bf} (hv : vic L = some f) : ∃ i : Nat, L[i]? = some f ∧ fst? l (fun u => u.p == 0) = (i : Int) := by
  unfold vic at hv
  rw [List.find?_eq_some_iff_getElem] at hv
  obtain ⟨hp, i, hi, e, hno⟩ := hv
  have hfi : L[i]? = some f := List.getElem?_eq_some_iff.2 ⟨hi, e⟩
  obtain ⟨z, hz, ez⟩ := side h hfi
  refine ⟨i, hfi, fst_hit hz (by rw [ez]; simpa [Bf.abs] using hp) (fun k u hk hu => ?_)⟩
  obtain ⟨g, hg, eg⟩ := side' h hu
  have h1 := hno k hk
  rw [(List.getElem?_eq_some_iff.1 hg).2] at h1
  rw [eg]
  simpa [Bf.abs] using h1
theorem vic_none {L : List Bf} {l : List BZ} (h : L.map Bf.abs = l.map (·.1)) (hv : vic L = none) : fst? l (fun u => u.p == 0) = -1 := by
  refine fst_miss fun k u hu => ?_
  obtain ⟨g, hg, eg⟩ := side' h hu
  have := List.find?_eq_none.1 hv g (List.mem_of_getElem? hg)
  rw [eg]
  simpa [Bf.abs] using this
theorem outb_abs {L : List Bf} (hd : (L.map (·.b)).Nodup) {i : Nat} {f : Bf} (hi : L[i]? = some f) : (outb L f.b).map Bf.abs = (L.map Bf.abs).eraseIdx i := by
  have e : outb L f.b = L.eraseIdx i := by
    unfold outb
    induction L generalizing i with
    | nil => cases hi
    | cons a r ih =>
      rw [List.map_cons, List.nodup_cons] at hd
      cases i with
      | zero =>
        simp at hi
        subst hi
        rw [List.eraseIdx_cons_zero, List.filter_cons]
        simp only [beq_self_eq_true, Bool.not_true, Bool.false_eq_true, if_false]
        rw [List.filter_eq_self]
        intro k hk
        have : ¬ k.b = a.b := fun e => hd.1 (List.mem_map.2 ⟨k, hk, e⟩)
        simpa using this
      | succ j =>
        have hj : r[j]? = some f := by simpa using hi
        have hne : ¬ a.b = f.b := fun e => hd.1 (List.mem_map.2 ⟨f, List.mem_of_getElem? hj, e.symm⟩)
        rw [List.eraseIdx_cons_succ, List.filter_cons, if_pos (by simpa using hne), ih hd.2 hj]
  rw [e, List.eraseIdx_eq_take_drop_succ, List.eraseIdx_eq_take_drop_succ, List.map_append, List.map_take, List.map_drop]
theorem rep_abs {L : List Bf} (hd : (L.map (·.b)).Nodup) {i : Nat} {f f' : Bf} (hi : L[i]? = some f) (hb : f'.b = f.b) : (rep L f').map Bf.abs = (L.map Bf.abs).set i f'.abs := by
  have e : rep L f' = L.set i f' := by
    unfold rep
    induction L generalizing i with
    | nil => cases hi
    | cons a r ih =>
      rw [List.map_cons, List.nodup_cons] at hd
      cases i with
      | zero =>
        simp at hi
        subst hi
        rw [List.map_cons, if_pos hb.symm, List.set_cons_zero]
        congr 1
        conv => rhs; rw [← List.map_id r]
        apply List.map_congr_left
        intro k hk
        have : ¬ k.b = f'.b := fun e => hd.1 (List.mem_map.2 ⟨k, hk, by rw [e, hb]⟩)
        rw [if_neg this]
        rfl
      | succ j =>
        have hj : r[j]? = some f := by simpa using hi
        have hne : ¬ a.b = f'.b := fun e => hd.1 (List.mem_map.2 ⟨f, List.mem_of_getElem? hj, by rw [← hb, e]⟩)
        rw [List.map_cons, if_neg hne, List.set_cons_succ, ih hd.2 hj]
  rw [e, List.map_set]

/-- Both caches over their disks, in one state. -/
structure LI (B : Nat) (w : World) (c mc a dm df : Nat) (dq : Value) (y x : Nat) (lv : Value) (l : List BZ) (bv qv fv : Value) (gB gQ : List (Nat × Nat)) (C : Ch) (S : St) : Prop where
  cd : CD B w c mc a dm df dq C S
  ri : RI B w x bv qv fv gB gQ S
  rc : RC B w y x lv l C.abs

section
variable {B : Nat} {w w' : World} {c mc a dm df y x : Nat} {dq lv bv qv fv : Value} {l : List BZ} {gB gQ : List (Nat × Nat)} {C : Ch} {S : St}
theorem LI.later (h : LI B w c mc a dm df dq y x lv l bv qv fv gB gQ C S) (hb : Below w.heap.size w w') : LI B w' c mc a dm df dq y x lv l bv qv fv gB gQ C S := ⟨h.cd.later hb, h.ri.later hb, h.rc.later hb⟩
/-- What the program's cache writes is none of the document's. -/
theorem LI.keepP (h : LI B w c mc a dm df dq y x lv l bv qv fv gB gQ C S) (hf : Frame (fun k => cfoot c mc C k ∨ foot a dm df dq k) w w') : RI B w' x bv qv fv gB gQ S ∧ RC B w' y x lv l C.abs := by
  have no : ∀ {k : Nat} {cs : Array Value} {t : TypeId}, w.heap[k]? = some (.cells cs t (0, 0)) → t ≠ 56 → t ≠ 90 → t ≠ 61 → t ≠ 109 → ¬ (cfoot c mc C k ∨ foot a dm df dq k) := fun hk h1 h2 h3 h4 e => by
    rcases e with e | e
    · exact h.cd.ci.toCW.notin hk h1 h2 e
    · exact h.cd.di.notin hk h3 h4 e
  refine ⟨h.ri.kept fun k hk => hf.block k (h.ri.in hk).2 ?_, h.rc.kept fun k hk => hf.block k (h.rc.in k hk).2 ?_⟩
  · rcases hk with (rfl | e | e | e) | ⟨p, hp, rfl⟩ | ⟨p, hp, rfl⟩
    · exact no h.ri.row (by decide) (by decide) (by decide) (by decide)
    · obtain ⟨cs, e'⟩ := own_ty h.ri.bs e
      exact no e' (by decide) (by decide) (by decide) (by decide)
    · obtain ⟨cs, e'⟩ := own_ty h.ri.qs e
      exact no e' (by decide) (by decide) (by decide) (by decide)
    · obtain ⟨cs, e'⟩ := own_ty h.ri.fs e
      exact no e' (by decide) (by decide) (by decide) (by decide)
    · obtain ⟨i, hi⟩ := List.mem_iff_getElem?.1 hp
      obtain ⟨cs, e'⟩ := own_ty (h.ri.bel i p hi) (k := p.1) rfl
      exact no e' (by decide) (by decide) (by decide) (by decide)
    · obtain ⟨i, hi⟩ := List.mem_iff_getElem?.1 hp
      have hil := (List.getElem?_eq_some_iff.1 hi).1
      rw [h.ri.qlen] at hil
      obtain ⟨cs, e'⟩ := own_ty (h.ri.qel i _ p (List.getElem?_eq_getElem hil) hi) (k := p.1) rfl
      exact no e' (by decide) (by decide) (by decide) (by decide)
  · rcases hk with rfl | e | ⟨z, hz, rfl⟩
    · exact no h.rc.row (by decide) (by decide) (by decide) (by decide)
    · obtain ⟨cs, e'⟩ := own_ty h.rc.lst e
      exact no e' (by decide) (by decide) (by decide) (by decide)
    · obtain ⟨cs, e'⟩ := own_ty (h.rc.byt z hz).1 (k := z.2.1) rfl
      exact no e' (by decide) (by decide) (by decide) (by decide)
/-- What the document's cache writes is none of the program's. -/
theorem keepQ {A : Ca} {S' : St} (hcd : CD B w c mc a dm df dq C S') (hri : RI B w x bv qv fv gB gQ S) (hrc : RC B w y x lv l A) (hf : Frame (fun k => rcw y lv k ∨ rfoot x bv qv fv k) w w') : CD B w' c mc a dm df dq C S' := by
  have ty : ∀ k, (rcw y lv k ∨ rfoot x bv qv fv k) → ∃ cs t, w.heap[k]? = some (.cells cs t (0, 0)) ∧ t ≠ 56 ∧ t ≠ 90 ∧ t ≠ 61 ∧ t ≠ 109 := by
    rintro k ((rfl | e) | (rfl | e | e | e))
    · exact ⟨_, 93, hrc.row, by decide, by decide, by decide, by decide⟩
    · obtain ⟨cs, e'⟩ := own_ty hrc.lst e
      exact ⟨_, 95, e', by decide, by decide, by decide, by decide⟩
    · exact ⟨_, 105, hri.row, by decide, by decide, by decide, by decide⟩
    · obtain ⟨cs, e'⟩ := own_ty hri.bs e
      exact ⟨_, 29, e', by decide, by decide, by decide, by decide⟩
    · obtain ⟨cs, e'⟩ := own_ty hri.qs e
      exact ⟨_, 111, e', by decide, by decide, by decide, by decide⟩
    · obtain ⟨cs, e'⟩ := own_ty hri.fs e
      exact ⟨_, 3, e', by decide, by decide, by decide, by decide⟩
  refine ⟨hcd.ci.kept fun k hk => hf.block k (hcd.ci.toCW.in k hk).2 (fun e => ?_), hcd.di.kept fun k hk => hf.block k (hcd.di.in k hk).2 (fun e => ?_), hcd.ne⟩
  · obtain ⟨cs, t, h1, h2, h3, _⟩ := ty k e
    exact hcd.ci.toCW.notin h1 h2 h3 hk
  · obtain ⟨cs, t, h1, _, _, h4, h5⟩ := ty k e
    exact hcd.di.notin h1 h4 h5 hk
end
/-- What was there below B stays, and so does every box of a call and every row of bytes. -/
structure Kz (B : Nat) (w w' : World) : Prop where
  below : Below B w w'
  keep : ∀ (k : Nat) (cs : Array Value) (t : TypeId), (t = 31 ∨ t = 5) → w.heap[k]? = some (Obj.cells cs t (0, 0)) → w'.heap[k]? = w.heap[k]?
theorem Kz.refl (B : Nat) (w : World) : Kz B w w := ⟨Below.refl _ _, fun _ _ _ _ _ => rfl⟩
theorem Kz.trans {B : Nat} {w w' w'' : World} (h : Kz B w w') (k : Kz B w' w'') : Kz B w w'' :=
  ⟨h.below.trans k.below, fun i cs t ht hc => (k.keep i cs t ht ((h.keep i cs t ht hc).trans hc)).trans (h.keep i cs t ht hc)⟩
theorem Kz.of_below {B : Nat} {w w' : World} (hB : B ≤ w.heap.size) (h : Below w.heap.size w w') : Kz B w w' :=
  ⟨h.mono hB, fun k cs t _ hc => h.block k (Array.getElem?_eq_some_iff.1 hc).1⟩
section
variable {B : Nat} {w w' : World} {c mc a dm df y x : Nat} {dq lv bv qv fv : Value} {l : List BZ} {gB gQ : List (Nat × Nat)} {C : Ch} {S : St}
theorem kzP (h : CD B w c mc a dm df dq C S) (hB : B ≤ w.heap.size) (hf : Frame (fun k => cfoot c mc C k ∨ foot a dm df dq k) w w') : Kz B w w' := by
  refine ⟨hf.below hB (fun k hk => ?_), fun k cs t ht hc => hf.block k (Array.getElem?_eq_some_iff.1 hc).1 (fun e => ?_)⟩
  · rcases hk with hk | hk
    · exact (h.ci.toCW.in k hk).1
    · exact (h.di.in k hk).1
  · rcases e with e | e
    · exact h.ci.toCW.notin hc (by rcases ht with rfl | rfl <;> decide) (by rcases ht with rfl | rfl <;> decide) e
    · exact h.di.notin hc (by rcases ht with rfl | rfl <;> decide) (by rcases ht with rfl | rfl <;> decide) e
theorem kzQ {A : Ca} (hri : RI B w x bv qv fv gB gQ S) (hrc : RC B w y x lv l A) (hB : B ≤ w.heap.size) (hf : Frame (fun k => rcw y lv k ∨ rfoot x bv qv fv k) w w') : Kz B w w' := by
  refine ⟨hf.below hB (fun k hk => ?_), fun k cs t ht hc => hf.block k (Array.getElem?_eq_some_iff.1 hc).1 (fun e => ?_)⟩
  · rcases hk with (rfl | e) | e
    · exact hrc.lo
    · exact (hrc.lst.lt k e).1
    · exact (hri.in (.inl e)).1
  · rcases e with (rfl | e) | e
    · rw [hrc.row] at hc
      simp only [Option.some.injEq, Obj.cells.injEq] at hc
      rcases ht with rfl | rfl <;> simp at hc
    · obtain ⟨cs2, e2⟩ := own_ty hrc.lst e
      rw [hc] at e2
      simp only [Option.some.injEq, Obj.cells.injEq] at e2
      rcases ht with rfl | rfl <;> simp at e2
    · exact hri.notin hc (by rcases ht with rfl | rfl <;> decide) (by rcases ht with rfl | rfl <;> decide) (by rcases ht with rfl | rfl <;> decide) (by rcases ht with rfl | rfl <;> decide) e
end
section
variable {B : Nat} {w w' : World} {c mc a dm df y x : Nat} {dq lv bv qv fv : Value} {l : List BZ} {gB gQ : List (Nat × Nat)} {C : Ch} {S : St}

/-- What stands behind a Get on both: answers alike, one state. -/
def Got (B : Nat) (w w2 : World) (c mc a dm df : Nat) (dq : Value) (y x : Nat) (bv qv fv : Value) (gB gQ : List (Nat × Nat)) (C : Ch) (p : Option Addr) (n cp : Nat) (p2 : Option Addr) (n2 : Nat) (xs : List Int) : Prop :=
  ∃ lv2 l2 C2 S2, LI B w2 c mc a dm df dq y x lv2 l2 bv qv fv gB gQ C2 S2 ∧ BI w2 p2 n2 xs ∧ w2.ownsRow w.heap.size 5 1 (.slice p n cp) n (xs.map (Value.int .u8)) ∧ Num.Byt xs ∧ n ≤ 128 ∧ Kz B w w2 ∧ C2.bd = C.bd ∧ C2.hi + C2.mi ≤ C.hi + C.mi + 1 ∧
    (∀ k, (Value.slice p n cp).ownBlock = some k → ∀ z ∈ l2, z.2.1 ≠ k)

theorem gets (h : LI B w c mc a dm df dq y x lv l bv qv fv gB gQ C S) (hB : B ≤ w.heap.size) (hc : C.hi + C.mi < 4611686018427387904) (b : Int) :
    Calls Try.prog 15 #[.pointer (some ⟨c, 0, none⟩), .int .i64 b] w fun e w1 => ∃ p n cp er, e = .returned (.tuple #[.slice p n cp, .int .i64 er]) ∧ Kz B w w1 ∧
      Calls Try.prog 38 #[.pointer (some ⟨y, 0, none⟩), .int .i64 b] w1 fun e w2 => ∃ p2 n2 cp2 xs, e = .returned (.tuple #[.slice p2 n2 cp2, .int .i64 er]) ∧ Kz B w1 w2 ∧ Got B w w2 c mc a dm df dq y x bv qv fv gB gQ C p n cp p2 n2 xs := by
  have hN := h.cd.di.N1
  have heq : C.L.map Bf.abs = l.map (·.1) := h.rc.eq
  have hnd := h.cd.ci.toCW.bnd
  have hca : C.abs.hi + C.abs.mi < 4611686018427387904 := hc
  have hll : l.length = C.L.length := by have := congrArg List.length heq; simpa using this.symm
  by_cases hb : b < 0 ∨ (S.N : Int) ≤ b
  · refine (get_arg h.cd b hb).mono ?_
    rintro e w1 ⟨rfl, rfl⟩
    refine ⟨none, 0, 0, 1, rfl, Kz.refl _ _, (rget_arg h.rc h.ri hN b hb).mono ?_⟩
    rintro e w2 ⟨rfl, rfl⟩
    exact ⟨none, 0, 0, [], rfl, Kz.refl _ _, lv, l, C, S, h, ⟨rfl, by omega, fun i => by simp, fun h => by omega⟩, World.ownsRow_nil _ _ _ _, fun i => by simp, by omega, Kz.refl _ _, rfl, by omega, fun k hk => by simp [Value.ownBlock] at hk⟩
  · obtain ⟨n, rfl⟩ : ∃ n : Nat, b = (n : Int) := ⟨b.toNat, by omega⟩
    have hbN : n < S.N := by omega
    by_cases hm : ∃ f ∈ C.L, f.b = n
    · obtain ⟨f, hf, rfl⟩ := hm
      obtain ⟨i, z, hfi, hzi, ez, hfs⟩ := find_hit heq hnd hf
      refine (get_hit h.cd hf hc).mono ?_
      rintro e w1 ⟨g, cap, rfl, how, hcd1, hf1⟩
      obtain ⟨hri1, hrc1⟩ := h.keepP (hf1.mono (fun k _ e => .inl e))
      have hbw1 : Kz B w w1 := kzP h.cd hB (hf1.mono (fun k _ e => .inl e))
      have hB1 : B ≤ w1.heap.size := Nat.le_trans hB hbw1.below.size
      refine ⟨some ⟨g, 0, none⟩, 128, cap, 0, rfl, hbw1, (rget_hit hrc1 hB1 hri1 hN f.b hbN i z hzi hfs hca).mono ?_⟩
      rintro e w2 ⟨g2, cap2, lv2, rfl, how2, hrc2, hf2⟩
      have hfr2 : Frame (fun k => rcw y lv k ∨ rfoot x bv qv fv k) w1 w2 := hf2.mono (fun k _ e => .inl (.inl e))
      have hcd2 := keepQ hcd1 hri1 hrc1 hfr2
      have hri2 := hrc1.keepD hri1 (hf2.mono (fun k _ e => .inl e))
      have hbw2 : Kz B w1 w2 := kzQ hri1 hrc1 hB1 (hf2.mono (fun k _ e => .inl (.inl e)))
      have hxs : z.1.xs = f.xs := by rw [ez]; rfl
      rw [hxs] at how2
      have hsec := h.cd.ci.sec f hf
      have hgn : g ≠ y := by
        rintro rfl
        have := (Array.getElem?_eq_some_iff.1 h.rc.row).1
        have := how.spot.1
        omega
      refine ⟨some ⟨g2, 0, none⟩, 128, cap2, f.xs, rfl, hbw2, lv2, l.eraseIdx i ++ [z], _, S, ⟨hcd2, hri2, ?_⟩, how2.bi (by omega) hsec.2, how.at (hf2.block g how.spot.2 hgn), hsec.2, by omega, hbw1.trans hbw2, rfl, by show C.hi + 1 + C.mi ≤ _; omega, ?_⟩
      · have e : (Ch.abs { C with hi := C.hi + 1, L := outb C.L f.b ++ [{ f with u := C.hi + 1 + C.mi }] }) = { C.abs with hi := C.hi + 1, l := (l.eraseIdx i ++ [z]).map (·.1) } := by
          unfold Ch.abs
          simp only [List.map_append, List.map_cons, List.map_nil]
          rw [outb_abs hnd hfi, heq, ez, List.eraseIdx_eq_take_drop_succ, List.eraseIdx_eq_take_drop_succ, List.map_append, List.map_take, List.map_drop]
          rfl
        rw [e]
        exact hrc2
      · intro k hk u hu
        simp [Value.ownBlock] at hk
        subst hk
        have hu' : u ∈ l := by
          rcases List.mem_append.1 hu with hu | hu
          · exact List.mem_of_mem_eraseIdx hu
          · simp at hu; subst hu; exact List.mem_of_getElem? hzi
        have := (h.rc.byt u hu').1.spot.2
        have := how.spot.1
        omega
    · have hno : ∀ k ∈ C.L, ¬ k.b = n := fun k hk e => hm ⟨k, hk, e⟩
      have hfs := find_miss heq hno
      by_cases hg : canGo C
      · have hfull : C.abs.bd ≤ l.length → ∃ v : Nat, fst? l (fun u => u.p == 0) = (v : Int) := fun hl => by
          obtain ⟨f, hv⟩ := hg (by rw [← hll]; exact hl)
          obtain ⟨i, _, e⟩ := vic_some heq hv
          exact ⟨i, e⟩
        by_cases h0 : S.fl n = 0
        · refine (get_new h.cd h.cd.di.ok n hbN hno hc hg h0).mono ?_
          rintro e w1 ⟨g, cap, gn, rfl, how, hgn, hcd1, hf1⟩
          obtain ⟨hri1, hrc1⟩ := h.keepP (hf1.mono (fun k _ e => .inl e))
          have hbw1 : Kz B w w1 := kzP h.cd hB (hf1.mono (fun k _ e => .inl e))
          have hB1 : B ≤ w1.heap.size := Nat.le_trans hB hbw1.below.size
          refine ⟨some ⟨g, 0, none⟩, 128, cap, 0, rfl, hbw1, (rget_new hrc1 hri1 hN n hbN hfs h.cd.di.ok hfull hB1 h0 hca).mono ?_⟩
          rintro e w2 ⟨g2, cap2, gx, cx, lv2, rfl, how2, hgx, hrc2, hri2, hf2⟩
          have hcd2 := keepQ hcd1 hri1 hrc1 hf2
          have hbw2 : Kz B w1 w2 := kzQ hri1 hrc1 hB1 hf2
          have hsec := h.cd.di.ok.sec n
          have how' : Own w.heap.size w2 g 128 cap (S.f n) := how.at (hf2.block g how.spot.2 (fun e => by
            obtain ⟨cs, e5⟩ := own_ty how (k := g) rfl
            rcases e with (rfl | e) | e
            · rw [hrc1.row] at e5; simp at e5
            · obtain ⟨cs2, e6⟩ := own_ty hrc1.lst e
              rw [e5] at e6; simp at e6
            · exact hri1.notin e5 (by decide) (by decide) (by decide) (by decide) e))
          refine ⟨some ⟨g2, 0, none⟩, 128, cap2, S.f n, rfl, hbw2, lv2, rroom l C.abs.bd ++ [((⟨n, 0, S.f n⟩ : Bu), (gx, cx))], _, S, ⟨hcd2, hri2, ?_⟩, how2.bi (by omega) hsec.2, how', hsec.2, by omega, hbw1.trans hbw2, rfl, by show C.hi + (C.mi + 1) ≤ _; omega, ?_⟩
          · have er : (room C).map Bf.abs = (rroom l C.abs.bd).map (·.1) := by
              unfold room rroom
              have hbdd : C.abs.bd = C.bd := rfl
              rw [hbdd, hll]
              by_cases hl : C.bd ≤ C.L.length
              · rw [if_pos hl, if_pos hl]
                obtain ⟨f, hv⟩ := hg hl
                obtain ⟨i, hfi, e⟩ := vic_some heq hv
                rw [hv, e]
                simp only [Int.toNat_natCast]
                rw [outb_abs hnd hfi, heq, List.eraseIdx_eq_take_drop_succ, List.eraseIdx_eq_take_drop_succ, List.map_append, List.map_take, List.map_drop]
              · rw [if_neg hl, if_neg hl]
                exact heq
            have e : (Ch.abs { C with mi := C.mi + 1, L := room C ++ [⟨n, C.hi + (C.mi + 1), 0, gn, S.f n⟩] }) = { C.abs with mi := C.mi + 1, l := (rroom l C.abs.bd ++ [((⟨n, 0, S.f n⟩ : Bu), (gx, cx))]).map (·.1) } := by
              unfold Ch.abs at er ⊢
              simp only [List.map_append, List.map_cons, List.map_nil]
              rw [er]
              rfl
            rw [e]
            exact hrc2
          · intro k hk u hu
            simp [Value.ownBlock] at hk
            subst hk
            rcases List.mem_append.1 hu with hu | hu
            · have hu' : u ∈ l := by
                unfold rroom at hu
                split at hu
                · exact List.mem_of_mem_eraseIdx hu
                · exact hu
              have := (h.rc.byt u hu').1.spot.2
              have := how.spot.1
              omega
            · simp at hu
              subst hu
              have := how.spot.2
              show gx ≠ g
              omega
        · have hr0 : ¬ (aRead S (n : Int)).2.2.1 = 0 := by
            unfold aRead
            have := (h.cd.di.ok.fl n).1
            rw [if_neg (by omega), if_pos (by simp; omega)]
            simp
          refine (get_err h.cd n hbN hno hc hg hr0).mono ?_
          rintro e w1 ⟨rfl, hcd1, hf1⟩
          obtain ⟨hri1, hrc1⟩ := h.keepP hf1
          have hbw1 : Kz B w w1 := kzP h.cd hB hf1
          have hB1 : B ≤ w1.heap.size := Nat.le_trans hB hbw1.below.size
          refine ⟨none, 0, 0, _, rfl, hbw1, (rget_err hrc1 hri1 hN n hbN hfs h.cd.di.ok hfull hr0 hca).mono ?_⟩
          rintro e w2 ⟨rfl, hrc2, hri2, hf2⟩
          have hf2' : Frame (fun k => rcw y lv k ∨ rfoot x bv qv fv k) w1 w2 := hf2.mono (fun k _ e => e.imp .inl id)
          have hcd2 := keepQ hcd1 hri1 hrc1 hf2'
          have hbw2 : Kz B w1 w2 := kzQ hri1 hrc1 hB1 hf2'
          exact ⟨none, 0, 0, [], rfl, hbw2, lv, l, { C with mi := C.mi + 1 }, _, ⟨hcd2, hri2, hrc2⟩, ⟨rfl, by omega, fun i => by simp, fun h => by omega⟩, World.ownsRow_nil _ _ _ _, fun i => by simp, by omega, hbw1.trans hbw2, rfl, by show C.hi + (C.mi + 1) ≤ _; omega, fun k hk => by simp [Value.ownBlock] at hk⟩
      · have hfl : C.bd ≤ C.L.length := by
          rcases Nat.lt_or_ge C.L.length C.bd with h' | h'
          · exact absurd (fun hh => absurd hh (by omega)) hg
          · exact h'
        have hv : vic C.L = none := by
          cases hv : vic C.L with
          | none => rfl
          | some f => exact absurd (fun _ => ⟨f, hv⟩) hg
        refine (get_pinned h.cd n hbN hno hc hfl hv).mono ?_
        rintro e w1 ⟨rfl, hcd1, hf1⟩
        obtain ⟨hri1, hrc1⟩ := h.keepP (hf1.mono (fun k _ e => .inl e))
        have hbw1 : Kz B w w1 := kzP h.cd hB (hf1.mono (fun k _ e => .inl e))
        have hB1 : B ≤ w1.heap.size := Nat.le_trans hB hbw1.below.size
        refine ⟨none, 0, 0, 60, rfl, hbw1, (rget_pinned hrc1 hri1 hN n hbN hfs (by rw [hll]; exact hfl) (vic_none heq hv) hca).mono ?_⟩
        rintro e w2 ⟨rfl, hrc2, hf2⟩
        have hf2' : Frame (fun k => rcw y lv k ∨ rfoot x bv qv fv k) w1 w2 := hf2.mono (fun k _ e => .inl (.inl e))
        have hcd2 := keepQ hcd1 hri1 hrc1 hf2'
        have hri2 := hrc1.keepD hri1 (hf2.mono (fun k _ e => .inl e))
        have hbw2 : Kz B w1 w2 := kzQ hri1 hrc1 hB1 (hf2.mono (fun k _ e => .inl (.inl e)))
        exact ⟨none, 0, 0, [], rfl, hbw2, lv, l, { C with mi := C.mi + 1 }, S, ⟨hcd2, hri2, hrc2⟩, ⟨rfl, by omega, fun i => by simp, fun h => by omega⟩, World.ownsRow_nil _ _ _ _, fun i => by simp, by omega, hbw1.trans hbw2, rfl, by show C.hi + (C.mi + 1) ≤ _; omega, fun k hk => by simp [Value.ownBlock] at hk⟩
end
section
variable {B : Nat} {w w' : World} {c mc a dm df y x : Nat} {dq lv bv qv fv : Value} {l : List BZ} {gB gQ : List (Nat × Nat)} {C : Ch} {S : St}

/-- What stands behind a call on both. -/
def Aft (B : Nat) (w2 : World) (c mc a dm df : Nat) (dq : Value) (y x : Nat) (bv qv fv : Value) (gB gQ : List (Nat × Nat)) (C : Ch) : Prop :=
  ∃ lv2 l2 C2 S2, LI B w2 c mc a dm df dq y x lv2 l2 bv qv fv gB gQ C2 S2 ∧ C2.bd = C.bd ∧ C2.hi + C2.mi ≤ C.hi + C.mi + 1

theorem RC.cast {A A' : Ca} {l' : List BZ} (h : RC B w y x lv l' A) (e : A' = A) : RC B w y x lv l' A' := e ▸ h
theorem set_abs {L : List Bf} {l : List BZ} (heq : L.map Bf.abs = l.map (·.1)) (hnd : (L.map (·.b)).Nodup) {i : Nat} {f f' : Bf} (hi : L[i]? = some f) (hb : f'.b = f.b) {z' : BZ} (hz : z'.1 = f'.abs) : (rep L f').map Bf.abs = (l.set i z').map (·.1) := by
  rw [rep_abs hnd hi hb, heq, List.map_set, hz]
theorem era_abs {L : List Bf} {l : List BZ} (heq : L.map Bf.abs = l.map (·.1)) (hnd : (L.map (·.b)).Nodup) {i : Nat} {f : Bf} (hi : L[i]? = some f) : (outb L f.b).map Bf.abs = (l.eraseIdx i).map (·.1) := by
  rw [outb_abs hnd hi, heq, List.eraseIdx_eq_take_drop_succ, List.eraseIdx_eq_take_drop_succ, List.map_append, List.map_take, List.map_drop]

theorem unpins (h : LI B w c mc a dm df dq y x lv l bv qv fv gB gQ C S) (hB : B ≤ w.heap.size) (b : Int) :
    Calls Try.prog 17 #[.pointer (some ⟨c, 0, none⟩), .int .i64 b] w fun e w1 => ∃ er, e = .returned (.int .i64 er) ∧ Kz B w w1 ∧
      Calls Try.prog 42 #[.pointer (some ⟨y, 0, none⟩), .int .i64 b] w1 fun e w2 => e = .returned (.int .i64 er) ∧ Kz B w1 w2 ∧ Aft B w2 c mc a dm df dq y x bv qv fv gB gQ C := by
  have hN := h.cd.di.N1
  have heq : C.L.map Bf.abs = l.map (·.1) := h.rc.eq
  have hnd := h.cd.ci.toCW.bnd
  by_cases hb : b < 0 ∨ (S.N : Int) ≤ b
  · refine (unpin_arg h.cd b hb).mono ?_
    rintro e w1 ⟨rfl, rfl⟩
    refine ⟨1, rfl, Kz.refl _ _, (runpin_arg h.rc h.ri hN b hb).mono ?_⟩
    rintro e w2 ⟨rfl, rfl⟩
    exact ⟨rfl, Kz.refl _ _, lv, l, C, S, h, rfl, by omega⟩
  · obtain ⟨n, rfl⟩ : ∃ n : Nat, b = (n : Int) := ⟨b.toNat, by omega⟩
    have hbN : n < S.N := by omega
    by_cases hm : ∃ f ∈ C.L, f.b = n
    · obtain ⟨f, hf, rfl⟩ := hm
      obtain ⟨i, z, hfi, hzi, ez, hfs⟩ := find_hit heq hnd hf
      have ezp : z.1.p = f.p := by rw [ez]; rfl
      by_cases hp : 0 < f.p
      · refine (unpin_ok h.cd hf hp).mono ?_
        rintro e w1 ⟨rfl, hcd1, hf1⟩
        obtain ⟨hri1, hrc1⟩ := h.keepP (hf1.mono (fun k _ e => .inl e))
        have hk1 : Kz B w w1 := kzP h.cd hB (hf1.mono (fun k _ e => .inl e))
        have hB1 : B ≤ w1.heap.size := Nat.le_trans hB hk1.below.size
        refine ⟨0, rfl, hk1, (runpin_ok hrc1 hri1 hN f.b hbN i z hzi hfs (by omega)).mono ?_⟩
        rintro e w2 ⟨rfl, hrc2, hf2⟩
        have hf2' : Frame (fun k => rcw y lv k ∨ rfoot x bv qv fv k) w1 w2 := hf2.mono (fun k _ e => .inl e)
        refine ⟨rfl, kzQ hri1 hrc1 hB1 hf2', lv, _, { C with L := rep C.L { f with p := f.p - 1 } }, S, ⟨keepQ hcd1 hri1 hrc1 hf2', hrc1.keepD hri1 hf2, hrc2.cast ?_⟩, rfl, by show C.hi + C.mi ≤ _; omega⟩
        have := set_abs heq hnd hfi (f' := { f with p := f.p - 1 }) rfl (z' := (⟨z.1.b, z.1.p - 1, z.1.xs⟩, z.2)) (by rw [ez]; rfl)
        unfold Ch.abs
        rw [this]
      · have hq := pinned_hit h.cd.ci.toCW hf
        rw [decide_eq_false (by omega)] at hq
        refine (unpin_not h.cd f.b hbN hq).mono ?_
        rintro e w1 ⟨rfl, rfl⟩
        refine ⟨3, rfl, Kz.refl _ _, (runpin_zero h.rc h.ri hN f.b hbN i z hzi hfs (by omega)).mono ?_⟩
        rintro e w2 ⟨rfl, hb2⟩
        exact ⟨rfl, Kz.of_below hB hb2, lv, l, C, S, h.later hb2, rfl, by omega⟩
    · have hno : ∀ k ∈ C.L, ¬ k.b = n := fun k hk e => hm ⟨k, hk, e⟩
      refine (unpin_not h.cd n hbN (pinned_miss h.cd.ci.toCW hbN hno)).mono ?_
      rintro e w1 ⟨rfl, rfl⟩
      refine ⟨3, rfl, Kz.refl _ _, (runpin_miss h.rc h.ri hN n hbN (find_miss heq hno)).mono ?_⟩
      rintro e w2 ⟨rfl, hb2⟩
      exact ⟨rfl, Kz.of_below hB hb2, lv, l, C, S, h.later hb2, rfl, by omega⟩

theorem drops (h : LI B w c mc a dm df dq y x lv l bv qv fv gB gQ C S) (hB : B ≤ w.heap.size) (b : Int) :
    Calls Try.prog 26 #[.pointer (some ⟨c, 0, none⟩), .int .i64 b] w fun e w1 => ∃ er, e = .returned (.int .i64 er) ∧ Kz B w w1 ∧
      Calls Try.prog 43 #[.pointer (some ⟨y, 0, none⟩), .int .i64 b] w1 fun e w2 => e = .returned (.int .i64 er) ∧ Kz B w1 w2 ∧ Aft B w2 c mc a dm df dq y x bv qv fv gB gQ C := by
  have hN := h.cd.di.N1
  have heq : C.L.map Bf.abs = l.map (·.1) := h.rc.eq
  have hnd := h.cd.ci.toCW.bnd
  by_cases hb : b < 0 ∨ (S.N : Int) ≤ b
  · refine (drop_arg h.cd b hb).mono ?_
    rintro e w1 ⟨rfl, rfl⟩
    refine ⟨1, rfl, Kz.refl _ _, (rdrop_arg h.rc h.ri hN b hb).mono ?_⟩
    rintro e w2 ⟨rfl, rfl⟩
    exact ⟨rfl, Kz.refl _ _, lv, l, C, S, h, rfl, by omega⟩
  · obtain ⟨n, rfl⟩ : ∃ n : Nat, b = (n : Int) := ⟨b.toNat, by omega⟩
    have hbN : n < S.N := by omega
    by_cases hm : ∃ f ∈ C.L, f.b = n
    · obtain ⟨f, hf, rfl⟩ := hm
      obtain ⟨i, z, hfi, hzi, ez, hfs⟩ := find_hit heq hnd hf
      have ezp : z.1.p = f.p := by rw [ez]; rfl
      by_cases hp : 0 < f.p
      · refine (drop_pinned h.cd hf hp).mono ?_
        rintro e w1 ⟨rfl, rfl⟩
        refine ⟨3, rfl, Kz.refl _ _, (rdrop_pinned h.rc h.ri hN f.b hbN i z hzi hfs (by omega)).mono ?_⟩
        rintro e w2 ⟨rfl, hb2⟩
        exact ⟨rfl, Kz.of_below hB hb2, lv, l, C, S, h.later hb2, rfl, by omega⟩
      · have hq := pinned_hit h.cd.ci.toCW hf
        rw [decide_eq_false (by omega)] at hq
        refine (drop_ok h.cd f.b hbN hq).mono ?_
        rintro e w1 ⟨rfl, hcd1, hf1⟩
        obtain ⟨hri1, hrc1⟩ := h.keepP (hf1.mono (fun k _ e => .inl e))
        have hk1 : Kz B w w1 := kzP h.cd hB (hf1.mono (fun k _ e => .inl e))
        have hB1 : B ≤ w1.heap.size := Nat.le_trans hB hk1.below.size
        refine ⟨0, rfl, hk1, (rdrop_ok hrc1 hB1 hri1 hN f.b hbN i z hzi hfs (by omega)).mono ?_⟩
        rintro e w2 ⟨lv2, rfl, hrc2, hf2⟩
        have hf2' : Frame (fun k => rcw y lv k ∨ rfoot x bv qv fv k) w1 w2 := hf2.mono (fun k _ e => .inl (.inl e))
        refine ⟨rfl, kzQ hri1 hrc1 hB1 hf2', lv2, _, { C with L := outb C.L f.b }, S, ⟨keepQ hcd1 hri1 hrc1 hf2', hrc1.keepD hri1 (hf2.mono (fun k _ e => .inl e)), hrc2.cast ?_⟩, rfl, by show C.hi + C.mi ≤ _; omega⟩
        unfold Ch.abs
        rw [era_abs heq hnd hfi]
    · have hno : ∀ k ∈ C.L, ¬ k.b = n := fun k hk e => hm ⟨k, hk, e⟩
      refine (drop_ok h.cd n hbN (pinned_miss h.cd.ci.toCW hbN hno)).mono ?_
      rintro e w1 ⟨rfl, hcd1, hf1⟩
      have eo : outb C.L n = C.L := by
        unfold outb
        rw [List.filter_eq_self]
        intro k hk
        simpa using hno k hk
      rw [eo] at hcd1
      obtain ⟨hri1, hrc1⟩ := h.keepP (hf1.mono (fun k _ e => .inl e))
      have hk1 : Kz B w w1 := kzP h.cd hB (hf1.mono (fun k _ e => .inl e))
      have hB1 : B ≤ w1.heap.size := Nat.le_trans hB hk1.below.size
      refine ⟨0, rfl, hk1, (rdrop_miss hrc1 hri1 hN n hbN (find_miss heq hno)).mono ?_⟩
      rintro e w2 ⟨rfl, hb2⟩
      exact ⟨rfl, Kz.of_below hB1 hb2, lv, l, C, S, ⟨hcd1.later hb2, hri1.later hb2, hrc1.later hb2⟩, rfl, by omega⟩

theorem puts (h : LI B w c mc a dm df dq y x lv l bv qv fv gB gQ C S) (hB : B ≤ w.heap.size) (b : Int) (p : Option Addr) (n cp : Nat) (p2 : Option Addr) (cp2 : Nat) (xs : List Int) (hx : BI w p n xs) (hx2 : ∀ w1, Kz B w w1 → BI w1 p2 n xs) (hn : n ≤ 140737488355328) :
    Calls Try.prog 23 #[.pointer (some ⟨c, 0, none⟩), .int .i64 b, .slice p n cp] w fun e w1 => ∃ er, e = .returned (.int .i64 er) ∧ Kz B w w1 ∧
      Calls Try.prog 40 #[.pointer (some ⟨y, 0, none⟩), .int .i64 b, .slice p2 n cp2] w1 fun e w2 => e = .returned (.int .i64 er) ∧ Kz B w1 w2 ∧ ∃ lv2 l2 C2 S2, LI B w2 c mc a dm df dq y x lv2 l2 bv qv fv gB gQ C2 S2 ∧ C2.bd = C.bd ∧ C2.hi + C2.mi ≤ C.hi + C.mi + 1 ∧ ∀ z ∈ l2, z ∈ l ∨ w1.heap.size ≤ z.2.1 := by
  have hN := h.cd.di.N1
  have heq : C.L.map Bf.abs = l.map (·.1) := h.rc.eq
  have hnd := h.cd.ci.toCW.bnd
  by_cases hb : b < 0 ∨ (S.N : Int) ≤ b
  · refine (put_arg h.cd b p n cp hb).mono ?_
    rintro e w1 ⟨rfl, rfl⟩
    refine ⟨1, rfl, Kz.refl _ _, (rput_arg h.rc h.ri hN b hb p2 n cp2).mono ?_⟩
    rintro e w2 ⟨rfl, rfl⟩
    exact ⟨rfl, Kz.refl _ _, lv, l, C, S, h, rfl, by omega, fun z hz => .inl hz⟩
  · obtain ⟨m, rfl⟩ : ∃ m : Nat, b = (m : Int) := ⟨b.toNat, by omega⟩
    have hbN : m < S.N := by omega
    by_cases h128 : n = 128
    · subst h128
      by_cases hm : ∃ f ∈ C.L, f.b = m
      · obtain ⟨f, hf, rfl⟩ := hm
        obtain ⟨i, z, hfi, hzi, ez, hfs⟩ := find_hit heq hnd hf
        refine (put_hit h.cd hf p cp xs hx).mono ?_
        rintro e w1 ⟨rfl, hcd1, hf1⟩
        obtain ⟨hri1, hrc1⟩ := h.keepP (hf1.mono (fun k _ e => .inl e))
        have hk1 : Kz B w w1 := kzP h.cd hB (hf1.mono (fun k _ e => .inl e))
        have hB1 : B ≤ w1.heap.size := Nat.le_trans hB hk1.below.size
        have hx21 := hx2 w1 hk1
        obtain ⟨b2, o2, rfl, _⟩ := hx21.cells (by omega)
        refine ⟨0, rfl, hk1, (rput_hit hrc1 hB1 hri1 hN f.b hbN i z hzi hfs _ cp2 xs hx21).mono ?_⟩
        rintro e w2 ⟨g, cap, rfl, hg, hrc2, hf2⟩
        have hf2' : Frame (fun k => rcw y lv k ∨ rfoot x bv qv fv k) w1 w2 := hf2.mono (fun k _ e => .inl e)
        refine ⟨rfl, kzQ hri1 hrc1 hB1 hf2', lv, _, { C with L := rep C.L { f with xs := xs } }, S, ⟨keepQ hcd1 hri1 hrc1 hf2', hrc1.keepD hri1 hf2, hrc2.cast ?_⟩, rfl, by show C.hi + C.mi ≤ _; omega, fun u hu => ?_⟩
        · have := set_abs heq hnd hfi (f' := { f with xs := xs }) rfl (z' := (⟨z.1.b, z.1.p, xs⟩, (g, cap))) (by rw [ez]; rfl)
          unfold Ch.abs
          rw [this]
        · rcases List.mem_or_eq_of_mem_set hu with hu | rfl
          · exact .inl hu
          · exact .inr hg
      · have hno : ∀ k ∈ C.L, ¬ k.b = m := fun k hk e => hm ⟨k, hk, e⟩
        refine (put_miss h.cd m hbN hno p cp).mono ?_
        rintro e w1 ⟨rfl, rfl⟩
        refine ⟨0, rfl, Kz.refl _ _, (rput_miss h.rc h.ri hN m hbN p2 cp2 (find_miss heq hno)).mono ?_⟩
        rintro e w2 ⟨rfl, hb2⟩
        exact ⟨rfl, Kz.of_below hB hb2, lv, l, C, S, h.later hb2, rfl, by omega, fun z hz => .inl hz⟩
    · refine (put_len h.cd m hbN p n cp h128 hn).mono ?_
      rintro e w1 ⟨rfl, rfl⟩
      refine ⟨1, rfl, Kz.refl _ _, (rput_len h.rc h.ri hN m hbN p2 n cp2 h128 hn).mono ?_⟩
      rintro e w2 ⟨rfl, rfl⟩
      exact ⟨rfl, Kz.refl _ _, lv, l, C, S, h, rfl, by omega, fun z hz => .inl hz⟩

theorem fails (h : LI B w c mc a dm df dq y x lv l bv qv fv gB gQ C S) (hB : B ≤ w.heap.size) (b t : Int) :
    Calls Try.prog 44 #[.pointer (some ⟨a, 0, none⟩), .int .i64 b, .int .i64 t] w fun e w1 => ∃ er, e = .returned (.int .i64 er) ∧ Kz B w w1 ∧
      Calls Try.prog 45 #[.pointer (some ⟨x, 0, none⟩), .int .i64 b, .int .i64 t] w1 fun e w2 => e = .returned (.int .i64 er) ∧ Kz B w1 w2 ∧ Aft B w2 c mc a dm df dq y x bv qv fv gB gQ C := by
  refine (dFail h.cd.di b t).mono ?_
  rintro e w1 ⟨rfl, hd1, hf1⟩
  obtain ⟨hri1, hrc1⟩ := h.keepP (hf1.mono (fun k _ e => .inr e))
  have hk1 : Kz B w w1 := kzP h.cd hB (hf1.mono (fun k _ e => .inr e))
  have hB1 : B ≤ w1.heap.size := Nat.le_trans hB hk1.below.size
  have hN : (aFail S b t).2.N = S.N := by unfold aFail; split <;> rfl
  have hcd1 := h.cd.read hN hd1 hf1
  refine ⟨_, rfl, hk1, (rFail hri1 b t).mono ?_⟩
  rintro e w2 ⟨rfl, hri2, hf2⟩
  have hf2' : Frame (fun k => rcw y lv k ∨ rfoot x bv qv fv k) w1 w2 := hf2.mono (fun k _ e => .inr e)
  exact ⟨rfl, kzQ hri1 hrc1 hB1 hf2', lv, l, C, _, ⟨keepQ hcd1 hri1 hrc1 hf2', hri2, hrc1.keepR hri1 hf2⟩, rfl, by omega⟩
end
section
variable {B : Nat} {w w' : World} {c mc a dm df y x : Nat} {dq lv bv qv fv : Value} {l : List BZ} {gB gQ : List (Nat × Nat)} {C : Ch} {S : St}

set_option maxHeartbeats 1000000 in
theorem pin_newy (b : Nat) (F : Nat → Bf) (Cn : Nat → Ch) (X : Nat → Prop) (hG : Calls Try.prog 15 #[.pointer (some ⟨c, 0, none⟩), .int .i64 (b : Int)] w fun e w' => ∃ p n cp gn, e = .returned (.tuple #[.slice p n cp, .int .i64 0]) ∧ w.heap.size ≤ gn ∧ CD B w' c mc a dm df dq (Cn gn) S ∧ Frame X w w')
    (hF : ∀ gn, F gn ∈ (Cn gn).L ∧ (F gn).b = b ∧ (F gn).p = 0) :
    Calls Try.prog 16 #[.pointer (some ⟨c, 0, none⟩), .int .i64 (b : Int)] w fun e w' => ∃ gn w1, e = .returned (.int .i64 0) ∧ w.heap.size ≤ gn ∧ Frame X w w1 ∧ CD B w1 c mc a dm df dq (Cn gn) S ∧ Frame (cfoot c mc (Cn gn)) w1 w' ∧ CD B w' c mc a dm df dq { Cn gn with L := rep (Cn gn).L { F gn with p := 1 } } S := by
  have HF := (show Hid _ from hF)
  clear hF
  go_enter Try.func16, Try.ntmps16
  go_wp2_with (first | (go_at_call 15; refine Calls.mono hG ?_; rintro e w1 ⟨p, n, cp, gn, rfl, hgn, hcd, hX⟩; obtain ⟨hf, hfb, hfp⟩ := HF.out gn; have c2 := hcd.ci.c2; have hl := hcd.ci.hit hf; have hpc := hcd.ci.pins hf; have hfz := buf_froz hcd.ci.toCW hf 129; have hd := hcd.pinned hf 1 (by omega); rw [hfb] at hl; rw [hfp] at hpc; have HD := (show Hid _ from hd); have HC := (show Hid _ from hcd); clear hd hcd hfb hfp hf))
  go_ret
  exact ⟨gn, w1, rfl, hgn, hX, HC.out, HD.out.2, HD.out.1⟩

/-- Behind the program's Pin, the document's: a pin more. -/
theorem pins_tail {Cp : Ch} {f : Bf} {w1 : World} (hf : f ∈ Cp.L) (hnd : (Cp.L.map (·.b)).Nodup) (hp : f.p < 100) (hB1 : B ≤ w1.heap.size) (hbd : Cp.bd = C.bd) (hcn : Cp.hi + Cp.mi ≤ C.hi + C.mi + 1)
    (hG : Calls Try.prog 38 #[.pointer (some ⟨y, 0, none⟩), .int .i64 (f.b : Int)] w1 fun e w' => ∃ p n cp lv1 l1 A1, e = .returned (.tuple #[.slice p n cp, .int .i64 0]) ∧ RC B w' y x lv1 l1 A1 ∧ (A1 = Cp.abs ∧ RI B w' x bv qv fv gB gQ S ∧ CD B w' c mc a dm df dq { Cp with L := rep Cp.L { f with p := f.p + 1 } } S ∧ Kz B w1 w')) :
    Calls Try.prog 41 #[.pointer (some ⟨y, 0, none⟩), .int .i64 (f.b : Int)] w1 fun e w2 => e = .returned (.int .i64 0) ∧ Kz B w1 w2 ∧ Aft B w2 c mc a dm df dq y x bv qv fv gB gQ C := by
  have hG' : Calls Try.prog 38 #[.pointer (some ⟨y, 0, none⟩), .int .i64 (f.b : Int)] w1 fun e w' => ∃ p n cp lv1 l1 A1, e = .returned (.tuple #[.slice p n cp, .int .i64 0]) ∧ RC B w' y x lv1 l1 A1 ∧ ((A1 = Cp.abs ∧ RI B w' x bv qv fv gB gQ S ∧ CD B w' c mc a dm df dq { Cp with L := rep Cp.L { f with p := f.p + 1 } } S ∧ Kz B w1 w') ∧ Cp.L.map Bf.abs = l1.map (·.1)) := by
    refine hG.mono ?_
    rintro e w' ⟨p, n, cp, lv1, l1, A1, rfl, hrc, hA⟩
    refine ⟨p, n, cp, lv1, l1, A1, rfl, hrc, hA, ?_⟩
    have := hrc.eq
    rw [hA.1] at this
    exact this
  refine (rpin_ok f.b (fun w' lv1 l1 A1 => (A1 = Cp.abs ∧ RI B w' x bv qv fv gB gQ S ∧ CD B w' c mc a dm df dq { Cp with L := rep Cp.L { f with p := f.p + 1 } } S ∧ Kz B w1 w') ∧ Cp.L.map Bf.abs = l1.map (·.1)) hG' (fun w' lv1 l1 A1 hφ => ?_)).mono ?_
  · obtain ⟨i, z, hfi, hzi, ez, hfs⟩ := find_hit hφ.2 hnd hf
    exact ⟨i, z, hzi, hfs, by rw [ez]; exact hp⟩
  · rintro e w3 ⟨w2, lv1, l1, A1, i, z, rfl, ⟨⟨rfl, hri, hcd, hk⟩, heq⟩, hrc, hz, hfs, hrc3, hf3⟩
    obtain ⟨i', z', hfi, hzi, ez, hfs'⟩ := find_hit heq hnd hf
    obtain rfl : i = i' := by rw [hfs] at hfs'; omega
    obtain rfl : z = z' := by rw [hz] at hzi; exact Option.some.inj hzi
    have hf3' : Frame (fun k => rcw y lv1 k ∨ rfoot x bv qv fv k) w2 w3 := hf3.mono (fun k _ e => .inl e)
    have hB2 : B ≤ w2.heap.size := Nat.le_trans hB1 hk.below.size
    refine ⟨rfl, hk.trans (kzQ hri hrc hB2 hf3'), lv1, _, _, S, ⟨keepQ hcd hri hrc hf3', hrc.keepD hri hf3, hrc3.cast ?_⟩, hbd, hcn⟩
    have := set_abs heq hnd hfi (f' := { f with p := f.p + 1 }) rfl (z' := (⟨z.1.b, z.1.p + 1, z.1.xs⟩, z.2)) (by rw [ez]; rfl)
    unfold Ch.abs
    rw [this]

theorem nodup_hit {L : List Bf} (hd : (L.map (·.b)).Nodup) {f f' : Bf} (hb : f'.b = f.b) : ((outb L f.b ++ [f']).map (·.b)).Nodup := by
  rw [List.map_append, List.nodup_append]
  refine ⟨List.Nodup.sublist ((sub_outb L f.b).map _) hd, by simp, ?_⟩
  intro p hp q hq e
  simp at hq
  obtain ⟨k, hk, rfl⟩ := List.mem_map.1 hp
  exact (mem_outb.1 hk).2 (by rw [e, hq, hb])
theorem nodup_new {C : Ch} (hd : (C.L.map (·.b)).Nodup) {g : Bf} (hno : ∀ k ∈ C.L, ¬ k.b = g.b) : ((room C ++ [g]).map (·.b)).Nodup := by
  rw [List.map_append, List.nodup_append]
  refine ⟨List.Nodup.sublist ((room_sub C).map _) hd, by simp, ?_⟩
  intro p hp q hq e
  simp at hq
  obtain ⟨k, hk, rfl⟩ := List.mem_map.1 hp
  exact hno k ((room_sub C).subset hk) (by rw [e, hq])
theorem hit_abs (heq : C.L.map Bf.abs = l.map (·.1)) (hnd : (C.L.map (·.b)).Nodup) {i : Nat} {f : Bf} {z : BZ} (hfi : C.L[i]? = some f) (ez : z.1 = f.abs) :
    { C.abs with hi := C.abs.hi + 1, l := (l.eraseIdx i ++ [z]).map (·.1) } = Ch.abs { C with hi := C.hi + 1, L := outb C.L f.b ++ [{ f with u := C.hi + 1 + C.mi }] } := by
  unfold Ch.abs
  simp only [List.map_append, List.map_cons, List.map_nil]
  rw [outb_abs hnd hfi, heq, ez, List.eraseIdx_eq_take_drop_succ, List.eraseIdx_eq_take_drop_succ, List.map_append, List.map_take, List.map_drop]
  rfl
theorem new_abs (heq : C.L.map Bf.abs = l.map (·.1)) (hnd : (C.L.map (·.b)).Nodup) (hg : canGo C) {n gn gx cx : Nat} :
    { C.abs with mi := C.abs.mi + 1, l := (rroom l C.abs.bd ++ [((⟨n, 0, S.f n⟩ : Bu), (gx, cx))]).map (·.1) } = Ch.abs { C with mi := C.mi + 1, L := room C ++ [⟨n, C.hi + (C.mi + 1), 0, gn, S.f n⟩] } := by
  have hll : l.length = C.L.length := by have := congrArg List.length heq; simpa using this.symm
  have er : (room C).map Bf.abs = (rroom l C.abs.bd).map (·.1) := by
    unfold room rroom
    have hbdd : C.abs.bd = C.bd := rfl
    rw [hbdd, hll]
    by_cases hl : C.bd ≤ C.L.length
    · rw [if_pos hl, if_pos hl]
      obtain ⟨f, hv⟩ := hg hl
      obtain ⟨i, hfi, e⟩ := vic_some heq hv
      rw [hv, e]
      simp only [Int.toNat_natCast]
      rw [outb_abs hnd hfi, heq, List.eraseIdx_eq_take_drop_succ, List.eraseIdx_eq_take_drop_succ, List.map_append, List.map_take, List.map_drop]
    · rw [if_neg hl, if_neg hl]
      exact heq
  unfold Ch.abs at er ⊢
  simp only [List.map_append, List.map_cons, List.map_nil]
  rw [er]
  rfl

theorem pins (h : LI B w c mc a dm df dq y x lv l bv qv fv gB gQ C S) (hB : B ≤ w.heap.size) (hc : C.hi + C.mi < 4611686018427387904) (b : Int) :
    Calls Try.prog 16 #[.pointer (some ⟨c, 0, none⟩), .int .i64 b] w fun e w1 => ∃ er, e = .returned (.int .i64 er) ∧ Kz B w w1 ∧
      Calls Try.prog 41 #[.pointer (some ⟨y, 0, none⟩), .int .i64 b] w1 fun e w2 => e = .returned (.int .i64 er) ∧ Kz B w1 w2 ∧ Aft B w2 c mc a dm df dq y x bv qv fv gB gQ C := by
  have hN := h.cd.di.N1
  have heq : C.L.map Bf.abs = l.map (·.1) := h.rc.eq
  have hnd := h.cd.ci.toCW.bnd
  have hca : C.abs.hi + C.abs.mi < 4611686018427387904 := hc
  have hll : l.length = C.L.length := by have := congrArg List.length heq; simpa using this.symm
  by_cases hb : b < 0 ∨ (S.N : Int) ≤ b
  · refine (pin_err b 1 (fun w w' => w' = w) (by omega) ((get_arg h.cd b hb).mono (by rintro e w1 ⟨rfl, rfl⟩; exact ⟨_, _, _, rfl, rfl⟩))).mono ?_
    rintro e w1 ⟨rfl, rfl⟩
    refine ⟨1, rfl, Kz.refl _ _, (rpin_err b 1 (fun w w' => w' = w) (by omega) ((rget_arg h.rc h.ri hN b hb).mono (by rintro e w1 ⟨rfl, rfl⟩; exact ⟨_, _, _, rfl, rfl⟩))).mono ?_⟩
    rintro e w2 ⟨rfl, rfl⟩
    exact ⟨rfl, Kz.refl _ _, lv, l, C, S, h, rfl, by omega⟩
  · obtain ⟨n, rfl⟩ : ∃ n : Nat, b = (n : Int) := ⟨b.toNat, by omega⟩
    have hbN : n < S.N := by omega
    by_cases hm : ∃ f ∈ C.L, f.b = n
    · obtain ⟨f, hf, rfl⟩ := hm
      obtain ⟨i, z, hfi, hzi, ez, hfs⟩ := find_hit heq hnd hf
      have hG := (get_hit h.cd hf hc).mono (R' := fun e w' => ∃ p n cp, e = .returned (.tuple #[.slice p n cp, .int .i64 0]) ∧ CD B w' c mc a dm df dq { C with hi := C.hi + 1, L := outb C.L f.b ++ [{ f with u := C.hi + 1 + C.mi }] } S ∧ { f with u := C.hi + 1 + C.mi } ∈ ({ C with hi := C.hi + 1, L := outb C.L f.b ++ [{ f with u := C.hi + 1 + C.mi }] } : Ch).L ∧ Frame (cfoot c mc C) w w') (by
        rintro e w1 ⟨g, cap, rfl, _, hcd, hfr⟩
        exact ⟨_, _, _, rfl, hcd, by simp, hfr⟩)
      have hfoot : ∀ k, cfoot c mc { C with hi := C.hi + 1, L := outb C.L f.b ++ [{ f with u := C.hi + 1 + C.mi }] } k → cfoot c mc C k := by
        rintro k (hk | hk | ⟨m, hm, hk⟩)
        · exact .inl hk
        · exact .inr (.inl hk)
        · rcases List.mem_append.1 hm with hm | hm
          · exact .inr (.inr ⟨m, (mem_outb.1 hm).1, hk⟩)
          · simp at hm; subst hm; exact .inr (.inr ⟨f, hf, hk⟩)
      have hndp := nodup_hit hnd (f := f) (f' := { f with u := C.hi + 1 + C.mi }) rfl
      by_cases hp : f.p < 100
      · refine (pin_ok { f with u := C.hi + 1 + C.mi } (cfoot c mc C) hG hp).mono ?_
        rintro e w1 ⟨w0, rfl, hX, hY, hcd1⟩
        have hf1 : Frame (cfoot c mc C) w w1 := hX.trans (hY.mono (fun k _ e => hfoot k e))
        obtain ⟨hri1, hrc1⟩ := h.keepP (hf1.mono (fun k _ e => .inl e))
        have hk1 : Kz B w w1 := kzP h.cd hB (hf1.mono (fun k _ e => .inl e))
        have hB1 : B ≤ w1.heap.size := Nat.le_trans hB hk1.below.size
        refine ⟨0, rfl, hk1, pins_tail (C := C) (S := S) (f := { f with u := C.hi + 1 + C.mi }) (Cp := { C with hi := C.hi + 1, L := outb C.L f.b ++ [{ f with u := C.hi + 1 + C.mi }] }) (by simp) hndp hp hB1 rfl (by show C.hi + 1 + C.mi ≤ _; omega) ?_⟩
        refine (rget_hit hrc1 hB1 hri1 hN f.b hbN i z hzi hfs hca).mono ?_
        rintro e w2 ⟨g2, cap2, lv2, rfl, _, hrc2, hf2⟩
        have hf2' : Frame (fun k => rcw y lv k ∨ rfoot x bv qv fv k) w1 w2 := hf2.mono (fun k _ e => .inl (.inl e))
        exact ⟨_, _, _, lv2, _, _, rfl, hrc2, hit_abs heq hnd hfi ez, hrc1.keepD hri1 (hf2.mono (fun k _ e => .inl e)), keepQ hcd1 hri1 hrc1 hf2', kzQ hri1 hrc1 hB1 hf2'⟩
      · refine (pin_full { f with u := C.hi + 1 + C.mi } (cfoot c mc C) hG (by show 100 ≤ f.p; omega)).mono ?_
        rintro e w1 ⟨rfl, hf1, hcd1⟩
        obtain ⟨hri1, hrc1⟩ := h.keepP (hf1.mono (fun k _ e => .inl e))
        have hk1 : Kz B w w1 := kzP h.cd hB (hf1.mono (fun k _ e => .inl e))
        have hB1 : B ≤ w1.heap.size := Nat.le_trans hB hk1.below.size
        have hG2 := (rget_hit hrc1 hB1 hri1 hN f.b hbN i z hzi hfs hca).mono (R' := fun e w2 => ∃ p n cp lv1 l1 A1, e = .returned (.tuple #[.slice p n cp, .int .i64 0]) ∧ RC B w2 y x lv1 l1 A1 ∧ (A1 = Ch.abs { C with hi := C.hi + 1, L := outb C.L f.b ++ [{ f with u := C.hi + 1 + C.mi }] } ∧ (Ch.abs { C with hi := C.hi + 1, L := outb C.L f.b ++ [{ f with u := C.hi + 1 + C.mi }] }).l = l1.map (·.1) ∧ RI B w2 x bv qv fv gB gQ S ∧ CD B w2 c mc a dm df dq { C with hi := C.hi + 1, L := outb C.L f.b ++ [{ f with u := C.hi + 1 + C.mi }] } S ∧ Kz B w1 w2)) (by
          rintro e w2 ⟨g2, cap2, lv2, rfl, _, hrc2, hf2⟩
          have hf2' : Frame (fun k => rcw y lv k ∨ rfoot x bv qv fv k) w1 w2 := hf2.mono (fun k _ e => .inl (.inl e))
          refine ⟨_, _, _, lv2, _, _, rfl, hrc2, hit_abs heq hnd hfi ez, ?_, hrc1.keepD hri1 (hf2.mono (fun k _ e => .inl e)), keepQ hcd1 hri1 hrc1 hf2', kzQ hri1 hrc1 hB1 hf2'⟩
          have := hrc2.eq
          rw [hit_abs heq hnd hfi ez] at this
          exact this)
        refine ⟨3, rfl, hk1, (rpin_full f.b _ hG2 (fun w' lv1 l1 A1 hφ => ?_)).mono ?_⟩
        · have hq : (outb C.L f.b ++ [({ f with u := C.hi + 1 + C.mi } : Bf)]).map Bf.abs = l1.map (·.1) := hφ.2.1
          obtain ⟨i1, z1, _, hz1, ez1, hfs1⟩ := find_hit hq hndp (f := { f with u := C.hi + 1 + C.mi }) (by simp)
          exact ⟨i1, z1, hz1, hfs1, by rw [ez1]; show 100 ≤ f.p; omega⟩
        · rintro e w3 ⟨w2, lv1, l1, A1, rfl, ⟨rfl, _, hri2, hcd2, hk2⟩, hrc2, hb3⟩
          have hB2 : B ≤ w2.heap.size := Nat.le_trans hB1 hk2.below.size
          exact ⟨rfl, hk2.trans (Kz.of_below hB2 hb3), lv1, l1, _, S, ⟨hcd2.later hb3, hri2.later hb3, hrc2.later hb3⟩, rfl, by show C.hi + 1 + C.mi ≤ _; omega⟩
    · have hno : ∀ k ∈ C.L, ¬ k.b = n := fun k hk e => hm ⟨k, hk, e⟩
      have hfs := find_miss heq hno
      by_cases hg : canGo C
      · have hfull : C.abs.bd ≤ l.length → ∃ v : Nat, fst? l (fun u => u.p == 0) = (v : Int) := fun hl => by
          obtain ⟨f, hv⟩ := hg (by rw [← hll]; exact hl)
          obtain ⟨i, _, e⟩ := vic_some heq hv
          exact ⟨i, e⟩
        by_cases h0 : S.fl n = 0
        · have hG := (get_new h.cd h.cd.di.ok n hbN hno hc hg h0).mono (R' := fun e w' => ∃ p m cp gn, e = .returned (.tuple #[.slice p m cp, .int .i64 0]) ∧ w.heap.size ≤ gn ∧ CD B w' c mc a dm df dq { C with mi := C.mi + 1, L := room C ++ [⟨n, C.hi + (C.mi + 1), 0, gn, S.f n⟩] } S ∧ Frame (cfoot c mc C) w w') (by
            rintro e w1 ⟨g, cap, gn, rfl, _, hgn, hcd, hfr⟩
            exact ⟨_, _, _, gn, rfl, hgn, hcd, hfr⟩)
          refine (pin_newy n (fun gn => ⟨n, C.hi + (C.mi + 1), 0, gn, S.f n⟩) (fun gn => { C with mi := C.mi + 1, L := room C ++ [⟨n, C.hi + (C.mi + 1), 0, gn, S.f n⟩] }) _ hG (fun gn => ⟨by simp, rfl, rfl⟩)).mono ?_
          rintro e w1 ⟨gn, w0, rfl, hgn, hX, hcd0, hY, hcd1⟩
          have hf1 : Frame (cfoot c mc C) w w1 := frame_or hX hY (fun k hk => by
            rcases hk with hk | hk | ⟨m, hm, hk⟩
            · exact .inl (.inl hk)
            · exact .inl (.inr (.inl hk))
            · rcases List.mem_append.1 hm with hm | hm
              · exact .inl (.inr (.inr ⟨m, (room_sub C).subset hm, hk⟩))
              · simp at hm; subst hm; exact .inr (by rw [hk]; exact hgn))
          obtain ⟨hri1, hrc1⟩ := h.keepP (hf1.mono (fun k _ e => .inl e))
          have hk1 : Kz B w w1 := kzP h.cd hB (hf1.mono (fun k _ e => .inl e))
          have hB1 : B ≤ w1.heap.size := Nat.le_trans hB hk1.below.size
          refine ⟨0, rfl, hk1, pins_tail (C := C) (S := S) (f := ⟨n, C.hi + (C.mi + 1), 0, gn, S.f n⟩) (Cp := { C with mi := C.mi + 1, L := room C ++ [⟨n, C.hi + (C.mi + 1), 0, gn, S.f n⟩] }) (by simp) (nodup_new hnd hno) (by show 0 < 100; omega) hB1 rfl (by show C.hi + (C.mi + 1) ≤ _; omega) ?_⟩
          refine (rget_new hrc1 hri1 hN n hbN hfs h.cd.di.ok hfull hB1 h0 hca).mono ?_
          rintro e w2 ⟨g2, cap2, gx, cx, lv2, rfl, _, _, hrc2, hri2, hf2⟩
          exact ⟨_, _, _, lv2, _, _, rfl, hrc2, new_abs heq hnd hg, hri2, keepQ hcd1 hri1 hrc1 hf2, kzQ hri1 hrc1 hB1 hf2⟩
        · have hr0 : ¬ (aRead S (n : Int)).2.2.1 = 0 := by
            unfold aRead
            have := (h.cd.di.ok.fl n).1
            rw [if_neg (by omega), if_pos (by simp; omega)]
            simp
          refine (pin_err (n : Int) _ (fun w w' => CD B w' c mc a dm df dq { C with mi := C.mi + 1 } (aRead S n).2.2.2 ∧ Frame (fun k => cfoot c mc C k ∨ foot a dm df dq k) w w') hr0 ((get_err h.cd n hbN hno hc hg hr0).mono (by rintro e w1 ⟨rfl, hcd, hfr⟩; exact ⟨_, _, _, rfl, hcd, hfr⟩))).mono ?_
          rintro e w1 ⟨rfl, hcd1, hf1⟩
          obtain ⟨hri1, hrc1⟩ := h.keepP hf1
          have hk1 : Kz B w w1 := kzP h.cd hB hf1
          have hB1 : B ≤ w1.heap.size := Nat.le_trans hB hk1.below.size
          refine ⟨_, rfl, hk1, (rpin_err (n : Int) _ (fun w w' => RC B w' y x lv l { C.abs with mi := C.abs.mi + 1 } ∧ RI B w' x bv qv fv gB gQ (aRead S (n : Int)).2.2.2 ∧ Frame (fun k => k = y ∨ rfoot x bv qv fv k) w w') hr0 ((rget_err hrc1 hri1 hN n hbN hfs h.cd.di.ok hfull hr0 hca).mono (by rintro e w2 ⟨rfl, hrc, hri, hfr⟩; exact ⟨_, _, _, rfl, hrc, hri, hfr⟩))).mono ?_⟩
          rintro e w2 ⟨rfl, hrc2, hri2, hf2⟩
          have hf2' : Frame (fun k => rcw y lv k ∨ rfoot x bv qv fv k) w1 w2 := hf2.mono (fun k _ e => e.imp .inl id)
          exact ⟨rfl, kzQ hri1 hrc1 hB1 hf2', lv, l, { C with mi := C.mi + 1 }, _, ⟨keepQ hcd1 hri1 hrc1 hf2', hri2, hrc2⟩, rfl, by show C.hi + (C.mi + 1) ≤ _; omega⟩
      · have hfl : C.bd ≤ C.L.length := by
          rcases Nat.lt_or_ge C.L.length C.bd with h' | h'
          · exact absurd (fun hh => absurd hh (by omega)) hg
          · exact h'
        have hv : vic C.L = none := by
          cases hv : vic C.L with
          | none => rfl
          | some f => exact absurd (fun _ => ⟨f, hv⟩) hg
        refine (pin_err (n : Int) 60 (fun w w' => CD B w' c mc a dm df dq { C with mi := C.mi + 1 } S ∧ Frame (cfoot c mc C) w w') (by omega) ((get_pinned h.cd n hbN hno hc hfl hv).mono (by rintro e w1 ⟨rfl, hcd, hfr⟩; exact ⟨_, _, _, rfl, hcd, hfr⟩))).mono ?_
        rintro e w1 ⟨rfl, hcd1, hf1⟩
        obtain ⟨hri1, hrc1⟩ := h.keepP (hf1.mono (fun k _ e => .inl e))
        have hk1 : Kz B w w1 := kzP h.cd hB (hf1.mono (fun k _ e => .inl e))
        have hB1 : B ≤ w1.heap.size := Nat.le_trans hB hk1.below.size
        refine ⟨60, rfl, hk1, (rpin_err (n : Int) 60 (fun w w' => RC B w' y x lv l { C.abs with mi := C.abs.mi + 1 } ∧ Frame (fun k => k = y) w w') (by omega) ((rget_pinned hrc1 hri1 hN n hbN hfs (by rw [hll]; exact hfl) (vic_none heq hv) hca).mono (by rintro e w2 ⟨rfl, hrc, hfr⟩; exact ⟨_, _, _, rfl, hrc, hfr⟩))).mono ?_⟩
        rintro e w2 ⟨rfl, hrc2, hf2⟩
        have hf2' : Frame (fun k => rcw y lv k ∨ rfoot x bv qv fv k) w1 w2 := hf2.mono (fun k _ e => .inl (.inl e))
        exact ⟨rfl, kzQ hri1 hrc1 hB1 hf2', lv, l, { C with mi := C.mi + 1 }, S, ⟨keepQ hcd1 hri1 hrc1 hf2', hrc1.keepD hri1 (hf2.mono (fun k _ e => .inl e)), hrc2⟩, rfl, by show C.hi + (C.mi + 1) ≤ _; omega⟩
end

set_option maxHeartbeats 1000000 in
theorem spoil_ok {B : Nat} {w : World} {v : Value} {n : Nat} {xs : List Int} (h : w.ownsRow B 5 1 v n (xs.map (Value.int .u8))) (hbig : n ≤ 140737488355328) :
    Calls Try.prog 39 #[v] w fun e w' => (∃ u, e = .returned u) ∧ Frame (fun k => v.ownBlock = some k) w w' := by
  obtain ⟨p, c, rfl, hp⟩ := row_case h
  have hl : xs.length = n := by have := h.1; simpa using this
  go_enter Try.func39, Try.ntmps39
  go_wp2_with fail
  go_loopw [5] (fun i wr => ∃ (j : Nat) (ys : List Int), j ≤ n ∧ i = .int .i64 (j : Int) ∧ wr.ownsRow B 5 1 (.slice p n c) n (ys.map (Value.int .u8)) ∧ Frame (fun k => (Value.slice p n c).ownBlock = some k) w wr) (fun i _ => n - (intOf i).toNat)
  case atStart => exact ⟨0, xs, by omega, rfl, h, Frame.refl _ _⟩
  case round =>
    clear h
    obtain ⟨j, ys, hj, rfl, ho, hf⟩ := hrel
    by_cases hlt : j < n
    · obtain ⟨g, rfl⟩ := hp (by omega)
      have hcell := Own.cell (B := B) (w := wr) (cap := c) ho j hlt
      have hfz := ho.frozenAt j
      generalize ys.getD j 0 = y at hcell
      have hjI : (j : Int) < (n : Int) := by omega
      have hst := fun u => Own.set (B := B) (w := wr) (cap := c) ho j u
      have HST := (show Hid _ from hst)
      clear hst
      go_wp2
      go_roundw
      case rel => exact ⟨j + 1, _, by omega, by go_num, HST.out _, hf.trans (Frame.setCell wr _ rfl)⟩
      case measure => simp [intOf]; omega
    · obtain rfl : j = n := by omega
      go_wp2
      first | go_end0 | (refine bodyPost_ret (results_none rfl _ _ _) rfl ?_)
      exact ⟨⟨_, rfl⟩, hf⟩

theorem BI.low {B : Nat} {w w' : World} {p : Option Addr} {n : Nat} {xs : List Int} (h : BI w p n xs) (hp : ∀ b o, p = some ⟨b, o, none⟩ → b < B ∨ n = 0) (hb : Below B w w') : BI w' p n xs := by
  refine ⟨h.len, h.big, h.byt, fun hn => ?_⟩
  obtain ⟨b, o, rfl, hc⟩ := h.cells hn
  exact ⟨b, o, rfl, fun i hi => by rw [World.cell?_of_block (a := ⟨b, o + i, none⟩) (hb.block b ((hp b o rfl).resolve_right (by omega)))]; exact hc i hi⟩
theorem seven_mod (b : Int) : ∃ k : Nat, k < 7 ∧ wrap64 ((IntKind.u64.wrap b).tmod 7) = (k : Int) := by
  have h0 : 0 ≤ IntKind.u64.wrap b := by
    simp [IntKind.wrap, IntKind.bits, IntKind.signed]
    omega
  rw [Int.tmod_eq_emod_of_nonneg h0]
  generalize IntKind.u64.wrap b = u at *
  refine ⟨(u % 7).toNat, by omega, ?_⟩
  unfold wrap64; omega

section
variable {B : Nat} {w w' : World} {c mc a dm df y x : Nat} {dq lv bv qv fv : Value} {l : List BZ} {gB gQ : List (Nat × Nat)} {C : Ch} {S : St}
/-- Bytes of the statement's own, written over, are none of the caches'. -/
theorem LI.spoil (h : LI B w c mc a dm df dq y x lv l bv qv fv gB gQ C S) {v : Value} {n : Nat} {L : List Value} {H : Nat} (ho : w.ownsRow H 5 1 v n L) (hf : Frame (fun k => v.ownBlock = some k) w w') (hz : ∀ k, v.ownBlock = some k → ∀ z ∈ l, z.2.1 ≠ k) (hr : ∀ k, v.ownBlock = some k → ¬ rrows gB gQ k) : LI B w' c mc a dm df dq y x lv l bv qv fv gB gQ C S := by
  have ty : ∀ k, v.ownBlock = some k → ∃ cs, w.heap[k]? = some (.cells cs 5 (0, 0)) := fun k hk => own_ty ho hk
  refine ⟨⟨h.cd.ci.kept fun k hk => hf.block k (h.cd.ci.toCW.in k hk).2 (fun e => ?_), h.cd.di.kept fun k hk => hf.block k (h.cd.di.in k hk).2 (fun e => ?_), h.cd.ne⟩, h.ri.kept fun k hk => hf.block k (h.ri.in hk).2 (fun e => ?_), h.rc.kept fun k hk => hf.block k (h.rc.in k hk).2 (fun e => ?_)⟩
  · obtain ⟨cs, e'⟩ := ty k e
    exact h.cd.ci.toCW.notin e' (by decide) (by decide) hk
  · obtain ⟨cs, e'⟩ := ty k e
    exact h.cd.di.notin e' (by decide) (by decide) hk
  · obtain ⟨cs, e'⟩ := ty k e
    rcases hk with hk | hk
    · exact h.ri.notin e' (by decide) (by decide) (by decide) (by decide) hk
    · exact hr k e hk
  · obtain ⟨cs, e'⟩ := ty k e
    rcases hk with rfl | hk | ⟨z, hz', rfl⟩
    · rw [h.rc.row] at e'; simp at e'
    · obtain ⟨cs2, e2⟩ := own_ty h.rc.lst hk
      rw [e'] at e2; simp at e2
    · exact hz _ e z hz' rfl
theorem rrows_lt (hr : RI B w x bv qv fv gB gQ S) {k : Nat} (hk : w.heap.size ≤ k) : ¬ rrows gB gQ k := fun e => by have := (hr.in (.inr e)).2; omega

set_option maxRecDepth 100000 in
set_option maxHeartbeats 4000000 in
theorem does_ok (h : LI B w c mc a dm df dq y x lv l bv qv fv gB gQ C S) (hB : B ≤ w.heap.size) (hc : C.hi + C.mi < 4611686018427387904) (k : KV) (kp : Option Addr) (kn kc : Nat) (hk : BI w kp kn k.bytes) (hkB : ∀ b o, kp = some ⟨b, o, none⟩ → b < B ∨ kn = 0) :
    Calls Try.prog 9 #[.pointer (some ⟨c, 0, none⟩), .pointer (some ⟨y, 0, none⟩), .pointer (some ⟨a, 0, none⟩), .pointer (some ⟨x, 0, none⟩), .agg #[.int .i64 k.op, .int .i64 k.b, .int .i64 k.n, .slice kp kn kc]] w fun e w' => e = .returned (.bool true) ∧ Below B w w' ∧ Aft B w' c mc a dm df dq y x bv qv fv gB gQ C := by
  have hbx := (Below.refl w.heap.size w).alloc (Nat.le_refl _) (.cells #[.int .i64 k.op, .int .i64 k.b, .int .i64 k.n, .slice kp kn kc] 31)
  have hT := World.alloc_heap_new w (.cells #[.int .i64 k.op, .int .i64 k.b, .int .i64 k.n, .slice kp kn kc] 31)
  have h1 := h.later hbx
  have hk1 := hk.kept hbx
  have hcl := bclone_any kp kn kc k.bytes _ hk1
  have hB1 : B ≤ (w.alloc (.cells #[.int .i64 k.op, .int .i64 k.b, .int .i64 k.n, .slice kp kn kc] 31)).heap.size := Nat.le_trans hB hbx.size
  obtain ⟨o, ho, eo⟩ := seven_mod k.op
  have y3 : _ = some (Value.slice kp kn kc) := cell_of_row _ _ 3 _ 31 _ hT
  have HH := (show Hid _ from h1)
  go_enter Try.func9, Try.ntmps9
  go_wp2_with fail
  refine Calls.mono hcl ?_
  rintro e w2 ⟨v, rfl, hv2, hb2⟩
  obtain ⟨gp, gc, rfl⟩ := slice_shape hv2
  have hL := HH.out.later hb2
  have hT2 := (hb2.block w.heap.size (Array.getElem?_eq_some_iff.1 hT).1).trans hT
  have hk2 := hk1.kept hb2
  have hb02 : Below w.heap.size w w2 := hbx.trans (hb2.mono hbx.size)
  have hv2 := ownsRow_base hv2 hbx.size
  have hB2 : B ≤ w2.heap.size := Nat.le_trans hB hb02.size
  have hrr : ∀ j, (Value.slice gp kn gc).ownBlock = some j → ¬ rrows gB gQ j ∧ ∀ z ∈ l, z.2.1 ≠ j := fun j hj => by
    have := (hv2.lt j hj).1
    exact ⟨rrows_lt h.ri this, fun z hz => by have := (h.rc.byt z hz).1.spot.2; omega⟩
  have hkn := hk.big
  have HV := (show Hid _ from hv2)
  have HK := (show Hid _ from hk2)
  have HRR := (show Hid _ from hrr)
  have HB0 := (show Hid _ from hb02)
  clear hcl HH hT hb2 hbx h1 hk1 hB1 y3 hv2 hk2 hrr hb02
  have hTy : Hid (∀ w3, Kz B w2 w3 → w3.heap[w.heap.size]? = some (.cells #[.int .i64 k.op, .int .i64 k.b, .int .i64 k.n, .slice kp kn kc] 31 (0, 0))) := fun w3 hz => (hz.keep w.heap.size _ 31 (.inl rfl) hT2).trans hT2
  have z0 : w2.cell? ⟨w.heap.size, 0, none⟩ = some (.int .i64 k.op) := cell_of_row _ _ 0 _ 31 _ hT2
  have z1 : w2.cell? ⟨w.heap.size, 1, none⟩ = some (.int .i64 k.b) := cell_of_row _ _ 1 _ 31 _ hT2
  have z2 : w2.cell? ⟨w.heap.size, 2, none⟩ = some (.int .i64 k.n) := cell_of_row _ _ 2 _ 31 _ hT2
  have z3 : w2.cell? ⟨w.heap.size, 3, none⟩ = some (.slice kp kn kc) := cell_of_row _ _ 3 _ 31 _ hT2
  clear hT2
  generalize hTT : w.heap.size = T at *
  generalize k.op = op at *
  generalize k.b = b at *
  generalize k.n = kk at *
  rcases (by omega : o = 0 ∨ o = 1 ∨ o = 2 ∨ o = 3 ∨ o = 4 ∨ o = 5 ∨ o = 6) with rfl | rfl | rfl | rfl | rfl | rfl | rfl
  · have hp := gets hL hB2 hc b
    go_wp2_with (first
      | (go_at_call 15; refine Calls.mono hp ?_; rintro e w3 ⟨p3, n3, c3, er, rfl, hz3, hq⟩; have z1A : w3.cell? ⟨T, 1, none⟩ = some (.int .i64 b) := cell_of_row _ _ 1 _ 31 _ (hTy.out w3 hz3))
      | (go_at_call 38; refine Calls.mono hq ?_; rintro e w4 ⟨p4, n4, c4, xs, rfl, hz4, lv2, l2, C2, S2, hL2, hx4, ho4, hby, hn3, hz5, hbd2, hcn2, hsp⟩; have heq := equal_any p3 p4 n3 c3 n4 c4 xs xs w4 (row_bi ho4 (by omega) hby) hx4; rw [show (xs == xs) = true by simp] at heq; have hspo := spoil_ok ho4 (by omega))
      | (go_at_call 25; refine same_at heq ?_)
      | (go_at_call 39; refine Calls.mono hspo ?_; rintro e w5 ⟨⟨u, rfl⟩, hf5⟩))
    go_ret
    refine ⟨rfl, ((HB0.out.mono hB).trans hz5.below).trans (hf5.below (Nat.le_trans hB2 hz5.below.size) (fun j hj => Nat.le_trans hB2 (ho4.lt j hj).1)), lv2, l2, C2, S2, hL2.spoil ho4 hf5 hsp (fun j hj => rrows_lt hL.ri (ho4.lt j hj).1), hbd2, hcn2⟩
  · have hp := gets hL hB2 hc b
    go_wp2_with (first
      | (go_at_call 15; refine Calls.mono hp ?_; rintro e w3 ⟨p3, n3, c3, er, rfl, hz3, hq⟩; have z1A : w3.cell? ⟨T, 1, none⟩ = some (.int .i64 b) := cell_of_row _ _ 1 _ 31 _ (hTy.out w3 hz3))
      | (go_at_call 38; refine Calls.mono hq ?_; rintro e w4 ⟨p4, n4, c4, xs, rfl, hz4, lv2, l2, C2, S2, hL2, hx4, ho4, hby, hn3, hz5, hbd2, hcn2, hsp⟩; have heq := equal_any p3 p4 n3 c3 n4 c4 xs xs w4 (row_bi ho4 (by omega) hby) hx4; rw [show (xs == xs) = true by simp] at heq; have hspo := spoil_ok ho4 (by omega))
      | (go_at_call 25; refine same_at heq ?_)
      | (go_at_call 39; refine Calls.mono hspo ?_; rintro e w5 ⟨⟨u, rfl⟩, hf5⟩))
    go_ret
    refine ⟨rfl, ((HB0.out.mono hB).trans hz5.below).trans (hf5.below (Nat.le_trans hB2 hz5.below.size) (fun j hj => Nat.le_trans hB2 (ho4.lt j hj).1)), lv2, l2, C2, S2, hL2.spoil ho4 hf5 hsp (fun j hj => rrows_lt hL.ri (ho4.lt j hj).1), hbd2, hcn2⟩
  · have hp := gets hL hB2 hc b
    go_wp2_with (first
      | (go_at_call 15; refine Calls.mono hp ?_; rintro e w3 ⟨p3, n3, c3, er, rfl, hz3, hq⟩; have z1A : w3.cell? ⟨T, 1, none⟩ = some (.int .i64 b) := cell_of_row _ _ 1 _ 31 _ (hTy.out w3 hz3))
      | (go_at_call 38; refine Calls.mono hq ?_; rintro e w4 ⟨p4, n4, c4, xs, rfl, hz4, lv2, l2, C2, S2, hL2, hx4, ho4, hby, hn3, hz5, hbd2, hcn2, hsp⟩; have heq := equal_any p3 p4 n3 c3 n4 c4 xs xs w4 (row_bi ho4 (by omega) hby) hx4; rw [show (xs == xs) = true by simp] at heq; have hspo := spoil_ok ho4 (by omega))
      | (go_at_call 25; refine same_at heq ?_)
      | (go_at_call 39; refine Calls.mono hspo ?_; rintro e w5 ⟨⟨u, rfl⟩, hf5⟩))
    go_ret
    refine ⟨rfl, ((HB0.out.mono hB).trans hz5.below).trans (hf5.below (Nat.le_trans hB2 hz5.below.size) (fun j hj => Nat.le_trans hB2 (ho4.lt j hj).1)), lv2, l2, C2, S2, hL2.spoil ho4 hf5 hsp (fun j hj => rrows_lt hL.ri (ho4.lt j hj).1), hbd2, hcn2⟩
  · have hLd := hL.later (Below.refl _ _).drew
    have hlow : ∀ w3, Below B w2 w3 → BI w3 kp kn k.bytes := fun w3 hb => HK.out.low hkB hb
    have hbg : Num.Byt k.bytes := HK.out.byt
    have hp := puts hLd hB2 b gp kn gc kp kc k.bytes ((row_bi HV.out hkn hbg).kept (Below.refl _ _).drew) (fun w3 hz => hlow w3 ((below_drewN (Below.refl B w2) 1).trans hz.below)) hkn
    have hown : ∀ w3, Kz B w2 w3 → w3.ownsRow T 5 1 (.slice gp kn gc) kn (k.bytes.map (Value.int .u8)) := fun w3 hz => ownsRow_kept HV.out (fun j hj => by obtain ⟨cs, e⟩ := own_ty HV.out hj; exact hz.keep j cs 5 (.inr rfl) e)
    have z1d : w2.drew.cell? ⟨T, 1, none⟩ = some (.int .i64 b) := z1
    have z3d : w2.drew.cell? ⟨T, 3, none⟩ = some (.slice kp kn kc) := z3
    have hKd : Kz B w2 w2.drew := ⟨below_drewN (Below.refl B w2) 1, fun _ _ _ _ _ => rfl⟩
    have HOW := (show Hid _ from hown)
    have HLO := (show Hid _ from hlow)
    clear hown hlow
    go_wp2_with fail
    go_region_held3 (fun w' => w'.cell? ⟨T, 1, none⟩ = some (.int .i64 b) ∧ w'.cell? ⟨T, 3, none⟩ = some (.slice kp kn kc)) (first | exact ⟨z1d, z3d⟩ | exact ⟨z1A, z3A⟩ | exact ⟨z1B, z3B⟩)
      (first
        | (go_at_call 23; refine Calls.mono hp ?_; rintro e w3 ⟨er, rfl, hz3, hq⟩; have hT3 := hTy.out w3 (hKd.trans hz3); have z1A : w3.cell? ⟨T, 1, none⟩ = some (.int .i64 b) := cell_of_row _ _ 1 _ 31 _ hT3; have z3A : w3.cell? ⟨T, 3, none⟩ = some (.slice kp kn kc) := cell_of_row _ _ 3 _ 31 _ hT3)
        | (go_at_call 40; refine Calls.mono hq ?_; rintro e w4 ⟨rfl, hz4, lv2, l2, C2, S2, hL2, hbd2, hcn2, hsp⟩; have hK4 := (hKd.trans hz3).trans hz4; have hT4 := hTy.out w4 hK4; have z1B : w4.cell? ⟨T, 1, none⟩ = some (.int .i64 b) := cell_of_row _ _ 1 _ 31 _ hT4; have z3B : w4.cell? ⟨T, 3, none⟩ = some (.slice kp kn kc) := cell_of_row _ _ 3 _ 31 _ hT4; have ho4 := HOW.out w4 hK4; have heq := equal_any gp kp kn gc kn kc k.bytes k.bytes w4 (row_bi ho4 hkn hbg) (HLO.out w4 hK4.below); rw [show (k.bytes == k.bytes) = true by simp] at heq)
        | (go_at_call 25; refine same_at heq ?_))
    all_goals (
      have hspo := spoil_ok ho4 hkn
      go_wp2_with (first | (go_at_call 39; refine Calls.mono hspo ?_; rintro e w5 ⟨⟨u, rfl⟩, hf5⟩))
      go_ret
      refine ⟨by first | rfl | exact ret_bool (by simp), ((HB0.out.mono hB).trans hK4.below).trans (hf5.below (Nat.le_trans hB2 hK4.below.size) (fun j hj => Nat.le_trans hB (ho4.lt j hj).1)), lv2, l2, C2, S2, hL2.spoil ho4 hf5 (fun j hj z hz => ?_) (fun j hj => (HRR.out j hj).1), hbd2, hcn2⟩
      rcases hsp z hz with h' | h'
      · exact (HRR.out j hj).2 z h'
      · have h0 : w2.ownsRow T 5 1 (.slice gp kn gc) kn (k.bytes.map (Value.int .u8)) := HV.out
        have h1 := (h0.lt j hj).2
        have h2 := (hKd.trans hz3).below.size
        omega)
  · have hLd := hL.later (Below.refl _ _).drew
    have hp := pins hLd hB2 hc b
    have z1d : w2.drew.cell? ⟨T, 1, none⟩ = some (.int .i64 b) := z1
    go_wp2_with fail
    go_region_held3 (fun w' => w'.cell? ⟨T, 1, none⟩ = some (.int .i64 b)) (first | exact z1d | exact z1A | exact z1B)
      (first
        | (go_at_call 16; refine Calls.mono hp ?_; rintro e w3 ⟨er, rfl, hz3, hq⟩; have z1A : w3.cell? ⟨T, 1, none⟩ = some (.int .i64 b) := cell_of_row _ _ 1 _ 31 _ (hTy.out w3 ⟨(below_drewN (Below.refl B w2) 1).trans hz3.below, hz3.keep⟩))
        | (go_at_call 41; refine Calls.mono hq ?_; rintro e w4 ⟨rfl, hz4, haft⟩; have z1B : w4.cell? ⟨T, 1, none⟩ = some (.int .i64 b) := cell_of_row _ _ 1 _ 31 _ (hTy.out w4 ⟨((below_drewN (Below.refl B w2) 1).trans hz3.below).trans hz4.below, (hz3.trans hz4).keep⟩)))
    all_goals (
      go_wp2
      go_ret
      exact ⟨by first | rfl | exact ret_bool (by simp), ((HB0.out.mono hB).trans (below_drewN (Below.refl B w2) 1)).trans (hz3.below.trans hz4.below), haft⟩)
  · have hLd := hL.later (Below.refl _ _).drew
    have hp := unpins hLd hB2 b
    have z1d : w2.drew.cell? ⟨T, 1, none⟩ = some (.int .i64 b) := z1
    go_wp2_with fail
    go_region_held3 (fun w' => w'.cell? ⟨T, 1, none⟩ = some (.int .i64 b)) (first | exact z1d | exact z1A | exact z1B)
      (first
        | (go_at_call 17; refine Calls.mono hp ?_; rintro e w3 ⟨er, rfl, hz3, hq⟩; have z1A : w3.cell? ⟨T, 1, none⟩ = some (.int .i64 b) := cell_of_row _ _ 1 _ 31 _ (hTy.out w3 ⟨(below_drewN (Below.refl B w2) 1).trans hz3.below, hz3.keep⟩))
        | (go_at_call 42; refine Calls.mono hq ?_; rintro e w4 ⟨rfl, hz4, haft⟩; have z1B : w4.cell? ⟨T, 1, none⟩ = some (.int .i64 b) := cell_of_row _ _ 1 _ 31 _ (hTy.out w4 ⟨((below_drewN (Below.refl B w2) 1).trans hz3.below).trans hz4.below, (hz3.trans hz4).keep⟩)))
    all_goals (
      go_wp2
      go_ret
      exact ⟨by first | rfl | exact ret_bool (by simp), ((HB0.out.mono hB).trans (below_drewN (Below.refl B w2) 1)).trans (hz3.below.trans hz4.below), haft⟩)
  · by_cases hkk : kk.tmod 2 = 0
    · have hLd := hL.later (Below.refl _ _).drew
      have hp := drops hLd hB2 b
      have hev : kk.tmod 2 = 0 := hkk
      have z1d : w2.drew.cell? ⟨T, 1, none⟩ = some (.int .i64 b) := z1
      go_wp2_with fail
      go_region_held3 (fun w' => w'.cell? ⟨T, 1, none⟩ = some (.int .i64 b)) (first | exact z1d | exact z1A | exact z1B)
        (first
          | (go_at_call 26; refine Calls.mono hp ?_; rintro e w3 ⟨er, rfl, hz3, hq⟩; have z1A : w3.cell? ⟨T, 1, none⟩ = some (.int .i64 b) := cell_of_row _ _ 1 _ 31 _ (hTy.out w3 ⟨(below_drewN (Below.refl B w2) 1).trans hz3.below, hz3.keep⟩))
          | (go_at_call 43; refine Calls.mono hq ?_; rintro e w4 ⟨rfl, hz4, haft⟩; have z1B : w4.cell? ⟨T, 1, none⟩ = some (.int .i64 b) := cell_of_row _ _ 1 _ 31 _ (hTy.out w4 ⟨((below_drewN (Below.refl B w2) 1).trans hz3.below).trans hz4.below, (hz3.trans hz4).keep⟩)))
      all_goals (
        go_wp2
        go_ret
        exact ⟨by first | rfl | exact ret_bool (by simp), ((HB0.out.mono hB).trans (below_drewN (Below.refl B w2) 1)).trans (hz3.below.trans hz4.below), haft⟩)
    · have hLd := hL.later (Below.refl _ _).drew
      have hp := fails hLd hB2 b kk
      have hev : ¬ kk.tmod 2 = 0 := hkk
      have z2d : w2.drew.cell? ⟨T, 2, none⟩ = some (.int .i64 kk) := z2
      have z1d : w2.drew.cell? ⟨T, 1, none⟩ = some (.int .i64 b) := z1
      go_wp2_with fail
      go_region_held3 (fun w' => w'.cell? ⟨T, 1, none⟩ = some (.int .i64 b) ∧ w'.cell? ⟨T, 2, none⟩ = some (.int .i64 kk)) (first | exact ⟨z1d, z2d⟩ | exact ⟨z1A, z2A⟩ | exact ⟨z1B, z2B⟩)
        (first
          | (go_at_call 44; refine Calls.mono hp ?_; rintro e w3 ⟨er, rfl, hz3, hq⟩; have z1A : w3.cell? ⟨T, 1, none⟩ = some (.int .i64 b) := cell_of_row _ _ 1 _ 31 _ (hTy.out w3 ⟨(below_drewN (Below.refl B w2) 1).trans hz3.below, hz3.keep⟩); have z2A : w3.cell? ⟨T, 2, none⟩ = some (.int .i64 kk) := cell_of_row _ _ 2 _ 31 _ (hTy.out w3 ⟨(below_drewN (Below.refl B w2) 1).trans hz3.below, hz3.keep⟩))
          | (go_at_call 45; refine Calls.mono hq ?_; rintro e w4 ⟨rfl, hz4, haft⟩; have z1B : w4.cell? ⟨T, 1, none⟩ = some (.int .i64 b) := cell_of_row _ _ 1 _ 31 _ (hTy.out w4 ⟨((below_drewN (Below.refl B w2) 1).trans hz3.below).trans hz4.below, (hz3.trans hz4).keep⟩); have z2B : w4.cell? ⟨T, 2, none⟩ = some (.int .i64 kk) := cell_of_row _ _ 2 _ 31 _ (hTy.out w4 ⟨((below_drewN (Below.refl B w2) 1).trans hz3.below).trans hz4.below, (hz3.trans hz4).keep⟩)))
      all_goals (
        go_wp2
        go_ret
        exact ⟨by first | rfl | exact ret_bool (by simp), ((HB0.out.mono hB).trans (below_drewN (Below.refl B w2) 1)).trans (hz3.below.trans hz4.below), haft⟩)
end

theorem helds {B : Nat} {w : World} {c mc a dm df y x : Nat} {dq lv bv qv fv : Value} {l : List BZ} {gB gQ : List (Nat × Nat)} {C : Ch} {S : St} (h : LI B w c mc a dm df dq y x lv l bv qv fv gB gQ C S) :
    Calls Try.prog 11 #[.pointer (some ⟨c, 0, none⟩)] w fun e w1 => ∃ p n cp, e = .returned (.slice p n cp) ∧ Below w.heap.size w w1 ∧
      Calls Try.prog 12 #[.pointer (some ⟨y, 0, none⟩)] w1 fun e w2 => ∃ p2 cp2, e = .returned (.slice p2 n cp2) ∧ Below w1.heap.size w1 w2 ∧
        Calls Try.prog 10 #[.slice p n cp, .slice p2 n cp2] w2 fun e w3 => e = .returned (.bool true) ∧ Below w2.heap.size w2 w3 := by
  refine (held_ok h.cd.ci).mono ?_
  rintro e w1 ⟨v, rfl, hN, hb1⟩
  have hr := blks_rng h.cd.ci.toCW
  have h12 := h.cd.ci.toCW.twelve
  have h12' := h.cd.ci.N12
  have heq : C.L.map Bf.abs = l.map (·.1) := h.rc.eq
  have hbl : l.map (fun z => (z.1.b : Int)) = blks C.L := by
    have := congrArg (List.map (fun u : Bu => (u.b : Int))) heq
    rw [List.map_map, List.map_map] at this
    exact this.symm
  obtain ⟨p, cp, rfl, hi⟩ := hN.ii rfl (by rw [blks_len]; omega) hr
  refine ⟨p, _, cp, rfl, hb1, (rheld_ok (h.rc.later hb1)).mono ?_⟩
  rintro e w2 ⟨v2, rfl, hW, hb2⟩
  rw [hbl] at hW
  obtain ⟨p2, cp2, rfl, hi2⟩ := hW.ii (by rw [blks_len]; omega) hr
  exact ⟨p2, cp2, rfl, hb2, iequal_same p p2 _ cp cp2 _ w2 (hi.kept hb2) hi2⟩

set_option maxRecDepth 100000 in
set_option maxHeartbeats 4000000 in
theorem cacheLives_walk (blocks bound : Int) (p : Option Addr) (m cp : Nat) (ks : List KV) (w : World) (hl : KI w p m ks) :
    Calls Try.prog 3 #[.int .i64 blocks, .int .i64 bound, .slice p m cp] w fun e w' => e = .returned (.bool true) ∧ Below w.heap.size w w' := by
  have hbo := both_ok blocks bound w
  have hmm := hl.big
  have hlen := hl.len
  go_enter Try.func3, Try.ntmps3
  go_wp2_with fail
  refine Calls.mono hbo ?_
  rintro e w1 ⟨K, a, x, hK1, hK2, eK', hb1, ⟨_, rfl⟩ | ⟨n, c, mc, y, dm, df, dq, bv, qv, fv, gB, gQ, en, hn1, hn2, rfl, hcd, hri, hrc⟩⟩
  · clear hbo eK'
    go_wp2
    go_ret
    exact ⟨rfl, hb1⟩
  · have hLI : LI w.heap.size w1 c mc a dm df dq y x (.slice none 0 0) [] bv qv fv gB gQ ⟨n, 0, 0, []⟩ (Sb K K) := ⟨hcd, hri, hrc⟩
    generalize Sb K K = S0 at *
    clear hbo eK' hcd hri hrc en
    go_wp2_with fail
    go_loopw [36] (fun i wr => ∃ (j : Nat) (lv : Value) (l : List BZ) (C : Ch) (S : St), j ≤ m ∧ i = .int .i64 (j : Int) ∧ LI w.heap.size wr c mc a dm df dq y x lv l bv qv fv gB gQ C S ∧ C.hi + C.mi ≤ j ∧ Below w.heap.size w wr) (fun i _ => m - (intOf i).toNat)
    case atStart => exact ⟨0, _, _, _, _, by omega, rfl, hLI, Nat.le_refl _, hb1⟩
    case round =>
      clear hLI hb1
      obtain ⟨j, lv, l, C, S, hj, rfl, hL, hcnt, hbw⟩ := hrel
      by_cases hlt : j < m
      · obtain ⟨bb, oo, rfl, hat⟩ := hl.cells (by omega)
        obtain ⟨k, hk⟩ : ∃ k, ks[j]? = some k := ⟨ks[j]'(by omega), List.getElem?_eq_getElem (by omega)⟩
        obtain ⟨q0, q1, q2, ⟨yp, ym, yc, q3, y1, y2, y3⟩, _, _, _⟩ := hat j k hk
        obtain ⟨k0, k1, k2, ⟨xp, xm, xc, k3, x1, x2, x3⟩, r0, r1, r2⟩ := (hat j k hk).kept hbw
        have e3 : some (Value.slice yp ym yc) = some (Value.slice xp xm xc) := by
          have hlt' := lt_of_cell q3
          rw [← q3, ← k3]
          exact (hbw.cell (p := ⟨bb, oo + j * 4 + 3, none⟩) hlt').symm
        obtain ⟨rfl, rfl, rfl⟩ := Value.slice.inj (Option.some.inj e3)
        have hxB : Hid (∀ b o, yp = some ⟨b, o, none⟩ → b < w.heap.size ∨ ym = 0) := by
          intro b o e
          by_cases h0 : ym = 0
          · exact .inr h0
          · obtain ⟨b', o', e', hc⟩ := y3.cells (by omega)
            rw [e] at e'
            cases e'
            exact .inl (lt_of_cell (hc 0 (by omega)))
        clear hat hk q0 q1 q2 q3 y1 y2 y3 e3
        have hba := (Below.refl wr.heap.size wr).alloc (Nat.le_refl _) (.cells #[.int .i64 k.op, .int .i64 k.b, .int .i64 k.n, .slice yp ym yc] 31)
        have hLa := hL.later hba
        have hxa := x3.kept hba
        have hbwa := hbw.alloc hbw.size (.cells #[.int .i64 k.op, .int .i64 k.b, .int .i64 k.n, .slice yp ym yc] 31)
        have hjI : (j : Int) < (m : Int) := by omega
        have hj0 : (0 : Int) ≤ (j : Int) := by omega
        have hd := does_ok hLa hbwa.size (by omega) k yp ym yc hxa hxB.out
        go_wp2_with (first
          | (go_at_call 9; refine Calls.mono hd ?_; rintro e w2 ⟨rfl, hb2, lv2, l2, C2, S2, hL2, hbd2, hcn2⟩; have hhe := helds hL2; have hbw2 := hbwa.trans hb2)
          | (go_at_call 11; refine Calls.mono hhe ?_; rintro e w3 ⟨p3, n3, c3, rfl, hb3, hhe2⟩)
          | (go_at_call 12; refine Calls.mono hhe2 ?_; rintro e w4 ⟨p4, c4, rfl, hb4, heq⟩)
          | (go_at_call 10; refine Calls.mono heq ?_; rintro e w5 ⟨rfl, hb5⟩; have hb25 := (hb3.trans (hb4.mono hb3.size)).trans (hb5.mono (Nat.le_trans hb3.size hb4.size)); have hL5 := hL2.later hb25; have hbw5 := hbw2.trans (hb25.mono hbw2.size); have hh1 := hits_ok hL5.cd)
          | (go_at_call 13; refine Calls.mono hh1 ?_; rintro e w6 ⟨rfl, q6, rfl⟩; have hb6 := below_drewN (Below.refl w5.heap.size w5) q6; have hL6 := hL5.later hb6; have hh2 : Calls Try.prog 14 #[.pointer (some ⟨y, 0, none⟩)] (w5.drewN q6) fun e w' => e = .returned (.tuple #[.int .i64 (C2.hi : Int), .int .i64 (C2.mi : Int)]) ∧ ∃ q, w' = (w5.drewN q6).drewN q := rhits_ok hL6.rc)
          | (go_at_call 14; refine Calls.mono hh2 ?_; rintro e w7 ⟨rfl, q7, rfl⟩; have hb7 := below_drewN (Below.refl (w5.drewN q6).heap.size (w5.drewN q6)) q7; have hL7 := hL6.later hb7; have hbw7 := below_drewN (below_drewN hbw5 q6) q7))
        have hb67 := below_drewN (Below.refl w5.heap.size w5) (q6 + q7)
        go_roundw
        case rel => exact ⟨j + 1, lv2, l2, C2, S2, by omega, by go_num, hL5.later hb67, by omega, below_drewN hbw5 (q6 + q7)⟩
        case measure => simp [intOf]; omega
      · obtain rfl : j = m := by omega
        have hhe := helds hL
        go_wp2_with (first
          | (go_at_call 11; refine Calls.mono hhe ?_; rintro e w3 ⟨p3, n3, c3, rfl, hb3, hhe2⟩)
          | (go_at_call 12; refine Calls.mono hhe2 ?_; rintro e w4 ⟨p4, c4, rfl, hb4, heq⟩)
          | (go_at_call 10; refine Calls.mono heq ?_; rintro e w5 ⟨rfl, hb5⟩; have hb25 := (hb3.trans (hb4.mono hb3.size)).trans (hb5.mono (Nat.le_trans hb3.size hb4.size))))
        go_ret
        exact ⟨rfl, hbw.trans (hb25.mono hbw.size)⟩
end Go.Proofs.Ytliljdencaocaaa
