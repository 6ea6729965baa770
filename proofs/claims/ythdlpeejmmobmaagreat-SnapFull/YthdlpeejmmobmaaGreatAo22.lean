/- A1 A2 KName KEntry KEEnt -/
import Derived.Test.YthdlpeejmmobmaaGreatAo19
import Derived.Test.YthdlpeejmmobmaaGreatAo21

namespace Go.Proofs.YthdlpeejmmobmaaGreat.Mk.Al
open Go.RowKit
set_option maxRecDepth 100000
set_option linter.unusedVariables false

/-- The first of k bits from f on that is not set. -/
def lo (xs : List Int) (f : Nat) : Nat → Option Nat
  | 0 => none
  | k + 1 => match lo xs f k with
    | some i => some i
    | none => if Bit.on xs (f + k) then none else some (f + k)
theorem lo_look (xs : List Int) {f E : Nat} : ∀ k, f + k ≤ E → lo xs f k = Bit.look xs E f k
  | 0, _ => rfl
  | k + 1, h => by
    have e : (f + k) % E = f + k := Nat.mod_eq_of_lt (by omega)
    simp only [lo, Bit.look]
    rw [lo_look (E := E) xs k (by omega), e]
    all_goals (cases Bit.look xs E f k <;> rfl)
theorem lo_some (xs : List Int) (f : Nat) : ∀ k {i : Nat}, lo xs f k = some i → f ≤ i ∧ i < f + k ∧ Bit.on xs i = false
  | 0, i, h => by cases h
  | k + 1, i, h => by
    simp only [lo] at h
    cases hk : lo xs f k with
    | some j =>
      rw [hk] at h
      cases h
      obtain ⟨a1, a2, a3⟩ := lo_some xs f k hk
      exact ⟨a1, by omega, a3⟩
    | none =>
      rw [hk] at h
      by_cases ho : Bit.on xs (f + k) = true
      · rw [ho] at h; cases h
      · have ho2 : Bit.on xs (f + k) = false := by simpa using ho
        rw [ho2] at h
        cases h
        exact ⟨by omega, by omega, ho2⟩
theorem lo_none (xs : List Int) (f : Nat) : ∀ k, lo xs f k = none → ∀ i, f ≤ i → i < f + k → Bit.on xs i = true
  | 0, _, i, h1, h2 => by omega
  | k + 1, h, i, h1, h2 => by
    simp only [lo] at h
    cases hk : lo xs f k with
    | some j => rw [hk] at h; cases h
    | none =>
      rw [hk] at h
      by_cases hi : i = f + k
      · subst hi
        by_cases ho : Bit.on xs (f + k) = true
        · exact ho
        · have ho2 : Bit.on xs (f + k) = false := by simpa using ho
          rw [ho2] at h; cases h
      · exact lo_none xs f k hk i h1 (by omega)
theorem look_low (xs : List Int) {f E : Nat} (hf : f < E) (hn : lo xs f (E - f) = none) : ∀ d {i : Nat}, d ≤ f → Bit.look xs E f (E - f + d) = some i → i < f
  | 0, i, _, h => by rw [Nat.add_zero, ← lo_look (E := E) xs (E - f) (by omega), hn] at h; cases h
  | d + 1, i, hd, h => by
    rw [← Nat.add_assoc] at h
    simp only [Bit.look] at h
    cases hk : Bit.look xs E f (E - f + d) with
    | some j => rw [hk] at h; cases h; exact look_low xs hf hn d (by omega) hk
    | none =>
      rw [hk] at h
      have e : (f + (E - f + d)) % E = d := by
        have : f + (E - f + d) = E + d := by omega
        rw [this, Nat.add_mod_left, Nat.mod_eq_of_lt (by omega)]
      rw [e] at h
      by_cases ho : Bit.on xs d = true
      · rw [ho] at h; cases h
      · have ho2 : Bit.on xs d = false := by simpa using ho
        rw [ho2] at h
        cases h
        omega
/-- What First finds, going round, is of those from f on, or none of them is. -/
theorem look_lo (xs : List Int) {f E : Nat} (hf : f < E) : (∀ i, lo xs f (E - f) = some i → Bit.look xs E f E = some i) ∧ (lo xs f (E - f) = none → ∀ i, Bit.look xs E f E = some i → i < f) := by
  constructor
  · intro i h
    rw [lo_look (E := E) xs (E - f) (by omega)] at h
    have := Bit.look_on xs E f h f
    rwa [show E - f + f = E by omega] at this
  · intro h i hi
    refine look_low xs hf h f (Nat.le_refl _) (i := i) ?_
    rwa [show E - f + f = E by omega]
theorem pick_lo (xs : List Int) {f E : Nat} (hf : f < E) (o : Option Nat) (ho : o = Bit.look xs E f E) : (o.isSome && decide ((f : Int) ≤ Bit.fI o)) = (lo xs f (E - f)).isSome ∧ ∀ i, lo xs f (E - f) = some i → Bit.fI o = (i : Int) := by
  obtain ⟨h1, h2⟩ := look_lo xs hf
  cases hl : lo xs f (E - f) with
  | some i =>
    have := h1 i hl
    rw [ho, this]
    have := lo_some xs f _ hl
    refine ⟨by simp [Bit.fI]; omega, fun j hj => by cases hj; rfl⟩
  | none =>
    refine ⟨?_, fun j hj => by cases hj⟩
    cases hk : o with
    | none => rfl
    | some i =>
      have := h2 hl i (by rw [← ho, hk])
      simp [Bit.fI]; omega

/-- The bits, as numbers from 0 on. -/
def fN (r : Bool) (I n : Nat) : Nat := if r then (if n = 0 then 2 else 0) else 2 + I / 4
def eN (r : Bool) (B I : Nat) : Nat := if r then I else B
theorem fN_eq (r : Bool) (I n : Nat) : spF r I n = (fN r I n : Int) := by
  unfold spF fN
  cases r
  · simp
  · by_cases h : n = 0
    · subst h; rfl
    · have _ : ¬ (n : Int) = 0 := by omega
      simp [h]
theorem eN_eq (r : Bool) (B I : Nat) : spE r B I = (eN r B I : Int) := by unfold spE eN; cases r <;> rfl
theorem fe_lt {G B I : Nat} (h : Gm.May (G : Int) B I) (r : Bool) (n : Nat) : fN r I n < eN r B I ∧ eN r B I ≤ 8 * rLen r ∧ eN r B I ≤ 256 := by
  have := h.all
  unfold fN eN rLen
  cases r
  · simp; omega
  · simp; split <;> omega
theorem cnt_nat {n : Nat} (h : n ≤ 65536) : Bit.cnt (n : Int) = n := by have := Bit.cnt_is (n : Int); omega
theorem start_nat {f E : Nat} (h : f < E) : Bit.start E (f : Int) = f := by unfold Bit.start; rw [if_neg (by omega)]; rfl
theorem row_len (r : Bool) {ys : List Int} (hl : ys.length = 40) : (rowOf r ys).length = rLen r := by unfold rowOf rAt rLen; cases r <;> simp [hl]

set_option maxHeartbeats 1000000 in
theorem first_ok {G B I n : Nat} (r : Bool) (h : Gm.In (G : Int) B I n) (ys : List Int) (hl : ys.length = 40) (hy : Num.Byt ys) (w : World) :
    Calls Tryz.prog 133 #[.int .i64 (rI r), geomV G B I, groupV n ys] w fun e w' => ∃ i : Int, e = .returned (.tuple #[.int .i64 i, .bool (lo (rowOf r ys) (fN r I n) (eN r B I - fN r I n)).isSome]) ∧ (∀ j, lo (rowOf r ys) (fN r I n) (eN r B I - fN r I n) = some j → i = (j : Int)) ∧ Below w.heap.size w w' := by
  obtain ⟨W, hW⟩ : ∃ W, (w.alloc (geomO G B I)).alloc (groupO n ys) = W := ⟨_, rfl⟩
  have HB : Below w.heap.size w W := by rw [← hW]; exact ((Below.refl _ _).alloc (Nat.le_refl _) _).alloc (by simp) _
  have hg : W.heap[w.heap.size]? = some (geomO G B I) := by rw [← hW]; exact at_old (heap_new w _)
  have hx : W.heap[w.heap.size + 1]? = some (groupO n ys) := by rw [← hW]; exact at_new (by simp)
  have q0 : W.cell? ⟨w.heap.size + 1, 0, none⟩ = some (.int .i64 (n : Int)) := (cell_of_row _ _ 0 _ _ _ hx).trans (groupA_zero _ _)
  have hlt := fe_lt h.1 r n
  have hsp := fun w => span_ok r h w
  rw [fN_eq, eN_eq] at hsp
  have hbi := fun (w1 : World) (hb : Below W.heap.size W w1) => group_bi (w := w1) (b := w.heap.size + 1) (N := n) (ys := ys) (mk := (0, 0)) ((hb.block _ (Array.getElem?_eq_some_iff.1 hx).1).trans hx) hy (rAt r) (rLen r) (by unfold rAt rLen; cases r <;> simp [hl]) hl
  have hpk := pick_lo (rowOf r ys) hlt.1 _ rfl
  obtain ⟨f, hf⟩ : ∃ f, fN r I n = f := ⟨_, rfl⟩
  obtain ⟨E, hE⟩ : ∃ E, eN r B I = E := ⟨_, rfl⟩
  rw [hf, hE] at hlt hpk hsp ⊢
  have hfi := fun (w1 : World) (hb : Below W.heap.size W w1) => first_from (some ⟨w.heap.size + 1, rAt r + 1, none⟩) (rLen r) (rLen r) _ (E : Int) (f : Int) E w1 (hbi w1 hb) (cnt_nat (by omega)).symm
  rw [start_nat hlt.1] at hfi
  generalize hlk : Bit.look _ E f E = lk at hpk
  change ∀ w1, _ → Calls _ _ _ _ fun e w' => e = .returned (.tuple #[.int .i64 (Bit.fI (Bit.look (rowOf r ys) E f E)), .bool (Bit.look (rowOf r ys) E f E).isSome]) ∧ _ at hfi
  rw [hlk] at hfi
  have hof := fun w1 => of_ok r (w.heap.size + 1) 0 w1
  simp only [Nat.zero_add] at hof
  have HP : Hid (((lk.isSome && decide ((f : Int) ≤ Bit.fI lk)) = (lo (rowOf r ys) f (E - f)).isSome) ∧ ∀ i, lo (rowOf r ys) f (E - f) = some i → Bit.fI lk = (i : Int)) := hpk
  have HBB : Hid (Below w.heap.size w W) := HB
  clear hpk hlk hlt hbi hy hl h hf hE
  generalize rI r = ri at *
  generalize rAt r = ra at *
  generalize rLen r = rl at *
  generalize Bit.fI lk = fi at *
  generalize lk.isSome = sm at *
  generalize (lo (rowOf r ys) f (E - f)) = res at *
  have c0 : W.cell? ⟨w.heap.size, 0, none⟩ = some (.int .i64 (G : Int)) := cell_of_row _ _ 0 _ _ _ hg
  have c1 : W.cell? ⟨w.heap.size, 1, none⟩ = some (.int .i64 (B : Int)) := cell_of_row _ _ 1 _ _ _ hg
  have c2 : W.cell? ⟨w.heap.size, 2, none⟩ = some (.int .i64 (I : Int)) := cell_of_row _ _ 2 _ _ _ hg
  go_enter Tryz.func133, Tryz.ntmps133
  go_wp2_with fail
  refine grew_at (hsp _) ?_
  intro w1 hb1
  have h1 := hfi w1 hb1
  dsimp only
  go_wp2_with fail
  refine same_at (hof _) ?_
  dsimp only
  go_wp2_with fail
  refine Calls.mono h1 ?_
  rintro e w2 ⟨rfl, k, rfl⟩
  dsimp only
  go_wp2_with fail
  all_goals go_ret2
  all_goals refine ⟨fi, ?_, HP.out.2, HBB.out.trans ((below_drewN hb1 k).mono HBB.out.size)⟩
  all_goals rw [← HP.out.1]
  all_goals first | rfl | simp_all

/-- How many bits of a row from f to e are not set. -/
def zc (xs : List Int) (f E : Nat) : Int := (E : Int) - f - ((Bit.count xs E : Int) - Bit.count xs f)
set_option maxHeartbeats 1000000 in
theorem left_ok {G B I n : Nat} (r : Bool) (h : Gm.In (G : Int) B I n) (ys : List Int) (hl : ys.length = 40) (hy : Num.Byt ys) (w : World) :
    Calls Tryz.prog 65 #[.int .i64 (rI r), geomV G B I, groupV n ys] w fun e w' => e = .returned (.int .i64 (zc (rowOf r ys) (fN r I n) (eN r B I))) ∧ Below w.heap.size w w' := by
  obtain ⟨W, hW⟩ : ∃ W, (w.alloc (geomO G B I)).alloc (groupO n ys) = W := ⟨_, rfl⟩
  have HB : Below w.heap.size w W := by rw [← hW]; exact ((Below.refl _ _).alloc (Nat.le_refl _) _).alloc (by simp) _
  have hg : W.heap[w.heap.size]? = some (geomO G B I) := by rw [← hW]; exact at_old (heap_new w _)
  have hx : W.heap[w.heap.size + 1]? = some (groupO n ys) := by rw [← hW]; exact at_new (by simp)
  have q0 : W.cell? ⟨w.heap.size + 1, 0, none⟩ = some (.int .i64 (n : Int)) := (cell_of_row _ _ 0 _ _ _ hx).trans (groupA_zero _ _)
  have hlt := fe_lt h.1 r n
  have hsp := fun w => span_ok r h w
  rw [fN_eq, eN_eq] at hsp
  have hbi := fun (w1 : World) (hb : Below W.heap.size W w1) => group_bi (w := w1) (b := w.heap.size + 1) (N := n) (ys := ys) (mk := (0, 0)) ((hb.block _ (Array.getElem?_eq_some_iff.1 hx).1).trans hx) hy (rAt r) (rLen r) (by unfold rAt rLen; cases r <;> simp [hl]) hl
  obtain ⟨f, hf⟩ : ∃ f, fN r I n = f := ⟨_, rfl⟩
  obtain ⟨E, hE⟩ : ∃ E, eN r B I = E := ⟨_, rfl⟩
  rw [hf, hE] at hlt hsp ⊢
  have hc1 := fun (w1 : World) (hb : Below W.heap.size W w1) => count_ok (some ⟨w.heap.size + 1, rAt r + 1, none⟩) (rLen r) (rLen r) _ (E : Int) w1 (hbi w1 hb)
  have hc2 := fun (w1 : World) (hb : Below W.heap.size W w1) => count_ok (some ⟨w.heap.size + 1, rAt r + 1, none⟩) (rLen r) (rLen r) _ (f : Int) w1 (hbi w1 hb)
  rw [cnt_nat (by omega)] at hc1 hc2
  have k1 := Bit.count_le (rowOf r ys) E
  have k2 := Bit.count_le (rowOf r ys) f
  change ∀ w1, _ → Calls _ _ _ _ fun e w' => e = .returned (.int .i64 (Bit.count (rowOf r ys) E)) ∧ _ at hc1
  change ∀ w1, _ → Calls _ _ _ _ fun e w' => e = .returned (.int .i64 (Bit.count (rowOf r ys) f)) ∧ _ at hc2
  unfold zc
  have hof := fun w1 => of_ok r (w.heap.size + 1) 0 w1
  simp only [Nat.zero_add] at hof
  have HBB : Hid (Below w.heap.size w W) := HB
  obtain ⟨hfE, _, h256⟩ := hlt
  clear hbi hy hl h hf hE
  generalize rI r = ri at *
  generalize rAt r = ra at *
  generalize rLen r = rl at *
  generalize Bit.count (rowOf r ys) E = cE at *
  generalize Bit.count (rowOf r ys) f = cF at *
  have c0 : W.cell? ⟨w.heap.size, 0, none⟩ = some (.int .i64 (G : Int)) := cell_of_row _ _ 0 _ _ _ hg
  have c1 : W.cell? ⟨w.heap.size, 1, none⟩ = some (.int .i64 (B : Int)) := cell_of_row _ _ 1 _ _ _ hg
  have c2 : W.cell? ⟨w.heap.size, 2, none⟩ = some (.int .i64 (I : Int)) := cell_of_row _ _ 2 _ _ _ hg
  go_enter Tryz.func65, Tryz.ntmps65
  go_wp2_with fail
  refine grew_at (hsp _) ?_
  intro w1 hb1
  have h1 := hc1 w1 hb1
  dsimp only
  go_wp2_with fail
  refine same_at (hof _) ?_
  dsimp only
  go_wp2_with fail
  refine Calls.mono h1 ?_
  rintro e w2 ⟨rfl, k, rfl⟩
  have hb2 := below_drewN hb1 k
  have h2 := hc2 _ hb2
  dsimp only
  go_wp2_with fail
  refine same_at (hof _) ?_
  dsimp only
  go_wp2_with fail
  refine Calls.mono h2 ?_
  rintro e w2 ⟨rfl, k', rfl⟩
  have hb3 := below_drewN hb2 k'
  dsimp only
  go_wp2_with fail
  go_ret
  exact ⟨rfl, HBB.out.trans ((below_drewN hb1 _).mono HBB.out.size)⟩
end Go.Proofs.YthdlpeejmmobmaaGreat.Mk.Al

namespace Go.Proofs.YthdlpeejmmobmaaGreat.Mk.Al
open Go.RowKit
set_option maxRecDepth 100000
set_option linter.unusedVariables false

/-- A header's forty bytes with a row's bit put. -/
def putY (r : Bool) (ys : List Int) (i : Nat) (b : Bool) : List Int := splice ys (rAt r) (Bit.put (rowOf r ys) i b)
theorem putY_len (r : Bool) {ys : List Int} (hl : ys.length = 40) (i : Nat) (b : Bool) : (putY r ys i b).length = 40 := by
  unfold putY
  rw [splice_len _ _ _ (by rw [Bit.put_len, row_len r hl, hl]; unfold rAt rLen; cases r <;> simp), hl]
theorem row_byt (r : Bool) {ys : List Int} (hy : Num.Byt ys) : Num.Byt (rowOf r ys) := byt_take (byt_drop hy _) _
theorem putY_byt (r : Bool) {ys : List Int} (hy : Num.Byt ys) (i : Nat) (b : Bool) : Num.Byt (putY r ys i b) := splice_byt hy (Bit.put_byt (row_byt r hy) i b) _
theorem row_put (r : Bool) {ys : List Int} (hl : ys.length = 40) (i : Nat) (b : Bool) : rowOf r (putY r ys i b) = Bit.put (rowOf r ys) i b := by
  have h1 : (Bit.put (rowOf r ys) i b).length = rLen r := by rw [Bit.put_len, row_len r hl]
  unfold putY
  generalize Bit.put (rowOf r ys) i b = zs at *
  unfold rowOf splice
  cases r <;> simp [rAt, rLen] at h1 ⊢ <;> simp [hl, h1]
theorem row_other (r : Bool) {ys : List Int} (hl : ys.length = 40) (i : Nat) (b : Bool) : rowOf (!r) (putY r ys i b) = rowOf (!r) ys := by
  have h1 : (Bit.put (rowOf r ys) i b).length = rLen r := by rw [Bit.put_len, row_len r hl]
  unfold putY
  generalize Bit.put (rowOf r ys) i b = zs at *
  unfold rowOf splice
  cases r <;> simp [rAt, rLen] at h1 ⊢ <;> simp [hl, h1]

theorem row_getD (r : Bool) {ys : List Int} (hl : ys.length = 40) {j : Nat} (hj : j < rLen r) : (rowOf r ys).getD j 0 = ys.getD (rAt r + j) 0 := by
  unfold rowOf
  rw [List.getD_eq_getElem?_getD, List.getD_eq_getElem?_getD, List.getElem?_take_of_lt hj, List.getElem?_drop]
theorem putY_set (r : Bool) {ys : List Int} (hl : ys.length = 40) {i : Nat} (hi : i / 8 < rLen r) (b : Bool) : putY r ys i b = ys.set (rAt r + i / 8) (Bit.turn (ys.getD (rAt r + i / 8) 0) (Bit.mk i) b) := by
  have h1 : (Bit.put (rowOf r ys) i b).length = rLen r := by rw [Bit.put_len, row_len r hl]
  have h2 : rAt r + rLen r ≤ 40 := by unfold rAt rLen; cases r <;> simp
  refine List.ext_getElem? fun k => ?_
  unfold putY splice
  have hrow : ∀ k, (rowOf r ys)[k]? = if k < rLen r then ys[rAt r + k]? else none := by
    intro k
    unfold rowOf
    by_cases hk : k < rLen r
    · rw [List.getElem?_take_of_lt hk, List.getElem?_drop, if_pos hk]
    · rw [if_neg hk, List.getElem?_eq_none (by simp; omega)]
  have hput : ∀ k, (Bit.put (rowOf r ys) i b)[k]? = if k = i / 8 then some (Bit.turn (ys.getD (rAt r + i / 8) 0) (Bit.mk i) b) else (rowOf r ys)[k]? := by
    intro k
    unfold Bit.put
    rw [List.getElem?_set]
    by_cases hk : k = i / 8
    · subst hk
      rw [if_pos rfl, if_pos rfl, if_pos (by rw [row_len r hl]; exact hi), row_getD r hl hi]
    · rw [if_neg (fun e => hk e.symm), if_neg hk]
  by_cases hk : k < rAt r
  · rw [List.getElem?_append_left (by rw [List.length_take]; omega), List.getElem?_take_of_lt hk, List.getElem?_set_ne (by omega)]
  · obtain ⟨d, rfl⟩ : ∃ d, k = rAt r + d := ⟨k - rAt r, by omega⟩
    rw [List.getElem?_append_right (by rw [List.length_take]; omega), List.length_take, show min (rAt r) ys.length = rAt r by omega, show rAt r + d - rAt r = d by omega]
    by_cases hd : d < rLen r
    · rw [List.getElem?_append_left (by omega), hput]
      by_cases he : d = i / 8
      · subst he
        rw [if_pos rfl, List.getElem?_set_self (by omega)]
      · rw [if_neg he, hrow, if_pos hd, List.getElem?_set_ne (by omega)]
    · rw [List.getElem?_append_right (by omega), h1, List.getElem?_drop, List.getElem?_set_ne (by omega), show rAt r + rLen r + (d - rLen r) = rAt r + d by omega]

/-- Where a row's bit lies among all bits of a header's block. -/
def kAt (r : Bool) (i : Nat) : Nat := (4 + rAt r + i / 8) * 8 + i % 8
theorem kAt_div (r : Bool) (i : Nat) : kAt r i / 8 = 4 + rAt r + i / 8 := by unfold kAt; omega
theorem kAt_mk (r : Bool) (i : Nat) : Bit.mk (kAt r i) = Bit.mk i := by unfold Bit.mk kAt; congr 1; omega
theorem groupL_getD (n : Int) {ys : List Int} (hl : ys.length = 40) (h : GMay n) {j : Nat} (hj : j < 40) : (groupL n ys).getD (4 + j) 0 = ys.getD j 0 := by
  rw [groupL_eq n ys hl h, getD_append, if_pos (by simp; omega), getD_append, if_neg (by simp)]
  simp
theorem groupL_set (n : Int) {ys : List Int} (hl : ys.length = 40) (h : GMay n) {j : Nat} (hj : j < 40) (x : Int) : groupL n (ys.set j x) = (groupL n ys).set (4 + j) x := by
  rw [groupL_eq n ys hl h, groupL_eq n _ (by simp [hl]) h, List.append_assoc, List.append_assoc, List.set_append_right _ _ (by simp)]
  congr 1
  rw [List.set_append_left _ _ (by simp; omega)]
  simp
theorem groupL_put (n : Int) (r : Bool) {ys : List Int} (hl : ys.length = 40) (h : GMay n) {i : Nat} (hi : i / 8 < rLen r) (b : Bool) : groupL n (putY r ys i b) = Bit.put (groupL n ys) (kAt r i) b := by
  have h2 : rAt r + rLen r ≤ 40 := by unfold rAt rLen; cases r <;> simp
  rw [putY_set r hl hi, groupL_set n hl h (by omega)]
  unfold Bit.put
  rw [kAt_div, kAt_mk, show 4 + rAt r + i / 8 = 4 + (rAt r + i / 8) by omega, groupL_getD n hl h (by omega)]

theorem apart_same {xs ys : List Int} : ∀ {m : Nat}, (∀ j, j < m → Bit.on xs j = Bit.on ys j) → Bit.apart xs ys m = []
  | 0, _ => rfl
  | m + 1, h => by
    simp only [Bit.apart]
    rw [if_pos (h m (by omega)), apart_same fun j hj => h j (by omega)]
theorem apart_at {xs ys : List Int} {K : Nat} (h : ∀ j, ¬ j = K → Bit.on xs j = Bit.on ys j) (hK : ¬ Bit.on xs K = Bit.on ys K) : ∀ {m : Nat}, K < m → Bit.apart xs ys m = [(K : Int)]
  | 0, hm => by omega
  | m + 1, hm => by
    simp only [Bit.apart]
    by_cases e : m = K
    · subst e
      rw [if_neg hK, apart_same fun j hj => h j (by omega)]
      rfl
    · rw [if_pos (h m e), apart_at h hK (by omega)]
theorem apart_put {xs : List Int} (hx : Num.Byt xs) {K : Nat} (hK : K / 8 < xs.length) {m : Nat} (hm : K < m) : Bit.apart xs (Bit.put xs K (!Bit.on xs K)) m = [(K : Int)] :=
  apart_at (fun j hj => (Bit.put_other hx hK _ hj).symm) (by rw [Bit.put_on hx hK]; cases Bit.on xs K <;> simp) hm
/-- The bit of a row is that of the header's block. -/
theorem on_row (n : Int) (r : Bool) {ys : List Int} (hl : ys.length = 40) (h : GMay n) {i : Nat} (hi : i / 8 < rLen r) : Bit.on (groupL n ys) (kAt r i) = Bit.on (rowOf r ys) i := by
  have h2 : rAt r + rLen r ≤ 40 := by unfold rAt rLen; cases r <;> simp
  unfold Bit.on
  rw [kAt_div, kAt_mk, row_getD r hl hi, show 4 + rAt r + i / 8 = 4 + (rAt r + i / 8) by omega, groupL_getD n hl h (by omega)]
end Go.Proofs.YthdlpeejmmobmaaGreat.Mk.Al

namespace Go.Proofs.YthdlpeejmmobmaaGreat.Mk
open Go.RowKit
set_option maxRecDepth 100000
set_option linter.unusedVariables false

def Letter (v : Int) : Prop := 33 ≤ v ∧ v ≤ 126 ∧ v ≠ 47
instance (v : Int) : Decidable (Letter v) := by unfold Letter; infer_instance
def dots (s : ByteArray) : Bool := s.toList == [46] || s.toList == [46, 46]
/-- A name. -/
def Nm (s : ByteArray) : Prop := 1 ≤ s.size ∧ s.size ≤ 13 ∧ dots s = false ∧ ∀ v ∈ numsOf s, Letter v
instance (s : ByteArray) : Decidable (Nm s) := by unfold Nm; infer_instance

theorem nums_at (s : ByteArray) (j : Nat) (h : j < s.size) : (numsOf s)[j]? = some (s[j].toNat : Int) := by
  unfold numsOf
  rw [List.getElem?_map, Array.getElem?_toList, Array.getElem?_eq_getElem (by exact h)]
  rfl
theorem letters_next {s : ByteArray} {j : Nat} {v : Int} (hz : (numsOf s)[j]? = some v) (hA : ∀ v ∈ (numsOf s).take j, Letter v) (hok : Letter v) : ∀ v ∈ (numsOf s).take (j + 1), Letter v := by
  intro y hy
  rw [List.take_add_one, hz] at hy
  rcases List.mem_append.1 hy with h' | h'
  · exact hA y h'
  · simp at h'
    subst h'
    exact hok
theorem toList_nil (s : ByteArray) : (s.toList == []) = decide (s.size = 0) := by
  rw [Bool.eq_iff_iff, beq_iff_eq, decide_eq_true_iff, Lib.toList_data, ← List.length_eq_zero_iff, Array.length_toList]
  rfl
theorem guard_name {s : ByteArray} (h : dots s = true) : s.toList = [46] ∨ s.toList = [46, 46] := by
  unfold dots at h
  simpa using h
set_option maxRecDepth 10000 in
set_option maxHeartbeats 1000000 in
theorem risName_ok (s : ByteArray) (w : World) (hs : s.size ≤ 140737488355328) : Calls Tryz.prog 259 #[.string s] w fun e w' => e = .returned (.bool (decide (Nm s))) ∧ w' = w := by
  have hes := toList_nil s
  by_cases h1 : 1 ≤ s.size ∧ s.size ≤ 13
  · have hI : ¬ (13 : Int) < (s.size : Int) := by omega
    rw [decide_eq_false (by omega)] at hes
    by_cases h2 : dots s = true
    · have hn : ¬ Nm s := fun k => by rw [k.2.2.1] at h2; cases h2
      unfold dots at h2
      go_enter Tryz.func259, Tryz.ntmps259
      go_wp2_with fail
      all_goals
        go_ret
        exact ⟨rfl, rfl⟩
    · have h3 : (s.toList == [46]) = false := by
        unfold dots at h2
        simp at h2
        simpa using h2.1
      have h4 : (s.toList == [46, 46]) = false := by
        unfold dots at h2
        simp at h2
        simpa using h2.2
      go_enter Tryz.func259, Tryz.ntmps259
      go_wp2_with fail
      go_loopw [3] (fun i wr => ∃ j : Nat, j ≤ s.size ∧ i = .int .i64 (j : Int) ∧ (∀ v ∈ (numsOf s).take j, Letter v) ∧ wr = w) (fun i _ => s.size - (intOf i).toNat)
      case atStart => exact ⟨0, by omega, rfl, by simp, rfl⟩
      case round =>
        obtain ⟨j, hj, rfl, hA, rfl⟩ := hrel
        by_cases hlt : j < s.size
        · have hjI : (j : Int) < (s.size : Int) := by omega
          have hz := nums_at s j hlt
          have HZ := (show Hid _ from hz)
          clear hz
          by_cases hok : Letter (s[j].toNat : Int)
          · have hA2 := letters_next HZ.out hA hok
            unfold Letter at hok
            obtain ⟨k1, k2, k3⟩ := hok
            have k1' : ¬ (s[j].toNat : Int) < 33 := by omega
            have k2' : ¬ (126 : Int) < (s[j].toNat : Int) := by omega
            have k3' : ((s[j].toNat : Int) == 47) = false := by simpa using k3
            clear k1 k2 k3 hA
            go_wp2_with fail
            go_roundw
            case rel => exact ⟨j + 1, by omega, by go_num, hA2, by first | rfl | trivial⟩
            case measure => simp [intOf]; omega
          · have hn : ¬ Nm s := fun k => hok (k.2.2.2 _ (List.mem_of_getElem? HZ.out))
            unfold Letter at hok
            clear hA
            by_cases k1 : (s[j].toNat : Int) < 33
            · clear hok
              go_wp2_with fail
              go_ret
              exact ⟨by first | rfl | (rw [decide_eq_false hn]; rfl), rfl⟩
            · by_cases k2 : (126 : Int) < (s[j].toNat : Int)
              · clear hok
                go_wp2_with fail
                go_ret
                exact ⟨by first | rfl | (rw [decide_eq_false hn]; rfl), rfl⟩
              · have k3 : ((s[j].toNat : Int) == 47) = true := by rw [beq_iff_eq]; omega
                clear hok
                go_wp2_with fail
                go_ret
                exact ⟨by first | rfl | (rw [decide_eq_false hn]; rfl), rfl⟩
        · obtain rfl : j = s.size := by omega
          rw [List.take_of_length_le (by rw [numsOf_len]; omega)] at hA
          have hn : Nm s := ⟨h1.1, h1.2, Bool.eq_false_iff.2 h2, hA⟩
          clear hA
          go_wp2
          go_ret
          exact ⟨by first | rfl | (rw [decide_eq_true hn]; rfl), rfl⟩
  · have hn : ¬ Nm s := fun k => h1 ⟨k.1, k.2.1⟩
    by_cases h5 : s.size = 0
    · rw [decide_eq_true h5] at hes
      go_enter Tryz.func259, Tryz.ntmps259
      go_wp2_with fail
      go_ret
      exact ⟨by first | rfl | (rw [decide_eq_false hn]; rfl), rfl⟩
    · rw [decide_eq_false h5] at hes
      have hI : (13 : Int) < (s.size : Int) := by omega
      go_enter Tryz.func259, Tryz.ntmps259
      go_wp2_with fail
      go_ret
      exact ⟨by first | rfl | (rw [decide_eq_false hn]; rfl), rfl⟩
end Go.Proofs.YthdlpeejmmobmaaGreat.Mk

namespace Go.Proofs.YthdlpeejmmobmaaGreat.Mk
open Go.RowKit
set_option maxRecDepth 100000
set_option linter.unusedVariables false

abbrev entV (N : Int) (s : ByteArray) : Value := .agg #[.int .i64 N, .string s]
abbrev entO (N : Int) (s : ByteArray) : Obj := .cells #[.int .i64 N, .string s] 107
/-- Whether an entry may be. -/
def EMay (N : Int) (s : ByteArray) : Prop := (N = 0 ∧ s.size = 0) ∨ ((1 ≤ N ∧ N ≤ 511) ∧ (dots s = true ∨ Nm s))
instance (N : Int) (s : ByteArray) : Decidable (EMay N s) := by unfold EMay; infer_instance

theorem toList_empty {s : ByteArray} (h : s.size = 0) : s.toList = [] := by
  have := toList_nil s
  rw [decide_eq_true h, beq_iff_eq] at this
  exact this
theorem toList_not {s : ByteArray} (h : ¬ s.size = 0) : ¬ s.toList = [] := by
  have := toList_nil s
  rw [decide_eq_false h] at this
  exact beq_eq_false_iff_ne.1 this

/-- An entry's bytes. -/
def entL (N : Int) (s : ByteArray) : List Int := splice (Num.putTo (Num.putTo (zers 16) 0 N 2) 2 (s.size : Int) 1) 3 (numsOf s)
theorem emay_size {N : Int} {s : ByteArray} (h : EMay N s) : s.size ≤ 13 := by
  rcases h with h | ⟨_, h | h⟩
  · omega
  · have : s.toList.length = s.size := by rw [Lib.toList_data, Array.length_toList]; rfl
    rcases guard_name h with e | e <;> rw [e] at this <;> simp at this <;> omega
  · exact h.2.1
theorem entL_len (N : Int) (s : ByteArray) (h : s.size ≤ 13) : (entL N s).length = 16 := by
  unfold entL
  rw [splice_len _ _ _ (by rw [numsOf_len, Num.putTo_length, Num.putTo_length, zers_len]; omega), Num.putTo_length, Num.putTo_length, zers_len]
theorem entL_byt (N : Int) (s : ByteArray) : Num.Byt (entL N s) := splice_byt (Num.putTo_byt (Num.putTo_byt (zers_byt 16) _ _ _) _ _ _) (numsOf_byt s) _
theorem entL_none (s : ByteArray) (h : s.size = 0) : entL 0 s = zers 16 := by
  unfold entL
  have : numsOf s = [] := List.eq_nil_of_length_eq_zero (by rw [numsOf_len]; exact h)
  rw [this, h]
  decide
end Go.Proofs.YthdlpeejmmobmaaGreat.Mk

namespace Go.Proofs.YthdlpeejmmobmaaGreat.Mk
open Go.RowKit
set_option maxRecDepth 100000
set_option linter.unusedVariables false

abbrev rawA (xs : List Int) : Array Value := (xs.map (Value.int .u8)).toArray
theorem raw_bi {w : World} {b n : Nat} {xs : List Int} {t : TypeId} (h : w.heap[b]? = some (.cells (rawA xs) t (0, 0))) (hl : xs.length = n) (hn : n ≤ 140737488355328) (hy : Num.Byt xs) : BI w (some ⟨b, 0, none⟩) n xs := by
  refine ⟨hl, hn, hy, fun _ => ⟨_, _, rfl, fun i hi => ?_⟩⟩
  rw [Nat.zero_add]
  refine cell_row h i _ ?_
  have e : xs[i]? = some (xs.getD i 0) := by rw [List.getD_eq_getElem?_getD, List.getElem?_eq_getElem (by omega)]; rfl
  generalize xs.getD i 0 = z at *
  unfold rawA
  rw [List.getElem?_toArray, List.getElem?_map, e]
  rfl
end Go.Proofs.YthdlpeejmmobmaaGreat.Mk
