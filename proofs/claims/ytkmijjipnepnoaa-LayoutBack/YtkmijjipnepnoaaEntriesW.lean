/- LayoutEntries: entries as bytes, and out of bytes, and names, by the program as by the document. -/
import Derived.Test.YtkmijjipnepnoaaRDEnt
import Derived.Test.YtkmijjipnepnoaaSupersW
namespace Go.Proofs.Ytkmijjipnepnoaa
open Go.RowKit
set_option linter.unusedVariables false

/-- Both encode alike. -/
theorem encEntry_both (N : Int) (s : ByteArray) (hs : s.size ≤ 140737488355328) : ∃ er : Int, ∃ n : Nat, ∃ zs : List Int, n ≤ 16 ∧ Num.Byt zs ∧
    (∀ w, Calls Try.prog 23 #[entV N s] w fun e w' => ∃ p c, e = .returned (.tuple #[.slice p n c, .int .i64 er]) ∧ BI w' p n zs ∧ Below w.heap.size w w') ∧
    (∀ w, Calls Try.prog 24 #[entV N s] w fun e w' => ∃ p c, e = .returned (.tuple #[.slice p n c, .int .i64 er]) ∧ BI w' p n zs ∧ Below w.heap.size w w') := by
  by_cases h : EMay N s
  · exact ⟨0, 16, entL N s, by omega, entL_byt _ _, fun w => encodeEntry_yes N s h w, fun w => rencodeEntry_yes N s h w⟩
  · refine ⟨1, 0, [], by omega, fun i => by simp, fun w => ?_, fun w => ?_⟩
    · exact (encodeEntry_no N s hs h w).mono fun e w' ⟨he, hb⟩ => ⟨_, 0, he, BI.none _ _, hb⟩
    · exact (rencodeEntry_no N s hs h w).mono fun e w' ⟨he, hb⟩ => ⟨_, 0, he, BI.none _ _, hb⟩
theorem nm_a : Nm ⟨#[97]⟩ := by
  refine ⟨by decide, by decide, ?_, ?_⟩
  · unfold dots
    rw [Lib.toList_data]
    decide
  · intro v hv
    have : v = 97 := by simpa [numsOf] using hv
    subst this
    unfold Letter
    omega
theorem deV_is (n : Nat) (xs : List Int) : ∃ M t, deV n xs = entV M t := by
  unfold deV
  split
  · exact ⟨_, _, rfl⟩
  · exact ⟨_, _, rfl⟩

set_option maxRecDepth 10000 in
set_option maxHeartbeats 1000000 in
theorem layoutEntries_walk (N : Int) (s : ByteArray) (hs : s.size ≤ 140737488355328) (p : Option Addr) (n c : Nat) (xs : List Int) (w : World) (h : BI w p n xs) (hnc : n ≤ c) :
    Calls Try.prog 6 #[entV N s, .slice p n c] w fun e w' => e = .returned (.bool true) ∧ Below w.heap.size w w' := by
  have HB := grew_alloc w (entO N s)
  have hx0 := heap_new w (entO N s)
  have h0 := h.kept HB
  obtain ⟨er, k, zs, hk, hzb, he1, he2⟩ := encEntry_both N s hs
  have hd1 := fun p' (c' : Nat) w' (hb : BI w' p' n xs) => decodeEntry_ok p' n c' xs w' hb
  have hd2 := fun p' (c' : Nat) w' (hb : BI w' p' n xs) (hc : n ≤ c') => rdecodeEntry_ok p' n c' xs w' hb hc
  obtain ⟨M, t, hv2⟩ := deV_is n xs
  rw [hv2] at hd1 hd2
  clear hv2
  generalize deE n xs = er2 at *
  have hn1 := fun w => isName_ok s w hs
  have hn2 := fun w => risName_ok s w hs
  generalize decide (Nm s) = bn at *
  have hna := fun w => isName_ok ⟨#[97]⟩ w (by decide)
  rw [decide_eq_true nm_a] at hna
  go_enter Try.func6, Try.ntmps6
  go_wp2_with (first
    | (refine wpList_load_row rfl 51 (.tmp 2) rfl w.heap.size rfl 51 _ (0, 0) _ hx0 Try.underlying51 rfl info51 ?_)
    | (go_at_call 23; refine Calls.mono (he1 _) ?_; rintro e w1 ⟨p1, q1, rfl, b1, hb1⟩; have HB := grew_trans HB hb1; have h0 := h0.kept hb1; have hx0 : w1.heap[w.heap.size]? = some (entO N s) := (by rw [hb1.block _ (Array.getElem?_eq_some_iff.1 hx0).1]; exact hx0))
    | (go_at_call 24; refine Calls.mono (he2 _) ?_; rintro e w2 ⟨p2, q2, rfl, b2, hb2⟩; have HB := grew_trans HB hb2; have h0 := h0.kept hb2; have b1 := b1.kept hb2; have hx0 : w2.heap[w.heap.size]? = some (entO N s) := (by rw [hb2.block _ (Array.getElem?_eq_some_iff.1 hx0).1]; exact hx0))
    | (go_at_call 11; refine Calls.mono (bclone_any _ _ _ _ _ h0) ?_; rintro e w3 ⟨p3, q3, rfl, hq3, b3, hb3⟩; have HB := grew_trans HB hb3; have h0 := h0.kept hb3; have b1 := b1.kept hb3; have b2 := b2.kept hb3; have hx0 : w3.heap[w.heap.size]? = some (entO N s) := (by rw [hb3.block _ (Array.getElem?_eq_some_iff.1 hx0).1]; exact hx0))
    | (go_at_call 25; refine grew_at (hd1 _ _ _ b3) ?_; intro w4 hb4; have HB := grew_trans HB hb4; have h0 := h0.kept hb4; have b1 := b1.kept hb4; have b2 := b2.kept hb4; have b3 := b3.kept hb4; have hx0 : w4.heap[w.heap.size]? = some (entO N s) := (by rw [hb4.block _ (Array.getElem?_eq_some_iff.1 hx0).1]; exact hx0)))
  have ba := grew_alloc w4 (entO M t)
  have ha := heap_new w4 (entO M t)
  have HB := grew_trans HB ba
  have h0 := h0.kept ba
  have b1 := b1.kept ba
  have b2 := b2.kept ba
  have b3 := b3.kept ba
  have hx0 : (w4.alloc (entO M t)).heap[w.heap.size]? = some (entO N s) := by rw [ba.block _ (Array.getElem?_eq_some_iff.1 hx0).1]; exact hx0
  generalize w4.alloc (entO M t) = w5 at *
  generalize w4.heap.size = x1 at *
  clear ba
  refine grew_at (hd2 _ _ _ h0 hnc) ?_
  intro w6 hb6
  have ha : w6.heap[x1]? = some (entO M t) := by rw [hb6.block _ (Array.getElem?_eq_some_iff.1 ha).1]; exact ha
  have hx0 : w6.heap[w.heap.size]? = some (entO N s) := by rw [hb6.block _ (Array.getElem?_eq_some_iff.1 hx0).1]; exact hx0
  have ba := grew_alloc w6 (entO M t)
  have hc := heap_new w6 (entO M t)
  have ha : (w6.alloc (entO M t)).heap[x1]? = some (entO M t) := by rw [ba.block _ (Array.getElem?_eq_some_iff.1 ha).1]; exact ha
  have hx0 : (w6.alloc (entO M t)).heap[w.heap.size]? = some (entO N s) := by rw [ba.block _ (Array.getElem?_eq_some_iff.1 hx0).1]; exact hx0
  have HB := grew_trans (grew_trans HB hb6) ba
  have h0 := (h0.kept hb6).kept ba
  have b1 := (b1.kept hb6).kept ba
  have b2 := (b2.kept hb6).kept ba
  have b3 := (b3.kept hb6).kept ba
  clear hb6 hd1 hd2 he1 he2 ba
  go_wp2_with fail
  generalize w6.alloc (entO M t) = w7 at *
  generalize w6.heap.size = x2 at *
  have k0 := drew_cell (cell_row ha 0 _ rfl)
  have k1 := drew_cell (cell_row ha 1 _ rfl)
  have k2 := drew_cell (cell_row hc 0 _ rfl)
  have k3 := drew_cell (cell_row hc 1 _ rfl)
  have k4 := drew_cell (cell_row hx0 1 _ rfl)
  have hdr : Below w7.heap.size w7 w7.drew := (Below.refl _ _).drew
  have HB := HB.drew
  have q1 := equal_same _ _ _ q1 _ q2 _ _ (b1.kept hdr) (b2.kept hdr)
  have q2 := equal_same _ _ _ q3 _ c _ _ (b3.kept hdr) (h0.kept hdr)
  clear b1 b2 b3 h0 hx0 ha hc
  go_region_held3 (fun w' => w'.cell? ⟨x1, 0, none⟩ = some (.int .i64 M) ∧ w'.cell? ⟨x1, 1, none⟩ = some (.string t) ∧ w'.cell? ⟨x2, 0, none⟩ = some (.int .i64 M) ∧ w'.cell? ⟨x2, 1, none⟩ = some (.string t) ∧ w'.cell? ⟨w.heap.size, 1, none⟩ = some (.string s)) (first | exact ⟨k0, k1, k2, k3, k4⟩ | assumption) (first | (go_at_call_of 14 p1; refine same_at q1 ?_) | (go_at_call_of 14 p3; refine same_at q2 ?_) | (go_at_call 28; refine same_at (hn2 _) ?_) | (go_at_call_of 27 s; refine same_at (hn1 _) ?_) | (go_at_call 27; refine same_at (hna _) ?_))
  go_wp2
  go_ret
  exact ⟨rfl, HB⟩
end Go.Proofs.Ytkmijjipnepnoaa
