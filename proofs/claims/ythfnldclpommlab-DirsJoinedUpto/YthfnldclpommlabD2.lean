/- dirs: a page of entries: find, free. -/
import Derived.Test.YthfnldclpommlabD1
namespace Go.Proofs.Ythfnldclpommlab
open Go.RowKit
set_option linter.unusedVariables false

/-- An entry. -/
structure En where
  n : Int
  s : ByteArray
def flat2 : List En → List Value
  | [] => []
  | e :: l => .int .i64 e.n :: .string e.s :: flat2 l
theorem flat2_len : ∀ E : List En, (flat2 E).length = 2 * E.length
  | [] => rfl
  | e :: l => by simp only [flat2, List.length_cons, flat2_len l]; omega
theorem flat2_n : ∀ (E : List En) (i : Nat) (e : En), E[i]? = some e → (flat2 E)[i * 2]? = some (.int .i64 e.n)
  | [], _, _, h => by simp at h
  | x :: l, 0, e, h => by simp at h; subst h; rfl
  | x :: l, i + 1, e, h => by
    have := flat2_n l i e (by simpa using h)
    rw [show (i + 1) * 2 = i * 2 + 2 by omega]
    simpa [flat2] using this
theorem flat2_s : ∀ (E : List En) (i : Nat) (e : En), E[i]? = some e → (flat2 E)[i * 2 + 1]? = some (.string e.s)
  | [], _, _, h => by simp at h
  | x :: l, 0, e, h => by simp at h; subst h; rfl
  | x :: l, i + 1, e, h => by
    have := flat2_s l i e (by simpa using h)
    rw [show (i + 1) * 2 + 1 = i * 2 + 1 + 2 by omega]
    simpa [flat2] using this
/-- Eight entries in block b; one without a number has no name. -/
structure Pge (w : World) (b : Nat) (E : List En) : Prop where
  row : w.heap[b]? = some (.cells (flat2 E).toArray 53 (0, 0))
  len : E.length = 8
  non : ∀ e ∈ E, e.n = 0 → e.s = ⟨#[]⟩
theorem Pge.c0 {w : World} {b : Nat} {E : List En} (h : Pge w b E) {i : Nat} {e : En} (he : E[i]? = some e) : w.cell? ⟨b, i * 2, none⟩ = some (.int .i64 e.n) := cell_row h.row _ _ (by rw [List.getElem?_toArray]; exact flat2_n E i e he)
theorem Pge.c1 {w : World} {b : Nat} {E : List En} (h : Pge w b E) {i : Nat} {e : En} (he : E[i]? = some e) : w.cell? ⟨b, i * 2 + 1, none⟩ = some (.string e.s) := cell_row h.row _ _ (by rw [List.getElem?_toArray]; exact flat2_s E i e he)
theorem Pge.kept {w w' : World} {b : Nat} {E : List En} (h : Pge w b E) (hb : Below w.heap.size w w') : Pge w' b E :=
  ⟨(hb.block _ (Array.getElem?_eq_some_iff.1 h.row).1).trans h.row, h.len, h.non⟩

/-- Whether an entry has the name. -/
def hit (s : ByteArray) (e : En) : Bool := decide (e.n ≠ 0) && (e.s.toList == s.toList)
/-- Whether an entry is empty. -/
def emp (e : En) : Bool := decide (e.n = 0)

theorem idx_hit {E : List En} {p : En → Bool} {j : Nat} {e : En} (h : (E.take j).findIdx? p = none) (he : E[j]? = some e) (hp : p e = true) : E.findIdx? p = some j := by
  rw [List.findIdx?_eq_some_iff_getElem]
  obtain ⟨hl, rfl⟩ := List.getElem?_eq_some_iff.1 he
  refine ⟨hl, hp, fun i hi => ?_⟩
  rw [List.findIdx?_eq_none_iff] at h
  have h2 : i < (E.take j).length := by rw [List.length_take]; omega
  have := h ((E.take j)[i]'h2) (List.getElem_mem _)
  rw [List.getElem_take] at this
  rw [this]
  simp
theorem idx_next {E : List En} {p : En → Bool} {j : Nat} {e : En} (h : (E.take j).findIdx? p = none) (he : E[j]? = some e) (hp : p e = false) : (E.take (j + 1)).findIdx? p = none := by
  rw [List.findIdx?_eq_none_iff] at h ⊢
  intro x hx
  rw [List.take_add_one, he] at hx
  rcases List.mem_append.1 hx with hx | hx
  · exact h x hx
  · simp at hx; subst hx; exact hp

theorem box_drew {w wr : World} (hb : Below w.heap.size w wr) (o : Obj) : Below w.heap.size w (wr.alloc o).drew := (hb.alloc hb.size o).drew

set_option maxRecDepth 20000 in
set_option maxHeartbeats 1000000 in
theorem find_ok {w : World} {b : Nat} {E : List En} (h : Pge w b E) (s : ByteArray) :
    Calls Try.prog 30 #[.pointer (some ⟨b, 0, none⟩), .string s] w fun e w' => e = .returned (.tuple #[.int .i64 (((E.findIdx? (hit s)).getD 0 : Nat) : Int), .bool (E.findIdx? (hit s)).isSome]) ∧ Below w.heap.size w w' := by
  go_enter Try.func30, Try.ntmps30
  go_wp2_with fail
  go_loopw [10] (fun i wr => ∃ j : Nat, j ≤ 8 ∧ i = .int .i64 (j : Int) ∧ Below w.heap.size w wr ∧ (E.take j).findIdx? (hit s) = none) (fun i _ => 8 - (intOf i).toNat)
  case atStart => exact ⟨0, by omega, rfl, Below.refl _ _, by simp⟩
  case round =>
    obtain ⟨j, hj, rfl, hb, hno⟩ := hrel
    have HN : Hid _ := hno
    clear hno
    by_cases hlt : j < 8
    · obtain ⟨e, he⟩ : ∃ e, E[j]? = some e := ⟨_, List.getElem?_eq_getElem (by have := h.len; omega)⟩
      have hP := h.kept hb
      have c0 := hP.c0 he
      have c1 := hP.c1 he
      have hnon := h.non e (List.mem_of_getElem? he)
      have hjI : (j : Int) < 8 := by omega
      have hj0 : (0 : Int) ≤ (j : Int) := by omega
      have hlb : b < wr.heap.size := (Array.getElem?_eq_some_iff.1 hP.row).1
      have HBr : Hid _ := hb
      have HE : Hid _ := he
      clear hP hb he
      have key : ∀ (N : Int) (S : ByteArray), wr.cell? ⟨b, j * 2, none⟩ = some (.int .i64 N) → wr.cell? ⟨b, j * 2 + 1, none⟩ = some (.string S) →
          (wr.drew.cell? ⟨b, j * 2, none⟩ = some (.int .i64 N) ∧ wr.drew.cell? ⟨b, j * 2 + 1, none⟩ = some (.string S)) ∧
          ∀ o : Obj, (wr.drew.alloc o).cell? ⟨b, j * 2, none⟩ = some (.int .i64 N) ∧ (wr.drew.alloc o).cell? ⟨b, j * 2 + 1, none⟩ = some (.string S) := fun N S c0 c1 => ⟨⟨c0, c1⟩, fun o => by
        have hbo : Below wr.drew.heap.size wr.drew (wr.drew.alloc o) := grew_alloc _ o
        exact ⟨(hbo.cell (p := ⟨b, j * 2, none⟩) hlb).trans c0, (hbo.cell (p := ⟨b, j * 2 + 1, none⟩) hlb).trans c1⟩⟩
      by_cases h0 : e.n = 0
      · rw [h0] at c0
        rw [hnon h0] at c1
        obtain ⟨S0, S1⟩ := key _ _ c0 c1
        have hh : hit s e = false := by unfold hit; rw [decide_eq_false (by simpa using h0)]; rfl
        have hnx := idx_next HN.out HE.out hh
        clear hnon h0 hh key
        go_wp2_with fail
        go_region_held3 (fun w' => w'.cell? ⟨b, j * 2, none⟩ = some (.int .i64 0) ∧ w'.cell? ⟨b, j * 2 + 1, none⟩ = some (.string ⟨#[]⟩)) (first | exact S0 | exact S1 _) (fail)
        have HNX : Hid _ := hnx
        clear hnx
        go_wp2_with fail
        go_roundw
        case rel => exact ⟨j + 1, by omega, by go_num, box_drew HBr.out _, HNX.out⟩
        case measure => simp [intOf]; omega
      · obtain ⟨S0, S1⟩ := key _ _ c0 c1
        cases hs : (e.s.toList == s.toList) with
        | true =>
          have hh : hit s e = true := by unfold hit; rw [decide_eq_true h0, hs]; rfl
          have hnx := idx_hit HN.out HE.out hh
          clear hnon hh key
          have HNX : Hid _ := hnx
          clear hnx
          generalize e.n = N at *
          go_wp2_with fail
          go_region_held3 (fun w' => w'.cell? ⟨b, j * 2, none⟩ = some (.int .i64 N) ∧ w'.cell? ⟨b, j * 2 + 1, none⟩ = some (.string e.s)) (first | exact S0 | exact S1 _) (fail)
          go_wp2_with fail
          go_ret2
          exact ⟨by rw [HNX.out]; rfl, box_drew HBr.out _⟩
        | false =>
          have hh : hit s e = false := by unfold hit; rw [hs, Bool.and_false]
          have hnx := idx_next HN.out HE.out hh
          have HNX : Hid _ := hnx
          clear hnon hh key hnx
          generalize e.n = N at *
          go_wp2_with fail
          go_region_held3 (fun w' => w'.cell? ⟨b, j * 2, none⟩ = some (.int .i64 N) ∧ w'.cell? ⟨b, j * 2 + 1, none⟩ = some (.string e.s)) (first | exact S0 | exact S1 _) (fail)
          go_wp2_with fail
          go_roundw
          case rel => exact ⟨j + 1, by omega, by go_num, box_drew HBr.out _, HNX.out⟩
          case measure => simp [intOf]; omega
    · obtain rfl : j = 8 := by omega
      have hr := HN.out
      rw [List.take_of_length_le (by have := h.len; omega)] at hr
      have HNX : Hid _ := hr
      clear hr
      go_wp2_with fail
      go_ret2
      exact ⟨by rw [HNX.out]; rfl, hb⟩
end Go.Proofs.Ythfnldclpommlab
