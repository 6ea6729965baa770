/- dirs: the first empty place of a page; an entry put. -/
import Derived.Test.YthfnldclpommlabD2
namespace Go.Proofs.Ythfnldclpommlab
open Go.RowKit
set_option linter.unusedVariables false

set_option maxRecDepth 20000 in
set_option maxHeartbeats 1000000 in
theorem free_ok {w : World} {b : Nat} {E : List En} (h : Pge w b E) :
    Calls Try.prog 32 #[.pointer (some ⟨b, 0, none⟩)] w fun e w' => e = .returned (.tuple #[.int .i64 (((E.findIdx? emp).getD 0 : Nat) : Int), .bool (E.findIdx? emp).isSome]) ∧ Below w.heap.size w w' := by
  go_enter Try.func32, Try.ntmps32
  go_wp2_with fail
  go_loopw [8] (fun i wr => ∃ j : Nat, j ≤ 8 ∧ i = .int .i64 (j : Int) ∧ Below w.heap.size w wr ∧ (E.take j).findIdx? emp = none) (fun i _ => 8 - (intOf i).toNat)
  case atStart => exact ⟨0, by omega, rfl, Below.refl _ _, by simp⟩
  case round =>
    obtain ⟨j, hj, rfl, hb, hno⟩ := hrel
    have HN : Hid _ := hno
    clear hno
    by_cases hlt : j < 8
    · obtain ⟨e, he⟩ : ∃ e, E[j]? = some e := ⟨_, List.getElem?_eq_getElem (by have := h.len; omega)⟩
      have hP := h.kept hb
      have c0 := hP.c0 he
      have c1 := hP.c1 he
      have hnon := h.non e (List.mem_of_getElem? he)
      have hjI : (j : Int) < 8 := by omega
      have hj0 : (0 : Int) ≤ (j : Int) := by omega
      have hlb : b < wr.heap.size := (Array.getElem?_eq_some_iff.1 hP.row).1
      have HBr : Hid _ := hb
      have HE : Hid _ := he
      clear hP hb he
      have key : ∀ (N : Int) (S : ByteArray), wr.cell? ⟨b, j * 2, none⟩ = some (.int .i64 N) → wr.cell? ⟨b, j * 2 + 1, none⟩ = some (.string S) →
          (wr.drew.cell? ⟨b, j * 2, none⟩ = some (.int .i64 N) ∧ wr.drew.cell? ⟨b, j * 2 + 1, none⟩ = some (.string S)) ∧
          ∀ o : Obj, (wr.drew.alloc o).cell? ⟨b, j * 2, none⟩ = some (.int .i64 N) ∧ (wr.drew.alloc o).cell? ⟨b, j * 2 + 1, none⟩ = some (.string S) := fun N S c0 c1 => ⟨⟨c0, c1⟩, fun o => by
        have hbo : Below wr.drew.heap.size wr.drew (wr.drew.alloc o) := grew_alloc _ o
        exact ⟨(hbo.cell (p := ⟨b, j * 2, none⟩) hlb).trans c0, (hbo.cell (p := ⟨b, j * 2 + 1, none⟩) hlb).trans c1⟩⟩
      by_cases h0 : e.n = 0
      · rw [h0] at c0
        rw [hnon h0] at c1
        obtain ⟨S0, S1⟩ := key _ _ c0 c1
        have hh : emp e = true := by unfold emp; rw [decide_eq_true h0]
        have hnx := idx_hit HN.out HE.out hh
        have HNX : Hid _ := hnx
        clear hnon h0 hh key hnx
        go_wp2_with fail
        go_region_held3 (fun w' => w'.cell? ⟨b, j * 2, none⟩ = some (.int .i64 0) ∧ w'.cell? ⟨b, j * 2 + 1, none⟩ = some (.string ⟨#[]⟩)) (first | exact S0 | exact S1 _) (fail)
        go_wp2_with fail
        go_ret2
        exact ⟨by rw [HNX.out]; rfl, box_drew HBr.out _⟩
      · obtain ⟨S0, S1⟩ := key _ _ c0 c1
        have hh : emp e = false := by unfold emp; rw [decide_eq_false h0]
        have hnx := idx_next HN.out HE.out hh
        have HNX : Hid _ := hnx
        clear hnon hh key hnx
        generalize e.n = N at *
        go_wp2_with fail
        go_region_held3 (fun w' => w'.cell? ⟨b, j * 2, none⟩ = some (.int .i64 N) ∧ w'.cell? ⟨b, j * 2 + 1, none⟩ = some (.string e.s)) (first | exact S0 | exact S1 _) (fail)
        go_wp2_with fail
        go_roundw
        case rel => exact ⟨j + 1, by omega, by go_num, box_drew HBr.out _, HNX.out⟩
        case measure => simp [intOf]; omega
    · obtain rfl : j = 8 := by omega
      have hr := HN.out
      rw [List.take_of_length_le (by have := h.len; omega)] at hr
      have HNX : Hid _ := hr
      clear hr
      go_wp2_with fail
      go_ret2
      exact ⟨by rw [HNX.out]; rfl, hb⟩

theorem flat2_set : ∀ (E : List En) (i : Nat) (e : En), i < E.length → flat2 (E.set i e) = ((flat2 E).set (i * 2) (.int .i64 e.n)).set (i * 2 + 1) (.string e.s)
  | [], i, e, h => by simp at h
  | x :: l, 0, e, h => rfl
  | x :: l, i + 1, e, h => by
    have := flat2_set l i e (by simpa using h)
    rw [show (i + 1) * 2 = i * 2 + 2 by omega, show i * 2 + 2 + 1 = i * 2 + 1 + 2 by omega]
    simp [flat2, this]
theorem page_set {w : World} {b : Nat} {E : List En} (h : Pge w b E) {i : Nat} (hi : i < 8) (e : En) (he : e.n = 0 → e.s = ⟨#[]⟩) :
    Pge ((w.setCell ⟨b, i * 2, none⟩ (.int .i64 e.n)).setCell ⟨b, i * 2 + 1, none⟩ (.string e.s)) b (E.set i e) := by
  have h1 := heap_setCell_same w b (i * 2) (flat2 E).toArray 53 (.int .i64 e.n) h.row
  have h2 := heap_setCell_same _ b (i * 2 + 1) _ 53 (.string e.s) h1
  refine ⟨?_, by rw [List.length_set]; exact h.len, fun x hx => ?_⟩
  · rw [h2, flat2_set E i e (by have := h.len; omega)]
    simp
  · rcases List.mem_or_eq_of_mem_set hx with hx | hx
    · exact h.non x hx
    · rw [hx]; exact he

theorem unfrozen {w : World} {b : Nat} {cs : Array Value} {t : TypeId} (h : w.heap[b]? = some (.cells cs t (0, 0))) (i : Nat) : w.frozen? ⟨b, i, none⟩ = false := by
  simp [World.frozen?, h]

theorem two_kept {w : World} {bx b i j : Nat} {N : Int} {S : ByteArray} {u v : Value} (hne : ¬ bx = b) (h : w.heap[bx]? = some (entO N S)) :
    ((w.setCell ⟨b, i, none⟩ u).setCell ⟨b, j, none⟩ v).drew.cell? ⟨bx, 0, none⟩ = some (.int .i64 N) ∧ ((w.setCell ⟨b, i, none⟩ u).setCell ⟨b, j, none⟩ v).drew.cell? ⟨bx, 1, none⟩ = some (.string S) := by
  have h2 : ((w.setCell ⟨b, i, none⟩ u).setCell ⟨b, j, none⟩ v).drew.heap[bx]? = some (entO N S) := by
    show ((w.setCell ⟨b, i, none⟩ u).setCell ⟨b, j, none⟩ v).heap[bx]? = _
    rw [Below.heap_setCell _ _ _ _ hne, Below.heap_setCell _ _ _ _ hne]
    exact h
  exact ⟨cell_row h2 0 _ rfl, cell_row h2 1 _ rfl⟩
theorem two_below {w w1 : World} {B b : Nat} (h : Below w.heap.size w w1) (hB : B ≤ b) (hb : b < w.heap.size) (i j : Nat) (u v : Value) : Below B w ((w1.setCell ⟨b, i, none⟩ u).setCell ⟨b, j, none⟩ v).drew :=
  (((h.mono (by omega)).setCell (by simpa using hB) _).setCell (by simpa using hB) _).drew

/-- The page's entries, and the box's, while one is stored. -/
def Bx (bx : Nat) (N : Int) (S : ByteArray) (w : World) : Prop := w.cell? ⟨bx, 0, none⟩ = some (.int .i64 N) ∧ w.cell? ⟨bx, 1, none⟩ = some (.string S)

set_option maxRecDepth 20000 in
set_option maxHeartbeats 1000000 in
theorem pput_empty {w : World} {B b : Nat} {E : List En} (h : Pge w b E) (hB : B ≤ b) (i : Nat) (hi : i < 8) :
    Calls Try.prog 34 #[.pointer (some ⟨b, 0, none⟩), .int .i64 (i : Int), entV 0 ⟨#[]⟩] w fun r w' => r = .returned (.bool true) ∧ Pge w' b (E.set i ⟨0, ⟨#[]⟩⟩) ∧ Below B w w' := by
  have HB := grew_alloc w (entO 0 ⟨#[]⟩)
  have hx := heap_new w (entO 0 ⟨#[]⟩)
  have hk := kindOf_ok 0 ⟨#[]⟩ (by decide) (w.alloc (entO 0 ⟨#[]⟩))
  rw [show kd 0 ⟨#[]⟩ = 1 from rfl] at hk
  have hP := h.kept HB
  have hlw : b < w.heap.size := (Array.getElem?_eq_some_iff.1 h.row).1
  have hiI : (i : Int) < 8 := by omega
  have hi0 : (0 : Int) ≤ (i : Int) := by omega
  clear h
  go_enter Try.func34, Try.ntmps34
  go_wp2_with fail
  refine grew_at hk ?_
  intro w1 hb1
  clear hk
  have hP1 := hP.kept hb1
  have hx1 := (hb1.block _ (Array.getElem?_eq_some_iff.1 hx).1).trans hx
  have x0 : w1.cell? ⟨w.heap.size, 0, none⟩ = some (.int .i64 0) := cell_row hx1 0 _ rfl
  have x1 : w1.cell? ⟨w.heap.size, 1, none⟩ = some (.string ⟨#[]⟩) := cell_row hx1 1 _ rfl
  have H1 : Hid _ := And.intro hP1 (And.intro (grew_trans HB hb1) hx1)
  clear hx hx1 hP hP1 HB hb1
  obtain ⟨e0, he0⟩ : ∃ e, E[i]? = some e := ⟨_, List.getElem?_eq_getElem (by have := H1.out.1.len; omega)⟩
  have c0 := H1.out.1.c0 he0
  have c1 := H1.out.1.c1 he0
  have f0 : w1.frozen? ⟨b, i * 2, none⟩ = false := unfrozen H1.out.1.row _
  have f1 : w1.frozen? ⟨b, i * 2 + 1, none⟩ = false := unfrozen H1.out.1.row _
  have hbx : ¬ w.heap.size = b := by omega
  have S0 : w1.drew.cell? ⟨w.heap.size, 0, none⟩ = some (.int .i64 0) ∧ w1.drew.cell? ⟨w.heap.size, 1, none⟩ = some (.string ⟨#[]⟩) := ⟨x0, x1⟩
  dsimp only
  go_wp2_with fail
  go_region_held3 (fun w' => w'.cell? ⟨w.heap.size, 0, none⟩ = some (.int .i64 0) ∧ w'.cell? ⟨w.heap.size, 1, none⟩ = some (.string ⟨#[]⟩)) (first | exact S0 | exact two_kept hbx H1.out.2.2) (fail)
  have hf := page_set H1.out.1 hi ⟨0, ⟨#[]⟩⟩ (fun _ => rfl)
  have hbf := two_below H1.out.2.1 hB hlw (i * 2) (i * 2 + 1) (.int .i64 0) (.string ⟨#[]⟩)
  go_wp2_with fail
  go_ret
  exact ⟨rfl, ⟨hf.row, hf.len, hf.non⟩, hbf⟩

set_option maxRecDepth 20000 in
set_option maxHeartbeats 1000000 in
theorem pput_named {w : World} {B b : Nat} {E : List En} (h : Pge w b E) (hB : B ≤ b) (i : Nat) (hi : i < 8) (N : Int) (S : ByteArray) (hm : EMay N S) (h0 : N ≠ 0) (hno : E.findIdx? (hit S) = none) :
    Calls Try.prog 34 #[.pointer (some ⟨b, 0, none⟩), .int .i64 (i : Int), entV N S] w fun r w' => r = .returned (.bool true) ∧ Pge w' b (E.set i ⟨N, S⟩) ∧ Below B w w' := by
  have hsz := emay_size hm
  have HB := grew_alloc w (entO N S)
  have hx := heap_new w (entO N S)
  have hk := kindOf_ok N S (by omega) (w.alloc (entO N S))
  rw [show kd N S = 2 by unfold kd; rw [if_pos hm, if_neg h0]] at hk
  have hP := h.kept HB
  have hlw : b < w.heap.size := (Array.getElem?_eq_some_iff.1 h.row).1
  have hiI : (i : Int) < 8 := by omega
  have hi0 : (0 : Int) ≤ (i : Int) := by omega
  have HNO : Hid _ := hno
  have H0 : Hid _ := h0
  clear h hm hno h0
  go_enter Try.func34, Try.ntmps34
  go_wp2_with fail
  refine grew_at hk ?_
  intro w1 hb1
  clear hk
  have hP1 := hP.kept hb1
  have hx1 := (hb1.block _ (Array.getElem?_eq_some_iff.1 hx).1).trans hx
  have x0 : w1.cell? ⟨w.heap.size, 0, none⟩ = some (.int .i64 N) := cell_row hx1 0 _ rfl
  have x1 : w1.cell? ⟨w.heap.size, 1, none⟩ = some (.string S) := cell_row hx1 1 _ rfl
  have hfi := find_ok hP1 S
  rw [HNO.out] at hfi
  have H1 : Hid _ := And.intro hP1 (And.intro (grew_trans HB hb1) hx1)
  clear hx hx1 hP hP1 HB hb1
  dsimp only
  go_wp2_with fail
  refine grew_at hfi ?_
  intro w2 hb2
  clear hfi x0 x1
  have hx2 := (hb2.block _ (Array.getElem?_eq_some_iff.1 H1.out.2.2).1).trans H1.out.2.2
  have x0 : w2.cell? ⟨w.heap.size, 0, none⟩ = some (.int .i64 N) := cell_row hx2 0 _ rfl
  have x1 : w2.cell? ⟨w.heap.size, 1, none⟩ = some (.string S) := cell_row hx2 1 _ rfl
  have H2 : Hid _ := And.intro (H1.out.1.kept hb2) (And.intro (grew_trans H1.out.2.1 hb2) hx2)
  clear hb2 hx2
  obtain ⟨e0, he0⟩ : ∃ e, E[i]? = some e := ⟨_, List.getElem?_eq_getElem (by have := H2.out.1.len; omega)⟩
  have c0 := H2.out.1.c0 he0
  have c1 := H2.out.1.c1 he0
  have f0 : w2.frozen? ⟨b, i * 2, none⟩ = false := unfrozen H2.out.1.row _
  have f1 : w2.frozen? ⟨b, i * 2 + 1, none⟩ = false := unfrozen H2.out.1.row _
  have hbx : ¬ w.heap.size = b := by omega
  have S0 : w2.drew.cell? ⟨w.heap.size, 0, none⟩ = some (.int .i64 N) ∧ w2.drew.cell? ⟨w.heap.size, 1, none⟩ = some (.string S) := ⟨x0, x1⟩
  dsimp only
  go_wp2_with fail
  go_region_held3 (fun w' => w'.cell? ⟨w.heap.size, 0, none⟩ = some (.int .i64 N) ∧ w'.cell? ⟨w.heap.size, 1, none⟩ = some (.string S)) (first | exact S0 | exact two_kept hbx H2.out.2.2) (fail)
  have hf := page_set H2.out.1 hi ⟨N, S⟩ (fun h => absurd h H0.out)
  have hbf := two_below H2.out.2.1 hB hlw (i * 2) (i * 2 + 1) (.int .i64 N) (.string S)
  go_wp2_with fail
  go_ret
  exact ⟨rfl, ⟨hf.row, hf.len, hf.non⟩, hbf⟩

set_option maxRecDepth 20000 in
set_option maxHeartbeats 1000000 in
theorem pput_there {w : World} {b : Nat} {E : List En} (h : Pge w b E) (i : Int) (N : Int) (S : ByteArray) (hm : EMay N S) (h0 : N ≠ 0) (k : Nat) (hno : E.findIdx? (hit S) = some k) :
    Calls Try.prog 34 #[.pointer (some ⟨b, 0, none⟩), .int .i64 i, entV N S] w fun r w' => r = .returned (.bool false) ∧ Below w.heap.size w w' := by
  have hsz := emay_size hm
  have HB := grew_alloc w (entO N S)
  have hx := heap_new w (entO N S)
  have hk := kindOf_ok N S (by omega) (w.alloc (entO N S))
  rw [show kd N S = 2 by unfold kd; rw [if_pos hm, if_neg h0]] at hk
  have hP := h.kept HB
  have HNO : Hid _ := hno
  clear h hm hno h0
  go_enter Try.func34, Try.ntmps34
  go_wp2_with fail
  refine grew_at hk ?_
  intro w1 hb1
  clear hk
  have hP1 := hP.kept hb1
  have hx1 := (hb1.block _ (Array.getElem?_eq_some_iff.1 hx).1).trans hx
  have x0 : w1.cell? ⟨w.heap.size, 0, none⟩ = some (.int .i64 N) := cell_row hx1 0 _ rfl
  have x1 : w1.cell? ⟨w.heap.size, 1, none⟩ = some (.string S) := cell_row hx1 1 _ rfl
  have hfi := find_ok hP1 S
  rw [HNO.out] at hfi
  have H1 : Hid _ := grew_trans HB hb1
  clear hx hx1 hP hP1 HB hb1
  dsimp only
  go_wp2_with fail
  refine grew_at hfi ?_
  intro w2 hb2
  clear hfi
  dsimp only
  go_wp2_with fail
  go_ret
  exact ⟨rfl, grew_trans H1.out hb2⟩

set_option maxRecDepth 20000 in
set_option maxHeartbeats 1000000 in
theorem pput_wrong {w : World} {b : Nat} (i : Int) (N : Int) (S : ByteArray) (hs : S.size ≤ 140737488355328) (hm : ¬ EMay N S) :
    Calls Try.prog 34 #[.pointer (some ⟨b, 0, none⟩), .int .i64 i, entV N S] w fun r w' => r = .returned (.bool false) ∧ Below w.heap.size w w' := by
  have HB := grew_alloc w (entO N S)
  have hx := heap_new w (entO N S)
  have hk := kindOf_ok N S hs (w.alloc (entO N S))
  rw [show kd N S = 0 by unfold kd; rw [if_neg hm]] at hk
  clear hm
  go_enter Try.func34, Try.ntmps34
  go_wp2_with fail
  refine grew_at hk ?_
  intro w1 hb1
  clear hk
  dsimp only
  go_wp2_with fail
  go_ret
  exact ⟨rfl, grew_trans HB hb1⟩
end Go.Proofs.Ythfnldclpommlab
