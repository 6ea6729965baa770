/- Images: a list of blocks, each a list of bytes of its own. -/
import Derived.Test.YtemhhgpgpjiijaaDisk
namespace Go.Proofs.Ytemhhgpgpjiijaa
open Go.RowKit Go.Maps

/-- A whole block's bytes as a slice. -/
def sl (g : Nat) : Value := .slice (some ⟨g, 0, none⟩) 128 128
theorem info30 : (Try.prog.info? 42).map (fun i => (i.zero, i.size, i.bytes)) = some (some (.slice none 0 0), 1, 24) := by kernel_rfl

/-- Block g holds n slices, of the blocks gs, whose bytes are L. -/
structure Img (B : Nat) (w : World) (g n : Nat) (gs : List Nat) (L : Nat → List Int) : Prop where
  row : w.ownsRow B 42 1 (.slice (some ⟨g, 0, none⟩) n n) n (gs.map sl)
  el : ∀ i, i < n → Own B w (gs.getD i 0) 128 128 (L i)

theorem Img.len {B : Nat} {w : World} {g n : Nat} {gs : List Nat} {L : Nat → List Int} (h : Img B w g n gs L) : gs.length = n := by
  have := h.row.1; simpa using this

theorem Img.kept {B : Nat} {w w' : World} {g n : Nat} {gs : List Nat} {L : Nat → List Int} (h : Img B w g n gs L) (hb : ∀ k, B ≤ k → k < w.heap.size → w'.heap[k]? = w.heap[k]?) : Img B w' g n gs L := by
  refine ⟨ownsRow_kept h.row (fun k hk => ?_), fun i hi => ownsRow_kept (h.el i hi) (fun k hk => ?_)⟩
  · have := h.row.lt k hk
    exact hb k this.1 this.2
  · have := World.ownsRow.lt (h.el i hi) k hk
    exact hb k this.1 this.2

theorem Img.base {B B' : Nat} {w : World} {g n : Nat} {gs : List Nat} {L : Nat → List Int} (h : Img B w g n gs L) (hB : B' ≤ B) : Img B' w g n gs L := by
  refine ⟨⟨h.row.1, ?_⟩, fun i hi => (h.el i hi).base hB⟩
  rcases h.row.2 with ⟨h', _⟩ | ⟨g', cap', cur, h', hbg, rest⟩
  · simp at h'
  · exact .inr ⟨g', cap', cur, h', by omega, rest⟩

theorem made_list (z : Value) (n : Nat) (hz : z.cells = #[z]) : (madeCells z.cells (n * 1)).toList = List.replicate n z := by
  rw [hz]
  apply List.ext_getElem
  · simp [madeCells]
  · intro i h1 h2
    simp [madeCells, Nat.mod_one]

theorem set_mid (gs : List Nat) (N : Nat) (g : Nat) (h : gs.length < N) : (gs.map sl ++ List.replicate (N - gs.length) (Value.slice none 0 0)).set gs.length (sl g) = (gs ++ [g]).map sl ++ List.replicate (N - (gs.length + 1)) (Value.slice none 0 0) := by
  obtain ⟨m, hm⟩ : ∃ m, N - gs.length = m + 1 := ⟨N - gs.length - 1, by omega⟩
  have hm' : N - (gs.length + 1) = m := by omega
  rw [hm, hm', List.set_append_right _ _ (by simp)]
  simp [List.replicate_succ]

/-- Rows of two types are two blocks. -/
theorem rows_ne {w : World} {B B' : Nat} {e e' : TypeId} {s s' : Nat} {g g' n c n' c' : Nat} {L L' : List Value} (h : w.ownsRow B e s (.slice (some ⟨g, 0, none⟩) n c) n L) (h' : w.ownsRow B' e' s' (.slice (some ⟨g', 0, none⟩) n' c') n' L') (hne : e ≠ e') : g ≠ g' := by
  rintro rfl
  rcases h.2 with ⟨k, _⟩ | ⟨g1, cap1, cur1, k, _, hg1, _⟩
  · simp at k
  rcases h'.2 with ⟨k', _⟩ | ⟨g2, cap2, cur2, k', _, hg2, _⟩
  · simp at k'
  simp only [Value.slice.injEq, Option.some.injEq, Addr.mk.injEq, and_true, true_and] at k k'
  obtain ⟨rfl, _⟩ := k
  obtain ⟨rfl, _⟩ := k'
  rw [hg1] at hg2
  simp only [Option.some.injEq, Obj.cells.injEq] at hg2
  exact hne hg2.2.1

theorem Own.setOther {B : Nat} {w : World} {g n cap : Nat} {xs : List Int} (h : Own B w g n cap xs) {k j : Nat} (hne : g ≠ k) (u : Value) : Own B (w.setCell ⟨k, j, none⟩ u) g n cap xs :=
  ownsRow_kept h (fun i hi => by cases hi; exact Below.heap_setCell w ⟨k, j, none⟩ u g hne)

set_option maxRecDepth 10000 in
set_option maxHeartbeats 1000000 in
theorem image_ok {B : Nat} {w : World} {a mb fb : Nat} {qv : Value} {S : St} (h : DI B w a mb fb qv S) : Calls Try.prog 14 #[.pointer (some ⟨a, 0, none⟩)] w fun e w' => ∃ g gs, e = .returned (.slice (some ⟨g, 0, none⟩) S.N S.N) ∧ Img w.heap.size w' g S.N gs S.f ∧ Below w.heap.size w w' := by
  obtain ⟨i0, hi, hz0, hz1, hz2⟩ := info_parts info30
  have hN := h.N2
  have hc := h.c0
  go_enter Try.func14, Try.ntmps14
  go_wp2_with fail
  refine same_at (made_ok h) ?_
  go_wp2_with (first
    | (at_make; refine wpList_make_full _ rfl _ _ 22 rfl w.heap.size 42 i0 (.slice none 0 0) 1 Try.underlying22 hi hz0 hz1 .i64 .i64 _ _ S.N rfl rfl rfl rfl (by rw [hz2]; omega) (by unfold maxLen; omega) (Nat.le_refl _) ?_; intro w1 hown1 hgrow1; rw [made_list _ _ rfl] at hown1; have hb1 := (Below.refl w.heap.size w).grown hgrow1 (Nat.le_refl _) (by intro k hk; cases hk); clear hgrow1))
  clear hc
  go_loopw [15] (fun i wr => ∃ j gs, j ≤ S.N ∧ i = .int .i64 (j : Int) ∧ List.length gs = j ∧ wr.ownsRow w.heap.size 42 1 (.slice (some ⟨w.heap.size, 0, none⟩) S.N S.N) S.N (gs.map sl ++ List.replicate (S.N - j) (.slice none 0 0)) ∧ (∀ i, i < j → Own w.heap.size wr (gs.getD i 0) 128 128 (S.f i)) ∧ Below w.heap.size w wr) (fun i _ => S.N - (intOf i).toNat)
  case atStart => exact ⟨0, [], by omega, rfl, rfl, by simpa using hown1, by intro i hi; omega, hb1⟩
  case round =>
    clear hown1 hb1
    obtain ⟨j, gs, hj, rfl, hgs, hown, hel, hb⟩ := hrel
    have hd := h.later hb
    by_cases hlt : j < S.N
    · go_wp2_with fail
      refine (bytesOf_ok hd j hlt).mono ?_
      rintro e w2 ⟨g2, rfl, ho2, hb2⟩
      have hr2 := ownsRow_kept hown (fun k hk => hb2.block k (hown.lt k hk).2)
      have hcw : w2.cell? ⟨w.heap.size, j, none⟩ = some (.slice none 0 0) := by
        rw [hr2.cellAt j (by omega), List.getElem?_append_right (by simp [hgs]), List.getElem?_replicate]
        simp [hgs]; omega
      have hfw := hr2.frozenAt j
      go_wp2
      go_roundw
      case rel =>
        subst hgs
        refine ⟨gs.length + 1, gs ++ [g2], by omega, by go_num, by simp, ?_, ?_, ?_⟩
        · have := (hr2.stored gs.length (sl g2)).1
          rw [set_mid _ _ _ hlt] at this
          exact this
        · intro i hi
          by_cases e : i = gs.length
          · subst e
            have ho := ho2.base hb.size
            have e1 : (gs ++ [g2]).getD gs.length 0 = g2 := by simp
            rw [e1]
            exact ho.setOther (rows_ne ho hr2 (by decide)) _
          · have e1 : (gs ++ [g2]).getD i 0 = gs.getD i 0 := by
              simp [List.getD_eq_getElem?_getD, List.getElem?_append_left (show i < gs.length by omega)]
            rw [e1]
            have ho := (hel i (by omega)).kept hb2
            exact ho.setOther (rows_ne ho hr2 (by decide)) _
        · exact (hb.trans (hb2.mono hb.size)).setCell (Nat.le_refl _) _
      case measure => simp [intOf]; omega
    · obtain rfl : j = S.N := by omega
      go_wp2
      go_ret
      exact ⟨_, gs, rfl, ⟨by simpa using hown, hel⟩, hb⟩
end Go.Proofs.Ytemhhgpgpjiijaa
