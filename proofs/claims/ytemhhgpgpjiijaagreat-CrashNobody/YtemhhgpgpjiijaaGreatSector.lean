/- Sectors: an array of bytes by value, made of a list, and told as one. -/
import Derived.Test.YtemhhgpgpjiijaaGreatMem
namespace Go.Proofs.YtemhhgpgpjiijaaGreat
open Go.RowKit

/-- A sector's cells. -/
def secA (xs : List Int) : Array Value := (xs.map (Value.int .u8)).toArray
theorem secA_size (xs : List Int) : (secA xs).size = xs.length := by simp [secA]
theorem secA_one (xs : List Int) : (secA xs).all (·.oneCell') = true := all_oneCell_toArray (one_cells xs)
theorem info79 : (Tryz.prog.info? 68).map (·.size) = some 128 := by kernel_rfl

theorem made_row {w : World} {B g n : Nat} {L : List Value} (h : w.ownsRow B 5 1 (.slice (some ⟨g, 0, none⟩) n n) n L) : ∃ L' : List Value, L'.length = n ∧ w.heap[g]? = some (.cells L'.toArray 5 (0, 0)) :=
  ⟨L, by simpa using h.1, own_row h⟩

theorem sec_src {w : World} {g : Nat} {xs : List Int} {t : TypeId} (h : w.heap[g]? = some (.cells (secA xs) t (0, 0))) : ∀ j v, (xs.map (Value.int .u8))[j]? = some v → w.cell? ((⟨g, 0, none⟩ : Addr).add j) = some v := by
  intro j v hj
  rw [Addr.add_mid, Nat.zero_add, cell_of_row w g j _ t _ h]
  simpa [secA] using hj

set_option maxRecDepth 10000 in
set_option maxHeartbeats 400000 in
theorem list_ok (xs : List Int) (hl : xs.length = 128) (w : World) :
    Calls Tryz.prog 34 #[.agg (secA xs)] w fun e w' => ∃ g, e = .returned (.slice (some ⟨g, 0, none⟩) 128 128) ∧ Own w.heap.size w' g 128 128 xs ∧ Below w.heap.size w w' := by
  obtain ⟨i0, hi, hz0, hz1, hz2⟩ := info_parts info5
  have hsz := secA_size xs
  rw [hl] at hsz
  have hb0 := (Below.refl w.heap.size w).alloc (Nat.le_refl _) (.cells (secA xs) 68)
  have hs0 : (w.alloc (.cells (secA xs) 68)).heap[w.heap.size]? = some (.cells (secA xs) 68 (0, 0)) := heap_alloc_new w _
  go_enter Tryz.func34, Tryz.ntmps34
  go_wp2_with (first
    | (at_make; refine wpList_make_full _ rfl _ _ 62 rfl w.heap.size 5 i0 (.int .u8 0) 1 Tryz.underlying62 hi hz0 hz1 .i64 .i64 _ _ 128 rfl rfl (by omega) (by omega) (by rw [hz2]; omega) (by unfold maxLen; omega) (by simp) ?_; intro w1 hown1 hgrow1; obtain ⟨L, hL, hrow⟩ := made_row hown1; simp only [World.size_alloc] at hrow; have hb1 := hb0.grown hgrow1 (by simp) (by intro k hk; cases hk); have hs1 := (hgrow1.block w.heap.size (by simp) (by simp)).trans hs0; clear hown1 hgrow1)
    | (refine wpList_copy_splice rfl _ _ 62 62 rfl 5 Tryz.underlying62 size5 _ _ _ _ _ _ rfl rfl (w.heap.size + 1) 0 L 5 hrow (xs.map (Value.int .u8)) ?c1 ?c2 ?c3 ?c4 w.heap.size w hb1 (by omega) ?_))
  case c1 => simp [hl]
  case c2 =>
    intro j a ha
    have := sec_src hs1 j (.int .u8 a) (by simp [ha])
    simpa [Addr.add_mid] using this
  case c3 => simp [hL, hl]
  case c4 => exact one_cells xs
  intro w2 hg2 hb2
  go_wp2
  go_ret
  refine ⟨_, rfl, own_of_row (by omega) (by unfold maxLen; omega) hl ?_, hb2⟩
  have hg := hg2.out
  rw [splice_all _ _ (by simp [hL, hl])] at hg
  exact hg

/-- A sector of noughts. -/
def zer : List Int := List.replicate 128 0
theorem zer_len : zer.length = 128 := by simp [zer]
theorem zero79 (w : World) : (zeroValue 68).run Tryz.prog w = .ok (.agg (secA zer)) w := by kernel_rfl

end Go.Proofs.YtemhhgpgpjiijaaGreat
