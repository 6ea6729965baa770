/- Sectors: an array of bytes by value, made of a list, and told as one. -/
import Derived.Test.YtemhhgpgpjiijaaMem
namespace Go.Proofs.Ytemhhgpgpjiijaa
open Go.RowKit

/-- A sector's cells. -/
def secA (xs : List Int) : Array Value := (xs.map (Value.int .u8)).toArray
theorem secA_size (xs : List Int) : (secA xs).size = xs.length := by simp [secA]
theorem secA_one (xs : List Int) : (secA xs).all (·.oneCell') = true := all_oneCell_toArray (one_cells xs)
theorem info79 : (Try.prog.info? 69).map (·.size) = some 128 := by kernel_rfl

theorem made_row {w : World} {B g n : Nat} {L : List Value} (h : w.ownsRow B 5 1 (.slice (some ⟨g, 0, none⟩) n n) n L) : ∃ L' : List Value, L'.length = n ∧ w.heap[g]? = some (.cells L'.toArray 5 (0, 0)) :=
  ⟨L, by simpa using h.1, own_row h⟩

theorem sec_src {w : World} {g : Nat} {xs : List Int} {t : TypeId} (h : w.heap[g]? = some (.cells (secA xs) t (0, 0))) : ∀ j v, (xs.map (Value.int .u8))[j]? = some v → w.cell? ((⟨g, 0, none⟩ : Addr).add j) = some v := by
  intro j v hj
  rw [Addr.add_mid, Nat.zero_add, cell_of_row w g j _ t _ h]
  simpa [secA] using hj

set_option maxRecDepth 10000 in
set_option maxHeartbeats 400000 in
theorem list_ok (xs : List Int) (hl : xs.length = 128) (w : World) :
    Calls Try.prog 25 #[.agg (secA xs)] w fun e w' => ∃ g, e = .returned (.slice (some ⟨g, 0, none⟩) 128 128) ∧ Own w.heap.size w' g 128 128 xs ∧ Below w.heap.size w w' := by
  obtain ⟨i0, hi, hz0, hz1, hz2⟩ := info_parts info5
  have hsz := secA_size xs
  rw [hl] at hsz
  have hb0 := (Below.refl w.heap.size w).alloc (Nat.le_refl _) (.cells (secA xs) 69)
  have hs0 : (w.alloc (.cells (secA xs) 69)).heap[w.heap.size]? = some (.cells (secA xs) 69 (0, 0)) := heap_alloc_new w _
  go_enter Try.func25, Try.ntmps25
  go_wp2_with (first
    | (at_make; refine wpList_make_full _ rfl _ _ 42 rfl w.heap.size 5 i0 (.int .u8 0) 1 Try.underlying42 hi hz0 hz1 .i64 .i64 _ _ 128 rfl rfl (by omega) (by omega) (by rw [hz2]; omega) (by unfold maxLen; omega) (by simp) ?_; intro w1 hown1 hgrow1; obtain ⟨L, hL, hrow⟩ := made_row hown1; simp only [World.size_alloc] at hrow; have hb1 := hb0.grown hgrow1 (by simp) (by intro k hk; cases hk); have hs1 := (hgrow1.block w.heap.size (by simp) (by simp)).trans hs0; clear hown1 hgrow1)
    | (refine wpList_copy_splice rfl _ _ 42 42 rfl 5 Try.underlying42 size5 _ _ _ _ _ _ rfl rfl (w.heap.size + 1) 0 L 5 hrow (xs.map (Value.int .u8)) ?c1 ?c2 ?c3 ?c4 w.heap.size w hb1 (by omega) ?_))
  case c1 => simp [hl]
  case c2 =>
    intro j a ha
    have := sec_src hs1 j (.int .u8 a) (by simp [ha])
    simpa [Addr.add_mid] using this
  case c3 => simp [hL, hl]
  case c4 => exact one_cells xs
  intro w2 hg2 hb2
  go_wp2
  go_ret
  refine ⟨_, rfl, own_of_row (by omega) (by unfold maxLen; omega) hl ?_, hb2⟩
  have hg := hg2.out
  rw [splice_all _ _ (by simp [hL, hl])] at hg
  exact hg

/-- A sector of noughts. -/
def zer : List Int := List.replicate 128 0
theorem zer_len : zer.length = 128 := by simp [zer]
theorem zero79 (w : World) : (zeroValue 69).run Try.prog w = .ok (.agg (secA zer)) w := by kernel_rfl

set_option maxRecDepth 10000 in
set_option maxHeartbeats 400000 in
theorem sectorOf_ok (p : Option Addr) (c : Nat) (xs : List Int) (w : World) (h : BI w p 128 xs) :
    Calls Try.prog 41 #[.slice p 128 c] w fun e w' => e = .returned (.agg (secA xs)) ∧ Below w.heap.size w w' := by
  have hz := zero79
  have hlen := h.len
  have hb0 := (Below.refl w.heap.size w).alloc (Nat.le_refl _) (.cells (secA zer) 69)
  have hb1 : Below w.heap.size w ((w.alloc (.cells (secA zer) 69)).alloc (.cells (secA zer) 69)) := hb0.alloc (by simp) _
  have hr0 : ((w.alloc (.cells (secA zer) 69)).alloc (.cells (secA zer) 69)).heap[w.heap.size]? = some (.cells (secA zer) 69 (0, 0)) := at_old (at_new rfl)
  have hr1 : ((w.alloc (.cells (secA zer) 69)).alloc (.cells (secA zer) 69)).heap[w.heap.size + 1]? = some (.cells (zer.map (Value.int .u8)).toArray 69 (0, 0)) := at_new (by simp)
  go_enter Try.func41, Try.ntmps41
  go_wp2_with (refine wpList_copy_splice rfl _ _ 42 42 rfl 5 Try.underlying42 size5 _ _ _ _ _ _ rfl rfl (w.heap.size + 1) 0 (zer.map (Value.int .u8)) 69 hr1 (xs.map (Value.int .u8)) ?c1 ?c2 ?c3 ?c4 (w.heap.size + 1) _ (Below.refl _ _) (by omega) ?_)
  case c1 => simp [hlen]
  case c2 => simpa using (h.kept hb1).src (by omega)
  case c3 => simp [hlen, zer_len]
  case c4 => exact one_cells xs
  intro w2 hg2 hb2
  have hg := hg2.out
  rw [splice_all _ _ (by simp [hlen, zer_len])] at hg
  have hg1 : w2.heap[w.heap.size + 1]? = some (.cells (secA xs) 69 (0, 0)) := hg
  have hg0 : w2.heap[w.heap.size]? = some (.cells (secA zer) 69 (0, 0)) := (hb2.block w.heap.size (by omega)).trans hr0
  have hs1 := secA_size xs
  have hs0 := secA_size zer
  rw [hlen] at hs1
  rw [zer_len] at hs0
  have hbw : Below w.heap.size w w2 := hb1.trans (hb2.mono (by omega))
  clear hg hg2 hr0 hr1 hb2 hb0 hb1
  generalize hA : secA xs = A at *
  generalize secA zer = Z at *
  go_wp2_with (first
    | (refine wpList_load_row rfl 69 _ rfl (w.heap.size + 1) rfl 69 A (0, 0) _ hg1 Try.underlying69 rfl (by rw [hs1]; exact info79) ?_)
    | (refine wpList_store_row rfl 69 _ _ rfl w.heap.size A rfl rfl 69 Z hg0 (by rw [hs1]; exact info79) (by rw [hs0, hs1]) (by rw [← hA]; exact secA_one xs) ?_))
  refine bodyPost_ret (v := .agg A) (results_cell_row (p := 2) (ty := 69) Try.results41 _ _ w.heap.size 69 A (0, 0) _ (by simp [Act.put]) (setRow_heap w2 w.heap.size Z A 69 (0, 0) hg0) Try.underlying69 rfl (by rw [hs1]; exact info79)) rfl ?_
  exact ⟨by rw [hA], below_setRow hbw (Nat.le_refl _) A⟩
end Go.Proofs.Ytemhhgpgpjiijaa
