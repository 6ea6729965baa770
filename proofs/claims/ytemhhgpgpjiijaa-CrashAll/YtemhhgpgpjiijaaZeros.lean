/- bytes.Clone; append(s, make([]byte, m)...). -/
import Derived.Test.YtemhhgpgpjiijaaMem
import Derived.Lib.AppendZerosOnto
namespace Go.Proofs.Ytemhhgpgpjiijaa
open Go.RowKit

set_option maxHeartbeats 400000 in
theorem bclone_some (a : Addr) (n c : Nat) (xs : List Int) (w : World) (h : BI w (some a) n xs) :
    Calls Try.prog 42 #[.slice (some a) n c] w fun e w' => ∃ g cap, e = .returned (.slice (some ⟨g, 0, none⟩) n cap) ∧ Own w.heap.size w' g n cap xs ∧ Below w.heap.size w w' := by
  obtain ⟨i0, hi, hz0, hz1, hz2⟩ := info_parts info5
  have hbig := h.big
  have hlen := h.len
  have q22 := eqlNil
  have hb0 := (Below.refl w.heap.size w).alloc (Nat.le_refl _) (Obj.cells #[] 5)
  go_enter Try.func42, Try.ntmps42
  go_wp2_with (at_builtin; refine wpList_append_own _ rfl _ _ 42 rfl w.heap.size 5 i0 (.int .u8 0) 1 1 Try.underlying42 hi hz0 hz1 hz2 rfl (by decide) _ _ _ rfl (World.ownsRow_made w #[] 0 (Nat.le_refl _) (Nat.zero_le _) rfl) a n c (xs.map (Value.int .u8)) rfl ?c1 ?c2 ?c3 ?c4 ?c5 ?c6 ?_)
  case c1 => simp [hlen]
  case c2 => exact (h.kept hb0).src'
  case c3 => exact one_cells xs
  case c4 => unfold maxLen; omega
  case c5 => omega
  case c6 => simp
  intro v' w1 hown hgrow hnil
  obtain ⟨g, cap, hv, ho⟩ := own_shape hown (by first | exact hnil | (intro e; exact absurd (hnil.1 e).1 (by simp)))
  rw [hv]
  clear hown hnil
  have hb1 := hb0.grown hgrow (by simp) (by intro k hk; simp [Value.ownBlock] at hk; omega)
  go_wp2
  go_ret
  exact ⟨g, cap, rfl, ho, hb1⟩

set_option maxHeartbeats 400000 in
theorem bclone_nil (n c : Nat) (w : World) :
    Calls Try.prog 42 #[.slice none n c] w fun e w' => e = .returned (.slice none 0 0) ∧ w' = w := by
  have q22 := eqlNil
  go_enter Try.func42, Try.ntmps42
  go_wp2
  go_ret
  exact ⟨rfl, rfl⟩

theorem BI.nil_zero {w : World} {n : Nat} {xs : List Int} (h : BI w none n xs) : n = 0 ∧ xs = [] := by
  have hn : n = 0 := by
    rcases Nat.eq_zero_or_pos n with h0 | h0
    · exact h0
    · obtain ⟨b, o, e, _⟩ := h.cells h0
      cases e
  exact ⟨hn, List.eq_nil_of_length_eq_zero (by rw [h.len, hn])⟩

/-- A copy, as a row of the call's own (or nil, of nil). -/
theorem bclone_any (p : Option Addr) (n c : Nat) (xs : List Int) (w : World) (h : BI w p n xs) :
    Calls Try.prog 42 #[.slice p n c] w fun e w' => ∃ v, e = .returned v ∧ w'.ownsRow w.heap.size 5 1 v n (xs.map (Value.int .u8)) ∧ Below w.heap.size w w' := by
  cases p with
  | none =>
    obtain ⟨rfl, rfl⟩ := h.nil_zero
    exact (bclone_nil 0 c w).mono fun e w' ⟨he, hw⟩ => ⟨_, he, World.ownsRow_nil _ _ _ _, by rw [hw]; exact Below.refl _ _⟩
  | some a =>
    exact (bclone_some a n c xs w h).mono fun e w' ⟨g, cap, he, ho, hb⟩ => ⟨_, he, ho, hb⟩

theorem zero_list (m : Nat) : (Builtin.zeroCells (Value.int .u8 0).cells m).toList = (List.replicate m (0 : Int)).map (Value.int .u8) := by
  apply List.ext_getElem
  · simp [Builtin.zeroCells, Value.cells]
  · intro i h1 h2
    simp [Builtin.zeroCells, Value.cells, Nat.mod_one]

theorem zeros_own (B : Nat) (w : World) (v : Value) (n m : Nat) (xs : List Int) (h : w.ownsRow B 5 1 v n (xs.map (Value.int .u8))) (hnm : n + m = 128) (hB : B ≤ w.heap.size) (ty : TypeId) :
    ∃ g cap w', (Builtin.append_ #[42, 3] ty #[v, .int .i64 (m : Int)]).run Try.prog w = .ok (.slice (some ⟨g, 0, none⟩) 128 cap) w' ∧ Own B w' g 128 cap (xs ++ List.replicate m 0) ∧ w.grownBy w' v.ownBlock := by
  obtain ⟨i0, hi, hz0, hz1, hz2⟩ := info_parts info5
  have hlen : (xs ++ List.replicate m (0 : Int)).length = 128 := by have := h.1; simp at this ⊢; omega
  have hxl : xs.length = n := by have := h.1; simpa using this
  have hmap : (xs ++ List.replicate m (0 : Int)).map (Value.int .u8) = xs.map (Value.int .u8) ++ (Builtin.zeroCells (Value.int .u8 0).cells m).toList := by rw [List.map_append, zero_list]
  rcases h.2 with ⟨rfl, h0⟩ | ⟨g, cap, cur, rfl, hbg, hg, hnc, hcm, hcs, htk⟩
  · have hm : m = 128 := by omega
    subst hm
    have hr := Lib.run_append_nil_zeros (P := Try.prog) w 42 3 ty 5 i0 (.int .u8 0) .i64 .i64 Try.underlying42 Try.underlying3 hi hz0 128 (by omega) (by omega) (by omega) (by rw [hz2]; omega)
    refine ⟨_, _, _, hr, ⟨by simpa using hlen, .inr ⟨_, _, _, rfl, hB, heap_alloc_new w.drew _, grownCap_ge _ _ _ _, grownCap_le_maxLen _ _ _ _ (by unfold maxLen; omega), ?_, ?_⟩⟩, ⟨rfl, rfl, rfl, by simp, fun k hk _ => Below.heap_alloc w.drew _ k hk⟩⟩
    · have := grownCap_ge w 128 0 5
      simp [size_zeroCells, Value.cells]; omega
    · rw [hmap]
      have hx0 : xs = [] := List.eq_nil_of_length_eq_zero (by omega)
      subst hx0
      simp only [Array.toList_append, List.map_nil, List.nil_append]
      exact List.take_left' (by simp [size_zeroCells, Value.cells])
  · by_cases hroom : 128 ≤ cap
    · have hw : IntKind.i64.wrap (m : Int) = m := by rw [IntKind.wrap_i64]; omega
      have hneg : ¬ ((m : Int) < 0) := by omega
      have h48 : ¬ ((281474976710656 : Int) < (m : Int)) := by omega
      have hroom' : n + m ≤ cap := by omega
      by_cases hm : m = 0
      · subst hm
        have hn : n = 128 := by omega
        subst hn
        refine ⟨g, cap, w, ?_, ?_, ⟨rfl, rfl, rfl, Nat.le_refl _, fun _ _ _ => rfl⟩⟩
        · have hw0 : IntKind.i64.wrap 0 = 0 := hw
          simp [Builtin.append_, run_underlying Try.underlying42, run_underlying Try.underlying3, sizeOf, typeInfo, hi, hz2, asInt, asIntOf, hroom, Addr.add_mid, storeCells, hw0]
        · rw [List.replicate_zero, List.append_nil]
          exact h
      · have h1 : ∀ u ∈ (Builtin.zeroCells (Value.int .u8 0).cells m).toList, u.oneCell' = true := by rw [zero_list]; exact one_cells _
        have hzl : (Builtin.zeroCells (Value.int .u8 0).cells m).toList.length = m := by rw [zero_list]; simp
        have hst := run_storeCells_at Try.prog g n 5 (Builtin.zeroCells (Value.int .u8 0).cells m).toList 0 cur w hg (by rw [hzl, hcs]; omega) h1
        refine ⟨g, cap, w.setRow g (cur.toList.take n ++ (Builtin.zeroCells (Value.int .u8 0).cells m).toList ++ cur.toList.drop (n + m)).toArray, ?_, ⟨by simpa using hlen, .inr ⟨g, cap, _, rfl, hbg, setRow_heap w g cur _ 5 _ hg, hroom, hcm, ?_, ?_⟩⟩, ⟨rfl, rfl, rfl, by simp, fun k _ hk => setRow_other w g k _ (fun e => hk (by simp [Value.ownBlock, e]))⟩⟩
        · rw [Nat.add_zero, hzl] at hst
          simp [Builtin.append_, run_underlying Try.underlying42, run_underlying Try.underlying3, sizeOf, typeInfo, zeroValue, hi, hz0, hz1, hz2, asInt, asIntOf, hw, hneg, h48, hm, Addr.add_mid, hst, hnm]
          intro hc
          omega
        · simp only [List.size_toArray, List.length_append, List.length_take, List.length_drop, Array.length_toList, hzl, hcs]; omega
        · rw [hmap, ← htk]
          simp only [Nat.mul_one]
          have hle : (cur.toList.take n ++ (Builtin.zeroCells (Value.int .u8 0).cells m).toList).length = 128 := by rw [List.length_append, hzl, List.length_take, Array.length_toList, hcs]; omega
          exact List.take_left' hle
    · have hm : 0 < m := by omega
      have hold : (Builtin.firstCells i0.size n (.slice (some ⟨g, 0, none⟩) n cap)).run Try.prog w.drew = .ok (xs.map (Value.int .u8)).toArray w.drew :=
        run_firstCells_some (P := Try.prog) w.drew i0.size n ⟨g, 0, none⟩ n cap _ (by rw [hz1]; simpa using h.1) (h.cells rfl)
      have hr := Lib.run_append_grow_zeros (P := Try.prog) w 42 3 ty 5 i0 (.int .u8 0) .i64 .i64 Try.underlying42 Try.underlying3 hi hz0 (some ⟨g, 0, none⟩) n cap (xs.map (Value.int .u8)) hold m hm (by omega) (by omega) (by omega) (by rw [hz2]; omega) (growslice_fits (by omega) (by rw [hz2]; omega))
      rw [hnm] at hr
      refine ⟨_, _, _, hr, ⟨by simpa using hlen, .inr ⟨_, _, _, rfl, hB, heap_alloc_new w.drew _, grownCap_ge _ _ _ _, grownCap_le_maxLen _ _ _ _ (by unfold maxLen; omega), ?_, ?_⟩⟩, ⟨rfl, rfl, rfl, by simp, fun k hk _ => Below.heap_alloc w.drew _ k hk⟩⟩
      · have := grownCap_ge w 128 cap 5
        simp [size_zeroCells, Value.cells]; omega
      · rw [hmap]
        simp only [Array.toList_append]
        exact List.take_left' (by simp [size_zeroCells, Value.cells]; omega)
end Go.Proofs.Ytemhhgpgpjiijaa
