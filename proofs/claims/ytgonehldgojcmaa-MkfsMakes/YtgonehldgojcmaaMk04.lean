/- Geom MO Zeros Conv RSuper DSuper Form RDec Group -/
import Derived.Test.YtgonehldgojcmaaMk03
import Derived.WalkKit
import Derived.WalkSpells
import Derived.WalkLawsBesides
import Derived.BigQuiet
import Derived.Deep.QuietTactic
import Derived.Deep.RegionHeld3
import Derived.Test.YtgonehldgojcmaaRows
import Derived.ProofKit
import Derived.OpenShut
import Derived.ShutString
import Derived.ChangeOld
import Derived.SizedLaws
import Derived.Lib.SmallJoins
import Derived.Test.YtgonehldgojcmaaMk01
import Derived.Lib.AppendZerosOnto
import Derived.Deep.MidRow
import Derived.Laws.ResultCell

/- What the calls of geom and of the document answer about geometries: each said once for all arguments. -/
namespace Go.Proofs.Ytgonehldgojcmaa
open Go.RowKit

namespace Gm
def can (G B I : Int) : Int := if May G B I then 0 else 170
end Gm

theorem gwithin_ok (n l h : Int) (w : World) : Calls Try.prog 18 #[.int .i64 n, .int .i64 l, .int .i64 h] w fun e w' => e = .returned (.bool (decide (l ≤ n ∧ n ≤ h))) ∧ w' = w := by
  go_enter Try.func18, Try.ntmps18
  go_wp2
  all_goals
    go_ret
    exact ⟨by simp [*]; try omega, rfl⟩

theorem box_at {w w1 : World} {o : Obj} (hb : Below (w.alloc o).heap.size (w.alloc o) w1) : w1.heap[w.heap.size]? = some o := by
  rw [hb.block _ (by rw [size_alloc]; omega), heap_new]
theorem box_below {w w1 : World} {o : Obj} (hb : Below (w.alloc o).heap.size (w.alloc o) w1) : Below w.heap.size w w1 :=
  ((Below.refl _ _).alloc (Nat.le_refl _) _).trans (hb.mono (by rw [size_alloc]; omega))

/-- Block b holds a geometry. -/
def Box (w : World) (b : Nat) (G B I : Int) : Prop := w.cell? ⟨b, 0, none⟩ = some (.int .i64 G) ∧ w.cell? ⟨b, 1, none⟩ = some (.int .i64 B) ∧ w.cell? ⟨b, 2, none⟩ = some (.int .i64 I)
theorem box_ok {w w1 : World} {G B I : Int} (hb : Below (w.alloc (geomO G B I)).heap.size (w.alloc (geomO G B I)) w1) : Box w1 w.heap.size G B I := by
  have := box_at hb
  refine ⟨?_, ?_, ?_⟩ <;> simp [World.cell?, this]
theorem Box.kept {w w1 : World} {b : Nat} {G B I : Int} (h : Box w b G B I) (hb : Below w.heap.size w w1) : Box w1 b G B I := by
  have hlt := lt_of_cell h.1
  refine ⟨?_, ?_, ?_⟩
  · rw [hb.cell (p := ⟨b, 0, none⟩) hlt]; exact h.1
  · rw [hb.cell (p := ⟨b, 1, none⟩) hlt]; exact h.2.1
  · rw [hb.cell (p := ⟨b, 2, none⟩) hlt]; exact h.2.2

theorem dataPlace_any (G B I : Int) (w : World) : Calls Try.prog 38 #[geomV G B I] w fun e w' => (∃ v, e = .returned (.int .i64 v) ∧ (4 ≤ I ∧ I ≤ 64 → v = 2 + I / 4)) ∧ Below w.heap.size w w' := by
  go_enter Try.func38, Try.ntmps38
  go_wp2
  go_ret
  refine ⟨⟨_, rfl, fun h => ?_⟩, (Below.refl _ _).alloc (Nat.le_refl _) _⟩
  have h1 := h.1
  have h2 := h.2
  unfold wrap64
  rw [Int.tdiv_eq_ediv_of_nonneg (by omega)]
  omega
theorem dataBlocks_any (G B I : Int) (w : World) : Calls Try.prog 19 #[geomV G B I] w fun e w' => (∃ v, e = .returned (.int .i64 v) ∧ (4 ≤ I ∧ I ≤ 64 ∧ 8 ≤ B ∧ B ≤ 256 → v = B - (2 + I / 4))) ∧ Below w.heap.size w w' := by
  go_enter Try.func19, Try.ntmps19
  go_wp2_with fail
  have hB := box_ok (Below.refl _ (w.alloc (geomO G B I)))
  have hbe := box_below (Below.refl _ (w.alloc (geomO G B I)))
  have hsz := size_alloc w (geomO G B I)
  generalize w.alloc (geomO G B I) = w0 at *
  obtain ⟨c0, c1, c2⟩ := hB
  go_region_held3 (fun w' => w'.cell? ⟨w.heap.size, 0, none⟩ = some (.int .i64 G) ∧ w'.cell? ⟨w.heap.size, 1, none⟩ = some (.int .i64 B) ∧ w'.cell? ⟨w.heap.size, 2, none⟩ = some (.int .i64 I)) (first | exact ⟨c0, c1, c2⟩ | exact cc) ((go_at_call 38; refine (dataPlace_any _ _ _ _).mono ?_; rintro e w1 ⟨⟨v, rfl, hv⟩, hb1⟩; have cc := Box.kept (w := w0.drew) ⟨c0, c1, c2⟩ hb1))
  go_wp2
  go_ret
  refine ⟨⟨_, rfl, fun h => ?_⟩, hbe.drew.trans (hb1.mono (by show w.heap.size ≤ w0.heap.size; omega))⟩
  rw [hv ⟨h.1, h.2.1⟩, IntKind.wrap_i64]
  omega

theorem Gm.can_pos {G B I : Int} (h : Gm.May G B I) : Gm.can G B I = 0 := if_pos h
theorem Gm.can_neg {G B I : Int} (h : ¬ Gm.May G B I) : Gm.can G B I = 170 := if_neg h
theorem can_ok (G B I : Int) (w : World) : Calls Try.prog 7 #[geomV G B I] w fun e w' => e = .returned (.int .i64 (Gm.can G B I)) ∧ Below w.heap.size w w' := by
  have HB : Below w.heap.size w (w.alloc (geomO G B I)) := (Below.refl _ _).alloc (Nat.le_refl _) _
  have HS := size_alloc w (geomO G B I)
  go_enter Try.func7, Try.ntmps7
  go_wp2_with (first | (go_at_call 18; refine same_at (gwithin_ok _ _ _ _) ?_) | (go_at_call 19; refine (dataBlocks_any _ _ _ _).mono ?_; rintro e w1 ⟨⟨v, rfl, hv⟩, hb1⟩))
  all_goals
    go_ret
    refine ⟨?_, by first | exact HB | exact HB.trans (hb1.mono HB.size)⟩
    try simp only [Bool.not_eq_true', decide_eq_false_iff_not, Bool.not_eq_false', decide_eq_true_eq] at *
    first
      | (rw [Gm.can_pos (by unfold Gm.May; omega)]; rfl)
      | (rw [Gm.can_neg (by unfold Gm.May; omega)]; rfl)

theorem rcan_ok (G B I : Int) (w : World) : Calls Try.prog 12 #[geomV G B I] w fun e w' => e = .returned (.int .i64 (Gm.can G B I)) ∧ Below w.heap.size w w' := by
  have HB : Below w.heap.size w (w.alloc (geomO G B I)) := (Below.refl _ _).alloc (Nat.le_refl _) _
  go_enter Try.func12, Try.ntmps12
  go_wp2
  all_goals
    go_ret
    refine ⟨?_, HB⟩
    first
      | (rw [Gm.can_pos (by unfold Gm.May; omega)]; rfl)
      | (rw [Gm.can_neg (by unfold Gm.May; omega)]; rfl)

/-- What a geometry that may be keeps to. -/
theorem Gm.May.all {G B I : Int} (h : Gm.May G B I) : (1 ≤ G ∧ G ≤ 8) ∧ (8 ≤ B ∧ B ≤ 256) ∧ (4 ≤ I ∧ I ≤ 64) ∧ I % 4 = 0 ∧ 3 + I / 4 ≤ B := by
  unfold Gm.May at h; omega
theorem mul_le' {a b m n : Int} (h0 : 0 ≤ a) (h1 : a ≤ m) (h2 : 0 ≤ b) (h3 : b ≤ n) : 0 ≤ a * b ∧ a * b ≤ m * n :=
  ⟨Int.mul_nonneg h0 h2, Int.mul_le_mul h1 h3 h2 (by omega)⟩
theorem can_may {G B I : Int} (h : Gm.May G B I) (w : World) : Calls Try.prog 7 #[geomV G B I] w fun e w' => e = .returned (.int .i64 0) ∧ Below w.heap.size w w' := by
  have := can_ok G B I w
  rwa [Gm.can, if_pos h] at this
theorem can_not {G B I : Int} (h : ¬ Gm.May G B I) (w : World) : Calls Try.prog 7 #[geomV G B I] w fun e w' => e = .returned (.int .i64 170) ∧ Below w.heap.size w w' := by
  have := can_ok G B I w
  rwa [Gm.can, if_neg h] at this
theorem rcan_may {G B I : Int} (h : Gm.May G B I) (w : World) : Calls Try.prog 12 #[geomV G B I] w fun e w' => e = .returned (.int .i64 0) ∧ Below w.heap.size w w' := by
  have := rcan_ok G B I w
  rwa [Gm.can, if_pos h] at this
theorem rcan_not {G B I : Int} (h : ¬ Gm.May G B I) (w : World) : Calls Try.prog 12 #[geomV G B I] w fun e w' => e = .returned (.int .i64 170) ∧ Below w.heap.size w w' := by
  have := rcan_ok G B I w
  rwa [Gm.can, if_neg h] at this
def Gm.num (G B I each : Int) : Int := if Gm.May G B I then G * each else 0
theorem Gm.num_pos {G B I : Int} (h : Gm.May G B I) (k : Int) : Gm.num G B I k = G * k := if_pos h
theorem Gm.num_neg {G B I : Int} (h : ¬ Gm.May G B I) (k : Int) : Gm.num G B I k = 0 := if_neg h
theorem box_cells (w : World) (G B I : Int) : (w.alloc (geomO G B I)).cell? ⟨w.heap.size, 0, none⟩ = some (.int .i64 G) ∧ (w.alloc (geomO G B I)).cell? ⟨w.heap.size, 1, none⟩ = some (.int .i64 B) ∧ (w.alloc (geomO G B I)).cell? ⟨w.heap.size, 2, none⟩ = some (.int .i64 I) :=
  box_ok (Below.refl _ (w.alloc (geomO G B I)))

theorem inAll_ok (G B I k : Int) (w : World) (hk : Gm.May G B I → 0 ≤ k ∧ k ≤ 256) : Calls Try.prog 20 #[geomV G B I, .int .i64 k] w fun e w' => e = .returned (.int .i64 (Gm.num G B I k)) ∧ Below w.heap.size w w' := by
  have HB : Below w.heap.size w (w.alloc (geomO G B I)) := (Below.refl _ _).alloc (Nat.le_refl _) _
  obtain ⟨c0, c1, c2⟩ := box_cells w G B I
  by_cases h : Gm.May G B I
  · rw [Gm.num_pos h]
    obtain ⟨hG, hB, hI, h4, h3⟩ := h.all
    have hp := mul_le' (a := G) (b := k) (m := 8) (n := 256) (by omega) (by omega) (hk h).1 (hk h).2
    go_enter Try.func20, Try.ntmps20
    go_wp2_with (first | (go_at_call 7; refine grew_at (can_may h _) ?_; intro wn hbn; have HB := grew_trans HB hbn; have c0 := cell_kept c0 hbn))
    go_ret
    exact ⟨rfl, HB⟩
  · rw [Gm.num_neg h]
    go_enter Try.func20, Try.ntmps20
    go_wp2_with (first | (go_at_call 7; refine grew_at (can_not h _) ?_; intro wn hbn; have HB := grew_trans HB hbn))
    go_ret
    exact ⟨rfl, HB⟩

theorem blocks_ok (G B I : Int) (w : World) : Calls Try.prog 9 #[geomV G B I] w fun e w' => e = .returned (.int .i64 (Gm.num G B I B)) ∧ Below w.heap.size w w' := by
  have HB : Below w.heap.size w (w.alloc (geomO G B I)) := (Below.refl _ _).alloc (Nat.le_refl _) _
  go_enter Try.func9, Try.ntmps9
  go_wp2_with (first | (go_at_call 20; refine grew_at (inAll_ok _ _ _ _ _ (fun h => by have := h.all; omega)) ?_; intro wn hbn; have HB := grew_trans HB hbn))
  go_ret
  exact ⟨rfl, HB⟩

theorem inodes_ok (G B I : Int) (w : World) : Calls Try.prog 70 #[geomV G B I] w fun e w' => e = .returned (.int .i64 (Gm.num G B I I)) ∧ Below w.heap.size w w' := by
  have HB : Below w.heap.size w (w.alloc (geomO G B I)) := (Below.refl _ _).alloc (Nat.le_refl _) _
  go_enter Try.func70, Try.ntmps70
  go_wp2_with (first | (go_at_call 20; refine grew_at (inAll_ok _ _ _ _ _ (fun h => by have := h.all; omega)) ?_; intro wn hbn; have HB := grew_trans HB hbn))
  go_ret
  exact ⟨rfl, HB⟩

end Go.Proofs.Ytgonehldgojcmaa

/- A geometry that came in as an argument is three numbers. -/
namespace Go.Proofs.Ytgonehldgojcmaa
open Go.ChangeShapes Go.WideShapes Go.ChangeAt Go.RowKit Go.Joins
set_option linter.unusedVariables false
set_option maxRecDepth 100000

theorem ownKnob_none : ownKnob Try.prog.godebug = none := by kernel_rfl
theorem laid_out : laidOutB Try.prog = true := by kernel_rfl
theorem cells23 : Try.prog.cellsOf 23 = 3 := by kernel_rfl

theorem open_geom {H : Type} {enc : TypeId × Value → H} {W : World} {base : Nat} {v : Value} {d : DataW H} {p : List MemPlace} (hv : Value.okWide Try.prog W .any base 23 v)
    (h : DataW.Trod enc Try.prog W 0 (fun _ => true) true 23 v d p) : ∃ G B I, v = geomV G B I := by
  obtain ⟨c0, c1, c2, y0, y1, y2, m, rfl, rfl, rfl, hy0, hy1, hy2⟩ := open_agg3 Try.underlying23 (by kernel_rfl) cells23 hv h
  obtain ⟨a, e0, _, _⟩ := DataW.trod_int Try.underlying3 hy0
  obtain ⟨b, e1, _, _⟩ := DataW.trod_int Try.underlying3 hy1
  obtain ⟨c, e2, _, _⟩ := DataW.trod_int Try.underlying3 hy2
  simp at e0 e1 e2
  subst e0 e1 e2
  exact ⟨a, b, c, rfl⟩
end Go.Proofs.Ytgonehldgojcmaa

/- append(s, make([]byte, m)...). -/
namespace Go.Proofs.Ytgonehldgojcmaa
open Go.RowKit

theorem zero_list (m : Nat) : (Builtin.zeroCells (Value.int .u8 0).cells m).toList = (List.replicate m (0 : Int)).map (Value.int .u8) := by
  apply List.ext_getElem
  · simp [Builtin.zeroCells, Value.cells]
  · intro i h1 h2
    simp [Builtin.zeroCells, Value.cells, Nat.mod_one]

theorem zeros_own (B : Nat) (w : World) (v : Value) (n m : Nat) (xs : List Int) (h : w.ownsRow B 5 1 v n (xs.map (Value.int .u8))) (hnm : n + m = 128) (hB : B ≤ w.heap.size) (ty : TypeId) :
    ∃ g cap w', (Builtin.append_ #[36, 3] ty #[v, .int .i64 (m : Int)]).run Try.prog w = .ok (.slice (some ⟨g, 0, none⟩) 128 cap) w' ∧ Own B w' g 128 cap (xs ++ List.replicate m 0) ∧ w.grownBy w' v.ownBlock := by
  obtain ⟨i0, hi, hz0, hz1, hz2⟩ := info_parts info5
  have hlen : (xs ++ List.replicate m (0 : Int)).length = 128 := by have := h.1; simp at this ⊢; omega
  have hxl : xs.length = n := by have := h.1; simpa using this
  have hmap : (xs ++ List.replicate m (0 : Int)).map (Value.int .u8) = xs.map (Value.int .u8) ++ (Builtin.zeroCells (Value.int .u8 0).cells m).toList := by rw [List.map_append, zero_list]
  rcases h.2 with ⟨rfl, h0⟩ | ⟨g, cap, cur, rfl, hbg, hg, hnc, hcm, hcs, htk⟩
  · have hm : m = 128 := by omega
    subst hm
    have hr := Lib.run_append_nil_zeros (P := Try.prog) w 36 3 ty 5 i0 (.int .u8 0) .i64 .i64 Try.underlying36 Try.underlying3 hi hz0 128 (by omega) (by omega) (by omega) (by rw [hz2]; omega)
    refine ⟨_, _, _, hr, ⟨by simpa using hlen, .inr ⟨_, _, _, rfl, hB, heap_alloc_new w.drew _, grownCap_ge _ _ _ _, grownCap_le_maxLen _ _ _ _ (by unfold maxLen; omega), ?_, ?_⟩⟩, ⟨rfl, rfl, rfl, by simp, fun k hk _ => Below.heap_alloc w.drew _ k hk⟩⟩
    · have := grownCap_ge w 128 0 5
      simp [size_zeroCells, Value.cells]; omega
    · rw [hmap]
      have hx0 : xs = [] := List.eq_nil_of_length_eq_zero (by omega)
      subst hx0
      simp only [Array.toList_append, List.map_nil, List.nil_append]
      exact List.take_left' (by simp [size_zeroCells, Value.cells])
  · by_cases hroom : 128 ≤ cap
    · have hw : IntKind.i64.wrap (m : Int) = m := by rw [IntKind.wrap_i64]; omega
      have hneg : ¬ ((m : Int) < 0) := by omega
      have h48 : ¬ ((281474976710656 : Int) < (m : Int)) := by omega
      have hroom' : n + m ≤ cap := by omega
      by_cases hm : m = 0
      · subst hm
        have hn : n = 128 := by omega
        subst hn
        refine ⟨g, cap, w, ?_, ?_, ⟨rfl, rfl, rfl, Nat.le_refl _, fun _ _ _ => rfl⟩⟩
        · have hw0 : IntKind.i64.wrap 0 = 0 := hw
          simp [Builtin.append_, run_underlying Try.underlying36, run_underlying Try.underlying3, sizeOf, typeInfo, hi, hz2, asInt, asIntOf, hroom, Addr.add_mid, storeCells, hw0]
        · rw [List.replicate_zero, List.append_nil]
          exact h
      · have h1 : ∀ u ∈ (Builtin.zeroCells (Value.int .u8 0).cells m).toList, u.oneCell' = true := by rw [zero_list]; exact one_cells _
        have hzl : (Builtin.zeroCells (Value.int .u8 0).cells m).toList.length = m := by rw [zero_list]; simp
        have hst := run_storeCells_at Try.prog g n 5 (Builtin.zeroCells (Value.int .u8 0).cells m).toList 0 cur w hg (by rw [hzl, hcs]; omega) h1
        refine ⟨g, cap, w.setRow g (cur.toList.take n ++ (Builtin.zeroCells (Value.int .u8 0).cells m).toList ++ cur.toList.drop (n + m)).toArray, ?_, ⟨by simpa using hlen, .inr ⟨g, cap, _, rfl, hbg, setRow_heap w g cur _ 5 _ hg, hroom, hcm, ?_, ?_⟩⟩, ⟨rfl, rfl, rfl, by simp, fun k _ hk => setRow_other w g k _ (fun e => hk (by simp [Value.ownBlock, e]))⟩⟩
        · rw [Nat.add_zero, hzl] at hst
          simp [Builtin.append_, run_underlying Try.underlying36, run_underlying Try.underlying3, sizeOf, typeInfo, zeroValue, hi, hz0, hz1, hz2, asInt, asIntOf, hw, hneg, h48, hm, Addr.add_mid, hst, hnm]
          intro hc
          omega
        · simp only [List.size_toArray, List.length_append, List.length_take, List.length_drop, Array.length_toList, hzl, hcs]; omega
        · rw [hmap, ← htk]
          simp only [Nat.mul_one]
          have hle : (cur.toList.take n ++ (Builtin.zeroCells (Value.int .u8 0).cells m).toList).length = 128 := by rw [List.length_append, hzl, List.length_take, Array.length_toList, hcs]; omega
          exact List.take_left' hle
    · have hm : 0 < m := by omega
      have hold : (Builtin.firstCells i0.size n (.slice (some ⟨g, 0, none⟩) n cap)).run Try.prog w.drew = .ok (xs.map (Value.int .u8)).toArray w.drew :=
        run_firstCells_some (P := Try.prog) w.drew i0.size n ⟨g, 0, none⟩ n cap _ (by rw [hz1]; simpa using h.1) (h.cells rfl)
      have hr := Lib.run_append_grow_zeros (P := Try.prog) w 36 3 ty 5 i0 (.int .u8 0) .i64 .i64 Try.underlying36 Try.underlying3 hi hz0 (some ⟨g, 0, none⟩) n cap (xs.map (Value.int .u8)) hold m hm (by omega) (by omega) (by omega) (by rw [hz2]; omega) (growslice_fits (by omega) (by rw [hz2]; omega))
      rw [hnm] at hr
      refine ⟨_, _, _, hr, ⟨by simpa using hlen, .inr ⟨_, _, _, rfl, hB, heap_alloc_new w.drew _, grownCap_ge _ _ _ _, grownCap_le_maxLen _ _ _ _ (by unfold maxLen; omega), ?_, ?_⟩⟩, ⟨rfl, rfl, rfl, by simp, fun k hk _ => Below.heap_alloc w.drew _ k hk⟩⟩
      · have := grownCap_ge w 128 cap 5
        simp [size_zeroCells, Value.cells]; omega
      · rw [hmap]
        simp only [Array.toList_append]
        exact List.take_left' (by simp [size_zeroCells, Value.cells]; omega)
end Go.Proofs.Ytgonehldgojcmaa

/- A text that is written out, as bytes of the call's own. -/
namespace Go.Proofs.Ytgonehldgojcmaa
open Go.RowKit

theorem heap_freeze_other (w : World) (b o k : Nat) (h : k ≠ b) : (w.freeze ⟨b, o, none⟩ 1).heap[k]? = w.heap[k]? := by
  unfold World.freeze
  rw [if_neg (by decide)]
  have h' : ¬ b = k := fun e => h e.symm
  simp [Array.getElem?_modify, h']
theorem heap_freeze_same (w : World) (b o : Nat) {cs : Array Value} {t : TypeId} {mk : Nat × Nat} (h : w.heap[b]? = some (.cells cs t mk)) : ∃ mk', (w.freeze ⟨b, o, none⟩ 1).heap[b]? = some (.cells cs t mk') := by
  unfold World.freeze
  rw [if_neg (by decide)]
  obtain ⟨lo, hi⟩ := mk
  simp [Array.getElem?_modify, h]
theorem size_freeze (w : World) (b o : Nat) : (w.freeze ⟨b, o, none⟩ 1).heap.size = w.heap.size := by
  unfold World.freeze
  rw [if_neg (by decide)]
  simp
theorem conv_at (W : World) (b n c : Nat) {cs : Array Value} {mk : Nat × Nat} (h : W.heap[b]? = some (.cells cs 5 mk)) : (convert 36 36 (.slice (some ⟨b, 0, none⟩) n c)).run Try.prog W = .ok (.slice (some ⟨b, 0, none⟩) n c) (W.freeze ⟨b, cs.size, none⟩ 1) := by
  simp [convert, run_underlying Try.underlying36, run_underlying Try.underlying5, markStringish, World.shape?, h]

/-- Block b, behind B, holds the bytes xs, and none that turn. -/
def Lit8 (B : Nat) (w : World) (b : Nat) (xs : List Int) : Prop := B ≤ b ∧ ∃ mk, w.heap[b]? = some (.cells (xs.map (Value.int .u8)).toArray 5 mk)

theorem Lit8.bi {B : Nat} {w : World} {b : Nat} {xs : List Int} (h : Lit8 B w b xs) (hx : Num.Byt xs) (hn : xs.length ≤ 140737488355328) : BI w (some ⟨b, 0, none⟩) xs.length xs := by
  obtain ⟨_, mk, hm⟩ := h
  refine ⟨rfl, hn, hx, fun _ => ⟨b, 0, rfl, fun i hi => ?_⟩⟩
  rw [Nat.zero_add]
  simp [World.cell?, hm, List.getD_eq_getElem?_getD, List.getElem?_eq_getElem hi]

/-- The world behind a text's conversion. -/
theorem conv_lit (w : World) (xs : List Int) : ∃ w', (∀ n c, (convert 36 36 (.slice (some ⟨w.heap.size, 0, none⟩) n c)).run Try.prog (w.alloc (.cells (xs.map (Value.int .u8)).toArray 5)) = .ok (.slice (some ⟨w.heap.size, 0, none⟩) n c) w') ∧ Lit8 w.heap.size w' w.heap.size xs ∧ Below w.heap.size w w' := by
  have h := heap_new w (.cells (xs.map (Value.int .u8)).toArray 5)
  refine ⟨_, fun n c => conv_at _ _ n c h, ⟨Nat.le_refl _, heap_freeze_same _ _ _ h⟩, ⟨rfl, rfl, rfl, by rw [size_freeze, size_alloc]; omega, fun k hk => ?_⟩⟩
  rw [heap_freeze_other _ _ _ _ (by omega), Below.heap_alloc _ _ _ hk]

theorem wpList_append_grow {w : World} {ops : Array Oper} {rest : List Oper} {o : Oper} {a : Act} {Q : Exit → Act → World → Prop} (hgd : o.guard = none) (s x : Operand)
    (ho : o.op = .call { callee := .builtin .append, args := #[s, x], argTypes := #[36, 3] }) (b n m : Nat) (xs : List Int) (hs : a.eval s = .slice (some ⟨b, 0, none⟩) n n) (hx : a.eval x = .int .i64 (m : Int)) (hbi : BI w (some ⟨b, 0, none⟩) n xs) (hnm : n + m = 128) (hm : 0 < m)
    (h : ∀ g cap w', Own w.heap.size w' g 128 cap (xs ++ zers m) → Below w.heap.size w w' → wpList Try.prog ops Q rest (a.put o.dst (.slice (some ⟨g, 0, none⟩) 128 cap)) w') : wpList Try.prog ops Q (o :: rest) a w := by
  obtain ⟨i0, hi, hz0, hz1, hz2⟩ := info_parts info5
  have hxl := hbi.len
  have hlen : (xs ++ zers m).length = 128 := by simp [zers_len]; omega
  have hmap : (xs ++ zers m).map (Value.int .u8) = xs.map (Value.int .u8) ++ (Builtin.zeroCells (Value.int .u8 0).cells m).toList := by rw [List.map_append, zero_list]; rfl
  have hold : (Builtin.firstCells i0.size n (.slice (some ⟨b, 0, none⟩) n n)).run Try.prog w.drew = .ok (xs.map (Value.int .u8)).toArray w.drew :=
    run_firstCells_some (P := Try.prog) w.drew i0.size n ⟨b, 0, none⟩ n n _ (by rw [hz1]; simpa using hxl) (by
      intro j v hj
      by_cases h0 : 0 < n
      · obtain ⟨ad, e, hc⟩ := (hbi.kept (below_drewN (Below.refl _ _) 1)).src h0
        cases e
        exact hc j v hj
      · have : xs = [] := List.eq_nil_of_length_eq_zero (by omega)
        subst this
        simp at hj)
  have hr := Lib.run_append_grow_zeros (P := Try.prog) w 36 3 o.type 5 i0 (.int .u8 0) .i64 .i64 Try.underlying36 Try.underlying3 hi hz0 (some ⟨b, 0, none⟩) n n (xs.map (Value.int .u8)) hold m hm (by omega) (by omega) (by omega) (by rw [hz2]; omega) (growslice_fits (by omega) (by rw [hz2]; omega))
  rw [hnm] at hr
  refine wpList_plain hgd fun _ hK => ?_
  unfold Oper.wp execOp
  simp only [ho, resolve, invoke, builtin, Sem.run_bind, Sem.run_pure, Result.andThen_ok, List.map_toArray, List.map_cons, List.map_nil, hs, hx, hr]
  refine hK _ _ (h _ _ _ ⟨by simpa using hlen, .inr ⟨_, _, _, rfl, Nat.le_refl _, heap_alloc_new w.drew _, grownCap_ge _ _ _ _, grownCap_le_maxLen _ _ _ _ (by unfold maxLen; omega), ?_, ?_⟩⟩ ⟨rfl, rfl, rfl, by simp, fun k hk => Below.heap_alloc w.drew _ k hk⟩)
  · have := grownCap_ge w 128 n 5
    simp [size_zeroCells, Value.cells]; omega
  · rw [hmap]
    simp only [Array.toList_append]
    exact List.take_left' (by simp [size_zeroCells, Value.cells]; omega)
end Go.Proofs.Ytgonehldgojcmaa

/- The document's superblocks as bytes. -/
namespace Go.Proofs.Ytgonehldgojcmaa
open Go.RowKit

theorem bollZ : ([98, 111, 108, 108] : List Int) ++ zers 124 = splice (zers 128) 0 [98, 111, 108, 108] := by decide

set_option maxRecDepth 10000 in
set_option maxHeartbeats 1000000 in
theorem rencodeSuper_yes (G B I M : Int) (h : SMay G B I M) (w : World) : Calls Try.prog 30 #[superV G B I M] w fun e w' => ∃ g cap, e = .returned (.tuple #[.slice (some ⟨g, 0, none⟩) 128 cap, .int .i64 0]) ∧ Own w.heap.size w' g 128 cap (superS G B I M) ∧ Below w.heap.size w w' := by
  have HB := grew_alloc w (superO G B I M)
  have hm := rmay_ok G B I
  rw [decide_eq_true h.1] at hm
  have hh := h
  unfold SMay Gm.May at hh
  obtain ⟨c0, c1, c2, c3⟩ := super_cells w G B I M
  go_enter Try.func30, Try.ntmps30
  go_wp2_with (first
    | (go_at_call 54; refine grew_at (hm _) ?_; intro wn hbn; have HB := grew_trans HB hbn; have c0 := cell_kept c0 hbn; have c1 := cell_kept c1 hbn; have c2 := cell_kept c2 hbn; have c3 := cell_kept c3 hbn; obtain ⟨wl, hcv, hl, hbn⟩ := conv_lit wn [98, 111, 108, 108]; have hcv : (convert 36 36 (.slice (some ⟨wn.heap.size, 0, none⟩) 4 4)).run Try.prog (wn.alloc (.cells #[.int .u8 98, .int .u8 111, .int .u8 108, .int .u8 108] 5)) = .ok (.slice (some ⟨wn.heap.size, 0, none⟩) 4 4) wl := hcv 4 4; have HB := grew_trans HB hbn; have c0 := cell_kept c0 hbn; have c1 := cell_kept c1 hbn; have c2 := cell_kept c2 hbn; have c3 := cell_kept c3 hbn; have hbl := hl.bi (Num.byt_of_wf (by decide)) (by decide))
    | (at_builtin; refine wpList_append_grow rfl _ _ rfl wn.heap.size 4 124 [98, 111, 108, 108] rfl rfl hbl rfl (by decide) ?_))
  intro g cap w1 ho hbn
  have HB := grew_trans HB hbn; have c0 := cell_kept c0 hbn; have c1 := cell_kept c1 hbn; have c2 := cell_kept c2 hbn; have c3 := cell_kept c3 hbn
  rw [show (98 :: 111 :: 108 :: 108 :: zers 124 : List Int) = splice (zers 128) 0 [98, 111, 108, 108] from bollZ] at ho
  have hy : Num.Byt (splice (zers 128) 0 [98, 111, 108, 108]) := splice_byt (zers_byt _) (Num.byt_of_wf (by decide)) 0
  go_wp2_with (first
    | (go_at_call_of 34 G; refine Calls.mono (rnumber_ok _ 128 _ _ 4 1 G _ (ho.bi (by omega) hy) (by omega) (by omega) (by omega) (by omega) (by omega)) ?_; rintro e wm ⟨g, cap, rfl, ho, hbn⟩; have hy := Num.putTo_byt hy 4 G 1; have HB := grew_trans HB hbn; have c0 := cell_kept c0 hbn; have c1 := cell_kept c1 hbn; have c2 := cell_kept c2 hbn; have c3 := cell_kept c3 hbn)
    | (go_at_call_of 34 I; refine Calls.mono (rnumber_ok _ 128 _ _ 6 1 I _ (ho.bi (by omega) hy) (by omega) (by omega) (by omega) (by omega) (by omega)) ?_; rintro e wm ⟨g, cap, rfl, ho, hbn⟩; have hy := Num.putTo_byt hy 6 I 1; have HB := grew_trans HB hbn; have c0 := cell_kept c0 hbn; have c1 := cell_kept c1 hbn; have c2 := cell_kept c2 hbn; have c3 := cell_kept c3 hbn)
    | (go_at_call_of 34 M; refine Calls.mono (rnumber_ok _ 128 _ _ 8 4 M _ (ho.bi (by omega) hy) (by omega) (by omega) (by omega) (by omega) (by omega)) ?_; rintro e wm ⟨g, cap, rfl, ho, hbn⟩; have hy := Num.putTo_byt hy 8 M 4; have HB := grew_trans HB hbn; have c0 := cell_kept c0 hbn; have c1 := cell_kept c1 hbn; have c2 := cell_kept c2 hbn; have c3 := cell_kept c3 hbn)
    | (go_at_call 34; refine Calls.mono (rnumber_ok _ 128 _ _ 5 1 (B - 1) _ (ho.bi (by omega) hy) (by omega) (by omega) (by omega) (by omega) (by omega)) ?_; rintro e wm ⟨g, cap, rfl, ho, hbn⟩; have hy := Num.putTo_byt hy 5 (B - 1) 1; have HB := grew_trans HB hbn; have c0 := cell_kept c0 hbn; have c1 := cell_kept c1 hbn; have c2 := cell_kept c2 hbn; have c3 := cell_kept c3 hbn)
    | (go_at_call 35; refine Calls.mono (rseal_ok _ 128 _ _ _ (ho.bi (by omega) hy) ho.room.1 (by omega)) ?_; rintro e wz ⟨g2, cap2, rfl, ho2, hb⟩))
  go_ret2
  refine ⟨g2, cap2, rfl, ?_, HB.trans (hb.mono HB.size)⟩
  have ho2 := ho2.base HB.size
  unfold superS sealL superL
  simp only [Num.putTo_length, splice_len128]
  exact ho2
end Go.Proofs.Ytgonehldgojcmaa

/- Superblocks out of bytes, by the program. -/
namespace Go.Proofs.Ytgonehldgojcmaa
open Go.RowKit

theorem numD_drop (xs : List Int) (a : Nat) (k : Nat) : ∀ i, Num.numD (xs.drop a) i k = Num.numD xs (a + i) k := by
  induction k with
  | zero => intro i; rfl
  | succ k ih =>
    intro i
    show (xs.drop a).getD i 0 + 256 * Num.numD (xs.drop a) (i + 1) k = xs.getD (a + i) 0 + 256 * Num.numD xs (a + i + 1) k
    rw [ih, getD_drop', Nat.add_assoc]

theorem bi_ne_size {w : World} {b o n : Nat} {xs : List Int} (h : BI w (some ⟨b, o, none⟩) n xs) {g : Nat} {cs : Array Value} {t : TypeId} {mk : Nat × Nat} (hg : w.heap[g]? = some (.cells cs t mk)) (hn : cs.size < n) : b ≠ g := by
  rintro rfl
  obtain ⟨b', o', e, hc⟩ := h.cells (by omega)
  cases e
  have := hc (n - 1) (by omega)
  simp only [World.cell?, hg] at this
  rw [Array.getElem?_eq_none (by omega)] at this
  cases this

theorem grown_cells {w w' : World} {rb g : Nat} {o : Obj} (hb : w.grownBy w' (some rb)) (hg : w.heap[g]? = some o) (hne : g ≠ rb) : w'.heap[g]? = some o := by
  rw [hb.block g (Array.getElem?_eq_some_iff.1 hg).1 (by simpa using hne)]; exact hg

theorem super_no (a b c d : Int) : ∀ (x : Int) (j : Nat), (#[.int .i64 a, .int .i64 b, .int .i64 c, .int .i64 d] : Array Value)[j]? ≠ some (Value.int .u8 x) := by
  intro x j
  rcases j with _ | _ | _ | _ | j <;> simp

theorem info25 : (Try.prog.info? 54).map (·.size) = some 4 := by kernel_rfl

/-- What the bytes of a superblock say. -/
def rG (xs : List Int) : Int := Num.numD xs 4 1
def rB (xs : List Int) : Int := Num.numD xs 5 1 + 1
def rI (xs : List Int) : Int := Num.numD xs 6 1
def rM (xs : List Int) : Int := Num.numD xs 8 4

end Go.Proofs.Ytgonehldgojcmaa

/- Superblocks out of bytes: whether they are in form. -/
namespace Go.Proofs.Ytgonehldgojcmaa
open Go.RowKit
set_option linter.unusedVariables false

theorem results_cell_tmp_row {P : Program} {fn : Func} {p u : Tmp} {ty : TypeId} (h : fn.results = #[.cell p ty, .tmp u]) (tmps : Array Value) (w : World) (g : Nat) (t : TypeId) (cs : Array Value) (fr : Nat × Nat) (d : TypeDesc)
    (hp : tmps.getD p undef = .pointer (some ⟨g, 0, none⟩)) (hg : w.heap[g]? = some (.cells cs t fr))
    (hu : P.underlying ty = some d) (hd : (match d with | .struct _ | .array _ _ => true | _ => false) = true) (hi : (P.info? ty).map (·.size) = some cs.size) :
    (results fn tmps).run P w = .ok (.tuple #[.agg cs, tmps.getD u undef]) w := by
  rw [results_cell_tmp h, hp]
  simp [asAddr, run_loadVar_row w g t ty cs fr d hg hu hd hi]

theorem call9 (args : Array Value) (w : World) : (callFunc 23 args).run Try.prog w = .ok (.enter 23 args) w := by kernel_rfl

/-- The bytes are those that are written for what they say. -/
def SGood (xs : List Int) (a b c d : Int) : Prop := SMay a b c d ∧ superS a b c d = xs
instance (xs : List Int) (a b c d : Int) : Decidable (SGood xs a b c d) := by unfold SGood; infer_instance

theorem superS_len (a b c d : Int) : (superS a b c d).length = 128 := by
  unfold superS sealL superL
  simp only [Num.putTo_length, splice_len128]
theorem boll_byt : Num.Byt (splice (zers 128) 0 [98, 111, 108, 108]) := splice_byt (zers_byt _) (Num.byt_of_wf (by decide)) 0
theorem superS_byt (a b c d : Int) : Num.Byt (superS a b c d) := by
  unfold superS sealL superL
  exact Num.putTo_byt (Num.putTo_byt (Num.putTo_byt (Num.putTo_byt (Num.putTo_byt boll_byt _ _ _) _ _ _) _ _ _) _ _ _) _ _ _

theorem super_one (a b c d : Int) : (#[.int .i64 a, .int .i64 b, .int .i64 c, .int .i64 d] : Array Value).all (·.oneCell') = true := by simp [Value.oneCell']

/-- The error that bytes tell, read as a superblock. -/
def decE (n : Nat) (xs : List Int) : Int := if n ≠ 128 then 6 else if ¬ xs.take 4 = [98, 111, 108, 108] then 31 else if ¬ Num.numD xs 124 4 = Num.sum xs 124 then 30 else if SGood xs (rG xs) (rB xs) (rI xs) (rM xs) then 0 else 6
def decV (n : Nat) (xs : List Int) : Value := if decE n xs = 0 then superV (rG xs) (rB xs) (rI xs) (rM xs) else superV 0 0 0 0

end Go.Proofs.Ytgonehldgojcmaa

/- The document's superblocks out of bytes. -/
namespace Go.Proofs.Ytgonehldgojcmaa
open Go.RowKit
set_option linter.unusedVariables false

theorem gE_ok (n a k : Nat) (h1 : 1 ≤ k) (h4 : k ≤ 4) (h2 : a + k ≤ n) : Num.gE n (a : Int) (k : Int) = 0 := by
  unfold Num.gE
  rw [if_neg (by omega), if_neg (by omega)]

theorem boll_str {xs : List Int} (h : Num.Byt xs) : ((strOfNums xs).toList == [98, 111, 108, 108]) = (xs == [98, 111, 108, 108]) := by
  have := str_beq h (ys := [98, 111, 108, 108]) (Num.byt_of_wf (by decide))
  rw [show (strOfNums [98, 111, 108, 108]).toList = [98, 111, 108, 108] from Lib.strOfNums_toList _] at this
  exact this

end Go.Proofs.Ytgonehldgojcmaa

/- Headers as bytes, by the program. -/
namespace Go.Proofs.Ytgonehldgojcmaa
open Go.RowKit
set_option linter.unusedVariables false

/-- A header's cells: its number, and 40 bytes. -/
def groupA (N : Int) (ys : List Int) : Array Value := (Value.int .i64 N :: ys.map (Value.int .u8)).toArray
abbrev groupV (N : Int) (ys : List Int) : Value := .agg (groupA N ys)
abbrev groupO (N : Int) (ys : List Int) : Obj := .cells (groupA N ys) 59
theorem groupA_size (N : Int) (ys : List Int) (h : ys.length = 40) : (groupA N ys).size = 41 := by simp [groupA, h]
theorem groupA_zero (N : Int) (ys : List Int) : (groupA N ys)[0]? = some (.int .i64 N) := by simp [groupA]
theorem groupA_succ (N : Int) (ys : List Int) (i : Nat) (h : i < ys.length) : (groupA N ys)[i + 1]? = some (.int .u8 (ys.getD i 0)) := by
  simp [groupA, List.getD_eq_getElem?_getD, List.getElem?_eq_getElem h]

/-- The bytes i up to i + k of a header's, as they lie in its block. -/
theorem group_bi {w : World} {b : Nat} {N : Int} {ys : List Int} {mk : Nat × Nat} (h : w.heap[b]? = some (.cells (groupA N ys) 59 mk)) (hy : Num.Byt ys) (i k : Nat) (hk : i + k ≤ ys.length) (hl : ys.length = 40) : BI w (some ⟨b, i + 1, none⟩) k ((ys.drop i).take k) := by
  refine ⟨by simp; omega, by omega, byt_take (byt_drop hy _) _, fun _ => ⟨b, i + 1, rfl, fun j hj => ?_⟩⟩
  rw [getD_take _ _ _ hj, getD_drop']
  have := groupA_succ N ys (i + j) (by omega)
  simp [World.cell?, h, show i + 1 + j = i + j + 1 by omega, this]

def GMay (N : Int) : Prop := 0 ≤ N ∧ N ≤ 7
instance (N : Int) : Decidable (GMay N) := by unfold GMay; infer_instance
/-- A header's bytes. -/
def groupL (N : Int) (ys : List Int) : List Int := splice (splice (Num.putTo (splice (zers 128) 0 [104, 100]) 2 N 1) 4 (ys.take 8)) 12 (ys.drop 8)

theorem encodeGroup_no (N : Int) (ys : List Int) (hl : ys.length = 40) (h : ¬ GMay N) (w : World) : Calls Try.prog 24 #[groupV N ys] w fun e w' => e = .returned (.tuple #[.slice none 0 0, .int .i64 1]) ∧ Below w.heap.size w w' := by
  have HB := grew_alloc w (groupO N ys)
  have c0 : (w.alloc (groupO N ys)).cell? ⟨w.heap.size, 0, none⟩ = some (.int .i64 N) := cell_row (heap_new w (groupO N ys)) 0 _ (groupA_zero N ys)
  have hw := fun w => within_ok N 0 7 w
  rw [show decide (0 ≤ N ∧ N ≤ 7) = false from decide_eq_false h] at hw
  unfold GMay at h
  go_enter Try.func24, Try.ntmps24
  go_wp2_with (first | (go_at_call 45; refine same_at (hw _) ?_))
  go_ret2
  exact ⟨rfl, HB⟩

set_option maxHeartbeats 1000000 in
theorem encodeGroup_yes (N : Int) (ys : List Int) (hl : ys.length = 40) (hy : Num.Byt ys) (h : GMay N) (w : World) : Calls Try.prog 24 #[groupV N ys] w fun e w' => ∃ g, e = .returned (.tuple #[.slice (some ⟨g, 0, none⟩) 128 128, .int .i64 0]) ∧ Own w.heap.size w' g 128 128 (groupL N ys) ∧ Below w.heap.size w w' := by
  have HB := grew_alloc w (groupO N ys)
  have hx0 := heap_new w (groupO N ys)
  have c0 : (w.alloc (groupO N ys)).cell? ⟨w.heap.size, 0, none⟩ = some (.int .i64 N) := cell_row hx0 0 _ (groupA_zero N ys)
  have hw := fun w => within_ok N 0 7 w
  rw [show decide (0 ≤ N ∧ N ≤ 7) = true from decide_eq_true h] at hw
  unfold GMay at h
  have hsz : w.heap.size + 1 ≤ (w.alloc (groupO N ys)).heap.size := by rw [size_alloc]; omega
  go_enter Try.func24, Try.ntmps24
  go_wp2_with (first | (go_at_call 45; refine same_at (hw _) ?_))
  generalize w.alloc (groupO N ys) = w0 at *
  refine Calls.mono (newPage_ok 128 (by omega) (w.heap.size + 1) _ hsz) ?_
  rintro e w1 ⟨pb, g, rfl, pg, bn⟩
  have c0 := cell_under c0 bn (by omega)
  have hx0 : w1.heap[w.heap.size]? = some (groupO N ys) := by rw [bn.block _ (by omega)]; exact hx0
  have HB := HB.trans (bn.mono (by omega))
  clear bn
  go_wp2_with (first
    | (go_at_call 41; refine Calls.mono (ptext_ok pg _ (by decide) (by decide)) ?_; rintro e wm ⟨rfl, pg, bn⟩; have c0 := cell_under c0 bn (by omega); have hx0 : wm.heap[w.heap.size]? = some (groupO N ys) := (by rw [bn.block _ (by omega)]; exact hx0); have HB := HB.trans (bn.mono (by omega)); clear bn; have pg : Pg (w.heap.size + 1) wm pb g 128 2 (splice (zers 128) 0 [104, 100]) := pg)
    | (go_at_call 42; refine Calls.mono (pnum_ok pg 1 N (by omega) (by omega) (by decide) (by omega) (by omega)) ?_; rintro e wm ⟨rfl, pg, bn⟩; have hx0 : wm.heap[w.heap.size]? = some (groupO N ys) := (by rw [bn.block _ (by omega)]; exact hx0); have HB := HB.trans (bn.mono (by omega)); clear bn)
    | (go_at_call 43; refine Calls.mono (pskip_ok pg 1 (by omega) (by decide)) ?_; rintro e wm ⟨rfl, pg, bn⟩; have hx0 : wm.heap[w.heap.size]? = some (groupO N ys) := (by rw [bn.block _ (by omega)]; exact hx0); have HB := HB.trans (bn.mono (by omega)); clear bn))
  have hb1 : BI wm (some ⟨w.heap.size, 1, none⟩) 8 (ys.take 8) := group_bi hx0 hy 0 8 (by omega) hl
  refine Calls.mono (prow_ok pg 8 8 _ _ hb1 (by omega) (by decide) (by intro b o e; cases e; omega)) ?_
  rintro e wm ⟨rfl, pg, bn⟩
  have hx0 : wm.heap[w.heap.size]? = some (groupO N ys) := (by rw [bn.block _ (by omega)]; exact hx0); have HB := HB.trans (bn.mono (by omega)); clear bn
  go_wp2_with fail
  have hb2 : BI wm (some ⟨w.heap.size, 9, none⟩) 32 (ys.drop 8) := by
    have := group_bi hx0 hy 8 32 (by omega) hl
    rwa [List.take_of_length_le (by simp; omega)] at this
  refine Calls.mono (prow_ok pg 32 32 _ _ hb2 (by omega) (by decide) (by intro b o e; cases e; omega)) ?_
  rintro e wm ⟨rfl, pg, bn⟩
  have hx0 : wm.heap[w.heap.size]? = some (groupO N ys) := (by rw [bn.block _ (by omega)]; exact hx0); have HB := HB.trans (bn.mono (by omega)); clear bn
  have d0 := pg.c0
  go_wp2
  go_ret2
  exact ⟨g, rfl, own_of_row (Nat.le_trans (Nat.le_succ _) pg.log) (by decide) pg.len pg.row, HB⟩

theorem groupL_len (N : Int) (ys : List Int) (hl : ys.length = 40) : (groupL N ys).length = 128 := by
  unfold groupL
  have h1 : (Num.putTo (splice (zers 128) 0 [104, 100]) 2 N 1).length = 128 := by rw [Num.putTo_length, splice_len _ _ _ (by rw [zers_len]; decide), zers_len]
  have h2 : (splice (Num.putTo (splice (zers 128) 0 [104, 100]) 2 N 1) 4 (ys.take 8)).length = 128 := by rw [splice_len _ _ _ (by simp [h1]; omega), h1]
  rw [splice_len _ _ _ (by simp [h2]; omega), h2]
theorem groupL_byt (N : Int) (ys : List Int) (hy : Num.Byt ys) : Num.Byt (groupL N ys) :=
  splice_byt (splice_byt (Num.putTo_byt (splice_byt (zers_byt _) (Num.byt_of_wf (by decide)) 0) _ _ _) (byt_take hy _) 4) (byt_drop hy _) 12

theorem getD_append (a b : List Int) (i : Nat) : (a ++ b).getD i 0 = if i < a.length then a.getD i 0 else b.getD (i - a.length) 0 := by
  simp only [List.getD_eq_getElem?_getD]
  split
  · rename_i h; rw [List.getElem?_append_left h]
  · rename_i h; rw [List.getElem?_append_right (by omega)]
theorem zers_getD (n i : Nat) : (zers n).getD i 0 = 0 := by
  unfold zers
  rw [List.getD_eq_getElem?_getD, List.getElem?_replicate]
  split <;> rfl

/-- The same, piece behind piece. -/
theorem groupL_eq (N : Int) (ys : List Int) (hl : ys.length = 40) (h : GMay N) : groupL N ys = [104, 100, N, 0] ++ ys ++ zers 84 := by
  unfold GMay at h
  have h0 : (splice (zers 128) 0 [104, 100]).length = 128 := by rw [splice_len _ _ _ (by rw [zers_len]; decide), zers_len]
  have h1 : (Num.putTo (splice (zers 128) 0 [104, 100]) 2 N 1).length = 128 := by rw [Num.putTo_length, h0]
  have h8 : (ys.take 8).length = 8 := by simp; omega
  have h32 : (ys.drop 8).length = 32 := by simp; omega
  have h2 : (splice (Num.putTo (splice (zers 128) 0 [104, 100]) 2 N 1) 4 (ys.take 8)).length = 128 := by rw [splice_len _ _ _ (by omega), h1]
  apply ext_getD
  · rw [groupL_len N ys hl]; simp [zers_len]; omega
  intro i _
  unfold groupL
  rw [getD_splice _ _ _ (by omega), getD_splice _ _ _ (by omega), getD_append, getD_append, h8, h32]
  simp only [List.length_append, List.length_cons, List.length_nil, hl]
  by_cases c1 : i < 4
  · rw [if_pos (by omega), if_pos c1, if_pos (by omega), if_pos (by omega)]
    by_cases c2 : i = 2
    · subst c2
      have := Num.putTo_in (splice (zers 128) 0 [104, 100]) 2 N 1 (by omega) 0 (by omega)
      rw [Nat.add_zero] at this
      rw [this]
      simp
      omega
    · rw [Num.putTo_out _ _ _ _ _ (by omega), getD_splice _ _ _ (by rw [zers_len]; decide), if_neg (by omega), zers_getD]
      rcases (by omega : i = 0 ∨ i = 1 ∨ i = 3) with rfl | rfl | rfl <;> rfl
  · by_cases c2 : i < 12
    · rw [if_pos c2, if_neg c1, if_pos (by omega), if_pos (by omega), if_neg (by omega), getD_take _ _ _ (by omega)]
    · rw [if_neg c2]
      by_cases c3 : i < 44
      · rw [if_pos (by omega), if_pos (by omega), if_neg (by omega), getD_drop']
        congr 1
        omega
      · rw [if_neg (by omega), if_neg (by omega), if_neg (by omega), if_neg (by omega), zers_getD, Num.putTo_out _ _ _ _ _ (by omega), getD_splice _ _ _ (by rw [zers_len]; decide), if_neg (by omega), if_neg (by simp; omega), zers_getD]
end Go.Proofs.Ytgonehldgojcmaa
