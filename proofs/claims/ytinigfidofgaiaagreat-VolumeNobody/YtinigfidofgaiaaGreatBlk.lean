/- blocks(2): three blocks of bytes. -/
import Derived.Test.YtinigfidofgaiaaGreatRep
import Derived.Maps.AppendAt
namespace Go.Proofs.YtinigfidofgaiaaGreat
open Go.RowKit Go.Maps
set_option linter.unusedVariables false

/-- The bytes of the blocks of an image: block i has 128 bytes of its own, lying in a block of bytes. -/
structure Bs (w : World) (gs : List Nat) : Prop where
  el : ∀ (i g : Nat), gs[i]? = some g → BI w (some ⟨g, 0, none⟩) 128 (List.replicate 128 ((i : Int) + 1)) ∧ ∃ cs, w.heap[g]? = some (.cells cs 5 (0, 0))

theorem Bs.kept {w w' : World} {gs : List Nat} (h : Bs w gs) (hb : Below w.heap.size w w') : Bs w' gs :=
  ⟨fun i g hg => ⟨(h.el i g hg).1.kept hb, by obtain ⟨cs, hc⟩ := (h.el i g hg).2; exact ⟨cs, (hb.block _ (Array.getElem?_eq_some_iff.1 hc).1).trans hc⟩⟩⟩

theorem BI.moved {w w' : World} {g n : Nat} {xs : List Int} (h : BI w (some ⟨g, 0, none⟩) n xs) (he : w'.heap[g]? = w.heap[g]?) : BI w' (some ⟨g, 0, none⟩) n xs := by
  refine ⟨h.len, h.big, h.byt, fun h0 => ?_⟩
  obtain ⟨b, o, e, hc⟩ := h.cells h0
  cases e
  refine ⟨g, 0, rfl, fun i hi => ?_⟩
  rw [← hc i hi]
  simp [World.cell?, he]

theorem own_not {w : World} {B n g : Nat} {v : Value} {L : List Value} {cs : Array Value} (h : w.ownsRow B 42 1 v n L) (hc : w.heap[g]? = some (.cells cs 5 (0, 0))) : v.ownBlock ≠ some g := by
  rcases h.2 with ⟨rfl, _⟩ | ⟨g', cap, cur, rfl, _, hg, _⟩
  · simp [Value.ownBlock]
  · simp only [Value.ownBlock, ne_eq, Option.some.injEq]
    rintro rfl
    rw [hc] at hg
    simp at hg
theorem Bs.grown {w w' : World} {B n : Nat} {v : Value} {L : List Value} {gs : List Nat} (h : Bs w gs) (ho : w.ownsRow B 42 1 v n L) (hg : w.grownBy w' v.ownBlock) : Bs w' gs := by
  refine ⟨fun i g hi => ?_⟩
  obtain ⟨h1, cs, hc⟩ := h.el i g hi
  have e := hg.block g (Array.getElem?_eq_some_iff.1 hc).1 (own_not ho hc).symm
  exact ⟨h1.moved e, cs, e.trans hc⟩
theorem Bs.snoc {w : World} {gs : List Nat} {g : Nat} (h : Bs w gs) (hb : BI w (some ⟨g, 0, none⟩) 128 (List.replicate 128 ((gs.length : Int) + 1))) (hc : ∃ cs, w.heap[g]? = some (.cells cs 5 (0, 0))) : Bs w (gs ++ [g]) := by
  refine ⟨fun i k hi => ?_⟩
  by_cases hl : i < gs.length
  · rw [List.getElem?_append_left hl] at hi
    exact h.el i k hi
  · rw [List.getElem?_append_right (by omega)] at hi
    obtain ⟨e, hk⟩ := List.getElem?_eq_some_iff.1 hi
    simp at e
    obtain rfl : i = gs.length := by omega
    simp at hk
    subst hk
    exact ⟨hb, hc⟩
theorem news_one (w1 : World) (g1 : Nat) : ∀ j u, [sl g1][j]? = some u → (w1.alloc (.cells #[.slice (some ⟨g1, 0, none⟩) 128 128] 42)).cell? ((⟨w1.heap.size, 0, none⟩ : Addr).add j) = some u := by
  intro j u hu
  rcases j with _ | j
  · simp at hu
    subst hu
    have e : (⟨w1.heap.size, 0, none⟩ : Addr).add 0 = ⟨w1.heap.size, 0, none⟩ := by unfold Addr.add; split <;> simp_all
    rw [e, cell_of_row _ _ 0 _ 42 _ (at_new rfl)]
    rfl
  · simp at hu
theorem one_sl (g1 : Nat) : ∀ u ∈ [sl g1], u.oneCell' = true := by
  intro u hu
  rw [List.mem_singleton.1 hu]
  rfl

set_option maxRecDepth 100000 in
set_option maxHeartbeats 4000000 in
theorem blocks2_ok (w : World) : Calls Tryz.prog 37 #[.int .i64 2] w fun e w' => ∃ p c L, e = .returned (.slice p 3 c) ∧ IB w' p 3 L ∧ (∀ xs ∈ L, xs.length = 128) ∧ Below w.heap.size w w' := by
  obtain ⟨i0, hi, hz0, hz1, hz2⟩ := info_parts info30
  go_enter Tryz.func37, Tryz.ntmps37
  go_wp2_with fail
  go_loopw [10, 3] (fun i v wr => ∃ gs : List Nat, gs.length ≤ 3 ∧ i = .int .i64 (gs.length : Int) ∧ wr.ownsRow w.heap.size 42 1 v gs.length (gs.map sl) ∧ Bs wr gs ∧ Below w.heap.size w wr) (fun i _ _ => 3 - (intOf i).toNat)
  case atStart => exact ⟨[], by simp, rfl, ⟨rfl, .inl ⟨rfl, rfl⟩⟩, ⟨fun i g hg => by simp at hg⟩, Below.refl _ _⟩
  case round =>
    obtain ⟨gs, hg3, rfl, hown, hbs, hb⟩ := hrel
    by_cases hlt : gs.length < 3
    · have hbA : Below wr.heap.size wr (wr.alloc (.cells #[.int .u8 ((gs.length : Int) + 1)] 5)) := (Below.refl _ wr).alloc (Nat.le_refl _) _
      have hbx : BI (wr.alloc (.cells #[.int .u8 ((gs.length : Int) + 1)] 5)) (some ⟨wr.heap.size, 0, none⟩) 1 [(gs.length : Int) + 1] := by
        refine ⟨rfl, by omega, ?_, fun _ => ⟨_, _, rfl, fun i hi => ?_⟩⟩
        · intro i
          rcases i with _ | i
          · simp; omega
          · simp
        · obtain rfl : i = 0 := by omega
          rw [cell_of_row _ _ 0 _ 5 _ (at_new rfl)]
          rfl
      have hrep := repeat_ok ((gs.length : Int) + 1) (by omega) ⟨wr.heap.size, 0, none⟩ 1 _ hbx
      have hk0 : (0 : Int) ≤ (gs.length : Int) := by omega
      have hk3 : (gs.length : Int) < 3 := by omega
      have hwrap : IntKind.wrap .u8 ((gs.length : Int) + 1) = (gs.length : Int) + 1 := by
        rcases (by omega : gs.length = 0 ∨ gs.length = 1 ∨ gs.length = 2) with e | e | e <;> rw [e] <;> decide
      have HO := (show Hid _ from hown)
      clear hown
      go_wp2_with fail
      refine Calls.mono hrep ?_
      rintro e w1 ⟨g1, rfl, hg1, hbi1, hcs1, hb1⟩
      have hb1' := hbA.trans (hb1.mono hbA.size)
      have hb2 := hb1'.alloc hb1'.size (.cells #[.slice (some ⟨g1, 0, none⟩) 128 128] 42)
      have hown2 := ownsRow_kept HO.out (fun k hk => hb2.block k (World.ownsRow.lt HO.out k hk).2)
      go_wp2_with (at_builtin; refine wpList_append_own_at _ rfl _ _ 28 rfl w.heap.size 42 i0 (.slice none 0 0) 1 24 Tryz.underlying28 hi hz0 hz1 hz2 rfl (by decide) _ _ _ rfl hown2 ⟨w1.heap.size, 0, none⟩ 1 1 [sl g1] rfl rfl (news_one w1 g1) (one_sl g1) (by unfold maxLen; omega) (by omega) (Nat.le_trans hb.size hb2.size) ?_; intro v3 w3 ho3 hg3 _ _)
      go_roundw
      case rel =>
        have hb3 : Below w1.heap.size w1 (w1.alloc (.cells #[.slice (some ⟨g1, 0, none⟩) 128 128] 42)) := (Below.refl _ _).alloc (Nat.le_refl _) _
        have hk1 : ∃ cs, (w1.alloc (.cells #[.slice (some ⟨g1, 0, none⟩) 128 128] 42)).heap[g1]? = some (.cells cs 5 (0, 0)) := by
          obtain ⟨cs, hc⟩ := hcs1
          exact ⟨cs, at_old hc⟩
        have hB2 := ((hbs.kept hb2).snoc (hbi1.kept hb3) hk1).grown hown2 hg3
        refine ⟨gs ++ [g1], by simp; omega, by simp, ?_, hB2, (hb.trans (hb2.mono hb.size)).grown hg3 (Nat.le_trans hb.size hb2.size) (fun k hk => (World.ownsRow.lt HO.out k hk).1)⟩
        simpa using ho3
      case measure => simp [intOf]; omega
    · have hI : ¬ (gs.length : Int) < 3 := by omega
      have h3 : gs.length = 3 := by omega
      go_wp2
      go_ret
      rcases hown.2 with ⟨_, h0⟩ | ⟨g, cap, cur, rfl, _, hrow, _, _, hcur, htake⟩
      · omega
      rw [h3] at htake
      refine ⟨some ⟨g, 0, none⟩, ⟨cap, by rw [← h3]; rfl⟩, (List.range 3).map fun (i : Nat) => List.replicate 128 ((i : Int) + 1), ⟨by simp, by omega, fun _ => ⟨g, 0, rfl, fun i x hx => ?_⟩⟩, by intro xs hxs; obtain ⟨i, _, rfl⟩ := List.mem_map.1 hxs; simp, hb⟩
      obtain ⟨hi3, e⟩ := List.getElem?_eq_some_iff.1 hx
      simp at hi3 e
      subst e
      obtain ⟨gi, hgi⟩ : ∃ gi, gs[i]? = some gi := ⟨_, List.getElem?_eq_getElem (show i < gs.length by omega)⟩
      refine ⟨_, _, 128, ?_, (hbs.el i _ hgi).1⟩
      have hci : cur.toList[i]? = some (sl gi) := by
        have : (List.take (3 * 1) cur.toList)[i]? = some (sl gi) := by rw [htake]; simp [hgi]
        rwa [List.getElem?_take_of_lt (by omega)] at this
      rw [cell_of_row _ _ (0 + i) _ 42 _ hrow]
      simpa [sl] using hci
end Go.Proofs.YtinigfidofgaiaaGreat
