/- Numbers in memory: held, compared. -/
import Derived.Test.YtppipcjchlnolaaFirst
import Derived.Maps.AppendAt
namespace Go.Proofs.Ytppipcjchlnolaa
open Go.RowKit
set_option linter.unusedVariables false

structure II (w : World) (p : Option Addr) (n : Nat) (zs : List Int) : Prop where
  len : zs.length = n
  big : n ≤ 140737488355328
  cells : 0 < n → ∃ b o, p = some ⟨b, o, none⟩ ∧ ∀ i, i < n → w.cell? ⟨b, o + i, none⟩ = some (.int .i64 (zs.getD i 0))

theorem II.kept {w w' : World} {p : Option Addr} {n : Nat} {xs : List Int} (h : II w p n xs) (hb : Below w.heap.size w w') : II w' p n xs := by
  refine ⟨h.len, h.big, fun hn => ?_⟩
  obtain ⟨b, o, rfl, hc⟩ := h.cells hn
  refine ⟨b, o, rfl, fun i hi => ?_⟩
  rw [hb.cell (p := ⟨b, o + i, none⟩) (lt_of_cell (hc i hi))]
  exact hc i hi

theorem info3 : (Try.prog.info? 3).map (fun i => (i.zero, i.size, i.bytes)) = some (some (.int .i64 0), 1, 8) := by kernel_rfl

/-- The call's own row of numbers: v is what stands for zs. -/
def Nums (B : Nat) (w : World) (v : Value) (zs : List Int) : Prop := w.ownsRow B 3 1 v zs.length (zs.map (Value.int .i64))

theorem Nums.ii {w : World} {B : Nat} {v : Value} {zs : List Int} (h : Nums B w v zs) (hn : zs.length ≤ 140737488355328) : ∃ p c, v = .slice p zs.length c ∧ II w p zs.length zs := by
  rcases h.2 with ⟨e, e0⟩ | ⟨g, cap, cur, e, k⟩
  · rw [e0]
    exact ⟨_, _, e, ⟨e0, by omega, fun h => by omega⟩⟩
  · refine ⟨_, _, e, ⟨rfl, hn, fun h0 => ⟨g, 0, rfl, fun i hi => ?_⟩⟩⟩
    have h' : w.ownsRow B 3 1 (.slice (some ⟨g, 0, none⟩) zs.length cap) zs.length (zs.map (Value.int .i64)) := by rw [← e]; exact h
    rw [Nat.zero_add, h'.cellAt i (by omega), List.getElem?_map, List.getD_eq_getElem?_getD, List.getElem?_eq_getElem (by omega)]
    rfl

theorem Nums.kept {B : Nat} {w w' : World} {v : Value} {zs : List Int} (h : Nums B w v zs) (hb : Below w.heap.size w w') : Nums B w' v zs := by
  refine ⟨h.1, ?_⟩
  rcases h.2 with h' | ⟨g', cap', cur, h', hbg, hg, rest⟩
  · exact .inl h'
  · have hlt : g' < w.heap.size := (Array.getElem?_eq_some_iff.1 hg).1
    exact .inr ⟨g', cap', cur, h', hbg, by rw [hb.block g' hlt]; exact hg, rest⟩

theorem Nums.base {B B' : Nat} {w : World} {v : Value} {zs : List Int} (h : Nums B w v zs) (hB : B' ≤ B) : Nums B' w v zs := by
  refine ⟨h.1, ?_⟩
  rcases h.2 with h' | ⟨g', cap', cur, h', hbg, rest⟩
  · exact .inl h'
  · exact .inr ⟨g', cap', cur, h', by omega, rest⟩

theorem Nums.nil (B : Nat) (w : World) : Nums B w (.slice none 0 0) [] := World.ownsRow_nil _ _ _ _

set_option maxHeartbeats 400000 in
theorem iequal_same (p1 p2 : Option Addr) (n c1 c2 : Nat) (xs : List Int) (w : World) (h1 : II w p1 n xs) (h2 : II w p2 n xs) :
    Calls Try.prog 21 #[.slice p1 n c1, .slice p2 n c2] w fun e w' => e = .returned (.bool true) ∧ ∃ k, w' = w.drewN k := by
  have hl := h1.len
  have hg := h1.big
  go_enter Try.func21, Try.ntmps21
  go_wp2_with fail
  go_loopw [13] (fun i wr => ∃ j q : Nat, j ≤ n ∧ i = .int .i64 (j : Int) ∧ wr = w.drewN q) (fun i _ => n - (intOf i).toNat)
  case atStart => exact ⟨0, 0, by omega, rfl, rfl⟩
  case round =>
    obtain ⟨j, q, hj, rfl, rfl⟩ := hrel
    by_cases hlt : j < n
    · obtain ⟨b1, o1, rfl, hc1⟩ := h1.cells (by omega)
      obtain ⟨b2, o2, rfl, hc2⟩ := h2.cells (by omega)
      have e1 := hc1 j hlt
      have e2 := hc2 j hlt
      clear hc1 hc2
      generalize xs.getD j 0 = y at e1 e2
      have hjI : (j : Int) < (n : Int) := by omega
      have hj0 : (0 : Int) ≤ (j : Int) := by omega
      go_wp2_with fail
      go_quiet (fail)
      go_wp2
      go_roundw
      case rel => exact ⟨j + 1, _, by omega, by go_num, rfl⟩
      case measure => simp [intOf]; omega
    · obtain rfl : j = n := by omega
      go_wp2
      go_ret
      exact ⟨rfl, _, rfl⟩

theorem nequal_ok {B B' : Nat} {w : World} {v v' : Value} {zs : List Int} (h : Nums B w v zs) (h' : Nums B' w v' zs) (hn : zs.length ≤ 140737488355328) :
    Calls Try.prog 21 #[v, v'] w fun e w' => e = .returned (.bool true) ∧ ∃ k, w' = w.drewN k := by
  obtain ⟨p, c, rfl, i1⟩ := h.ii hn
  obtain ⟨p', c', rfl, i2⟩ := h'.ii hn
  exact iequal_same _ _ _ _ _ _ _ i1 i2
end Go.Proofs.Ytppipcjchlnolaa
