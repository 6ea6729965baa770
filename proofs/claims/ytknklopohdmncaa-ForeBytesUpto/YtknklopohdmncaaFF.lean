/- slices.Chunk: its iterator. -/
import Derived.RangeFuncNested
import Derived.RangeFuncBound
import Derived.RangeFuncCalls
import Derived.RangeFuncLeaves
import Derived.RangeFuncBox
import Derived.Maps.AppendAt
import Derived.Shelf.Abstract
import Derived.Shelf.RegionOpen
import Derived.OwnWalkIn
import Derived.TacticsInMore
import Derived.LoopNIn
import Derived.LoopIn
import Derived.Test.YtknklopohdmncaaFE
namespace Go.Proofs.Ytknklopohdmncaa
open Go.RowKit Go.Shelf
attribute [local go_sem] Oper.semAt_some

/-- What a round keeps: the two boxes. -/
def Kb (Bs Bn : Nat) (W W' : World) : Prop := W'.heap[Bs]? = W.heap[Bs]? ∧ W'.heap[Bn]? = W.heap[Bn]?

theorem Kb.cell {Bs Bn : Nat} {W W' : World} (h : Kb Bs Bn W W') {v u : Value} (h1 : W.cell? ⟨Bs, 0, none⟩ = some v) (h2 : W.cell? ⟨Bn, 0, none⟩ = some u) : W'.cell? ⟨Bs, 0, none⟩ = some v ∧ W'.cell? ⟨Bn, 0, none⟩ = some u := by
  unfold World.cell? at *
  rw [h.1, h.2]
  exact ⟨h1, h2⟩

theorem fin_take {m k : Nat} (h : k < m) : (List.finRange m).take (k + 1) = (List.finRange m).take k ++ [⟨k, h⟩] := by
  rw [List.take_add_one]
  simp [h]

set_option maxHeartbeats 1000000 in
theorem chunk_in (p : Option Addr) (n c : Nat) (w : World) : Calls Try.prog 12 #[.slice p n c, .int .i64 128] w fun e w' => e = .returned (.func (.func 17) #[] #[.pointer (some ⟨w.heap.size, 0, none⟩), .pointer (some ⟨w.heap.size + 1, 0, none⟩)]) ∧ w' = (w.alloc (.cells #[.slice p n c] 22)).alloc (.cells #[.int .i64 128] 3) := by
  go_enter Try.func12, Try.ntmps12
  go_wp2
  go_ret
  exact ⟨rfl, rfl⟩

set_option maxRecDepth 100000 in
set_option maxHeartbeats 2000000 in
theorem chunk1_in (F : Fence) (n : Nat) (h17 : F.fn 17) (hro : F.round = none) (hn : 1 ≤ n) (l Bs Bn b o len cap m : Nat) (hlen : len = 128 * m) (hm : m ≤ 2048) (hcap : len ≤ cap) (hcm : cap ≤ 9223372036854775807) (J Jx : List (Fin m) → World → Prop) (H : Nat) (hJa : AbidesFrom H J)
    (hY : ∀ (pre : List (Fin m)) (x : Fin m) (W : World), J pre W → pre.length < m → YieldAt F (n - 1) Try.prog l #[.slice (some ⟨b, o + 128 * x.1, none⟩) 128 128] W fun e W' =>
      (e = .returned (.bool true) ∧ J (pre ++ [x]) W' ∧ Kb Bs Bn W W') ∨ (e = .returned (.bool false) ∧ Jx (pre ++ [x]) W'))
    (W : World) (hBs : W.cell? ⟨Bs, 0, none⟩ = some (.slice (some ⟨b, o, none⟩) len cap)) (hBn : W.cell? ⟨Bn, 0, none⟩ = some (.int .i64 128)) (h0 : J [] W) :
    CallsIn F n Try.prog 17 #[.func (.yield l) #[] #[], .pointer (some ⟨Bs, 0, none⟩), .pointer (some ⟨Bn, 0, none⟩)] W fun e W' => (∃ v, e = .returned v) ∧
      ((∃ ys, ys = List.finRange m ∧ J ys W') ∨ (∃ pre, (∃ k, k ≤ m ∧ pre = (List.finRange m).take k) ∧ Jx pre W')) := by
  refine callsIn_of_wp Try.func17 rfl h17 ?_ hro
  simp only [Try.ntmps17, List.size_toArray, List.length_cons, List.length_nil, Nat.reduceAdd, Nat.reduceSub, Array.replicate_succ, Array.replicate_zero, List.push_toArray, List.append_toArray, List.nil_append, List.cons_append]
  have HM := (show Hid _ from hlen)
  clear hlen
  gi_wp2
  gi_loopw [4] (fun i wr => ∃ k : Nat, k ≤ m ∧ i = .int .i64 ((128 * k : Nat) : Int) ∧ J ((List.finRange m).take k) wr ∧ wr.cell? ⟨Bs, 0, none⟩ = some (.slice (some ⟨b, o, none⟩) len cap) ∧ wr.cell? ⟨Bn, 0, none⟩ = some (.int .i64 128))
    (fun i _ => len - (intOf i).toNat)
  case atStart => exact ⟨0, Nat.zero_le _, rfl, h0, hBs, hBn⟩
  case round =>
    obtain ⟨k, hk, rfl, hJs, hcs, hcn⟩ := hrel
    have hlen := HM.out
    by_cases hlt : k < m
    · have hJd : J ((List.finRange m).take k) wr.drew := hJa _ _ _ none hJs ⟨rfl, rfl, rfl, Nat.le_refl _, fun _ _ _ => rfl⟩ (fun r e => by cases e)
      have hcs' : wr.drew.cell? ⟨Bs, 0, none⟩ = some (.slice (some ⟨b, o, none⟩) len cap) := hcs
      have hcn' : wr.drew.cell? ⟨Bn, 0, none⟩ = some (.int .i64 128) := hcn
      obtain ⟨fn, tmps, assign, body, hy, hR⟩ := hY _ ⟨k, hlt⟩ wr.drew hJd (by simp; omega)
      dsimp only at hy
      have hltI : ((128 * k : Nat) : Int) < (len : Int) := by omega
      have hA : 128 * k ≤ len := by omega
      have hB : ¬ ((len - 128 * k : Nat) : Int) < 128 := by omega
      have hA1 : (0 : Int) ≤ 128 * (k : Int) ∧ 128 * (k : Int) ≤ (len : Int) := by omega
      have hce : ¬ cap = 128 * k := by omega
      have hmx : Try.prog.follows .mixedOrders = true := by kernel_rfl
      clear hlen
      gi_wp2
      gi_region_o
      all_goals (try (exfalso; have := HM.out; omega))
      all_goals gi_wp2
      all_goals
        refine hR.mono ?_
        rintro e W3 (⟨rfl, hJ3, hk3⟩ | ⟨rfl, hJx3⟩)
        · obtain ⟨hcs3, hcn3⟩ := hk3.cell hcs' hcn'
          gi_wp2
          go_roundw
          case rel => exact ⟨k + 1, by omega, by rw [show 128 * (k + 1) = 128 * k + 128 by omega]; go_num, by rw [fin_take hlt]; exact hJ3, hcs3, hcn3⟩
          case measure => simp [intOf]; omega
        · gi_wp2
          refine bodyPost_ret (results_none rfl _ _ _) rfl ?_
          exact ⟨⟨_, rfl⟩, .inr ⟨_, ⟨k + 1, by omega, (fin_take hlt).symm⟩, hJx3⟩⟩
    · obtain rfl : k = m := by omega
      have hltI : ¬ ((128 * k : Nat) : Int) < (len : Int) := by omega
      clear hlen
      gi_wp2
      go_end0
      rw [List.take_of_length_le (by simp)] at hJs
      first | exact ⟨⟨_, rfl⟩, .inl ⟨_, rfl, hJs⟩⟩ | exact ⟨⟨_, rfl⟩, .inl hJs⟩

theorem chunk_stops (F : Fence) (n : Nat) (h17 : F.fn 17) (hro : F.round = none) (hn : 1 ≤ n) (Bs Bn b o len cap m : Nat) (hlen : len = 128 * m) (hm : m ≤ 2048) (hcap : len ≤ cap) (hcm : cap ≤ 9223372036854775807) (w : World)
    (h1 : Bs < w.heap.size) (h2 : Bn < w.heap.size) (hBs : w.cell? ⟨Bs, 0, none⟩ = some (.slice (some ⟨b, o, none⟩) len cap)) (hBn : w.cell? ⟨Bn, 0, none⟩ = some (.int .i64 128)) :
    SeqStopsK F n Try.prog 17 #[.pointer (some ⟨Bs, 0, none⟩), .pointer (some ⟨Bn, 0, none⟩)] (fun x : Fin m => #[Value.slice (some ⟨b, o + 128 * x.1, none⟩) 128 128]) (Kb Bs Bn) (fun ys => ys = List.finRange m) (fun pre => ∃ k, k ≤ m ∧ pre = (List.finRange m).take k) m w := fun l J Jx W hW hJ _ hY h0 =>
  chunk1_in F n h17 hro hn l Bs Bn b o len cap m hlen hm hcap hcm J Jx _ hJ hY W ((hW.cell (p := ⟨Bs, 0, none⟩) h1).trans hBs) ((hW.cell (p := ⟨Bn, 0, none⟩) h2).trans hBn) h0
end Go.Proofs.Ytknklopohdmncaa
