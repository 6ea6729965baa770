/- The walk of the sets. -/
import Derived.Test.YtemhhgpgpjiijaaEC
namespace Go.Proofs.Ytemhhgpgpjiijaa
open Go.RowKit Go.Shelf
set_option linter.unusedVariables false
attribute [local go_sem] Oper.semAt_some

/-- The set of number x.1 of ns stands, as x.2, in memory from B on. -/
def Vs (B : Nat) (ns : List Int) (x : Nat × Value) (W : World) : Prop := W.ownsRow B 3 1 x.2 (sb ns x.1 ns.length).length ((sb ns x.1 ns.length).map (Value.int .i64))

/-- How many of them are gone through. -/
def mst (most : Int) (n : Nat) : Nat := (min most (al n)).toNat

theorem mst_le (most : Int) (n : Nat) : mst most n ≤ 4096 := by have := al_le n; unfold mst; omega

set_option maxRecDepth 100000 in
set_option maxHeartbeats 2000000 in
theorem subs_in (n : Nat) (hn : 1 ≤ n) (l H B : Nat) (p : Option Addr) (m c : Nat) (most : Int) (ns : List Int) (hm : m ≤ 64) (J : List (Nat × Value) → World → Prop) (hJ : Lasts J)
    (hY : ∀ pre x W1, J pre W1 → Vs B ns x W1 → pre.length < 4096 → YieldAt Fence.wide (n - 1) Try.prog l #[x.2] W1 fun e W' => e = .returned (.bool true) ∧ J (pre ++ [x]) W' ∧ Kb B W1 W')
    (W : World) (hB : B ≤ W.heap.size) (hH : H + 3 ≤ B) (hbx : Bx W H p m c most) (hI : II W p m ns) (hp : ∀ b o, p = some ⟨b, o, none⟩ → b < H) (h0 : J [] W) :
    CallsIn Fence.wide n Try.prog 57 #[.func (.yield l) #[] #[], .pointer (some ⟨H + 1, 0, none⟩), .pointer (some ⟨H + 1 + 1, 0, none⟩), .pointer (some ⟨H, 0, none⟩)] W fun e W' => (∃ v, e = .returned v) ∧ ∃ xs, xs.map Prod.fst = List.range (mst most m) ∧ J xs W' := by
  have hc0 := hbx.b0.cell
  have hc1 := hbx.b1.cell
  have hc2 := hbx.b2.cell
  have hal := al_le m
  obtain ⟨A, hA⟩ : ∃ A, al m = A := ⟨_, rfl⟩
  rw [hA] at hc2 hal
  obtain ⟨M, hM⟩ : ∃ M, min most A = M := ⟨_, rfl⟩
  have hM' : (if most ≤ A then most else A) = M := by rw [← hM]; omega
  have hMle : M ≤ 4096 := by omega
  have hms : mst most m = M.toNat := by unfold mst; rw [hA, hM]
  rw [hms]
  have HA := (show Hid _ from hA)
  have HM := (show Hid _ from hM)
  have HM' := (show Hid _ from hM')
  clear hA hM hM' hms hbx
  have hf : Fence.wide.fn 34 := trivial
  refine callsIn_of_wp Try.func57 rfl trivial ?_ rfl
  simp only [Try.ntmps57, List.size_toArray, List.length_cons, List.length_nil, Nat.reduceAdd, Nat.reduceSub, Array.replicate_succ, Array.replicate_zero, List.push_toArray, List.append_toArray, List.nil_append, List.cons_append]
  gi_wp2
  case inl =>
    have e : M = A := by have := HM.out; omega
    clear HM HM' HA hc1 hc2
    subst e
    revert h
    intro _
    gi_loopw [9] (fun i wr => ∃ (j : Nat) (xs : List (Nat × Value)), (j : Int) ≤ max M 0 ∧ i = .int .i64 (j : Int) ∧ xs.map Prod.fst = List.range j ∧ J xs wr ∧ Kb B W wr) (fun i _ => (M - intOf i).toNat)
    case atStart => exact ⟨0, [], by omega, rfl, rfl, h0, Kb.refl _ _⟩
    case round =>
      obtain ⟨j, xs, hj, rfl, hxs, hJs, hK⟩ := hrel
      have hsz := hK.1
      have hcl := hK.cell (by omega) hc0
      by_cases hlt : (j : Int) < M
      · have hIr : II wr p m ns := ⟨hI.len, hI.big, hI.rng, fun h1 => by
          obtain ⟨b, o, e, hc⟩ := hI.cells h1
          exact ⟨b, o, e, fun i hi => hK.cell (by have := hp b o e; omega) (hc i hi)⟩⟩
        have hjw : IntKind.u64.wrap (j : Int) = (j : Int) := by rw [IntKind.wrap_u64]; omega
        have HC := (show Hid _ from chosen_ok p m c ns j wr hIr hm (by omega))
        have hlen : xs.length = j := by have := congrArg List.length hxs; simpa using this
        clear hIr
        have HV : ∀ (w1 : World) (v : Value), w1.ownsRow wr.heap.size 3 1 v (sb ns j m).length ((sb ns j m).map (Value.int .i64)) → Vs B ns (j, v) w1 := fun w1 v ho => by
          have := ownsRow_base ho (B' := B) (by omega)
          unfold Vs
          rw [← hI.len] at this
          exact this
        have HV' := (show Hid _ from HV)
        clear HV
        gi_wp2_with (first | (gi_at_call 34; refine (callsIn_wide.2 HC.out).mono ?_; rintro e w1 ⟨v, rfl, ho, hb⟩; obtain ⟨fn, tmps, assign, body, hy, hR⟩ := hY xs (j, v) w1 (hJ _ _ _ hJs (grown_below hb)) (HV'.out w1 v ho) (by omega); dsimp only at hy))
        refine hR.mono ?_
        rintro e W3 ⟨rfl, hJ3, hk3⟩
        gi_wp2
        go_roundw
        case rel => exact ⟨j + 1, xs ++ [(j, v)], by omega, by go_num, by rw [List.map_append, hxs, List.range_succ]; rfl, hJ3, (hK.trans (Kb.below (hb.mono (by omega)))).trans hk3⟩
        case measure => simp [intOf]; omega
      · have e : M.toNat = j := by omega
        gi_wp2
        go_end0
        exact ⟨⟨_, rfl⟩, xs, hxs, hJs⟩
  case inr =>
    have e : M = most := by have := HM.out; omega
    clear HM HM' HA hc1 hc2
    subst e
    gi_loopw [9] (fun i wr => ∃ (j : Nat) (xs : List (Nat × Value)), (j : Int) ≤ max M 0 ∧ i = .int .i64 (j : Int) ∧ xs.map Prod.fst = List.range j ∧ J xs wr ∧ Kb B W wr) (fun i _ => (M - intOf i).toNat)
    case atStart => exact ⟨0, [], by omega, rfl, rfl, h0, Kb.refl _ _⟩
    case round =>
      obtain ⟨j, xs, hj, rfl, hxs, hJs, hK⟩ := hrel
      have hsz := hK.1
      have hcl := hK.cell (by omega) hc0
      by_cases hlt : (j : Int) < M
      · have hIr : II wr p m ns := ⟨hI.len, hI.big, hI.rng, fun h1 => by
          obtain ⟨b, o, e, hc⟩ := hI.cells h1
          exact ⟨b, o, e, fun i hi => hK.cell (by have := hp b o e; omega) (hc i hi)⟩⟩
        have hjw : IntKind.u64.wrap (j : Int) = (j : Int) := by rw [IntKind.wrap_u64]; omega
        have HC := (show Hid _ from chosen_ok p m c ns j wr hIr hm (by omega))
        have hlen : xs.length = j := by have := congrArg List.length hxs; simpa using this
        clear hIr
        have HV : ∀ (w1 : World) (v : Value), w1.ownsRow wr.heap.size 3 1 v (sb ns j m).length ((sb ns j m).map (Value.int .i64)) → Vs B ns (j, v) w1 := fun w1 v ho => by
          have := ownsRow_base ho (B' := B) (by omega)
          unfold Vs
          rw [← hI.len] at this
          exact this
        have HV' := (show Hid _ from HV)
        clear HV
        gi_wp2_with (first | (gi_at_call 34; refine (callsIn_wide.2 HC.out).mono ?_; rintro e w1 ⟨v, rfl, ho, hb⟩; obtain ⟨fn, tmps, assign, body, hy, hR⟩ := hY xs (j, v) w1 (hJ _ _ _ hJs (grown_below hb)) (HV'.out w1 v ho) (by omega); dsimp only at hy))
        refine hR.mono ?_
        rintro e W3 ⟨rfl, hJ3, hk3⟩
        gi_wp2
        go_roundw
        case rel => exact ⟨j + 1, xs ++ [(j, v)], by omega, by go_num, by rw [List.map_append, hxs, List.range_succ]; rfl, hJ3, (hK.trans (Kb.below (hb.mono (by omega)))).trans hk3⟩
        case measure => simp [intOf]; omega
      · have e : M.toNat = j := by omega
        gi_wp2
        go_end0
        exact ⟨⟨_, rfl⟩, xs, hxs, hJs⟩
end Go.Proofs.Ytemhhgpgpjiijaa
