/- The walk of the sets, for a loop that stores to memory which lay ahead of them. -/
import Derived.Test.YtemhhgpgpjiijaaFB
namespace Go.Proofs.Ytemhhgpgpjiijaa
open Go.RowKit Go.Shelf
set_option linter.unusedVariables false
attribute [local go_sem] Oper.semAt_some

/-- The blocks from L on, below U, lie as they lay. -/
def Kr (L U : Nat) (W W' : World) : Prop := W.heap.size ≤ W'.heap.size ∧ ∀ k, L ≤ k → k < U → W'.heap[k]? = W.heap[k]?

theorem Kr.refl (L U : Nat) (W : World) : Kr L U W W := ⟨Nat.le_refl _, fun _ _ _ => rfl⟩
theorem Kr.trans {L U : Nat} {A C D : World} (h : Kr L U A C) (k : Kr L U C D) : Kr L U A D := ⟨Nat.le_trans h.1 k.1, fun i h1 h2 => (k.2 i h1 h2).trans (h.2 i h1 h2)⟩
theorem Kr.putObj {L U l : Nat} (W : World) (o : Obj) (h : U ≤ l) : Kr L U W (W.putObj l o) := ⟨by simp, fun k _ hk => World.putObj_heap_other (by omega)⟩
theorem Kr.below {L U B : Nat} {W W' : World} (h : Below B W W') (hU : U ≤ B) : Kr L U W W' := ⟨h.size, fun k _ hk => h.block k (by omega)⟩
theorem Kr.cell {L U b o : Nat} {W W' : World} {v : Value} (h : Kr L U W W') (h1 : L ≤ b) (h2 : b < U) (hc : W.cell? ⟨b, o, none⟩ = some v) : W'.cell? ⟨b, o, none⟩ = some v := by
  unfold World.cell? at *
  rw [h.2 b h1 h2]; exact hc

set_option maxRecDepth 100000 in
set_option maxHeartbeats 2000000 in
theorem subs_in2 (n : Nat) (hn : 1 ≤ n) (l H B Lo : Nat) (p : Option Addr) (m c : Nat) (most : Int) (ns : List Int) (hm : m ≤ 64) (J : List (Nat × Value) → World → Prop) (hJ : Lasts J)
    (hY : ∀ pre x W1, J pre W1 → Vs B ns x W1 → x.1 = pre.length ∧ pre.length < mst most m → YieldAt Fence.wide (n - 1) Try.prog l #[x.2] W1 fun e W' => e = .returned (.bool true) ∧ J (pre ++ [x]) W' ∧ Kr Lo (H + 3) W1 W')
    (W : World) (hB : B ≤ W.heap.size) (hH : H + 3 ≤ B) (hLo : Lo ≤ H) (hbx : Bx W H p m c most) (hI : II W p m ns) (hp : ∀ b o, p = some ⟨b, o, none⟩ → Lo ≤ b ∧ b < H) (h0 : J [] W) :
    CallsIn Fence.wide n Try.prog 57 #[.func (.yield l) #[] #[], .pointer (some ⟨H + 1, 0, none⟩), .pointer (some ⟨H + 1 + 1, 0, none⟩), .pointer (some ⟨H, 0, none⟩)] W fun e W' => (∃ v, e = .returned v) ∧ ∃ xs, xs.map Prod.fst = List.range (mst most m) ∧ J xs W' := by
  have hc0 := hbx.b0.cell
  have hc1 := hbx.b1.cell
  have hc2 := hbx.b2.cell
  have hal := al_le m
  obtain ⟨A, hA⟩ : ∃ A, al m = A := ⟨_, rfl⟩
  rw [hA] at hc2 hal
  obtain ⟨M, hM⟩ : ∃ M, min most A = M := ⟨_, rfl⟩
  have hM' : (if most ≤ A then most else A) = M := by rw [← hM]; omega
  have hMle : M ≤ 4096 := by omega
  have hms : mst most m = M.toNat := by unfold mst; rw [hA, hM]
  have HMS := (show Hid _ from hms)
  rw [hms]
  have HA := (show Hid _ from hA)
  have HM := (show Hid _ from hM)
  have HM' := (show Hid _ from hM')
  clear hA hM hM' hms hbx
  have hf : Fence.wide.fn 34 := trivial
  refine callsIn_of_wp Try.func57 rfl trivial ?_ rfl
  simp only [Try.ntmps57, List.size_toArray, List.length_cons, List.length_nil, Nat.reduceAdd, Nat.reduceSub, Array.replicate_succ, Array.replicate_zero, List.push_toArray, List.append_toArray, List.nil_append, List.cons_append]
  gi_wp2
  case inl =>
    have e : M = A := by have := HM.out; omega
    clear HM HM' HA hc1 hc2
    subst e
    revert h
    intro _
    gi_loopw [9] (fun i wr => ∃ (j : Nat) (xs : List (Nat × Value)), (j : Int) ≤ max M 0 ∧ i = .int .i64 (j : Int) ∧ xs.map Prod.fst = List.range j ∧ J xs wr ∧ Kr Lo (H + 3) W wr) (fun i _ => (M - intOf i).toNat)
    case atStart => exact ⟨0, [], by omega, rfl, rfl, h0, Kr.refl _ _ _⟩
    case round =>
      obtain ⟨j, xs, hj, rfl, hxs, hJs, hK⟩ := hrel
      have hsz := hK.1
      have hcl := hK.cell (by omega) (by omega) hc0
      by_cases hlt : (j : Int) < M
      · have hIr : II wr p m ns := ⟨hI.len, hI.big, hI.rng, fun h1 => by
          obtain ⟨b, o, e, hc⟩ := hI.cells h1
          exact ⟨b, o, e, fun i hi => hK.cell (by have := hp b o e; omega) (by have := hp b o e; omega) (hc i hi)⟩⟩
        have hjw : IntKind.u64.wrap (j : Int) = (j : Int) := by rw [IntKind.wrap_u64]; omega
        have HC := (show Hid _ from chosen_ok p m c ns j wr hIr hm (by omega))
        have hlen : xs.length = j := by have := congrArg List.length hxs; simpa using this
        clear hIr
        have HV : ∀ (w1 : World) (v : Value), w1.ownsRow wr.heap.size 3 1 v (sb ns j m).length ((sb ns j m).map (Value.int .i64)) → Vs B ns (j, v) w1 := fun w1 v ho => by
          have := ownsRow_base ho (B' := B) (by omega)
          unfold Vs
          rw [← hI.len] at this
          exact this
        have HV' := (show Hid _ from HV)
        clear HV
        gi_wp2_with (first | (gi_at_call 34; refine (callsIn_wide.2 HC.out).mono ?_; rintro e w1 ⟨v, rfl, ho, hb⟩; obtain ⟨fn, tmps, assign, body, hy, hR⟩ := hY xs (j, v) w1 (hJ _ _ _ hJs (grown_below hb)) (HV'.out w1 v ho) ⟨hlen.symm, by rw [HMS.out]; omega⟩; dsimp only at hy))
        refine hR.mono ?_
        rintro e W3 ⟨rfl, hJ3, hk3⟩
        gi_wp2
        go_roundw
        case rel => exact ⟨j + 1, xs ++ [(j, v)], by omega, by go_num, by rw [List.map_append, hxs, List.range_succ]; rfl, hJ3, (hK.trans (Kr.below hb (by omega))).trans hk3⟩
        case measure => simp [intOf]; omega
      · have e : M.toNat = j := by omega
        gi_wp2
        go_end0
        exact ⟨⟨_, rfl⟩, xs, hxs, hJs⟩
  case inr =>
    have e : M = most := by have := HM.out; omega
    clear HM HM' HA hc1 hc2
    subst e
    gi_loopw [9] (fun i wr => ∃ (j : Nat) (xs : List (Nat × Value)), (j : Int) ≤ max M 0 ∧ i = .int .i64 (j : Int) ∧ xs.map Prod.fst = List.range j ∧ J xs wr ∧ Kr Lo (H + 3) W wr) (fun i _ => (M - intOf i).toNat)
    case atStart => exact ⟨0, [], by omega, rfl, rfl, h0, Kr.refl _ _ _⟩
    case round =>
      obtain ⟨j, xs, hj, rfl, hxs, hJs, hK⟩ := hrel
      have hsz := hK.1
      have hcl := hK.cell (by omega) (by omega) hc0
      by_cases hlt : (j : Int) < M
      · have hIr : II wr p m ns := ⟨hI.len, hI.big, hI.rng, fun h1 => by
          obtain ⟨b, o, e, hc⟩ := hI.cells h1
          exact ⟨b, o, e, fun i hi => hK.cell (by have := hp b o e; omega) (by have := hp b o e; omega) (hc i hi)⟩⟩
        have hjw : IntKind.u64.wrap (j : Int) = (j : Int) := by rw [IntKind.wrap_u64]; omega
        have HC := (show Hid _ from chosen_ok p m c ns j wr hIr hm (by omega))
        have hlen : xs.length = j := by have := congrArg List.length hxs; simpa using this
        clear hIr
        have HV : ∀ (w1 : World) (v : Value), w1.ownsRow wr.heap.size 3 1 v (sb ns j m).length ((sb ns j m).map (Value.int .i64)) → Vs B ns (j, v) w1 := fun w1 v ho => by
          have := ownsRow_base ho (B' := B) (by omega)
          unfold Vs
          rw [← hI.len] at this
          exact this
        have HV' := (show Hid _ from HV)
        clear HV
        gi_wp2_with (first | (gi_at_call 34; refine (callsIn_wide.2 HC.out).mono ?_; rintro e w1 ⟨v, rfl, ho, hb⟩; obtain ⟨fn, tmps, assign, body, hy, hR⟩ := hY xs (j, v) w1 (hJ _ _ _ hJs (grown_below hb)) (HV'.out w1 v ho) ⟨hlen.symm, by rw [HMS.out]; omega⟩; dsimp only at hy))
        refine hR.mono ?_
        rintro e W3 ⟨rfl, hJ3, hk3⟩
        gi_wp2
        go_roundw
        case rel => exact ⟨j + 1, xs ++ [(j, v)], by omega, by go_num, by rw [List.map_append, hxs, List.range_succ]; rfl, hJ3, (hK.trans (Kr.below hb (by omega))).trans hk3⟩
        case measure => simp [intOf]; omega
      · have e : M.toNat = j := by omega
        gi_wp2
        go_end0
        exact ⟨⟨_, rfl⟩, xs, hxs, hJs⟩

theorem subs_walks2 (n : Nat) (hn : 1 ≤ n) (H Lo : Nat) (p : Option Addr) (m c : Nat) (most : Int) (ns : List Int) (hm : m ≤ 64) (w : World) (hH : H + 3 ≤ w.heap.size) (hLo : Lo ≤ H) (hbx : Bx w H p m c most) (hI : II w p m ns) (hp : ∀ b o, p = some ⟨b, o, none⟩ → Lo ≤ b ∧ b < H)
    (l : Nat) (J : List (Nat × Value) → World → Prop) (W : World) (hW : Below w.heap.size w W) (hJ : Lasts J)
    (hY : ∀ pre x W1, J pre W1 → Vs w.heap.size ns x W1 → x.1 = pre.length ∧ pre.length < mst most m → YieldAt Fence.wide (n - 1) Try.prog l #[x.2] W1 fun e W' => e = .returned (.bool true) ∧ J (pre ++ [x]) W' ∧ Kr Lo (H + 3) W1 W') (h0 : J [] W) :
    CallsIn Fence.wide n Try.prog 57 (#[.func (.yield l) #[] #[]] ++ #[.pointer (some ⟨H + 1, 0, none⟩), .pointer (some ⟨H + 1 + 1, 0, none⟩), .pointer (some ⟨H, 0, none⟩)]) W fun e W' => (∃ v, e = .returned v) ∧ ∃ xs, xs.map Prod.fst = List.range (mst most m) ∧ J xs W' :=
  subs_in2 n hn l H w.heap.size Lo p m c most ns hm J hJ hY W hW.size hH hLo (hbx.kb hH (Kb.below hW)) (hI.kb (fun b o e => by have := hp b o e; omega) (Kb.below hW)) hp h0

set_option maxHeartbeats 1000000 in
theorem sets_ok2 {B : Nat} {w : World} {a mb fb : Nat} {qv : Value} {S : St} (h : DI B w a mb fb qv S) (most : Int) :
    Calls Try.prog 26 #[.pointer (some ⟨a, 0, none⟩), .int .i64 most] w fun e w' => ∃ H p c, e = .returned (sq H) ∧ Bx w' H p S.q.length c most ∧ II w' p S.q.length (S.q.map Wr.id) ∧ (∀ b o, p = some ⟨b, o, none⟩ → w.heap.size ≤ b ∧ b < H) ∧ w.heap.size ≤ H ∧ w'.heap.size = H + 3 ∧ Below w.heap.size w w' := by
  have hq64 := h.q64
  have hr := ids_rng h
  have HR := (show Hid _ from hr)
  clear hr
  go_enter Try.func26, Try.ntmps26
  go_wp2_with fail
  refine same_at (cmade_ok h) ?_
  go_wp2_with fail
  refine (numbers_ok h).mono ?_
  rintro e w1 ⟨v, rfl, ho, hb⟩
  obtain ⟨p, c, rfl, hI, hlo⟩ := ids_ii ho hq64 HR.out
  have hlt : ∀ b o, p = some ⟨b, o, none⟩ → w.heap.size ≤ b ∧ b < w1.heap.size := fun b o e => ⟨hlo b o e, (ho.lt b (by rw [e]; rfl)).2⟩
  have HL := (show Hid _ from hlt)
  clear ho hlt hlo
  go_wp2_with fail
  refine (subsets_ok p _ c most hq64 w1).mono ?_
  rintro e w2 ⟨rfl, hx, hs, hb2⟩
  go_wp2
  go_ret
  exact ⟨_, p, c, rfl, hx, hI.kept hb2, HL.out, hb.size, hs, hb.trans (hb2.mono hb.size)⟩
end Go.Proofs.Ytemhhgpgpjiijaa
