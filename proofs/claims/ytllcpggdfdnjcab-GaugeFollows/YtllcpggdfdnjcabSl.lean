/- Numbers and gauges in memory: cloned, compared; such as came in as arguments. -/
import Derived.Test.YtllcpggdfdnjcabBest
import Derived.Test.YtllcpggdfdnjcabOp
import Derived.Maps.AppendAt
import Derived.RangeFuncRecord
import Derived.Lib.SmallJoins
namespace Go.Proofs.Ytllcpggdfdnjcab
open Go.ChangeShapes Go.WideShapes Go.ChangeAt Go.RowKit Go.Joins
set_option linter.unusedVariables false

structure II (w : World) (p : Option Addr) (n : Nat) (zs : List Int) : Prop where
  len : zs.length = n
  big : n ≤ 140737488355328
  cells : 0 < n → ∃ b o, p = some ⟨b, o, none⟩ ∧ ∀ i, i < n → w.cell? ⟨b, o + i, none⟩ = some (.int .i64 (zs.getD i 0))

theorem II.kept {w w' : World} {p : Option Addr} {n : Nat} {xs : List Int} (h : II w p n xs) (hb : Below w.heap.size w w') : II w' p n xs := by
  refine ⟨h.len, h.big, fun hn => ?_⟩
  obtain ⟨b, o, rfl, hc⟩ := h.cells hn
  refine ⟨b, o, rfl, fun i hi => ?_⟩
  rw [hb.cell (p := ⟨b, o + i, none⟩) (lt_of_cell (hc i hi))]
  exact hc i hi

theorem II.none (w : World) : II w .none 0 [] := ⟨rfl, by omega,  fun h => by omega⟩
theorem II.src {w : World} {a : Addr} {n : Nat} {xs : List Int} (h : II w (some a) n xs) : ∀ j v, (xs.map (Value.int .i64))[j]? = some v → w.cell? (a.add j) = some v := by
  intro j v hj
  have hjl : j < xs.length := by
    have := (List.getElem?_eq_some_iff.1 hj).1
    simpa using this
  have hl := h.len
  obtain ⟨b, o, e, hc⟩ := h.cells (by omega)
  cases e
  have e : (⟨b, o, .none⟩ : Addr).add j = ⟨b, o + j, .none⟩ := by unfold Addr.add; split <;> simp_all
  rw [e, hc j (by omega), ← hj, List.getElem?_map, List.getD_eq_getElem?_getD, List.getElem?_eq_getElem hjl]
  rfl

theorem row_nums {w : World} {H n : Nat} {v : Value} {xs : List Int} (h : w.ownsRow H 3 1 v n (xs.map (Value.int .i64))) (hn : n ≤ 140737488355328)  : ∃ p c, v = .slice p n c ∧ II w p n xs := by
  have hl : xs.length = n := by have := h.1; simpa using this
  rcases h.2 with ⟨e, e0⟩ | ⟨g, cap, cur, e, k⟩
  · subst e0
    exact ⟨_, _, e, ⟨hl, by omega,  fun h => by omega⟩⟩
  · refine ⟨_, _, e, ⟨hl, hn,  fun h0 => ⟨g, 0, rfl, fun i hi => ?_⟩⟩⟩
    subst e
    rw [Nat.zero_add, h.cellAt i (by omega), List.getElem?_map, List.getD_eq_getElem?_getD, List.getElem?_eq_getElem (by omega)]
    rfl

theorem info3 : (Try.prog.info? 3).map (fun i => (i.zero, i.size, i.bytes)) = some (some (.int .i64 0), 1, 8) := by kernel_rfl
theorem bytes3 : Try.prog.bytesOf 3 = 8 := by kernel_rfl
theorem cells3 : Try.prog.cellsOf 3 = 1 := by kernel_rfl
theorem eqlNil34 (w : World) (a : Option Addr) (n c n' c' : Nat) : (binOp .eql 34 (.slice a n c) (.slice none n' c')).run Try.prog w = .ok (.bool a.isNone) w := Lib.run_eql_slice_nil w _ _ a n c n' c' Try.underlying34

set_option maxHeartbeats 400000 in
theorem numsclone_ok (p : Option Addr) (n c : Nat) (xs : List Int) (w : World) (h : II w p n xs) (h8 : n * 8 ≤ 140737488355328) :
    Calls Try.prog 25 #[.slice p n c] w fun e w' => ∃ p' c', e = .returned (.slice p' n c') ∧ II w' p' n xs ∧ Below w.heap.size w w' := by
  obtain ⟨i0, hi, hz0, hz1, hz2⟩ := info_parts info3
  have hbig := h.big
  have hlen := h.len
  have q22 := eqlNil34
  cases p with
  | none =>
    have hn : n = 0 := by
      rcases Nat.eq_zero_or_pos n with h0 | h0
      · exact h0
      · obtain ⟨b, o, e, _⟩ := h.cells h0
        cases e
    subst hn
    have hx : xs = [] := List.eq_nil_of_length_eq_zero hlen
    subst hx
    go_enter Try.func25, Try.ntmps25
    go_wp2
    go_ret
    exact ⟨_, _, rfl, II.none _, Below.refl _ _⟩
  | some a =>
    have hb0 := (Below.refl w.heap.size w).alloc (Nat.le_refl _) (Obj.cells #[] 3)
    have hsrc := (h.kept hb0).src
    have hone : ∀ u ∈ xs.map (Value.int .i64), u.oneCell' = true := by intro u hu; obtain ⟨x, _, rfl⟩ := List.mem_map.1 hu; rfl
    have hll : (xs.map (Value.int .i64)).length = n * 1 := by simp [hlen]
    obtain ⟨LL, HLL⟩ : ∃ LL, Hid (xs.map (Value.int .i64) = LL) := ⟨_, rfl⟩
    rw [HLL.out] at hsrc hone hll
    go_enter Try.func25, Try.ntmps25
    go_wp2_with (at_builtin; refine wpList_append_own _ rfl _ _ 34 rfl w.heap.size 3 i0 (.int .i64 0) 1 8 Try.underlying34 hi hz0 hz1 hz2 rfl (by decide) _ _ _ rfl (World.ownsRow_made w #[] 0 (Nat.le_refl _) (Nat.zero_le _) rfl) a n c LL rfl hll hsrc hone (by unfold maxLen; omega) (by omega) (by simp) ?_)
    intro v' w1 hown hgrow _
    have hb1 := hb0.grown hgrow (by simp) (by intro k hk; simp [Value.ownBlock] at hk; omega)
    have hown : w1.ownsRow w.heap.size 3 1 v' n LL := by simpa using hown
    rw [← HLL.out] at hown
    obtain ⟨p', c', rfl, hii⟩ := row_nums hown hbig 
    clear hown hgrow
    go_wp2
    go_ret
    exact ⟨_, _, rfl, hii, hb1⟩

set_option maxHeartbeats 400000 in
theorem numsequal_same (p1 p2 : Option Addr) (n c1 c2 : Nat) (xs : List Int) (w : World) (h1 : II w p1 n xs) (h2 : II w p2 n xs) :
    Calls Try.prog 30 #[.slice p1 n c1, .slice p2 n c2] w fun e w' => e = .returned (.bool true) ∧ Below w.heap.size w w' := by
  have hl := h1.len
  have hg := h1.big
  go_enter Try.func30, Try.ntmps30
  go_wp2_with fail
  go_loopw [13] (fun i wr => ∃ j : Nat, j ≤ n ∧ i = .int .i64 (j : Int) ∧ Below w.heap.size w wr) (fun i _ => n - (intOf i).toNat)
  case atStart => exact ⟨0, by omega, rfl, Below.refl _ _⟩
  case round =>
    obtain ⟨j, hj, rfl, hb⟩ := hrel
    by_cases hlt : j < n
    · obtain ⟨b1, o1, rfl, hc1⟩ := (h1.kept hb).cells (by omega)
      obtain ⟨b2, o2, rfl, hc2⟩ := (h2.kept hb).cells (by omega)
      have e1 := hc1 j hlt
      have e2 := hc2 j hlt
      clear hc1 hc2
      generalize xs.getD j 0 = y at e1 e2
      have hjI : (j : Int) < (n : Int) := by omega
      have hj0 : (0 : Int) ≤ (j : Int) := by omega
      go_wp2_with fail
      go_quiet (fail)
      go_wp2
      go_roundw
      case rel => exact ⟨j + 1, by omega, by go_num, below_drewN hb _⟩
      case measure => simp [intOf]; omega
    · obtain rfl : j = n := by omega
      go_wp2
      go_ret
      exact ⟨rfl, hb⟩

theorem open_nums {H : Type} {enc : TypeId × Value → H} {W : World} {a0 : Option Addr} {len0 cap0 : Nat} {d0 : DataW H} {p0 : List MemPlace} {ts : List TypeId} {ds : List (DataW H)} {j : Nat}
    (h0 : DataW.Trod enc Try.prog W 0 (fun _ => true) true 34 (.slice a0 len0 cap0) d0 p0)
    (hsz : (DataW.weightsEach Try.prog ts ds).all (· ≤ reachBytes) = true) (ht : ts[j]? = some 34) (hd : ds[j]? = some d0) :
    ∃ xs, II W a0 len0 xs ∧ len0 * 8 ≤ 140737488355328 := by
  obtain ⟨fuel, hf⟩ := h0
  rcases open_ints Try.underlying34 Try.underlying3 cells3 hf with ⟨hcs, _⟩ | ⟨x, l, c, zs, hcs, _, hl, hm, hz, hx, hcell, hwz⟩
  · simp [Value.cells] at hcs
    obtain ⟨rfl, rfl, rfl⟩ := hcs
    exact ⟨[], II.none _, by omega⟩
  · simp [Value.cells] at hcs
    obtain ⟨rfl, rfl, rfl⟩ := hcs
    simp only [Prod.mk.injEq] at hx
    obtain ⟨rfl, _⟩ := hx
    simp only [if_true] at hz
    have hw := sized_slice hsz (j := j) (t := 34) (e := 3) ht hd Try.underlying34
    rw [bytes3] at hw
    simp only [lits, List.length_map, List.length_take, List.length_drop, reachBytes] at hw
    refine ⟨zs.take len0, ⟨by simp only [List.length_take]; omega, by omega,  fun hn => ?_⟩, by omega⟩
    obtain ⟨b, off, spot⟩ := x
    have hc := hcell 0 (by omega)
    have hspot : spot = .none := by simpa [Addr.add] using World.cell?_spot hc
    subst hspot
    refine ⟨b, off, rfl, fun i hi => ?_⟩
    have hci := hcell i (by omega)
    have e : (⟨b, off, .none⟩ : Addr).add i = ⟨b, off + i, .none⟩ := by unfold Addr.add; split <;> simp_all
    rw [e] at hci
    rw [hci]
    simp [List.getD_eq_getElem?_getD, hi]

theorem u64_of_wf {x : Int} (h : (Lit.int .u64 x).wf = true) : 0 ≤ x ∧ x < 18446744073709551616 := by
  have h1 : IntKind.u64.min = 0 := by decide
  have h2 : IntKind.u64.max = 18446744073709551615 := by decide
  simp only [Lit.wf, decide_eq_true_eq, Bool.and_eq_true, h1, h2] at h
  omega
theorem fit_of {zs : List Int} (hwz : ∀ n ∈ zs, (Lit.int .u64 n).wf = true) (m : Nat) : ∀ i, ((zs.take m).map Int.toNat).getD i 0 < 18446744073709551616 := by
  intro i
  rw [List.getD_eq_getElem?_getD, List.getElem?_map, List.getElem?_take]
  split
  · cases hz : zs[i]? with
    | none => simp
    | some y =>
      have hu := u64_of_wf (hwz y (List.mem_of_getElem? hz))
      simp; omega
  · simp

theorem UI.none (w : World) : UI w .none 0 [] := ⟨rfl, by omega, fun i => by simp, fun h => by omega⟩
theorem UI.src {w : World} {a : Addr} {n : Nat} {xs : List Nat} (h : UI w (some a) n xs) : ∀ j v, (xs.map (fun x : Nat => Value.int .u64 (x : Int)))[j]? = some v → w.cell? (a.add j) = some v := by
  intro j v hj
  have hjl : j < xs.length := by
    have := (List.getElem?_eq_some_iff.1 hj).1
    simpa using this
  have hl := h.len
  obtain ⟨b, o, e, hc⟩ := h.cells (by omega)
  cases e
  have e : (⟨b, o, .none⟩ : Addr).add j = ⟨b, o + j, .none⟩ := by unfold Addr.add; split <;> simp_all
  rw [e, hc j (by omega), ← hj, List.getElem?_map, List.getD_eq_getElem?_getD, List.getElem?_eq_getElem hjl]
  rfl

theorem row_gauges {w : World} {H n : Nat} {v : Value} {xs : List Nat} (h : w.ownsRow H 49 1 v n (xs.map (fun x : Nat => Value.int .u64 (x : Int)))) (hn : n ≤ 140737488355328) (hfit : ∀ i, xs.getD i 0 < 18446744073709551616) : ∃ p c, v = .slice p n c ∧ UI w p n xs := by
  have hl : xs.length = n := by have := h.1; simpa using this
  rcases h.2 with ⟨e, e0⟩ | ⟨g, cap, cur, e, k⟩
  · subst e0
    exact ⟨_, _, e, ⟨hl, by omega, hfit, fun h => by omega⟩⟩
  · refine ⟨_, _, e, ⟨hl, hn, hfit, fun h0 => ⟨g, 0, rfl, fun i hi => ?_⟩⟩⟩
    subst e
    rw [Nat.zero_add, h.cellAt i (by omega), List.getElem?_map, List.getD_eq_getElem?_getD, List.getElem?_eq_getElem (by omega)]
    rfl

theorem info49 : (Try.prog.info? 49).map (fun i => (i.zero, i.size, i.bytes)) = some (some (.int .u64 0), 1, 8) := by kernel_rfl
theorem bytes49 : Try.prog.bytesOf 49 = 8 := by kernel_rfl
theorem cells49 : Try.prog.cellsOf 49 = 1 := by kernel_rfl
theorem eqlNil58 (w : World) (a : Option Addr) (n c n' c' : Nat) : (binOp .eql 58 (.slice a n c) (.slice none n' c')).run Try.prog w = .ok (.bool a.isNone) w := Lib.run_eql_slice_nil w _ _ a n c n' c' Try.underlying58

set_option maxHeartbeats 400000 in
theorem gaugesclone_ok (p : Option Addr) (n c : Nat) (xs : List Nat) (w : World) (h : UI w p n xs) (h8 : n * 8 ≤ 140737488355328) :
    Calls Try.prog 31 #[.slice p n c] w fun e w' => ∃ p' c', e = .returned (.slice p' n c') ∧ UI w' p' n xs ∧ Below w.heap.size w w' := by
  obtain ⟨i0, hi, hz0, hz1, hz2⟩ := info_parts info49
  have hbig := h.big
  have hlen := h.len
  have q22 := eqlNil58
  cases p with
  | none =>
    have hn : n = 0 := by
      rcases Nat.eq_zero_or_pos n with h0 | h0
      · exact h0
      · obtain ⟨b, o, e, _⟩ := h.cells h0
        cases e
    subst hn
    have hx : xs = [] := List.eq_nil_of_length_eq_zero hlen
    subst hx
    go_enter Try.func31, Try.ntmps31
    go_wp2
    go_ret
    exact ⟨_, _, rfl, UI.none _, Below.refl _ _⟩
  | some a =>
    have hb0 := (Below.refl w.heap.size w).alloc (Nat.le_refl _) (Obj.cells #[] 49)
    have hsrc := (h.kept hb0).src
    have hone : ∀ u ∈ xs.map (fun x : Nat => Value.int .u64 (x : Int)), u.oneCell' = true := by intro u hu; obtain ⟨x, _, rfl⟩ := List.mem_map.1 hu; rfl
    have hll : (xs.map (fun x : Nat => Value.int .u64 (x : Int))).length = n * 1 := by simp [hlen]
    obtain ⟨LL, HLL⟩ : ∃ LL, Hid (xs.map (fun x : Nat => Value.int .u64 (x : Int)) = LL) := ⟨_, rfl⟩
    rw [HLL.out] at hsrc hone hll
    go_enter Try.func31, Try.ntmps31
    go_wp2_with (at_builtin; refine wpList_append_own _ rfl _ _ 58 rfl w.heap.size 49 i0 (.int .u64 0) 1 8 Try.underlying58 hi hz0 hz1 hz2 rfl (by decide) _ _ _ rfl (World.ownsRow_made w #[] 0 (Nat.le_refl _) (Nat.zero_le _) rfl) a n c LL rfl hll hsrc hone (by unfold maxLen; omega) (by omega) (by simp) ?_)
    intro v' w1 hown hgrow _
    have hb1 := hb0.grown hgrow (by simp) (by intro k hk; simp [Value.ownBlock] at hk; omega)
    have hown : w1.ownsRow w.heap.size 49 1 v' n LL := by simpa using hown
    rw [← HLL.out] at hown
    obtain ⟨p', c', rfl, hii⟩ := row_gauges hown hbig h.fit
    clear hown hgrow
    go_wp2
    go_ret
    exact ⟨_, _, rfl, hii, hb1⟩

set_option maxHeartbeats 400000 in
theorem gaugesequal_same (p1 p2 : Option Addr) (n c1 c2 : Nat) (xs : List Nat) (w : World) (h1 : UI w p1 n xs) (h2 : UI w p2 n xs) :
    Calls Try.prog 36 #[.slice p1 n c1, .slice p2 n c2] w fun e w' => e = .returned (.bool true) ∧ Below w.heap.size w w' := by
  have hl := h1.len
  have hg := h1.big
  go_enter Try.func36, Try.ntmps36
  go_wp2_with fail
  go_loopw [13] (fun i wr => ∃ j : Nat, j ≤ n ∧ i = .int .i64 (j : Int) ∧ Below w.heap.size w wr) (fun i _ => n - (intOf i).toNat)
  case atStart => exact ⟨0, by omega, rfl, Below.refl _ _⟩
  case round =>
    obtain ⟨j, hj, rfl, hb⟩ := hrel
    by_cases hlt : j < n
    · obtain ⟨b1, o1, rfl, hc1⟩ := (h1.kept hb).cells (by omega)
      obtain ⟨b2, o2, rfl, hc2⟩ := (h2.kept hb).cells (by omega)
      have e1 := hc1 j hlt
      have e2 := hc2 j hlt
      clear hc1 hc2
      generalize xs.getD j 0 = y at e1 e2
      have hjI : (j : Int) < (n : Int) := by omega
      have hj0 : (0 : Int) ≤ (j : Int) := by omega
      go_wp2_with fail
      go_quiet (fail)
      go_wp2
      go_roundw
      case rel => exact ⟨j + 1, by omega, by go_num, below_drewN hb _⟩
      case measure => simp [intOf]; omega
    · obtain rfl : j = n := by omega
      go_wp2
      go_ret
      exact ⟨rfl, hb⟩

theorem open_gauges {H : Type} {enc : TypeId × Value → H} {W : World} {a0 : Option Addr} {len0 cap0 : Nat} {d0 : DataW H} {p0 : List MemPlace} {ts : List TypeId} {ds : List (DataW H)} {j : Nat}
    (h0 : DataW.Trod enc Try.prog W 0 (fun _ => true) true 58 (.slice a0 len0 cap0) d0 p0)
    (hsz : (DataW.weightsEach Try.prog ts ds).all (· ≤ reachBytes) = true) (ht : ts[j]? = some 58) (hd : ds[j]? = some d0) :
    ∃ xs, UI W a0 len0 xs ∧ len0 * 8 ≤ 140737488355328 := by
  obtain ⟨fuel, hf⟩ := h0
  rcases open_ints Try.underlying58 Try.underlying49 cells49 hf with ⟨hcs, _⟩ | ⟨x, l, c, zs, hcs, _, hl, hm, hz, hx, hcell, hwz⟩
  · simp [Value.cells] at hcs
    obtain ⟨rfl, rfl, rfl⟩ := hcs
    exact ⟨[], UI.none _, by omega⟩
  · simp [Value.cells] at hcs
    obtain ⟨rfl, rfl, rfl⟩ := hcs
    simp only [Prod.mk.injEq] at hx
    obtain ⟨rfl, _⟩ := hx
    simp only [if_true] at hz
    have hw := sized_slice hsz (j := j) (t := 58) (e := 49) ht hd Try.underlying58
    rw [bytes49] at hw
    simp only [lits, List.length_map, List.length_take, List.length_drop, reachBytes] at hw
    refine ⟨(zs.take len0).map Int.toNat, ⟨by simp only [List.length_take, List.length_map]; omega, by omega, fit_of hwz _, fun hn => ?_⟩, by omega⟩
    obtain ⟨b, off, spot⟩ := x
    have hc := hcell 0 (by omega)
    have hspot : spot = .none := by simpa [Addr.add] using World.cell?_spot hc
    subst hspot
    refine ⟨b, off, rfl, fun i hi => ?_⟩
    have hci := hcell i (by omega)
    have e : (⟨b, off, .none⟩ : Addr).add i = ⟨b, off + i, .none⟩ := by unfold Addr.add; split <;> simp_all
    rw [e] at hci
    rw [hci]
    have hil : i < zs.length := by omega
    have hu := u64_of_wf (hwz _ (List.getElem_mem hil))
    have e1 : zs.getD i 0 = zs[i] := by rw [List.getD_eq_getElem?_getD, List.getElem?_eq_getElem hil]; rfl
    have e2 : ((zs.take len0).map Int.toNat).getD i 0 = zs[i].toNat := by
      rw [List.getD_eq_getElem?_getD, List.getElem?_map, List.getElem?_take, if_pos hi, List.getElem?_eq_getElem hil]; rfl
    rw [e2, Int.toNat_of_nonneg hu.1]
    first | rfl | (rw [← e1]) | simp [List.getElem?_eq_getElem hil]
end Go.Proofs.Ytllcpggdfdnjcab
