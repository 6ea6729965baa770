/- slices.Clone, slices.Grow, slices.Concat of bytes; the document's Bytes. -/
import Derived.Test.YtknklopohdmncaaFB
import Derived.Laws.AppendOwnNone
namespace Go.Proofs.Ytknklopohdmncaa
open Go.RowKit Go.Maps

set_option maxHeartbeats 400000 in
theorem sclone_some (a : Addr) (n c : Nat) (xs : List Int) (w : World) (h : BI w (some a) n xs) :
    Calls Try.prog 13 #[.slice (some a) n c] w fun e w' => ∃ g cap, e = .returned (.slice (some ⟨g, 0, none⟩) n cap) ∧ Own w.heap.size w' g n cap xs ∧ Below w.heap.size w w' := by
  obtain ⟨i0, hi, hz0, hz1, hz2⟩ := info_parts info5
  have hbig := h.big
  have hlen := h.len
  have q22 := eqlNil
  have hb0 := (Below.refl w.heap.size w).alloc (Nat.le_refl _) (Obj.cells #[] 5)
  go_enter Try.func13, Try.ntmps13
  go_wp2_with (at_builtin; refine wpList_append_own _ rfl _ _ 22 rfl w.heap.size 5 i0 (.int .u8 0) 1 1 Try.underlying22 hi hz0 hz1 hz2 rfl (by decide) _ _ _ rfl (World.ownsRow_made w #[] 0 (Nat.le_refl _) (Nat.zero_le _) rfl) a n c (xs.map (Value.int .u8)) rfl ?c1 ?c2 ?c3 ?c4 ?c5 ?c6 ?_)
  case c1 => simp [hlen]
  case c2 => exact (h.kept hb0).src'
  case c3 => exact one_cells xs
  case c4 => unfold maxLen; omega
  case c5 => omega
  case c6 => simp
  intro v' w1 hown hgrow hnil
  obtain ⟨g, cap, hv, ho⟩ := own_shape hown (by first | exact hnil | (intro e; exact absurd (hnil.1 e).1 (by simp)))
  rw [hv]
  clear hown hnil
  have hb1 := hb0.grown hgrow (by simp) (by intro k hk; simp [Value.ownBlock] at hk; omega)
  go_wp2
  go_ret
  exact ⟨g, cap, rfl, ho, hb1⟩

set_option maxHeartbeats 400000 in
theorem sclone_nil (n c : Nat) (w : World) :
    Calls Try.prog 13 #[.slice none n c] w fun e w' => e = .returned (.slice none 0 0) ∧ w' = w := by
  have q22 := eqlNil
  go_enter Try.func13, Try.ntmps13
  go_wp2
  go_ret
  exact ⟨rfl, rfl⟩

/-- A copy, as a row of the call's own (or nil, of nil). -/
theorem sclone_any (p : Option Addr) (n c : Nat) (xs : List Int) (w : World) (h : BI w p n xs) :
    Calls Try.prog 13 #[.slice p n c] w fun e w' => ∃ v, e = .returned v ∧ w'.ownsRow w.heap.size 5 1 v n (xs.map (Value.int .u8)) ∧ Below w.heap.size w w' := by
  cases p with
  | none =>
    obtain ⟨rfl, rfl⟩ := h.nil_zero
    exact (sclone_nil 0 c w).mono fun e w' ⟨he, hw⟩ => ⟨_, he, World.ownsRow_nil _ _ _ _, by rw [hw]; exact Below.refl _ _⟩
  | some a =>
    exact (sclone_some a n c xs w h).mono fun e w' ⟨g, cap, he, ho, hb⟩ => ⟨_, he, ho, hb⟩

/-- The slice at p, of n slices of bytes, holds L; a nil one has no room. -/
structure IC (w : World) (p : Option Addr) (n : Nat) (L : List (List Int)) : Prop where
  len : L.length = n
  big : n ≤ 140737488355328
  cells : 0 < n → ∃ b o, p = some ⟨b, o, none⟩ ∧ ∀ i x, L[i]? = some x → ∃ q m c, w.cell? ⟨b, o + i, none⟩ = some (.slice q m c) ∧ BI w q m x ∧ (q = none → c = 0)

theorem IC.ib {w : World} {p : Option Addr} {n : Nat} {L : List (List Int)} (h : IC w p n L) : IB w p n L :=
  ⟨h.len, h.big, fun h0 => by
    obtain ⟨b, o, e, hc⟩ := h.cells h0
    exact ⟨b, o, e, fun i x hx => by obtain ⟨q, m, c, h1, h2, _⟩ := hc i x hx; exact ⟨q, m, c, h1, h2⟩⟩⟩

theorem IC.kept {w w' : World} {p : Option Addr} {n : Nat} {L : List (List Int)} (h : IC w p n L) (hb : Below w.heap.size w w') : IC w' p n L := by
  refine ⟨h.len, h.big, fun h0 => ?_⟩
  obtain ⟨b, o, e, hc⟩ := h.cells h0
  refine ⟨b, o, e, fun i x hx => ?_⟩
  obtain ⟨q, m, c, h1, h2, h3⟩ := hc i x hx
  exact ⟨q, m, c, (hb.cell (p := ⟨b, o + i, none⟩) (lt_of_cell h1)).trans h1, h2.kept hb, h3⟩

theorem zero_list (m : Nat) : (Builtin.zeroCells (Value.int .u8 0).cells m).toList = (List.replicate m (0 : Int)).map (Value.int .u8) := by
  apply List.ext_getElem
  · simp [Builtin.zeroCells, Value.cells]
  · intro i h1 h2
    simp [Builtin.zeroCells, Value.cells, Nat.mod_one]

theorem wpList_append_run {P : Program} {w : World} {ops : Array Oper} {rest : List Oper} {o : Oper} {a : Act} {Q : Exit → Act → World → Prop} (hgd : o.guard = none) (s x : Operand) (t t' : TypeId)
    (ho : o.op = .call { callee := .builtin .append, args := #[s, x], argTypes := #[t, t'] }) (v u : Value) (hs : a.eval s = v) (hx : a.eval x = u) {v' : Value} {w' : World}
    (hr : (Builtin.append_ #[t, t'] o.type #[v, u]).run P w = .ok v' w') (h : wpList P ops Q rest (a.put o.dst v') w') : wpList P ops Q (o :: rest) a w := by
  refine wpList_plain hgd fun _ hK => ?_
  unfold Oper.wp execOp
  simp only [ho, resolve, invoke, builtin, Sem.run_bind, Sem.run_pure, Result.andThen_ok, List.map_toArray, List.map_cons, List.map_nil, hs, hx, hr]
  exact hK _ _ h

/-- How long some rows are together. -/
def tot (L : List (List Int)) : Nat := (L.map List.length).sum

theorem flat_len (L : List (List Int)) : L.flatten.length = tot L := by
  rw [List.length_flatten]; rfl

theorem tot_take (L : List (List Int)) (j : Nat) {xs : List Int} (h : L[j]? = some xs) : tot (L.take (j + 1)) = tot (L.take j) + xs.length := by
  unfold tot
  rw [List.take_add_one, h]
  simp

theorem tot_le (L : List (List Int)) (j : Nat) : tot (L.take j) ≤ tot L := by
  have : tot L = tot (L.take j) + tot (L.drop j) := by
    unfold tot
    rw [← List.sum_append, ← List.map_append, List.take_append_drop]
  omega

/-- One behind the other. -/
def cat (L : List (List Int)) : List Int := L.flatten

theorem flat_take (L : List (List Int)) (j : Nat) {xs : List Int} (h : L[j]? = some xs) : cat (L.take (j + 1)) = cat (L.take j) ++ xs := by
  unfold cat
  rw [List.take_add_one, h]
  simp

/-- What holds L's bytes one behind the other. -/
def Cat (B : Nat) (w : World) (v : Value) (L : List (List Int)) : Prop := w.ownsRow B 5 1 v (tot L) ((cat L).map (Value.int .u8))

/-- append(nil, make([]byte, m)...), cut to no byte: room. -/
theorem grow_run (w : World) (m : Nat) (h0 : 0 < m) (hm : m ≤ 1048576) (ty : TypeId) :
    ∃ cap w', (Builtin.append_ #[22, 3] ty #[.slice none 0 0, .int .i64 (m : Int)]).run Try.prog w = .ok (.slice (some ⟨w.heap.size, 0, none⟩) m cap) w' ∧ Cat w.heap.size w' (.slice (some ⟨w.heap.size, 0, none⟩) 0 cap) [] ∧ Below w.heap.size w w' ∧ m ≤ cap ∧ cap ≤ maxLen := by
  obtain ⟨i0, hi, hz0, hz1, hz2⟩ := info_parts info5
  have hr := Lib.run_append_nil_zeros (P := Try.prog) w 22 3 ty 5 i0 (.int .u8 0) .i64 .i64 Try.underlying22 Try.underlying3 hi hz0 m (by omega) (by omega) (by omega) (by rw [hz2]; omega)
  refine ⟨_, _, hr, ⟨rfl, .inr ⟨_, _, _, rfl, Nat.le_refl _, heap_alloc_new w.drew _, Nat.zero_le _, grownCap_le_maxLen _ _ _ _ (by unfold maxLen; omega), ?_, ?_⟩⟩, ⟨rfl, rfl, rfl, by simp, fun k hk => Below.heap_alloc w.drew _ k hk⟩, grownCap_ge _ _ _ _, grownCap_le_maxLen _ _ _ _ (by unfold maxLen; omega)⟩
  · have := grownCap_ge w m 0 5
    simp [size_zeroCells, Value.cells]; omega
  · simp [tot, cat]

set_option maxRecDepth 10000 in
set_option maxHeartbeats 1000000 in
theorem grow_ok (m : Nat) (hm : m ≤ 1048576) (w : World) :
    Calls Try.prog 18 #[.slice none 0 0, .int .i64 (m : Int)] w fun e w' => ∃ v, e = .returned v ∧ Cat w.heap.size w' v [] ∧ Below w.heap.size w w' := by
  rcases Nat.eq_zero_or_pos m with rfl | h0
  · go_enter Try.func18, Try.ntmps18
    go_wp2
    go_ret
    exact ⟨_, rfl, World.ownsRow_nil _ _ _ _, Below.refl _ _⟩
  · have h0' : (0 : Int) < (m : Int) := by omega
    have h0n : ¬ (m : Int) < 0 := by omega
    have hw : wrap64 (m : Int) = m := by unfold wrap64; omega
    obtain ⟨cap, w1, hr, ho, hb, hc1, hc2⟩ := grow_run w m h0 hm 22
    have R1 := (show Hid _ from hr)
    have HO := (show Hid _ from ho)
    have HB := (show Hid _ from hb)
    clear hr ho hb
    go_enter Try.func18, Try.ntmps18
    go_wp2_with (at_builtin; (refine wpList_append_run rfl (.tmp 20) (.tmp 21) 22 3 rfl _ _ rfl rfl R1.out ?_))
    go_wp2
    go_ret
    exact ⟨_, rfl, HO.out, HB.out⟩

set_option maxRecDepth 10000 in
set_option maxHeartbeats 1000000 in
theorem concat_ok (p : Option Addr) (n c : Nat) (L : List (List Int)) (w : World) (h : IC w p n L) (ht : tot L ≤ 1048576) :
    Calls Try.prog 15 #[.slice p n c] w fun e w' => ∃ v, e = .returned v ∧ Cat w.heap.size w' v L ∧ Below w.heap.size w w' := by
  obtain ⟨i0, hi, hz0, hz1, hz2⟩ := info_parts info5
  have hlen := h.len
  have hbig := h.big
  go_enter Try.func15, Try.ntmps15
  go_wp2_with fail
  go_loopw [3, 11] (fun s i wr => w = wr ∧ ∃ j : Nat, j ≤ n ∧ i = .int .i64 (j : Int) ∧ s = .int .i64 ((tot (L.take j) : Nat) : Int)) (fun _ i _ => n - (intOf i).toNat)
  case atStart => exact ⟨rfl, 0, by omega, rfl, by simp [tot]⟩
  case round =>
    obtain ⟨rfl, j, hj, rfl, rfl⟩ := hrel
    have htj := tot_le L j
    by_cases hlt : j < n
    · obtain ⟨b, o, rfl, hc⟩ := h.cells (by omega)
      obtain ⟨xs, hxs⟩ : ∃ xs, L[j]? = some xs := ⟨L[j], List.getElem?_eq_getElem (by omega)⟩
      obtain ⟨q, m, d, hcell, hbi, hq⟩ := hc j xs hxs
      have htk := tot_take L j hxs
      have hml := hbi.len
      have htj1 := tot_le L (j + 1)
      have hjI : (j : Int) < (n : Int) := by omega
      have hnn : ¬ ((tot (L.take j) : Nat) : Int) + (m : Int) < 0 := by omega
      clear hc
      go_wp2
      go_roundw
      case rel =>
        refine ⟨trivial, j + 1, by omega, by go_num, ?_⟩
        rw [htk, hml]
        go_num
      case measure => simp [intOf]; omega
    · obtain rfl : j = n := by omega
      rw [List.take_of_length_le (by omega)] at htj ⊢
      go_wp2_with fail
      refine (grow_ok (tot L) ht w).mono ?_
      rintro e w1 ⟨v, rfl, ho, hb⟩
      go_wp2_with fail
      go_loopw [6, 27] (fun v i W => ∃ (k : Nat) (u : Value), k ≤ j ∧ i = .int .i64 (k : Int) ∧ u = v ∧ Cat w.heap.size W u (L.take k) ∧ Below w.heap.size w W) (fun _ i _ => j - (intOf i).toNat)
      case atStart => exact ⟨0, _, by omega, rfl, rfl, ho, hb⟩
      case round =>
        clear ho hb
        obtain ⟨k, u, hk, rfl, rfl, ho, hb⟩ := hrel
        by_cases hkt : k < j
        · obtain ⟨b, o, rfl, hc⟩ := h.cells (by omega)
          obtain ⟨xs, hxs⟩ : ∃ xs, L[k]? = some xs := ⟨L[k], List.getElem?_eq_getElem (by omega)⟩
          obtain ⟨q, m, d, hcell, hbi, hq⟩ := hc k xs hxs
          have htk := tot_take L k hxs
          have hft := flat_take L k hxs
          have hml := hbi.len
          have htj1 := tot_le L (k + 1)
          have hkI : (k : Int) < (j : Int) := by omega
          have hcell' := (hb.cell (p := ⟨b, o + k, none⟩) (lt_of_cell hcell)).trans hcell
          have hbi' := hbi.kept hb
          clear hc hcell
          cases q with
          | none =>
            obtain ⟨rfl, rfl⟩ := hbi.nil_zero
            obtain rfl : d = 0 := hq rfl
            go_wp2_with (at_builtin; refine wpList_append_own_none rfl _ _ 22 rfl w.heap.size 5 i0 1 Try.underlying22 hi u _ _ rfl ho rfl ?_)
            go_wp2
            go_roundw
            case rel =>
              refine ⟨k + 1, _, by omega, by go_num, rfl, ?_, hb⟩
              unfold Cat
              rw [htk, hft, List.append_nil]
              exact ho
            case measure => simp [intOf]; omega
          | some a =>
            have HS := (show Hid _ from hbi'.src')
            have HL : Hid ((xs.map (Value.int .u8)).length = m * 1) := by show _ = _; simp [hml]
            have HO := (show Hid _ from ho)
            go_wp2_with (at_builtin; refine wpList_append_own _ rfl _ _ 22 rfl w.heap.size 5 i0 (.int .u8 0) 1 1 Try.underlying22 hi hz0 hz1 hz2 rfl (by decide) u _ _ rfl HO.out a m d (xs.map (Value.int .u8)) rfl HL.out HS.out (one_cells xs) (by unfold maxLen; omega) (by omega) hb.size ?_)
            intro v1 w2 hown1 hgrow1 _
            have hb2 := hb.grown hgrow1 hb.size (fun k hk => (HO.out.lt k hk).1)
            go_wp2
            go_roundw
            case rel =>
              refine ⟨k + 1, _, by omega, by go_num, rfl, ?_, hb2⟩
              unfold Cat
              rw [htk, hft, hml, List.map_append]
              exact hown1
            case measure => simp [intOf]; omega
        · obtain rfl : k = j := by omega
          rw [List.take_of_length_le (by omega)] at ho
          go_wp2
          go_ret
          exact ⟨_, rfl, ho, hb⟩

theorem fbytes_ok (p : Option Addr) (n c : Nat) (L : List (List Int)) (w : World) (h : IC w p n L) (ht : tot L ≤ 1048576) :
    Calls Try.prog 9 #[.slice p n c] w fun e w' => ∃ v, e = .returned v ∧ Cat w.heap.size w' v L ∧ Below w.heap.size w w' := by
  go_enter Try.func9, Try.ntmps9
  go_wp2_with fail
  refine (concat_ok p n c L w h ht).mono ?_
  rintro e w1 ⟨v, rfl, ho, hb⟩
  go_wp2
  go_ret
  exact ⟨v, rfl, ho, hb⟩

set_option maxRecDepth 10000 in
set_option maxHeartbeats 1000000 in
theorem rbytes_ok (p : Option Addr) (n c : Nat) (L : List (List Int)) (w : World) (h : IC w p n L) (ht : tot L ≤ 1048576) :
    Calls Try.prog 10 #[.slice p n c] w fun e w' => ∃ v, e = .returned v ∧ Cat w.heap.size w' v L ∧ Below w.heap.size w w' := by
  obtain ⟨i0, hi, hz0, hz1, hz2⟩ := info_parts info5
  have hlen := h.len
  have hbig := h.big
  go_enter Try.func10, Try.ntmps10
  go_wp2_with fail
  go_loopw [3, 8] (fun v i wr => ∃ (k : Nat) (u : Value), k ≤ n ∧ i = .int .i64 (k : Int) ∧ u = v ∧ Cat w.heap.size wr u (L.take k) ∧ Below w.heap.size w wr) (fun _ i _ => n - (intOf i).toNat)
  case atStart => exact ⟨0, _, by omega, rfl, rfl, World.ownsRow_nil _ _ _ _, Below.refl _ _⟩
  case round =>
    obtain ⟨k, u, hk, rfl, rfl, ho, hb⟩ := hrel
    by_cases hkt : k < n
    · obtain ⟨b, o, rfl, hc⟩ := h.cells (by omega)
      obtain ⟨xs, hxs⟩ : ∃ xs, L[k]? = some xs := ⟨L[k], List.getElem?_eq_getElem (by omega)⟩
      obtain ⟨q, m, d, hcell, hbi, hq⟩ := hc k xs hxs
      have htk := tot_take L k hxs
      have hft := flat_take L k hxs
      have hml := hbi.len
      have htj1 := tot_le L (k + 1)
      have hkI : (k : Int) < (n : Int) := by omega
      have hcell' := (hb.cell (p := ⟨b, o + k, none⟩) (lt_of_cell hcell)).trans hcell
      have hbi' := hbi.kept hb
      clear hc hcell
      cases q with
      | none =>
        obtain ⟨rfl, rfl⟩ := hbi.nil_zero
        obtain rfl : d = 0 := hq rfl
        go_wp2_with (at_builtin; refine wpList_append_own_none rfl _ _ 22 rfl w.heap.size 5 i0 1 Try.underlying22 hi u _ _ rfl ho rfl ?_)
        go_wp2
        go_roundw
        case rel =>
          refine ⟨k + 1, _, by omega, by go_num, rfl, ?_, hb⟩
          unfold Cat
          rw [htk, hft, List.append_nil]
          exact ho
        case measure => simp [intOf]; omega
      | some a =>
        have HS := (show Hid _ from hbi'.src')
        have HL : Hid ((xs.map (Value.int .u8)).length = m * 1) := by show _ = _; simp [hml]
        have HO := (show Hid _ from ho)
        go_wp2_with (at_builtin; refine wpList_append_own _ rfl _ _ 22 rfl w.heap.size 5 i0 (.int .u8 0) 1 1 Try.underlying22 hi hz0 hz1 hz2 rfl (by decide) u _ _ rfl HO.out a m d (xs.map (Value.int .u8)) rfl HL.out HS.out (one_cells xs) (by unfold maxLen; omega) (by omega) hb.size ?_)
        intro v1 w2 hown1 hgrow1 _
        have hb2 := hb.grown hgrow1 hb.size (fun k hk => (HO.out.lt k hk).1)
        go_wp2
        go_roundw
        case rel =>
          refine ⟨k + 1, _, by omega, by go_num, rfl, ?_, hb2⟩
          unfold Cat
          rw [htk, hft, hml, List.map_append]
          exact hown1
        case measure => simp [intOf]; omega
    · obtain rfl : k = n := by omega
      rw [List.take_of_length_le (by omega)] at ho
      go_wp2
      go_ret
      exact ⟨_, rfl, ho, hb⟩
end Go.Proofs.Ytknklopohdmncaa
