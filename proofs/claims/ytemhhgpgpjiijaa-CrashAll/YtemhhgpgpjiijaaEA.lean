/- crash.chosen: what stands at those places of a list whose bits a mask has. -/
import Derived.Test.YtemhhgpgpjiijaaActs
import Derived.Laws.Bits64b
namespace Go.Proofs.Ytemhhgpgpjiijaa
open Go.RowKit Go.Maps

/-- The first j places of ns whose bits K has. -/
def sb (ns : List Int) (K : Nat) : Nat → List Int
  | 0 => []
  | j + 1 => sb ns K j ++ if K / 2 ^ j % 2 = 1 then [ns.getD j 0] else []

theorem sb_len (ns : List Int) (K : Nat) : ∀ j, (sb ns K j).length ≤ j
  | 0 => Nat.le_refl _
  | j + 1 => by
    have := sb_len ns K j
    unfold sb
    rw [List.length_append]
    split <;> simp <;> omega

theorem sb_mem (ns : List Int) (K : Nat) : ∀ j, j ≤ ns.length → ∀ x ∈ sb ns K j, x ∈ ns
  | 0, _, x, hx => by simp [sb] at hx
  | j + 1, hj, x, hx => by
    unfold sb at hx
    rw [List.mem_append] at hx
    rcases hx with hx | hx
    · exact sb_mem ns K j (by omega) x hx
    · split at hx
      · rw [List.mem_singleton] at hx
        rw [hx, List.getD_eq_getElem?_getD, List.getElem?_eq_getElem (show j < ns.length by omega)]
        exact List.getElem_mem _
      · simp at hx

theorem bit1 (K j : Nat) (h : K < 18446744073709551616) : (bits BinOp.and .u64 ((K : Int) / 2 ^ j) 1 == 1) = decide (K / 2 ^ j % 2 = 1) := by
  have h1 : K / 2 ^ j < 18446744073709551616 := Nat.lt_of_le_of_lt (Nat.div_le_self _ _) h
  have e : (K : Int) / 2 ^ j = ((K / 2 ^ j : Nat) : Int) := by simp
  rw [e, show (1 : Int) = ((1 : Nat) : Int) from rfl, bits_and_u64_nat _ 1 h1 (by omega), Nat.and_one_is_mod]
  by_cases hb : K / 2 ^ j % 2 = 1
  · rw [hb]; rfl
  · have : K / 2 ^ j % 2 = 0 := by omega
    rw [this]; rfl

set_option maxRecDepth 10000 in
set_option maxHeartbeats 1000000 in
theorem chosen_ok (p : Option Addr) (n c : Nat) (ns : List Int) (K : Nat) (w : World) (h : II w p n ns) (h64 : n ≤ 64) (hK : K < 18446744073709551616) :
    Calls Try.prog 34 #[.slice p n c, .int .u64 (K : Int)] w fun e w' => ∃ v, e = .returned v ∧ w'.ownsRow w.heap.size 3 1 v (sb ns K n).length ((sb ns K n).map (Value.int .i64)) ∧ Below w.heap.size w w' := by
  obtain ⟨i0, hi, hz0, hz1, hz2⟩ := info_parts info3
  have hlen := h.len
  have HK := (show Hid _ from hK)
  clear hK
  go_enter Try.func34, Try.ntmps34
  go_wp2_with fail
  go_loopw [5, 10] (fun v i wr => ∃ (j : Nat) (u : Value), j ≤ n ∧ i = .int .i64 (j : Int) ∧ u = v ∧ wr.ownsRow w.heap.size 3 1 u (sb ns K j).length ((sb ns K j).map (Value.int .i64)) ∧ Below w.heap.size w wr) (fun _ i _ => n - (intOf i).toNat)
  case atStart => exact ⟨0, _, by omega, rfl, rfl, World.ownsRow_nil _ _ _ _, Below.refl _ _⟩
  case round =>
    obtain ⟨j, u, hj, rfl, rfl, ho, hb⟩ := hrel
    by_cases hlt : j < n
    · obtain ⟨b2, o2, rfl, hc2⟩ := (h.kept hb).cells (by omega)
      have hcj := hc2 j hlt
      obtain ⟨y, hy⟩ : ∃ y, ns.getD j 0 = y := ⟨_, rfl⟩
      rw [hy] at hcj
      have HY := (show Hid _ from hy)
      clear hc2 hy
      have hjI : (j : Int) < (n : Int) := by omega
      have hsl := sb_len ns K j
      by_cases hbt : K / 2 ^ j % 2 = 1
      · have hbit := bit1 K j HK.out
        rw [decide_eq_true hbt] at hbit
        have HB := (show Hid _ from hbt)
        clear hbt
        have hbw := (Below.refl wr.heap.size wr).alloc (Nat.le_refl _) (.cells #[.int .i64 y] 3)
        have ho2 := ownsRow_kept ho (w' := wr.alloc (.cells #[.int .i64 y] 3)) (fun k hk => hbw.block k (ho.lt k hk).2)
        have hnews : ∀ i u, [Value.int .i64 y][i]? = some u → (wr.alloc (.cells #[.int .i64 y] 3)).cell? ((⟨wr.heap.size, 0, none⟩ : Addr).add i) = some u := World.news_of_block (cs := #[Value.int .i64 y]) (t := 3) (fr := (0, 0)) (at_new rfl)
        have hone : ∀ u ∈ [Value.int .i64 y], u.oneCell' = true := by intro u hu; simp at hu; subst hu; rfl
        have HN1 := (show Hid _ from hnews)
        have HO := (show Hid _ from hone)
        clear hnews hone
        go_wp2_with (at_builtin; refine wpList_append_own _ rfl _ _ 37 rfl w.heap.size 3 i0 (.int .i64 0) 1 8 Try.underlying37 hi hz0 hz1 hz2 rfl (by decide) u (sb ns K j).length ((sb ns K j).map (Value.int .i64)) rfl ho2 ⟨wr.heap.size, 0, none⟩ 1 1 [Value.int .i64 y] rfl rfl HN1.out HO.out (by unfold maxLen; omega) (by omega) (by simp only [World.size_alloc]; have := hb.size; omega) ?_)
        intro v3 w3 hown3 hgrow3 _
        have hb3 := (hb.alloc hb.size (.cells #[.int .i64 y] 3)).grown hgrow3 (by simp only [World.size_alloc]; have := hb.size; omega) (fun k hk => (ho2.lt k hk).1)
        go_wp2
        go_roundw
        case rel =>
          have e : sb ns K (j + 1) = sb ns K j ++ [y] := by
            rw [sb, if_pos HB.out, HY.out]
          refine ⟨j + 1, _, by omega, by go_num, rfl, ?_, hb3⟩
          rw [e, List.length_append, List.map_append]
          exact hown3
        case measure => simp [intOf]; omega
      · have hbit := bit1 K j HK.out
        rw [decide_eq_false hbt] at hbit
        have HB := (show Hid _ from hbt)
        clear hbt
        go_wp2
        go_roundw
        case rel =>
          have e : sb ns K (j + 1) = sb ns K j := by
            rw [sb, if_neg HB.out, List.append_nil]
          refine ⟨j + 1, _, by omega, by go_num, rfl, ?_, hb⟩
          rw [e]
          exact ho
        case measure => simp [intOf]; omega
    · obtain rfl : j = n := by omega
      go_wp2
      go_ret
      exact ⟨_, rfl, ho, hb⟩

set_option maxRecDepth 10000 in
set_option maxHeartbeats 1000000 in
theorem numbers_ok {B : Nat} {w : World} {a mb fb : Nat} {qv : Value} {S : St} (h : DI B w a mb fb qv S) :
    Calls Try.prog 35 #[.pointer (some ⟨a, 0, none⟩)] w fun e w' => ∃ v, e = .returned v ∧ w'.ownsRow w.heap.size 3 1 v S.q.length ((S.q.map Wr.id).map (Value.int .i64)) ∧ Below w.heap.size w w' := by
  obtain ⟨i0, hi, hz0, hz1, hz2⟩ := info_parts info3
  have hq64 := h.q64
  go_enter Try.func35, Try.ntmps35
  go_wp2_with fail
  refine (queue_ok h).mono ?_
  rintro e w1 ⟨g, gs, rfl, hs, hb1⟩
  obtain ⟨n, hn⟩ : ∃ n, S.q.length = n := ⟨_, rfl⟩
  rw [hn] at hq64
  simp only [hn]
  have HN := (show Hid _ from hn)
  clear hn
  go_wp2_with fail
  go_loopw [3, 9] (fun v i wr => ∃ (j : Nat) (u : Value), j ≤ n ∧ i = .int .i64 (j : Int) ∧ u = v ∧ Sents w.heap.size wr g gs S.q ∧ wr.ownsRow w1.heap.size 3 1 u j (((S.q.take j).map Wr.id).map (Value.int .i64)) ∧ Below w1.heap.size w1 wr) (fun _ i _ => n - (intOf i).toNat)
  case atStart => exact ⟨0, _, by omega, rfl, rfl, hs, World.ownsRow_nil _ _ _ _, Below.refl _ _⟩
  case round =>
    obtain ⟨j, u, hj, rfl, rfl, hsj, ho, hb⟩ := hrel
    by_cases hlt : j < n
    · obtain ⟨x, hx⟩ : ∃ x, S.q[j]? = some x := ⟨S.q[j]'(by have := HN.out; omega), List.getElem?_eq_getElem (by have := HN.out; omega)⟩
      obtain ⟨c0, c1, c2⟩ := hsj.at hx
      have hjI : (j : Int) < (n : Int) := by omega
      unfold sl at c2
      obtain ⟨x0, hx0⟩ : ∃ x0, x.id = x0 := ⟨_, rfl⟩
      obtain ⟨x1, hx1⟩ : ∃ x1, (x.block : Int) = x1 := ⟨_, rfl⟩
      obtain ⟨x2, hx2⟩ : ∃ x2, gs.getD j 0 = x2 := ⟨_, rfl⟩
      rw [hx0] at c0
      rw [hx1] at c1
      rw [hx2] at c2
      have HX := (show Hid _ from hx0)
      clear hx0 hx1 hx2
      obtain ⟨W1, hW1⟩ : ∃ W1, wr.alloc (.cells #[.int .i64 x0, .int .i64 x1, .slice (some ⟨x2, 0, none⟩) 128 128] 44) = W1 := ⟨_, rfl⟩
      have hbw1 : Below wr.heap.size wr W1 := by rw [← hW1]; exact (Below.refl wr.heap.size wr).alloc (Nat.le_refl _) _
      have hcW : W1.cell? ⟨wr.heap.size, 0, none⟩ = some (.int .i64 x0) := by rw [← hW1, cell_of_row _ _ 0 _ _ _ (at_new rfl)]; rfl
      have hbw2 := (Below.refl W1.heap.size W1).alloc (Nat.le_refl _) (.cells #[.int .i64 x0] 3)
      have ho1 := ownsRow_kept ho (w' := W1) (fun k hk => hbw1.block k (ho.lt k hk).2)
      have ho2 := ownsRow_kept ho1 (w' := W1.alloc (.cells #[.int .i64 x0] 3)) (fun k hk => hbw2.block k (ho1.lt k hk).2)
      have hnews : ∀ i u, [Value.int .i64 x0][i]? = some u → (W1.alloc (.cells #[.int .i64 x0] 3)).cell? ((⟨W1.heap.size, 0, none⟩ : Addr).add i) = some u := World.news_of_block (cs := #[Value.int .i64 x0]) (t := 3) (fr := (0, 0)) (at_new rfl)
      have hone : ∀ u ∈ [Value.int .i64 x0], u.oneCell' = true := by intro u hu; simp at hu; subst hu; rfl
      have HN1 := (show Hid _ from hnews)
      have HO := (show Hid _ from hone)
      have HB1 := (show Hid _ from hb.trans (hbw1.mono hb.size))
      clear hnews hone
      go_wp2_with (at_builtin; refine wpList_append_own _ rfl _ _ 37 rfl w1.heap.size 3 i0 (.int .i64 0) 1 8 Try.underlying37 hi hz0 hz1 hz2 rfl (by decide) u j (((S.q.take j).map Wr.id).map (Value.int .i64)) rfl ho2 ⟨W1.heap.size, 0, none⟩ 1 1 [Value.int .i64 x0] rfl rfl HN1.out HO.out (by unfold maxLen; omega) (by omega) (by simp only [World.size_alloc]; have := HB1.out.size; omega) ?_)
      intro v3 w3 hown3 hgrow3 _
      have hbx := HB1.out
      have hb3 := (hbx.alloc hbx.size (.cells #[.int .i64 x0] 3)).grown hgrow3 (by simp only [World.size_alloc]; have := hbx.size; omega) (fun k hk => (ho2.lt k hk).1)
      go_wp2
      go_roundw
      case rel =>
        refine ⟨j + 1, _, by omega, by go_num, rfl, hs.kept (fun k _ hk => hb3.block k hk), ?_, hb3⟩
        rw [take_snoc hx, List.map_append, List.map_append, List.map_singleton, List.map_singleton, HX.out]
        first | exact hown3 | (rw [show ((S.q.take j).map Wr.id).map (Value.int .i64) = List.take j (S.q.map (Value.int .i64 ∘ Wr.id)) by simp [List.map_take]]; exact hown3)
      case measure => simp [intOf]; omega
    · obtain rfl : j = n := by omega
      go_wp2
      go_ret
      rw [List.take_of_length_le (by have := HN.out; omega)] at ho
      exact ⟨_, rfl, by rw [HN.out]; exact ownsRow_base ho hb1.size, hb1.trans (hb.mono hb1.size)⟩

/-- crash.Of. -/
theorem cof_ok {B : Nat} {w : World} {a mb fb : Nat} {qv : Value} {S : St} (h : DI B w a mb fb qv S) (K : Nat) (hK : K < 18446744073709551616) :
    Calls Try.prog 11 #[.pointer (some ⟨a, 0, none⟩), .int .u64 (K : Int)] w fun e w' => ∃ v, e = .returned v ∧ w'.ownsRow w.heap.size 3 1 v (sb (S.q.map Wr.id) K S.q.length).length ((sb (S.q.map Wr.id) K S.q.length).map (Value.int .i64)) ∧ Below w.heap.size w w' := by
  have hq64 := h.q64
  have hr : ∀ x ∈ S.q.map Wr.id, -9223372036854775808 ≤ x ∧ x ≤ 9223372036854775807 := fun x hx => by
    obtain ⟨y, hy, rfl⟩ := List.mem_map.1 hx
    exact (h.qok y hy).2.2
  have HK := (show Hid _ from hK)
  clear hK
  go_enter Try.func11, Try.ntmps11
  go_wp2_with fail
  refine (numbers_ok h).mono ?_
  rintro e w1 ⟨v, rfl, ho, hb⟩
  obtain ⟨p, c, rfl, hI, _⟩ := ids_ii ho hq64 hr
  clear hr ho
  go_wp2_with fail
  refine (chosen_ok p _ c _ K w1 hI hq64 HK.out).mono ?_
  rintro e w2 ⟨v2, rfl, ho2, hb2⟩
  go_wp2
  go_ret
  exact ⟨_, rfl, ownsRow_base ho2 hb.size, hb.trans (hb2.mono hb.size)⟩
end Go.Proofs.Ytemhhgpgpjiijaa
