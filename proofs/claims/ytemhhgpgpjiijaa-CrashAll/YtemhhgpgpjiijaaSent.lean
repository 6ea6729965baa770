/- Queues compared; ints cloned and compared; bytes written over. -/
import Derived.Test.YtemhhgpgpjiijaaRef
namespace Go.Proofs.Ytemhhgpgpjiijaa
open Go.RowKit Go.Maps

/-- The slice at p, of n Sents, holds q. -/
structure SI (w : World) (p : Option Addr) (n : Nat) (q : List Wr) : Prop where
  len : q.length = n
  big : n ≤ 64
  cells : 0 < n → ∃ b, p = some ⟨b, 0, none⟩ ∧ ∀ (i : Nat) (y : Wr), q[i]? = some y → ∃ r m c, w.cell? ⟨b, i * 3, none⟩ = some (.int .i64 y.id) ∧ w.cell? ⟨b, i * 3 + 1, none⟩ = some (.int .i64 (y.block : Int)) ∧ w.cell? ⟨b, i * 3 + 2, none⟩ = some (.slice r m c) ∧ BI w r m y.bytes

theorem SI.kept {w w' : World} {p : Option Addr} {n : Nat} {q : List Wr} (h : SI w p n q) (hb : Below w.heap.size w w') : SI w' p n q := by
  refine ⟨h.len, h.big, fun hn => ?_⟩
  obtain ⟨b, rfl, hc⟩ := h.cells hn
  refine ⟨b, rfl, fun i y hy => ?_⟩
  obtain ⟨r, m, c, h0, h1, h2, h3⟩ := hc i y hy
  have hlt := lt_of_cell h0
  exact ⟨r, m, c, (hb.cell (p := ⟨b, i * 3, none⟩) hlt).trans h0, (hb.cell (p := ⟨b, i * 3 + 1, none⟩) hlt).trans h1, (hb.cell (p := ⟨b, i * 3 + 2, none⟩) hlt).trans h2, h3.kept hb⟩

theorem eqlNil31 (w : World) (a : Option Addr) (n c n' c' : Nat) : (binOp .eql 37 (.slice a n c) (.slice none n' c')).run Try.prog w = .ok (.bool a.isNone) w := Lib.run_eql_slice_nil w _ _ a n c n' c' Try.underlying37

theorem II.src {w : World} {a : Addr} {n : Nat} {xs : List Int} (h : II w (some a) n xs) : ∀ j v, (xs.map (Value.int .i64))[j]? = some v → w.cell? (a.add j) = some v := by
  intro j v hj
  have hjl : j < xs.length := by
    have := (List.getElem?_eq_some_iff.1 hj).1
    simpa using this
  have hl := h.len
  obtain ⟨b, o, e, hc⟩ := h.cells (by omega)
  cases e
  rw [Addr.add_mid, hc j (by omega), ← hj, List.getElem?_map, List.getD_eq_getElem?_getD, List.getElem?_eq_getElem hjl]
  rfl

set_option maxHeartbeats 400000 in
theorem iclone_ok (p : Option Addr) (n c : Nat) (xs : List Int) (w : World) (h : II w p n xs) :
    Calls Try.prog 59 #[.slice p n c] w fun e w' => ∃ v, e = .returned v ∧ w'.ownsRow w.heap.size 3 1 v n (xs.map (Value.int .i64)) ∧ Below w.heap.size w w' := by
  obtain ⟨i0, hi, hz0, hz1, hz2⟩ := info_parts info3
  have hbig := h.big
  have hlen := h.len
  have q22 := eqlNil31
  cases p with
  | none =>
    have hn : n = 0 := by
      rcases Nat.eq_zero_or_pos n with h0 | h0
      · exact h0
      · obtain ⟨b, o, e, _⟩ := h.cells h0
        cases e
    subst hn
    have hx : xs = [] := List.eq_nil_of_length_eq_zero hlen
    subst hx
    go_enter Try.func59, Try.ntmps59
    go_wp2
    go_ret
    exact ⟨_, rfl, World.ownsRow_nil _ _ _ _, Below.refl _ _⟩
  | some a =>
    have hb0 := (Below.refl w.heap.size w).alloc (Nat.le_refl _) (Obj.cells #[] 3)
    have hsrc := (h.kept hb0).src
    have hone : ∀ u ∈ xs.map (Value.int .i64), u.oneCell' = true := by intro u hu; obtain ⟨x, _, rfl⟩ := List.mem_map.1 hu; rfl
    have hll : (xs.map (Value.int .i64)).length = n * 1 := by simp [hlen]
    generalize xs.map (Value.int .i64) = LL at *
    go_enter Try.func59, Try.ntmps59
    go_wp2_with (at_builtin; refine wpList_append_own _ rfl _ _ 37 rfl w.heap.size 3 i0 (.int .i64 0) 1 8 Try.underlying37 hi hz0 hz1 hz2 rfl (by decide) _ _ _ rfl (World.ownsRow_made w #[] 0 (Nat.le_refl _) (Nat.zero_le _) rfl) a n c LL rfl hll hsrc hone (by unfold maxLen; omega) (by omega) (by simp) ?_)
    intro v' w1 hown hgrow _
    have hb1 := hb0.grown hgrow (by simp) (by intro k hk; simp [Value.ownBlock] at hk; omega)
    go_wp2
    go_ret
    exact ⟨_, rfl, by simpa using hown, hb1⟩

set_option maxHeartbeats 400000 in
theorem iequal_same (p1 p2 : Option Addr) (n c1 c2 : Nat) (xs : List Int) (w : World) (h1 : II w p1 n xs) (h2 : II w p2 n xs) :
    Calls Try.prog 17 #[.slice p1 n c1, .slice p2 n c2] w fun e w' => e = .returned (.bool true) ∧ Below w.heap.size w w' := by
  have hl := h1.len
  have hg := h1.big
  go_enter Try.func17, Try.ntmps17
  go_wp2_with fail
  go_loopw [13] (fun i wr => ∃ j : Nat, j ≤ n ∧ i = .int .i64 (j : Int) ∧ Below w.heap.size w wr) (fun i _ => n - (intOf i).toNat)
  case atStart => exact ⟨0, by omega, rfl, Below.refl _ _⟩
  case round =>
    obtain ⟨j, hj, rfl, hb⟩ := hrel
    by_cases hlt : j < n
    · obtain ⟨b1, o1, rfl, hc1⟩ := (h1.kept hb).cells (by omega)
      obtain ⟨b2, o2, rfl, hc2⟩ := (h2.kept hb).cells (by omega)
      have e1 := hc1 j hlt
      have e2 := hc2 j hlt
      clear hc1 hc2
      generalize xs.getD j 0 = y at e1 e2
      have hjI : (j : Int) < (n : Int) := by omega
      have hj0 : (0 : Int) ≤ (j : Int) := by omega
      go_wp2_with fail
      go_quiet (fail)
      go_wp2
      go_roundw
      case rel => exact ⟨j + 1, by omega, by go_num, below_drewN hb _⟩
      case measure => simp [intOf]; omega
    · obtain rfl : j = n := by omega
      go_wp2
      go_ret
      exact ⟨rfl, hb⟩

end Go.Proofs.Ytemhhgpgpjiijaa
