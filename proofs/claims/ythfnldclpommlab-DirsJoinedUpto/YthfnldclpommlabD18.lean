/- DirsFinds: where a name stands, the first empty place, all names. -/
import Derived.Test.YthfnldclpommlabD17
namespace Go.Proofs.Ythfnldclpommlab
open Go.RowKit
set_option linter.unusedVariables false

set_option maxRecDepth 20000 in
set_option maxHeartbeats 1000000 in
theorem sequal_same (p q : Option Addr) (n m c d : Nat) (L : List ByteArray) (w : World) (h : SI w p n L) (k : SI w q m L) :
    Calls Try.prog 12 #[.slice p n c, .slice q m d] w fun e w' => e = .returned (.bool true) ∧ Below w.heap.size w w' := by
  have hn := h.len
  have hm := k.len
  have hbig := h.big
  obtain rfl : n = m := by omega
  go_enter Try.func12, Try.ntmps12
  go_wp2_with fail
  go_loopw [13] (fun i wr => ∃ j : Nat, j ≤ n ∧ i = .int .i64 (j : Int) ∧ Below w.heap.size w wr) (fun i _ => n - (intOf i).toNat)
  case atStart => exact ⟨0, by omega, rfl, Below.refl _ _⟩
  case round =>
    obtain ⟨j, hj, rfl, hb⟩ := hrel
    by_cases hlt : j < n
    · obtain ⟨b, o, rfl, hcs⟩ := (h.kept hb).cells (by omega)
      obtain ⟨b', o', rfl, hcs'⟩ := (k.kept hb).cells (by omega)
      obtain ⟨s, hs⟩ : ∃ s, L[j]? = some s := ⟨_, List.getElem?_eq_getElem (by omega)⟩
      have c0 := hcs j s hs
      have c1 := hcs' j s hs
      have hjI : (j : Int) < (n : Int) := by omega
      have hj0 : (0 : Int) ≤ (j : Int) := by omega
      have HB : Hid _ := hb
      clear hcs hcs' hs hb
      go_wp2_with fail
      go_quiet (fail)
      go_wp2_with fail
      go_roundw
      case rel => exact ⟨j + 1, by omega, by go_num, below_drewN HB.out _⟩
      case measure => simp [intOf]; omega
    · obtain rfl : j = n := by omega
      have hnt : ¬ (j : Int) < (j : Int) := by omega
      go_wp2_with fail
      go_ret
      exact ⟨rfl, hb⟩

set_option maxRecDepth 20000 in
set_option maxHeartbeats 4000000 in
theorem dirsFinds_walk (p : Option Addr) (n c : Nat) (xs : List Int) (s : ByteArray) (w : World) (h : BI w p n xs) (hnc : n ≤ c) (hc2 : c ≤ 9223372036854775807) :
    Calls Try.prog 3 #[.slice p n c, .string s] w fun e w' => e = .returned (.bool true) ∧ Below w.heap.size w w' := by
  have h1 := Find_ok p n c xs s w h hnc hc2
  have H : Hid _ := h
  clear h
  obtain ⟨r, hr⟩ : ∃ r, (El n xs).findIdx? (hit s) = r := ⟨_, rfl⟩
  obtain ⟨t, ht⟩ : ∃ t, (El n xs).findIdx? emp = t := ⟨_, rfl⟩
  obtain ⟨I, hI⟩ : ∃ I, idN (El n xs) r = I := ⟨_, rfl⟩
  have HR : Hid _ := And.intro hr (And.intro ht hI)
  rw [hr, hI] at h1
  clear hr ht hI
  obtain ⟨r1, hr1⟩ : ∃ r1 : Int, ((r.getD 0 : Nat) : Int) = r1 := ⟨_, rfl⟩
  obtain ⟨r2, hr2⟩ : ∃ r2, r.isSome = r2 := ⟨_, rfl⟩
  obtain ⟨t1, ht1⟩ : ∃ t1 : Int, ((t.getD 0 : Nat) : Int) = t1 := ⟨_, rfl⟩
  obtain ⟨t2, ht2⟩ : ∃ t2, t.isSome = t2 := ⟨_, rfl⟩
  rw [hr1, hr2] at h1
  have HT : Hid _ := And.intro hr1 (And.intro hr2 (And.intro ht1 ht2))
  clear hr1 hr2 ht1 ht2
  go_enter Try.func3, Try.ntmps3
  go_wp2_with fail
  refine grew_at h1 ?_
  intro w1 hb1
  clear h1
  have h2 := rFind_ok p n c xs s w1 (H.out.kept hb1) hnc hc2
  rw [HR.out.1, HR.out.2.2, HT.out.1, HT.out.2.1] at h2
  dsimp only
  go_wp2_with fail
  refine grew_at h2 ?_
  intro w2 hb2
  clear h2
  have hbw2 := grew_trans hb1 hb2
  have h3 := Free_ok p n c xs w2 (H.out.kept hbw2) hnc hc2
  rw [HR.out.2.1, HT.out.2.2.1, HT.out.2.2.2] at h3
  have H2 : Hid _ := hbw2
  clear hb1 hb2 hbw2
  dsimp only
  go_wp2_with fail
  refine grew_at h3 ?_
  intro w3 hb3
  clear h3
  have hbw3 := grew_trans H2.out hb3
  have h4 := rFree_ok p n c xs w3 (H.out.kept hbw3) hnc hc2
  rw [HR.out.2.1, HT.out.2.2.1, HT.out.2.2.2] at h4
  have H3 : Hid _ := hbw3
  clear hb3 hbw3
  dsimp only
  go_wp2_with fail
  refine grew_at h4 ?_
  intro w4 hb4
  clear h4
  have hbw4 := grew_trans H3.out hb4
  have h5 := Names_ok p n c xs w4 (H.out.kept hbw4) hnc hc2
  have H4 : Hid _ := hbw4
  clear hb4 hbw4
  dsimp only
  go_wp2_with fail
  refine h5.mono ?_
  rintro _ w5 ⟨q5, d5, rfl, hS5, _, _, hb5⟩
  clear h5
  have hbw5 := grew_trans H4.out hb5
  have h6 := rNames_ok p n c xs w5 (H.out.kept hbw5) hnc hc2
  dsimp only
  go_wp2_with fail
  refine h6.mono ?_
  rintro _ w6 ⟨q6, d6, rfl, hS6, _, _, hb6⟩
  clear h6
  have h7 := sequal_same q5 q6 _ _ d5 d6 _ w6 (hS5.kept hb6) hS6
  have H6 : Hid _ := grew_trans hbw5 hb6
  clear hb5 hb6 hbw5 hS5 hS6
  generalize (nms (El n xs)).length = NL at *
  dsimp only
  go_wp2_with fail
  refine grew_at h7 ?_
  intro w7 hb7
  clear h7
  have hfin := grew_trans H6.out hb7
  dsimp only
  go_wp2_with fail
  go_ret
  exact ⟨by simp, hfin⟩
end Go.Proofs.Ythfnldclpommlab
