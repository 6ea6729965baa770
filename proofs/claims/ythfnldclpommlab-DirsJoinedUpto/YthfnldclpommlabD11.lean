/- dirs, the document's: Find, Free. -/
import Derived.Test.YthfnldclpommlabD10
import Derived.Deep.QuietTactic
import Derived.BigQuiet
namespace Go.Proofs.Ythfnldclpommlab
open Go.RowKit
set_option linter.unusedVariables false

theorem El_len (n : Nat) (xs : List Int) : (El n xs).length ≤ 8 := by
  unfold El
  split
  · rw [ents_len]; omega
  · simp
theorem El_may (n : Nat) (xs : List Int) : ∀ e ∈ El n xs, EMay e.n e.s := fun e he => by
  by_cases hm : mayB n xs
  · rw [El_yes hm] at he; exact dec8_may n xs e he
  · rw [El_no hm] at he; cases he

theorem any_none {L : List En} {p : En → Bool} (h : L.findIdx? p = none) : L.any p = false := (idx_any L p).1 h
theorem any_some {L : List En} {p : En → Bool} {j : Nat} (h : L.findIdx? p = some j) : L.any p = true := by
  cases hp : L.any p with
  | true => rfl
  | false => rw [(idx_any L p).2 hp] at h; cases h

set_option maxRecDepth 20000 in
set_option maxHeartbeats 1000000 in
theorem rFind_ok (p : Option Addr) (n c : Nat) (xs : List Int) (s : ByteArray) (w : World) (h : BI w p n xs) (hnc : n ≤ c) (hc2 : c ≤ 9223372036854775807) :
    Calls Try.prog 9 #[.slice p n c, .string s] w fun e w' => e = .returned (.tuple #[.int .i64 ((((El n xs).findIdx? (hit s)).getD 0 : Nat) : Int), .int .i64 (idN (El n xs) ((El n xs).findIdx? (hit s))), .bool ((El n xs).findIdx? (hit s)).isSome]) ∧ Below w.heap.size w w' := by
  have hde := rdecode_ok p n c xs w h hnc hc2
  have hl8 := El_len n xs
  go_enter Try.func9, Try.ntmps9
  go_wp2_with fail
  refine hde.mono ?_
  rintro _ w1 ⟨v, rfl, hR, hb1⟩
  clear hde
  obtain ⟨q, d, rfl, hq1, hq2, hE⟩ := hR.ei (by omega)
  obtain ⟨L, hL⟩ : ∃ L, El n xs = L := ⟨_, rfl⟩
  rw [hL] at hE hq1 hl8
  have HE : Hid _ := And.intro hE hb1
  have HL : Hid _ := hL
  rw [hL]
  clear hR hE hb1 hL
  dsimp only
  go_wp2_with fail
  go_loopw [18] (fun i wr => ∃ j : Nat, j ≤ L.length ∧ i = .int .i64 (j : Int) ∧ Below w1.heap.size w1 wr ∧ (L.take j).findIdx? (hit s) = none) (fun i _ => L.length - (intOf i).toNat)
  case atStart => exact ⟨0, by omega, rfl, Below.refl _ _, by simp⟩
  case round =>
    obtain ⟨j, hj, rfl, hb, hno⟩ := hrel
    have HN : Hid _ := And.intro hno hb
    clear hno
    by_cases hlt : j < L.length
    · obtain ⟨N, S, he⟩ : ∃ N S, L[j]? = some ⟨N, S⟩ := ⟨_, _, List.getElem?_eq_getElem hlt⟩
      obtain ⟨b, o, rfl, hcs⟩ := (HE.out.1.kept hb).cells (by omega)
      obtain ⟨c0, c1⟩ := hcs j _ he
      have hjI : (j : Int) < (L.length : Int) := by omega
      have hj0 : (0 : Int) ≤ (j : Int) := by omega
      have HEE : Hid _ := he
      have HF : Hid _ := grew_trans HE.out.2 (grew_trans hb (grew_alloc wr (entO N S)))
      have HV : Hid _ := grew_trans hb (grew_alloc wr (entO N S))
      clear hcs hb he
      by_cases h0 : N = 0
      · subst h0
        have hh : hit s ⟨0, S⟩ = false := by simp [hit]
        have HNX : Hid _ := idx_next HN.out.1 HEE.out hh
        clear hh
        go_wp2_with fail
        go_roundw
        case rel => exact ⟨j + 1, by omega, by go_num, HV.out, HNX.out⟩
        case measure => simp [intOf]; omega
      · cases hs : (S.toList == s.toList) with
        | true =>
          have hh : hit s ⟨N, S⟩ = true := by simp [hit, h0, hs]
          have hidx := idx_hit HN.out.1 HEE.out hh
          have hid : idN L (some j) = N := by simp [idN, List.getD_eq_getElem?_getD, HEE.out]
          have HNX : Hid _ := And.intro hidx hid
          have hN : (N != 0) = true := by simpa using h0
          clear hh hidx hid
          go_wp2_with fail
          go_quiet (fail)
          go_wp2_with fail
          go_ret3
          exact ⟨by first | (rw [HL.out, HNX.out.1, HNX.out.2]; rfl) | (rw [HL.out, HNX.out.1, HNX.out.2, any_some HNX.out.1]; rfl), below_drewN HF.out _⟩
        | false =>
          have hh : hit s ⟨N, S⟩ = false := by simp only [hit, hs, Bool.and_false]
          have HNX : Hid _ := idx_next HN.out.1 HEE.out hh
          clear hh
          go_wp2_with fail
          go_roundw
          case rel => exact ⟨j + 1, by omega, by go_num, HV.out, HNX.out⟩
          case measure => simp [intOf]; omega
    · obtain rfl : j = L.length := by omega
      have hnt : ¬ (L.length : Int) < (L.length : Int) := by omega
      have hr := HN.out.1
      rw [List.take_length] at hr
      have HNX : Hid _ := hr
      clear hr
      go_wp2_with fail
      go_ret3
      exact ⟨by rw [HL.out, HNX.out, any_none HNX.out]; rfl, grew_trans HE.out.2 HN.out.2⟩

set_option maxRecDepth 20000 in
set_option maxHeartbeats 1000000 in
theorem rFree_ok (p : Option Addr) (n c : Nat) (xs : List Int) (w : World) (h : BI w p n xs) (hnc : n ≤ c) (hc2 : c ≤ 9223372036854775807) :
    Calls Try.prog 11 #[.slice p n c] w fun e w' => e = .returned (.tuple #[.int .i64 ((((El n xs).findIdx? emp).getD 0 : Nat) : Int), .bool ((El n xs).findIdx? emp).isSome]) ∧ Below w.heap.size w w' := by
  have hde := rdecode_ok p n c xs w h hnc hc2
  have hl8 := El_len n xs
  go_enter Try.func11, Try.ntmps11
  go_wp2_with fail
  refine hde.mono ?_
  rintro _ w1 ⟨v, rfl, hR, hb1⟩
  clear hde
  obtain ⟨q, d, rfl, hq1, hq2, hE⟩ := hR.ei (by omega)
  obtain ⟨L, hL⟩ : ∃ L, El n xs = L := ⟨_, rfl⟩
  rw [hL] at hE hq1 hl8
  have HE : Hid _ := And.intro hE hb1
  have HL : Hid _ := hL
  rw [hL]
  clear hR hE hb1 hL
  dsimp only
  go_wp2_with fail
  go_loopw [15] (fun i wr => ∃ j : Nat, j ≤ L.length ∧ i = .int .i64 (j : Int) ∧ Below w1.heap.size w1 wr ∧ (L.take j).findIdx? emp = none) (fun i _ => L.length - (intOf i).toNat)
  case atStart => exact ⟨0, by omega, rfl, Below.refl _ _, by simp⟩
  case round =>
    obtain ⟨j, hj, rfl, hb, hno⟩ := hrel
    have HN : Hid _ := And.intro hno hb
    clear hno
    by_cases hlt : j < L.length
    · obtain ⟨N, S, he⟩ : ∃ N S, L[j]? = some ⟨N, S⟩ := ⟨_, _, List.getElem?_eq_getElem hlt⟩
      obtain ⟨b, o, rfl, hcs⟩ := (HE.out.1.kept hb).cells (by omega)
      obtain ⟨c0, c1⟩ := hcs j _ he
      have hjI : (j : Int) < (L.length : Int) := by omega
      have hj0 : (0 : Int) ≤ (j : Int) := by omega
      have HEE : Hid _ := he
      have HF : Hid _ := grew_trans HE.out.2 (grew_trans hb (grew_alloc wr (entO N S)))
      have HV : Hid _ := grew_trans hb (grew_alloc wr (entO N S))
      clear hcs hb he
      by_cases h0 : N = 0
      · subst h0
        have hh : emp ⟨0, S⟩ = true := by simp [emp]
        have hidx := idx_hit HN.out.1 HEE.out hh
        have HNX : Hid _ := hidx
        clear hh hidx
        go_wp2_with fail
        go_ret2
        exact ⟨by rw [HL.out, HNX.out, any_some HNX.out]; rfl, HF.out⟩
      · have hh : emp ⟨N, S⟩ = false := by simp [emp, h0]
        have HNX : Hid _ := idx_next HN.out.1 HEE.out hh
        clear hh
        go_wp2_with fail
        go_roundw
        case rel => exact ⟨j + 1, by omega, by go_num, HV.out, HNX.out⟩
        case measure => simp [intOf]; omega
    · obtain rfl : j = L.length := by omega
      have hnt : ¬ (L.length : Int) < (L.length : Int) := by omega
      have hr := HN.out.1
      rw [List.take_length] at hr
      have HNX : Hid _ := hr
      clear hr
      go_wp2_with fail
      go_ret2
      exact ⟨by rw [HL.out, HNX.out, any_none HNX.out]; rfl, grew_trans HE.out.2 HN.out.2⟩
end Go.Proofs.Ythfnldclpommlab
