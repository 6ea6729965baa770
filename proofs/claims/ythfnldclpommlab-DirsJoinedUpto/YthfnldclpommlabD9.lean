/- dirs, the document's: rows of entries; clash. -/
import Derived.Test.YthfnldclpommlabD8
namespace Go.Proofs.Ythfnldclpommlab
open Go.RowKit
set_option linter.unusedVariables false

/-- The slice at p, of n entries, holds L. -/
structure EI (w : World) (p : Option Addr) (n : Nat) (L : List En) : Prop where
  len : L.length = n
  big : n ≤ 140737488355328
  cells : 0 < n → ∃ b o, p = some ⟨b, o, none⟩ ∧ ∀ i e, L[i]? = some e → w.cell? ⟨b, o + i * 2, none⟩ = some (.int .i64 e.n) ∧ w.cell? ⟨b, o + i * 2 + 1, none⟩ = some (.string e.s)
theorem EI.kept {w w' : World} {p : Option Addr} {n : Nat} {L : List En} (h : EI w p n L) (hb : Below w.heap.size w w') : EI w' p n L := by
  refine ⟨h.len, h.big, fun hn => ?_⟩
  obtain ⟨b, o, rfl, hc⟩ := h.cells hn
  refine ⟨b, o, rfl, fun i e he => ?_⟩
  obtain ⟨h1, h2⟩ := hc i e he
  have hl : b < w.heap.size := lt_of_cell h1
  exact ⟨(hb.cell (p := ⟨b, o + i * 2, none⟩) hl).trans h1, (hb.cell (p := ⟨b, o + i * 2 + 1, none⟩) hl).trans h2⟩

theorem clB_app : ∀ (B A : List En), clB (A ++ B) = false → clB A = false
  | [], A, h => by rwa [List.append_nil] at h
  | b :: B, A, h => by
    have h1 := clB_app B (A ++ [b]) (by rwa [List.append_assoc])
    rw [clB_snoc, Bool.or_eq_false_iff] at h1
    exact h1.1
theorem clB_take {L : List En} (j : Nat) (h : clB L = false) : clB (L.take j) = false := clB_app (L.drop j) _ (by rw [List.take_append_drop]; exact h)
theorem clB_hit {L : List En} {j k : Nat} {e x : En} (he : L[j]? = some e) (hx : L[k]? = some x) (hkj : k < j) (h0 : e.n ≠ 0) (hh : hit e.s x = true) : clB L = true := by
  cases hc : clB L with
  | true => rfl
  | false =>
    have h1 := clB_take (j + 1) hc
    rw [List.take_add_one, he] at h1
    have h2 : clB (L.take j ++ [e]) = false := h1
    rw [clB_snoc, Bool.or_eq_false_iff, decide_eq_true h0, Bool.true_and, List.any_eq_false] at h2
    have hm : x ∈ L.take j := List.mem_of_getElem? (i := k) (by rw [List.getElem?_take, if_pos hkj]; exact hx)
    exact absurd hh (h2.2 x hm)

set_option maxRecDepth 20000 in
set_option maxHeartbeats 2000000 in
theorem clash_ok (p : Option Addr) (n c : Nat) (L : List En) (w : World) (h : EI w p n L) (hnc : n ≤ c) (hc2 : c ≤ 9223372036854775807) :
    Calls Try.prog 42 #[.slice p n c] w fun e w' => e = .returned (.bool (clB L)) ∧ Below w.heap.size w w' := by
  have hlen := h.len
  have hbig := h.big
  go_enter Try.func42, Try.ntmps42
  go_wp2_with fail
  go_loopw [9] (fun i wr => ∃ j : Nat, j ≤ n ∧ i = .int .i64 (j : Int) ∧ Below w.heap.size w wr ∧ clB (L.take j) = false) (fun i _ => n - (intOf i).toNat)
  case atStart => exact ⟨0, by omega, rfl, Below.refl _ _, rfl⟩
  case round =>
    rename World => wo
    obtain ⟨j, hj, rfl, hb, hcl⟩ := hrel
    have HC : Hid _ := And.intro hb hcl
    by_cases hlt : j < n
    · obtain ⟨b, o, rfl, hcs⟩ := (h.kept hb).cells (by omega)
      obtain ⟨N, S, he⟩ : ∃ N S, L[j]? = some ⟨N, S⟩ := ⟨_, _, List.getElem?_eq_getElem (by omega)⟩
      obtain ⟨c0, c1⟩ := hcs j _ he
      have hjI : (j : Int) < (n : Int) := by omega
      have hj0 : (0 : Int) ≤ (j : Int) := by omega
      have HCS : Hid _ := hcs
      have HE : Hid _ := he
      have hlb : b < wo.heap.size := lt_of_cell c0
      clear hb hcl hcs he
      go_wp2_with fail
      have hbo : Below wo.heap.size wo (wo.alloc (entO N S)) := grew_alloc _ _
      have hxe := heap_new wo (entO N S)
      have HO : Hid _ := And.intro hbo hxe
      clear c0 c1 hbo hxe
      go_loopw [18] (fun i wr => ∃ k : Nat, k ≤ j ∧ i = .int .i64 (k : Int) ∧ Below (wo.alloc (entO N S)).heap.size (wo.alloc (entO N S)) wr ∧ (decide (N ≠ 0) && (L.take k).any (hit S)) = false) (fun i _ => j - (intOf i).toNat)
      case atStart => exact ⟨0, by omega, rfl, Below.refl _ _, by simp⟩
      case round =>
        obtain ⟨k, hk, rfl, hbk, hno⟩ := hrel
        have HK : Hid _ := And.intro hbk hno
        have hbx := grew_trans HO.out.1 hbk
        have hxk := (hbk.block _ (Array.getElem?_eq_some_iff.1 HO.out.2).1).trans HO.out.2
        by_cases hkl : k < j
        · obtain ⟨M, T, hx⟩ : ∃ M T, L[k]? = some ⟨M, T⟩ := ⟨_, _, List.getElem?_eq_getElem (by omega)⟩
          obtain ⟨d0, d1⟩ := HCS.out k _ hx
          have d0' : wr.cell? ⟨b, o + k * 2, none⟩ = some (.int .i64 M) := (hbx.cell (p := ⟨b, o + k * 2, none⟩) hlb).trans d0
          have d1' : wr.cell? ⟨b, o + k * 2 + 1, none⟩ = some (.string T) := (hbx.cell (p := ⟨b, o + k * 2 + 1, none⟩) hlb).trans d1
          have hkI : (k : Int) < (j : Int) := by omega
          have hk0 : (0 : Int) ≤ (k : Int) := by omega
          have hbV := grew_alloc wr (entO M T)
          have hxV := (hbV.block _ (Array.getElem?_eq_some_iff.1 hxk).1).trans hxk
          have y0 : (wr.alloc (entO M T)).cell? ⟨wo.heap.size, 0, none⟩ = some (.int .i64 N) := cell_row hxV 0 _ rfl
          have y1 : (wr.alloc (entO M T)).cell? ⟨wo.heap.size, 1, none⟩ = some (.string S) := cell_row hxV 1 _ rfl
          have HX : Hid _ := hx
          have HV : Hid _ := grew_trans hbk hbV
          have HF : Hid _ := grew_trans HC.out.1 (grew_trans hbx hbV)
          have hstep : ∀ p : En → Bool, (L.take (k + 1)).any p = ((L.take k).any p || p ⟨M, T⟩) := fun p => by rw [List.take_add_one, hx]; simp
          clear hbk hno hx d0 d1 hbx hxk hbV hxV
          by_cases h0 : N = 0
          · subst h0
            have hnx : (decide ((0 : Int) ≠ 0) && (L.take (k + 1)).any (hit S)) = false := by simp
            clear hstep
            have HN : Hid _ := hnx
            clear hnx
            go_wp2_with fail
            go_roundw
            case rel => exact ⟨k + 1, by omega, by go_num, HV.out, HN.out⟩
            case measure => simp [intOf]; omega
          · by_cases h1 : M = 0
            · subst h1
              have hnx : (decide (N ≠ 0) && (L.take (k + 1)).any (hit S)) = false := by
                rw [hstep, Bool.and_or_distrib_left, HK.out.2]
                simp [hit]
              clear hstep
              have HN : Hid _ := hnx
              clear hnx
              go_wp2_with fail
              go_roundw
              case rel => exact ⟨k + 1, by omega, by go_num, HV.out, HN.out⟩
              case measure => simp [intOf]; omega
            · cases hS : (S.toList == T.toList) with
              | true =>
                have hh : clB L = true := clB_hit HE.out HX.out hkl h0 (by
                  rw [beq_iff_eq] at hS
                  simp [hit, h1, hS])
                have HH : Hid _ := hh
                have hN : (N != 0) = true := by simpa using h0
                have hM : (M != 0) = true := by simpa using h1
                clear hh hstep
                go_wp2_with fail
                go_ret
                exact ⟨by rw [HH.out]; rfl, HF.out⟩
              | false =>
                have hnx : (decide (N ≠ 0) && (L.take (k + 1)).any (hit S)) = false := by
                  rw [hstep, Bool.and_or_distrib_left, HK.out.2]
                  have h2 : (T.toList == S.toList) = false := by
                    rw [beq_eq_false_iff_ne] at hS ⊢
                    exact fun e => hS e.symm
                  simp [hit, h2]
                clear hstep
                have HN : Hid _ := hnx
                clear hnx
                go_wp2_with fail
                go_roundw
                case rel => exact ⟨k + 1, by omega, by go_num, HV.out, HN.out⟩
                case measure => simp [intOf]; omega
        · obtain rfl : k = j := by omega
          have hnt : ¬ (k : Int) < (k : Int) := by omega
          have hnx : clB (L.take (k + 1)) = false := by
            rw [List.take_add_one, HE.out]
            show clB (L.take k ++ [⟨N, S⟩]) = false
            rw [clB_snoc, HC.out.2, Bool.false_or]
            exact hno
          have HN : Hid _ := And.intro hnx (grew_trans HC.out.1 hbx)
          clear hnx hbk hno hbx hxk
          go_wp2_with fail
          go_roundw
          case rel => exact ⟨k + 1, by omega, by go_num, HN.out.2, HN.out.1⟩
          case measure => simp [intOf]; omega
    · obtain rfl : j = n := by omega
      have hnt : ¬ (j : Int) < (j : Int) := by omega
      have hcl' : clB L = false := by rwa [List.take_of_length_le (by omega)] at hcl
      have HH : Hid _ := hcl'
      clear hcl hcl'
      go_wp2_with fail
      go_ret
      exact ⟨by rw [HH.out]; rfl, hb⟩
end Go.Proofs.Ythfnldclpommlab
