/- Undo: what was added last goes. -/
import Derived.Test.YteapkfnklbhdfaaDone
namespace Go.Proofs.Yteapkfnklbhdfaa
open Go.RowKit Go.Maps
set_option linter.unusedVariables false

/-- The patches up to a number. -/
def upP (P : List Pv) (l : Nat) : List Pv := P.filter (fun p => decide (p.id ≤ l))
/-- The numbers behind l, k of them. -/
def behd (l : Nat) : Nat → List Int
  | 0 => []
  | k + 1 => behd l k ++ [((l + k + 1 : Nat) : Int)]
theorem mem_behd (l : Nat) : ∀ (k : Nat) (x : Int), x ∈ behd l k ↔ (l : Int) < x ∧ x ≤ ((l + k : Nat) : Int)
  | 0, x => by simp [behd]
  | k + 1, x => by
    rw [behd, List.mem_append, mem_behd l k x, List.mem_singleton]
    omega
theorem behd_len (l : Nat) : ∀ k, (behd l k).length = k
  | 0 => rfl
  | k + 1 => by simp [behd, behd_len l k]

theorem PS.setLast {B : Nat} {w : World} {a mp mb last : Nat} {P : List Pv} {K : Int → Option Value} (h : PS B w a mp mb last P K) (l : Nat) (hl : l ≤ last) (hP : ∀ p ∈ P, p.id ≤ l) :
    PS B (w.setCell ⟨a, 0, none⟩ (.int .i64 (l : Int))) a mp mb l P K ∧ Stp (dm a mp mb P K) (dm a mp mb P K) w (w.setCell ⟨a, 0, none⟩ (.int .i64 (l : Int))) := by
  have hk : ∀ k, k ≠ a → (w.setCell ⟨a, 0, none⟩ (.int .i64 (l : Int))).heap[k]? = w.heap[k]? := fun k hk => Below.heap_setCell _ _ _ _ hk
  obtain ⟨ep, cp, hmp⟩ := h.pm.isMap
  obtain ⟨eb, cb, hmb⟩ := h.bm.isMap
  have hlen : P.length ≤ l := len_ids (m := 0) h.srt (fun p hp => ⟨(h.ids p hp).1, hP p hp⟩)
  refine ⟨⟨?_, ?_, h.bm.kept (hk mb (map_ne h.row hmb).symm), fun p hp => ⟨(h.byt p hp).1.keptIf (fun g hg _ => hk g (h.apart p hp g (.inr hg)).2.1), (h.byt p hp).2⟩, fun p hp => ⟨(h.nee p hp).1.keptIf (fun g hg _ => hk g (h.apart p hp g (.inl hg)).2.1), (h.nee p hp).2⟩, fun b v hv => ?_, h.away, h.two, fun p hp k hk' => ⟨by rw [World.size_setCell]; exact (h.apart p hp k hk').1, (h.apart p hp k hk').2⟩, fun p hp => ⟨(h.ids p hp).1, hP p hp, (h.ids p hp).2.2⟩, h.srt, h.low, Nat.le_trans hl h.sml, h.base⟩, Frame.setCell w _ (.inl rfl), fun k hk => .inl hk⟩
  · rw [heap_setCell_same _ _ _ _ _ _ h.row]; rfl
  · refine Mf.mono (N := (P.map (fun p => (p.id : Int))).length) ?_ (by rw [List.length_map]; exact hlen)
    refine (h.pm.kept (hk mp (map_ne h.row hmp).symm)).count _ (fun k _ hn => ?_)
    cases e : fP P k with
    | none => rw [e] at hn; exact absurd rfl hn
    | some p => exact List.mem_map.2 ⟨p, (fP_some e).1, (fP_some e).2⟩
  · obtain ⟨h1, h2, h3⟩ := h.rows b v hv
    refine ⟨h1, row_keptIf h2 (fun g hg => ?_), h3⟩
    obtain ⟨cs, hc⟩ := row_ty h2 hg
    exact hk g (own_ne hc h.row (by decide))

theorem undo_arg {B : Nat} {w : World} {a mp mb last : Nat} {P : List Pv} {K : Int → Option Value} (h : PS B w a mp mb last P K) (x : Int) (hx : x < 0 ∨ (last : Int) < x) :
    Calls Try.prog 37 #[.pointer (some ⟨a, 0, none⟩), .int .i64 x] w fun e w' => e = .returned (.int .i64 1) ∧ w' = w := by
  have hm := made_ok h
  have c0 := h.c0
  clear h
  by_cases h1 : x < 0
  · go_enter Try.func37, Try.ntmps37
    go_wp2_with (first | (go_at_call 45; refine same_at hm ?_))
    go_ret
    exact ⟨rfl, rfl⟩
  · have h2 : (last : Int) < x := by omega
    go_enter Try.func37, Try.ntmps37
    go_wp2_with (first | (go_at_call 45; refine same_at hm ?_))
    go_ret
    exact ⟨rfl, rfl⟩

set_option maxRecDepth 100000 in
set_option maxHeartbeats 2000000 in
theorem undo_ok {B : Nat} {w : World} {a mp mb last : Nat} {P : List Pv} {K : Int → Option Value} (h : PS B w a mp mb last P K) (l : Nat) (hl : l ≤ last) :
    Calls Try.prog 37 #[.pointer (some ⟨a, 0, none⟩), .int .i64 (l : Int)] w fun e w' =>
      ((¬ (∀ k : Int, (l : Int) < k → k ≤ (last : Int) → (fP P k).isSome = true) ∧ e = .returned (.int .i64 3)) ∧ Below w.heap.size w w') ∨
      (((∀ k : Int, (l : Int) < k → k ≤ (last : Int) → (fP P k).isSome = true) ∧ e = .returned (.int .i64 0)) ∧ ∃ K', PS B w' a mp mb l (upP P l) K' ∧ Stp (dm a mp mb P K) (dm a mp mb (upP P l) K') w w') := by
  have hm := made_ok h
  have c0 := h.c0
  have hsm := h.sml
  obtain ⟨i0, hi, hz0, hz1, hz2⟩ := info_parts info3
  have d1 : decide ((l : Int) < 0) = false := decide_eq_false (by omega)
  have d2 : decide (last < l) = false := decide_eq_false (by omega)
  go_enter Try.func37, Try.ntmps37
  go_wp2_with (first | (go_at_call 45; refine same_at hm ?_))
  go_loopw [5, 6] (fun s i wr => ∃ k : Nat, k ≤ last - l ∧ i = .int .i64 ((l : Int) + 1 + (k : Int)) ∧ Nums w.heap.size wr s (behd l k) ∧ Below w.heap.size w wr ∧ Hid (∀ x : Int, (l : Int) < x → x ≤ ((l + k : Nat) : Int) → (fP P x).isSome = true)) (fun s i _ => last + 1 - (intOf i).toNat)
  case atStart => exact ⟨0, by omega, by simp, Nums.nil _ _, Below.refl _ _, fun x h1 h2 => by omega⟩
  case round =>
    obtain ⟨k, hk, rfl, hN, hb, HA⟩ := hrel
    have hps := h.kept hb
    have c0r := hps.c0
    by_cases hlt : k < last - l
    · have hp := isPending_ok hps ((l : Int) + 1 + (k : Int)) ⟨by omega, by omega⟩
      have hle : (l : Int) + 1 + (k : Int) ≤ (last : Int) := by omega
      have hbl : (behd l k).length ≤ 1000 := by rw [behd_len]; omega
      have HE : Hid (behd l (k + 1) = behd l k ++ [(l : Int) + 1 + (k : Int)]) := by show behd l k ++ _ = _; congr 2; omega
      clear hps c0
      obtain ⟨y, hy⟩ : ∃ y, y = (l : Int) + 1 + (k : Int) := ⟨_, rfl⟩
      rw [← hy] at hp hle HE ⊢
      have HY : Hid _ := hy
      clear hy
      cases hf : (fP P y).isSome with
      | true =>
        rw [hf] at hp
        have HF : Hid _ := hf
        clear hf
        have hwy : IntKind.i64.wrap (y + 1) = y + 1 := IntWalk.i64_in _ (by have := HY.out; omega)
        go_wp2_with (first
          | (go_at_call 47; refine below_at hp ?_; intro w1 hb1; have hN2 := hN.kept hb1; have hb2 := below_on hb hb1)
          | (at_builtin; refine wpList_append_own _ rfl _ _ 30 rfl w.heap.size 3 i0 (.int .i64 0) 1 8 Try.underlying30 hi hz0 hz1 hz2 rfl (by decide) _ _ _ rfl (World.ownsRow.alloc hN2 _) ⟨w1.heap.size, 0, none⟩ 1 1 [.int .i64 y] rfl rfl (cell_one_new _ _ _) (by simp [Value.oneCell']) (by unfold maxLen; omega) (by omega) (by have := hb2.size; simp; omega) ?_; intro v' w3 hown hgrow _; have hown := Nums.snoc hown; obtain ⟨g', cap', rfl⟩ := Nums.succ hown))
        have hb3 := (hb2.alloc (by have := hb2.size; omega) _).grown hgrow (by have := hb2.size; simp; omega) (by intro k hk; exact (World.ownsRow.lt hN2 k hk).1)
        go_roundw
        case rel =>
          refine ⟨k + 1, by omega, by rw [HY.out]; go_num, by rw [HE.out]; exact hown, hb3, fun x h1 h2 => ?_⟩
          by_cases e : x ≤ ((l + k : Nat) : Int)
          · exact HA.out x h1 e
          · have : x = y := by have := HY.out; omega
            rw [this]; exact HF.out
        case measure => have := HY.out; simp [intOf]; omega
      | false =>
        rw [hf] at hp
        have HF : Hid _ := hf
        clear hf
        go_wp2_with (first | (go_at_call 47; refine below_at hp ?_; intro w1 hb1))
        go_ret
        refine .inl ⟨⟨fun hall => ?_, rfl⟩, below_on hb hb1⟩
        have := hall y (by have := HY.out; omega) hle
        rw [HF.out] at this
        cases this
    · obtain rfl : k = last - l := by omega
      have hbl : (behd l (last - l)).length ≤ 1000 := by rw [behd_len]; omega
      have hgt : ¬ (l : Int) + 1 + ((last - l : Nat) : Int) ≤ (last : Int) := by omega
      have hdd : decide ((l : Int) + 1 + ((last - l : Nat) : Int) ≤ (last : Int)) = false := decide_eq_false hgt
      obtain ⟨q1, c1, hv1, hI1, hpl1⟩ := hN.ii (by omega) (fun x hx => by have := (mem_behd _ _ _).1 hx; exact ⟨by omega, by omega⟩)
      subst hv1
      have hrm := remove_ok hps q1 _ c1 _ hI1 (by omega)
      have HP : Hid (kpP P (behd l (last - l)) = upP P l) := by
        show _ = _
        unfold kpP upP
        apply List.filter_congr
        intro p hp
        have h1 := (h.ids p hp).2.1
        rw [Bool.eq_iff_iff, decide_eq_true_iff, Bool.not_eq_true', decide_eq_false_iff_not, mem_behd]
        omega
      rw [HP.out] at hrm
      clear hI1 hN
      have hwl : (l : Int) + 1 + ((last - l : Nat) : Int) = (last : Int) + 1 := by omega
      rw [hwl]
      go_wp2_with (first | (go_at_call 69; refine hrm.mono ?_; rintro _ w5 ⟨rfl, K', hPS, hSt⟩; have c5 := hPS.c0; have f5 : w5.frozen? ⟨a, 0, none⟩ = false := (by simp [World.frozen?, hPS.row]); obtain ⟨hP6, hS6⟩ := hPS.setLast l hl (fun p hp => of_decide_eq_true (List.mem_filter.1 hp).2)))
      go_ret
      exact .inr ⟨⟨fun x h1 h2 => HA.out x h1 (by omega), rfl⟩, K', hP6, ((stp_below hb).trans hSt).trans hS6⟩
end Go.Proofs.Yteapkfnklbhdfaa
