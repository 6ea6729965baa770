/- CacheBound: the statement's own call returns true. Ahead of it: slices.Sort and slices.Compact, a map of pins, what a cache with pinned blocks does. -/
import Derived.Test.YtliljdencaocaaaPt
namespace Go.Proofs.Ytliljdencaocaaa
open Go.RowKit Go.Maps
set_option linter.unusedVariables false

set_option maxHeartbeats 400000 in
theorem less_ok (x y : Int) (w : World) : Calls Try.prog 86 #[.int .i64 x, .int .i64 y] w fun e w' => e = .returned (.bool (decide (x < y))) ∧ w' = w := by
  go_enter Try.func86, Try.ntmps86
  go_wp2_with (first | (go_at_call 77; refine same_at (nan_ok _ _) ?_))
  go_ret
  exact ⟨by first | rfl | exact ret_bool (by simp), rfl⟩

open Go.Sort in
set_option maxRecDepth 100000 in
set_option maxHeartbeats 2000000 in
theorem insertionO_ok (g n cap : Nat) (d : Array Int) (w : World) (hg : Ar w g n cap d) (hn : n ≤ 12) :
    Calls Try.prog 80 #[.slice (some ⟨g, 0, none⟩) n cap, .int .i64 0, .int .i64 (n : Int)] w fun e w' => (∃ v, e = .returned v) ∧ Ar w' g n cap (insertionSort (ult id) d 0 n) ∧ Frame (fun k => k = g) w w' := by
  go_enter Try.func80, Try.ntmps80
  go_wp2
  go_loopw [6] (fun i wr => ∃ (k : Nat) (dk : Array Int), 1 ≤ k ∧ k ≤ n + 1 ∧ i = .int .i64 (k : Int) ∧ Ar wr g n cap dk ∧ Frame (fun k => k = g) w wr ∧ Hid (insOuter (ult id) 0 n k dk = insOuter (ult id) 0 n 1 d)) (fun i _ => n + 1 - (intOf i).toNat)
  case atStart => exact ⟨1, d, by omega, by omega, rfl, hg, Frame.refl _ _, rfl⟩
  case round =>
    clear hg
    obtain ⟨k, dk, hk1, hk2, rfl, hA, hF, HO⟩ := hrel
    by_cases hlt : k < n
    · have hI : (k : Int) < (n : Int) := by omega
      go_wp2
      go_loopw [7] (fun i w2 => ∃ (j : Nat) (dj : Array Int), j ≤ k ∧ i = .int .i64 (j : Int) ∧ Ar w2 g n cap dj ∧ Frame (fun k => k = g) w w2 ∧ Hid (insInner (ult id) 0 j dj = insInner (ult id) 0 k dk)) (fun i _ => (intOf i).toNat)
      case atStart => exact ⟨k, dk, Nat.le_refl _, rfl, hA, hF, rfl⟩
      case round =>
        clear hA hF
        obtain ⟨j, dj, hjk, rfl, hA, hF, HI⟩ := hrel
        have out : (j ≤ 0 ∨ ult id dj[j]! dj[j - 1]! = false) → Hid (insOuter (ult id) 0 n (k + 1) dj = insOuter (ult id) 0 n 1 d) := fun hs => by
          show _ = _
          rw [← HO.out, insOuter_go _ _ _ _ _ hlt, ← HI.out, insInner_stop _ _ _ _ hs]
        cases j with
        | zero =>
          have HOut := out (.inl (Nat.le_refl _))
          clear out
          have hd : decide ((0 : Int) < (0 : Int)) = false := rfl
          go_wp2_with fail
          go_quiet (fail)
          go_wp2
          go_roundw
          case rel => exact ⟨k + 1, dj, by omega, by omega, by go_num, hA.kept rfl, frame_drewN hF _, HOut⟩
          case measure => simp [intOf]; omega
        | succ jp =>
          have c1 := hA.cell (jp + 1) (by omega)
          have c2 := hA.cell jp (by omega)
          have hcmp := fun w => less_ok dj[jp + 1]! dj[jp]! w
          have OUT := (show Hid _ from out)
          have b1 : ((jp : Int) + 1) < (n : Int) := by omega
          have b2 : (0 : Int) ≤ (jp : Int) + 1 := by omega
          have b3 : (jp : Int) < (n : Int) := by omega
          have b4 : (0 : Int) ≤ (jp : Int) := by omega
          have b5 : (0 : Int) < (jp : Int) + 1 := by omega
          have b6 : decide ((0 : Int) < (jp : Int) + 1) = true := decide_eq_true b5
          have b7 := IntWalk.i64_in (jp : Int) (by omega)
          have b8 : (jp : Int) + 1 - 1 = (jp : Int) := by omega
          clear out
          by_cases hl : dj[jp + 1]! < dj[jp]!
          · simp only [decide_eq_true hl] at hcmp
            have HIn : Hid (insInner (ult id) 0 jp (swp dj (jp + 1) jp) = insInner (ult id) 0 k dk) := by
              show _ = _
              rw [← HI.out, insInner_go (ult id) 0 (jp + 1) dj (by omega) (by simp only [ult, Nat.add_sub_cancel]; exact decide_eq_true hl)]
              rfl
            have hlen := hA.len
            have HSw : Hid (swp dj (jp + 1) jp = (dj.setIfInBounds (jp + 1) dj[jp]!).setIfInBounds jp dj[jp + 1]!) := rfl
            clear hl OUT
            generalize dj[jp + 1]! = x at *
            generalize dj[jp]! = y at *
            go_wp2_with fail
            go_quiet (first | exact Calls.quiet_of_same (hcmp _))
            have hA2 : Ar (wr.drewN nq) g n cap dj := hA.kept rfl
            have hF2 := frame_drewN hF nq
            have c1 : (wr.drewN nq).cell? _ = _ := c1
            have c2 : (wr.drewN nq).cell? _ = _ := c2
            clear hcmp hA hF
            generalize wr.drewN nq = w2 at *
            have f1 := World.ownsRow.frozenAt hA2 (jp + 1)
            have f2 := World.ownsRow.frozenAt hA2 jp
            have hA3 := (hA2.set (jp + 1) y).set jp x
            rw [← HSw.out] at hA3
            have hF3 := (hF2.trans (Frame.setCell w2 (p := ⟨g, jp + 1, none⟩) (.int .i64 y) rfl)).trans (Frame.setCell (w2.setCell ⟨g, jp + 1, none⟩ (.int .i64 y)) (p := ⟨g, jp, none⟩) (.int .i64 x) rfl)
            have c3 : (w2.setCell ⟨g, jp + 1, none⟩ (.int .i64 y)).cell? ⟨g, jp, none⟩ = some (.int .i64 y) := by
              rw [World.cell?_setCell_other]
              · exact c2
              · simp
            have f3 : (w2.setCell ⟨g, jp + 1, none⟩ (.int .i64 y)).frozen? ⟨g, jp, none⟩ = false := by
              rw [World.frozen?_setCell]; exact f2
            have b9 := IntWalk.i64_in ((jp : Int) + 1) (by omega)
            clear hA2 hF2
            go_wp2_with fail
            go_region
            go_wp2
            go_roundw
            case rel => exact ⟨jp, _, by omega, by go_num, hA3.kept rfl, frame_drewN hF3 1, HIn⟩
            case measure => simp [intOf]
          · simp only [decide_eq_false hl] at hcmp
            have HOut := OUT.out (.inr (by simp only [ult, Nat.add_sub_cancel]; exact decide_eq_false hl))
            clear hl OUT
            generalize dj[jp + 1]! = x at *
            generalize dj[jp]! = y at *
            go_wp2_with fail
            go_quiet (first | exact Calls.quiet_of_same (hcmp _))
            go_wp2
            go_roundw
            case rel => exact ⟨k + 1, dj, by omega, by omega, by go_num, hA.kept rfl, frame_drewN hF _, HOut⟩
            case measure => simp [intOf]; omega
    · have HE : Hid (insOuter (ult id) 0 n k dk = dk) := insOuter_stop _ _ _ _ _ hlt
      have hI : ¬ (k : Int) < (n : Int) := by omega
      go_wp2
      first | go_end0 | (refine bodyPost_ret (results_none rfl _ _ _) rfl ?_)
      refine ⟨⟨_, rfl⟩, ?_, hF⟩
      show Ar _ g n cap (insOuter (ult id) 0 n 1 d)
      rw [← HO.out, HE.out]
      exact hA

set_option maxRecDepth 100000 in
set_option maxHeartbeats 2000000 in
theorem pdqO_ok (g n cap : Nat) (lim : Int) (d : Array Int) (w : World) (hg : Ar w g n cap d) (hn : n ≤ 12) :
    Calls Try.prog 55 #[.slice (some ⟨g, 0, none⟩) n cap, .int .i64 0, .int .i64 (n : Int), .int .i64 lim] w fun e w' => (∃ v, e = .returned v) ∧ Ar w' g n cap (Go.Sort.insertionSort (ult id) d 0 n) ∧ Frame (fun k => k = g) w w' := by
  have hI := insertionO_ok g n cap d w hg hn
  have hnI : (n : Int) ≤ 12 := by omega
  go_enter Try.func55, Try.ntmps55
  go_wp2
  refine wp_loop_rounds 1 ?_
  rw [rounds_succ]
  go_wp2_with (first | (go_at_call 80; refine Calls.mono hI ?_; rintro e w' ⟨⟨v, rfl⟩, hA, hF⟩))
  first | go_end0 | (refine bodyPost_ret (results_none rfl _ _ _) rfl ?_)
  exact ⟨⟨_, rfl⟩, hA, hF⟩

set_option maxHeartbeats 400000 in
theorem sortO_ok (g n cap : Nat) (d : Array Int) (w : World) (hg : Ar w g n cap d) (hn : n ≤ 12) :
    Calls Try.prog 19 #[.slice (some ⟨g, 0, none⟩) n cap] w fun e w' => (∃ v, e = .returned v) ∧ Ar w' g n cap (Go.Sort.insertionSort (ult id) d 0 n) ∧ Frame (fun k => k = g) w w' := by
  have hL := len_small n hn w
  have hI := fun lim => pdqO_ok g n cap lim d w hg hn
  go_enter Try.func19, Try.ntmps19
  go_wp2_with (first
    | (go_at_call 56; refine Calls.mono hL ?_; rintro e w' ⟨⟨lim, rfl⟩, rfl⟩)
    | (go_at_call 55; refine Calls.mono (hI lim) ?_; rintro e w2 ⟨⟨v, rfl⟩, hA, hF⟩))
  first | go_end0 | (refine bodyPost_ret (results_none rfl _ _ _) rfl ?_)
  exact ⟨⟨_, rfl⟩, hA, hF⟩

set_option maxRecDepth 100000 in
set_option maxHeartbeats 1000000 in
theorem insertionO_nil (w : World) : Calls Try.prog 80 #[.slice none 0 0, .int .i64 0, .int .i64 0] w fun e w' => (∃ v, e = .returned v) ∧ w' = w := by
  go_enter Try.func80, Try.ntmps80
  go_wp2
  refine wp_loop_rounds 1 ?_
  rw [rounds_succ]
  go_wp2
  first | go_end0 | (refine bodyPost_ret (results_none rfl _ _ _) rfl ?_)
  exact ⟨⟨_, rfl⟩, rfl⟩
set_option maxRecDepth 100000 in
set_option maxHeartbeats 1000000 in
theorem pdqO_nil (lim : Int) (w : World) : Calls Try.prog 55 #[.slice none 0 0, .int .i64 0, .int .i64 0, .int .i64 lim] w fun e w' => (∃ v, e = .returned v) ∧ w' = w := by
  have hI := insertionO_nil w
  go_enter Try.func55, Try.ntmps55
  go_wp2
  refine wp_loop_rounds 1 ?_
  rw [rounds_succ]
  go_wp2_with (first | (go_at_call 80; refine Calls.mono hI ?_; rintro e w' ⟨⟨v, rfl⟩, rfl⟩))
  first | go_end0 | (refine bodyPost_ret (results_none rfl _ _ _) rfl ?_)
  exact ⟨⟨_, rfl⟩, rfl⟩
set_option maxHeartbeats 400000 in
theorem sortO_nil (w : World) : Calls Try.prog 19 #[.slice none 0 0] w fun e w' => (∃ v, e = .returned v) ∧ w' = w := by
  have hL := len_small 0 (by omega) w
  have hI := fun lim => pdqO_nil lim w
  go_enter Try.func19, Try.ntmps19
  go_wp2_with (first
    | (go_at_call 56; refine Calls.mono hL ?_; rintro e w' ⟨⟨lim, rfl⟩, rfl⟩)
    | (go_at_call 55; refine Calls.mono (hI lim) ?_; rintro e w2 ⟨⟨v, rfl⟩, rfl⟩))
  first | go_end0 | (refine bodyPost_ret (results_none rfl _ _ _) rfl ?_)
  exact ⟨⟨_, rfl⟩, rfl⟩

theorem sortO_perm (d : Array Int) : (Go.Sort.insertionSort (ult id) d 0 d.size).toList.Perm d.toList := by
  obtain ⟨hP, _⟩ := Go.Sort.insertionSort_holds (ult_swo id) d 0 d.size (Nat.zero_le _) (Nat.le_refl _)
  generalize Go.Sort.insertionSort (ult id) d 0 d.size = D at *
  have hsz : D.size = d.size := by have := hP.1; simpa using this
  have h3 := hP.2.2
  rw [show D.extract 0 d.size = D by rw [← hsz]; simp, show d.extract 0 d.size = d by simp] at h3
  simpa using h3

set_option maxRecDepth 100000 in
set_option maxHeartbeats 1000000 in
theorem compact_ok (p : Option Addr) (n c : Nat) (xs : List Int) (w : World) (h : II w p n xs) (hd : xs.Nodup) (hn : n ≤ 12) :
    Calls Try.prog 20 #[.slice p n c] w fun e w' => e = .returned (.slice p n c) ∧ Below w.heap.size w w' := by
  have hl := h.len
  by_cases h2 : n < 2
  · have h2I : (n : Int) < 2 := by omega
    go_enter Try.func20, Try.ntmps20
    go_wp2
    go_ret
    exact ⟨rfl, Below.refl _ _⟩
  · have h2I : ¬ (n : Int) < 2 := by omega
    go_enter Try.func20, Try.ntmps20
    go_wp2_with fail
    go_loopw [3] (fun i wr => ∃ j : Nat, 1 ≤ j ∧ j ≤ n ∧ i = .int .i64 (j : Int) ∧ Below w.heap.size w wr) (fun i _ => n - (intOf i).toNat)
    case atStart => exact ⟨1, by omega, by omega, rfl, Below.refl _ _⟩
    case round =>
      obtain ⟨j, hj1, hj, rfl, hb⟩ := hrel
      by_cases hlt : j < n
      · obtain ⟨b1, o1, rfl, hc1⟩ := (h.kept hb).cells (by omega)
        obtain ⟨jp, rfl⟩ : ∃ jp, j = jp + 1 := ⟨j - 1, by omega⟩
        have e1 := hc1 (jp + 1) hlt
        have e2 := hc1 jp (by omega)
        have hne : ¬ xs.getD (jp + 1) 0 = xs.getD jp 0 := by
          rw [List.getD_eq_getElem?_getD, List.getD_eq_getElem?_getD, List.getElem?_eq_getElem (by omega), List.getElem?_eq_getElem (by omega)]
          intro e
          have := (List.getElem_inj hd).1 (show xs[jp + 1] = xs[jp] by simpa using e)
          omega
        clear hc1
        generalize xs.getD (jp + 1) 0 = y1 at *
        generalize xs.getD jp 0 = y2 at *
        have b1 : ((jp : Int) + 1) < (n : Int) := by omega
        have b2 : (0 : Int) ≤ (jp : Int) + 1 := by omega
        have b3 : (jp : Int) < (n : Int) := by omega
        have b4 : (0 : Int) ≤ (jp : Int) := by omega
        have b7 := IntWalk.i64_in (jp : Int) (by omega)
        have b8 : (jp : Int) + 1 - 1 = (jp : Int) := by omega
        go_wp2_with fail
        go_quiet (fail)
        go_wp2
        go_roundw
        case rel => exact ⟨jp + 1 + 1, by omega, by omega, by go_num, below_drewN hb _⟩
        case measure => simp [intOf]; omega
      · have hI : ¬ (j : Int) < (n : Int) := by omega
        go_wp2
        go_ret
        exact ⟨rfl, hb⟩
theorem rep_bx {L : List Bf} {f : Bf} {b : Nat} : (∃ k ∈ rep L f, k.b = b) ↔ ∃ k ∈ L, k.b = b := by
  unfold rep
  constructor
  · rintro ⟨k, hk, e⟩
    obtain ⟨k0, h0, rfl⟩ := List.mem_map.1 hk
    refine ⟨k0, h0, ?_⟩
    by_cases h : k0.b = f.b
    · rw [if_pos h] at e; rw [h]; exact e
    · rw [if_neg h] at e; exact e
  · rintro ⟨k, hk, e⟩
    refine ⟨_, List.mem_map.2 ⟨k, hk, rfl⟩, ?_⟩
    by_cases h : k.b = f.b
    · rw [if_pos h, ← h]; exact e
    · rw [if_neg h]; exact e
theorem below_of_grownx {w w' : World} (h : w.grownBy w' none) : Below w.heap.size w w' := ⟨h.os, h.tape, h.output, h.size, fun i hi => h.block i hi (by simp)⟩

def PnD (D : DataW Unit) (g : Nat → Nat) : Prop := Kb D ∧ ∀ b, b < 12 → D.atKey (key b) (.lit (.int .i64 0)) = .lit (.int .i64 (g b : Int))
/-- Block pb is a map of pins. -/
def Pn (w : World) (pb : Nat) (g : Nat → Nat) : Prop := ∃ D, w.ownsMap Try.prog 3 (plainElem Try.prog 3) pb (size D) D ∧ PnD D g
theorem pn_made (w : World) : Pn (w.alloc (.map #[] 0)) w.heap.size (fun _ => 0) :=
  ⟨.map [], w.ownsMap_made _ _ _, fun x h => by simp [has] at h, fun b _ => rfl⟩
theorem Pn.lt {w : World} {pb : Nat} {g : Nat → Nat} (h : Pn w pb g) : pb < w.heap.size := by
  obtain ⟨D, ho, _⟩ := h
  exact ho.lt
theorem Pn.kept {w w' : World} {pb : Nat} {g : Nat → Nat} (h : Pn w pb g) (hb : w'.heap[pb]? = w.heap[pb]?) : Pn w' pb g := by
  obtain ⟨D, ⟨es, c, ho, r⟩, k⟩ := h
  exact ⟨D, ⟨es, c, hb.trans ho, r⟩, k⟩
theorem Pn.isMap {w : World} {pb : Nat} {g : Nat → Nat} (h : Pn w pb g) : ∃ es c, w.heap[pb]? = some (.map es c) := by
  obtain ⟨D, ⟨es, c, ho, r⟩, k⟩ := h
  exact ⟨es, c, ho⟩
theorem Pn.look {w : World} {pb : Nat} {g : Nat → Nat} (h : Pn w pb g) (b : Nat) (hb : b < 12) :
    (Instr.lookup 40 (.map (some pb)) (.int .i64 (b : Int)) false).run Try.prog w = .ok (.int .i64 (g b : Int)) w := by
  obtain ⟨D, ho, _, hat⟩ := h
  obtain ⟨c, hr, hv, _⟩ := ho.lookup_int keyed3 Try.underlying40 Try.underlying3 (zero3 w) (key_of (b := b) (by omega))
  rw [hat b hb] at hv
  simp only [DataW.lit.injEq, Lit.int.injEq, true_and] at hv
  rw [hr, ← hv]
def nupd (g : Nat → Nat) (b n : Nat) (k : Nat) : Nat := if k = b then n else g k
theorem Pn.store {w : World} {pb : Nat} {g : Nat → Nat} (h : Pn w pb g) (b : Nat) (hb : b < 12) (n : Nat) (hn : n ≤ 1000) :
    ∃ w', (Instr.mapUpdate 40 (.map (some pb)) (.int .i64 (b : Int)) (.int .i64 (n : Int))).run Try.prog w = .ok () w' ∧ Pn w' pb (nupd g b n) ∧ w.grownBy w' (some pb) := by
  obtain ⟨D, ho, hk, hat⟩ := h
  have h12 := size12 ho hk
  obtain ⟨w', hr, ho', hg⟩ := ho.update keyed3 Try.underlying40 (show size D < maxLen by unfold maxLen; omega) (key_of (b := b) (by omega)) (plainElem_int Try.underlying3 (lit_wf (n := (n : Int)) ⟨by omega, by omega⟩))
  refine ⟨w', hr, ⟨_, tight ho', fun x hx => ?_, fun y hy => ?_⟩, hg⟩
  · by_cases e : x = key b
    · exact ⟨b, hb, e⟩
    · rw [has_put_other e] at hx
      exact hk x hx
  · unfold nupd
    by_cases e : y = b
    · subst e; rw [if_pos rfl, atKey_put_same ho.isMap (key_is y)]
    · rw [if_neg e, atKey_put_other (fun h => e (key_inj h))]; exact hat y hy

/-- How a cache may turn in a Get: who stays keeps its pins; who is new has none; who is pinned stays. -/
structure Lk (C C' : Ch) : Prop where
  bd : C'.bd = C.bd
  cnt : C'.hi + C'.mi ≤ C.hi + C.mi + 1
  old : ∀ f' ∈ C'.L, (∃ f ∈ C.L, f.b = f'.b ∧ f'.p = f.p) ∨ ((∀ f ∈ C.L, ¬ f.b = f'.b) ∧ f'.p = 0)
  pin : ∀ f ∈ C.L, 0 < f.p → ∃ f' ∈ C'.L, f'.b = f.b
theorem Lk.refl (C : Ch) : Lk C C := ⟨rfl, by omega, fun f hf => .inl ⟨f, hf, rfl, rfl⟩, fun f hf _ => ⟨f, hf, rfl⟩⟩
/-- The pins are those of the cache's buffers. -/
def PL (g : Nat → Nat) (C : Ch) : Prop := (∀ f ∈ C.L, g f.b = f.p) ∧ ∀ b, (∀ f ∈ C.L, ¬ f.b = b) → g b = 0
theorem PL.turn {g : Nat → Nat} {C C' : Ch} (h : PL g C) (k : Lk C C') : PL g C' := by
  refine ⟨fun f' hf' => ?_, fun b hb => ?_⟩
  · rcases k.old f' hf' with ⟨f, hf, e1, e2⟩ | ⟨hn, e2⟩
    · rw [← e1, h.1 f hf, e2]
    · rw [h.2 f'.b hn, e2]
  · by_cases hm : ∃ f ∈ C.L, f.b = b
    · obtain ⟨f, hf, rfl⟩ := hm
      rw [h.1 f hf]
      rcases Nat.eq_zero_or_pos f.p with h0 | h0
      · exact h0
      · obtain ⟨f', hf', e⟩ := k.pin f hf h0
        exact absurd e (hb f' hf')
    · exact h.2 b (fun f hf e => hm ⟨f, hf, e⟩)
theorem PL.rep {g : Nat → Nat} {C : Ch} (h : PL g C) {f : Bf} (hf : f ∈ C.L) (n : Nat) : PL (nupd g f.b n) { C with L := rep C.L { f with p := n } } := by
  refine ⟨fun k hk => ?_, fun b hb => ?_⟩
  · rcases mem_rep hk with rfl | ⟨hk, hne⟩
    · simp [nupd]
    · unfold nupd
      rw [if_neg hne]
      exact h.1 k hk
  · have hne : ¬ b = f.b := fun e => by
      obtain ⟨k, hk, ek⟩ := (rep_bx (L := C.L) (f := { f with p := n }) (b := b)).2 ⟨f, hf, e.symm⟩
      exact hb k hk ek
    unfold nupd
    rw [if_neg hne]
    exact h.2 b (fun k hk e => by
      obtain ⟨k', hk', ek⟩ := (rep_bx (L := C.L) (f := { f with p := n }) (b := b)).2 ⟨k, hk, e⟩
      exact hb k' hk' ek)

/-- What was there below B stays, and so does every map but the cache's own. -/
structure Kp (B mc : Nat) (w w' : World) : Prop where
  below : Below B w w'
  map : ∀ k es ck, w.heap[k]? = some (.map es ck) → k ≠ mc → w'.heap[k]? = w.heap[k]?
theorem Kp.refl (B mc : Nat) (w : World) : Kp B mc w w := ⟨Below.refl _ _, fun _ _ _ _ _ => rfl⟩
theorem Kp.trans {B mc : Nat} {w w' w'' : World} (h : Kp B mc w w') (k : Kp B mc w' w'') : Kp B mc w w'' :=
  ⟨h.below.trans k.below, fun i es ck hm hne => (k.map i es ck ((h.map i es ck hm hne).trans hm) hne).trans (h.map i es ck hm hne)⟩

section
variable {B : Nat} {w w' : World} {c mb d dm df : Nat} {dq : Value} {C : Ch} {S : St}
theorem CD.kp (h : CD B w c mb d dm df dq C S) (hB : B ≤ w.heap.size) (hf : Frame (cfoot c mb C) w w') : Kp B mb w w' :=
  ⟨hf.below hB (fun k hk => (h.ci.toCW.in k hk).1), fun k es ck hm hne => hf.block k (Array.getElem?_eq_some_iff.1 hm).1 (by
    rintro (e | e | ⟨f, hf, e⟩)
    · have := h.ci.row; rw [← e, hm] at this; cases this
    · exact hne e
    · have := h.ci.buf f hf; rw [← e, hm] at this; cases this)⟩

theorem room_pin (hnd : (C.L.map (·.b)).Nodup) {f : Bf} (hf : f ∈ C.L) (hp : 0 < f.p) : f ∈ room C := by
  unfold room
  split
  · cases hv : vic C.L with
    | none => exact hf
    | some v =>
      refine mem_outb.2 ⟨hf, fun e => ?_⟩
      have hv0 : v.p = 0 := by have := List.find?_some hv; simpa using this
      have hvm : v ∈ C.L := List.mem_of_find?_eq_some hv
      have : f = v := same_of_b hnd hvm hf e
      subst this
      omega
  · exact hf
theorem Lk.hit (h : CI B w c mb d S.N C) {f : Bf} (hf : f ∈ C.L) : Lk C { C with hi := C.hi + 1, L := outb C.L f.b ++ [{ f with u := C.hi + 1 + C.mi }] } := by
  refine ⟨rfl, by show C.hi + 1 + C.mi ≤ _; omega, fun k hk => ?_, fun k hk hp => ?_⟩
  · rcases List.mem_append.1 hk with hk | hk
    · exact .inl ⟨k, (mem_outb.1 hk).1, rfl, rfl⟩
    · simp at hk; subst hk; exact .inl ⟨f, hf, rfl, rfl⟩
  · by_cases e : k.b = f.b
    · exact ⟨{ f with u := C.hi + 1 + C.mi }, by simp, e.symm⟩
    · exact ⟨k, List.mem_append_left _ (mem_outb.2 ⟨hk, e⟩), rfl⟩
theorem Lk.miss : Lk C { C with mi := C.mi + 1 } := ⟨rfl, by show C.hi + (C.mi + 1) ≤ _; omega, fun f hf => .inl ⟨f, hf, rfl, rfl⟩, fun f hf _ => ⟨f, hf, rfl⟩⟩
theorem Lk.new (hnd : (C.L.map (·.b)).Nodup) {b u gn : Nat} {xs : List Int} (hno : ∀ k ∈ C.L, ¬ k.b = b) : Lk C { C with mi := C.mi + 1, L := room C ++ [⟨b, u, 0, gn, xs⟩] } := by
  refine ⟨rfl, by show C.hi + (C.mi + 1) ≤ _; omega, fun k hk => ?_, fun k hk hp => ⟨k, List.mem_append_left _ (room_pin hnd hk hp), rfl⟩⟩
  rcases List.mem_append.1 hk with hk | hk
  · exact .inl ⟨k, (room_sub C).subset hk, rfl, rfl⟩
  · simp at hk; subst hk; exact .inr ⟨hno, rfl⟩

theorem get_all (h : CD B w c mb d dm df dq C S) (h0 : S.fl = fun _ => 0) (hB : B ≤ w.heap.size) (b : Nat) (hc : C.hi + C.mi < 4611686018427387904) :
    Calls Try.prog 15 #[.pointer (some ⟨c, 0, none⟩), .int .i64 (b : Int)] w fun e w' => ∃ v C', e = .returned v ∧ CD B w' c mb d dm df dq C' S ∧ Lk C C' ∧ Kp B mb w w' := by
  have hnd := h.ci.toCW.bnd
  by_cases hb : b < S.N
  · by_cases hm : ∃ f ∈ C.L, f.b = b
    · obtain ⟨f, hf, rfl⟩ := hm
      refine (get_hit h hf hc).mono ?_
      rintro e w1 ⟨g, cap, rfl, _, hcd, hfr⟩
      exact ⟨_, _, rfl, hcd, Lk.hit h.ci hf, h.kp hB hfr⟩
    · have hno : ∀ k ∈ C.L, ¬ k.b = b := fun k hk e => hm ⟨k, hk, e⟩
      by_cases hg : canGo C
      · refine (get_new h h.di.ok b hb hno hc hg (by rw [h0])).mono ?_
        rintro e w1 ⟨g, cap, gn, rfl, _, _, hcd, hfr⟩
        exact ⟨_, _, rfl, hcd, Lk.new hnd hno, h.kp hB hfr⟩
      · have hfull : C.bd ≤ C.L.length := by
          rcases Nat.lt_or_ge C.L.length C.bd with h' | h'
          · exact absurd (fun hh => absurd hh (by omega)) hg
          · exact h'
        have hv : vic C.L = none := by
          cases hv : vic C.L with
          | none => rfl
          | some f => exact absurd (fun _ => ⟨f, hv⟩) hg
        refine (get_pinned h b hb hno hc hfull hv).mono ?_
        rintro e w1 ⟨rfl, hcd, hfr⟩
        exact ⟨_, _, rfl, hcd, Lk.miss, h.kp hB hfr⟩
  · refine (get_arg h (b : Int) (.inr (by omega))).mono ?_
    rintro e w1 ⟨rfl, rfl⟩
    exact ⟨_, C, rfl, h, Lk.refl C, Kp.refl _ _ _⟩

set_option maxHeartbeats 1000000 in
theorem pin_newx (b : Nat) (F : Nat → Bf) (Cn : Nat → Ch) (X : Nat → Prop) (hG : Calls Try.prog 15 #[.pointer (some ⟨c, 0, none⟩), .int .i64 (b : Int)] w fun e w' => ∃ p n cp gn, e = .returned (.tuple #[.slice p n cp, .int .i64 0]) ∧ CD B w' c mb d dm df dq (Cn gn) S ∧ Frame X w w')
    (hF : ∀ gn, F gn ∈ (Cn gn).L ∧ (F gn).b = b ∧ (F gn).p = 0) :
    Calls Try.prog 16 #[.pointer (some ⟨c, 0, none⟩), .int .i64 (b : Int)] w fun e w' => ∃ gn w1, e = .returned (.int .i64 0) ∧ Frame X w w1 ∧ CD B w1 c mb d dm df dq (Cn gn) S ∧ Frame (cfoot c mb (Cn gn)) w1 w' ∧ CD B w' c mb d dm df dq { Cn gn with L := rep (Cn gn).L { F gn with p := 1 } } S := by
  have HF := (show Hid _ from hF)
  clear hF
  go_enter Try.func16, Try.ntmps16
  go_wp2_with (first | (go_at_call 15; refine Calls.mono hG ?_; rintro e w1 ⟨p, n, cp, gn, rfl, hcd, hX⟩; obtain ⟨hf, hfb, hfp⟩ := HF.out gn; have c2 := hcd.ci.c2; have hl := hcd.ci.hit hf; have hpc := hcd.ci.pins hf; have hfz := buf_froz hcd.ci.toCW hf 129; have hd := hcd.pinned hf 1 (by omega); rw [hfb] at hl; rw [hfp] at hpc; have HD := (show Hid _ from hd); have HC := (show Hid _ from hcd); clear hd hcd hfb hfp hf))
  go_ret
  exact ⟨gn, w1, rfl, hX, HC.out, HD.out.2, HD.out.1⟩

theorem pin_all (h : CD B w c mb d dm df dq C S) (h0 : S.fl = fun _ => 0) (hB : B ≤ w.heap.size) (b : Nat) (hc : C.hi + C.mi < 4611686018427387904) :
    Calls Try.prog 16 #[.pointer (some ⟨c, 0, none⟩), .int .i64 (b : Int)] w fun e w' => ∃ (er : Int) (C'' : Ch), e = .returned (.int .i64 er) ∧ CD B w' c mb d dm df dq C'' S ∧ Kp B mb w w' ∧
      ((¬ er = 0 ∧ Lk C C'') ∨ (er = 0 ∧ ∃ (C' : Ch) (f : Bf), Lk C C' ∧ f ∈ C'.L ∧ f.b = b ∧ f.p < 100 ∧ C'' = { C' with L := rep C'.L { f with p := f.p + 1 } })) := by
  have hnd := h.ci.toCW.bnd
  by_cases hb : b < S.N
  · by_cases hm : ∃ f ∈ C.L, f.b = b
    · obtain ⟨f, hf, rfl⟩ := hm
      have hps := h.ci.ps f hf
      have hG := (get_hit h hf hc).mono (R' := fun e w' => ∃ p n cp, e = .returned (.tuple #[.slice p n cp, .int .i64 0]) ∧ CD B w' c mb d dm df dq { C with hi := C.hi + 1, L := outb C.L f.b ++ [{ f with u := C.hi + 1 + C.mi }] } S ∧ { f with u := C.hi + 1 + C.mi } ∈ ({ C with hi := C.hi + 1, L := outb C.L f.b ++ [{ f with u := C.hi + 1 + C.mi }] } : Ch).L ∧ Frame (cfoot c mb C) w w') (by
        rintro e w1 ⟨g, cap, rfl, _, hcd, hfr⟩
        exact ⟨_, _, _, rfl, hcd, by simp, hfr⟩)
      by_cases hp : f.p < 100
      · refine (pin_ok { f with u := C.hi + 1 + C.mi } (cfoot c mb C) hG hp).mono ?_
        rintro e w2 ⟨w1, rfl, hX, hY, hcd⟩
        have hY' : Frame (cfoot c mb C) w1 w2 := hY.mono (fun k _ hk => by
          rcases hk with hk | hk | ⟨m, hm, hk⟩
          · exact .inl hk
          · exact .inr (.inl hk)
          · rcases List.mem_append.1 hm with hm | hm
            · exact .inr (.inr ⟨m, (mem_outb.1 hm).1, hk⟩)
            · simp at hm
              subst hm
              exact .inr (.inr ⟨f, hf, hk⟩))
        exact ⟨0, _, rfl, hcd, h.kp hB (hX.trans hY'), .inr ⟨rfl, _, { f with u := C.hi + 1 + C.mi }, Lk.hit h.ci hf, by simp, rfl, hp, rfl⟩⟩
      · refine (pin_full { f with u := C.hi + 1 + C.mi } (cfoot c mb C) hG (by show 100 ≤ f.p; omega)).mono ?_
        rintro e w2 ⟨rfl, hX, hcd⟩
        exact ⟨3, _, rfl, hcd, h.kp hB hX, .inl ⟨by omega, Lk.hit h.ci hf⟩⟩
    · have hno : ∀ k ∈ C.L, ¬ k.b = b := fun k hk e => hm ⟨k, hk, e⟩
      by_cases hg : canGo C
      · have hG := (get_new h h.di.ok b hb hno hc hg (by rw [h0])).mono (R' := fun e w' => ∃ p n cp gn, e = .returned (.tuple #[.slice p n cp, .int .i64 0]) ∧ CD B w' c mb d dm df dq { C with mi := C.mi + 1, L := room C ++ [⟨b, C.hi + (C.mi + 1), 0, gn, S.f b⟩] } S ∧ Frame (cfoot c mb C) w w') (by
          rintro e w1 ⟨g, cap, gn, rfl, _, _, hcd, hfr⟩
          exact ⟨_, _, _, gn, rfl, hcd, hfr⟩)
        refine (pin_newx b (fun gn => ⟨b, C.hi + (C.mi + 1), 0, gn, S.f b⟩) (fun gn => { C with mi := C.mi + 1, L := room C ++ [⟨b, C.hi + (C.mi + 1), 0, gn, S.f b⟩] }) _ hG (fun gn => ⟨by simp, rfl, rfl⟩)).mono ?_
        rintro e w2 ⟨gn, w1, rfl, hX, hcd1, hY, hcd⟩
        exact ⟨0, _, rfl, hcd, (h.kp hB hX).trans (hcd1.kp (Nat.le_trans hB hX.size) hY), .inr ⟨rfl, _, ⟨b, C.hi + (C.mi + 1), 0, gn, S.f b⟩, Lk.new hnd hno, by simp, rfl, by show 0 < 100; omega, rfl⟩⟩
      · have hfull : C.bd ≤ C.L.length := by
          rcases Nat.lt_or_ge C.L.length C.bd with h' | h'
          · exact absurd (fun hh => absurd hh (by omega)) hg
          · exact h'
        have hv : vic C.L = none := by
          cases hv : vic C.L with
          | none => rfl
          | some f => exact absurd (fun _ => ⟨f, hv⟩) hg
        refine (pin_err (b : Int) 60 (fun w w' => CD B w' c mb d dm df dq { C with mi := C.mi + 1 } S ∧ Frame (cfoot c mb C) w w') (by omega) ((get_pinned h b hb hno hc hfull hv).mono (by
          rintro e w1 ⟨rfl, hcd, hfr⟩
          exact ⟨_, _, _, rfl, hcd, hfr⟩))).mono ?_
        rintro e w1 ⟨rfl, hcd, hfr⟩
        exact ⟨60, _, rfl, hcd, h.kp hB hfr, .inl ⟨by omega, Lk.miss⟩⟩
  · refine (pin_err (b : Int) 1 (fun w w' => w' = w) (by omega) ((get_arg h (b : Int) (.inr (by omega))).mono (by
      rintro e w1 ⟨rfl, rfl⟩
      exact ⟨_, _, _, rfl, rfl⟩))).mono ?_
    rintro e w1 ⟨rfl, rfl⟩
    exact ⟨1, C, rfl, h, Kp.refl _ _ _, .inl ⟨by omega, Lk.refl C⟩⟩

theorem unpin_yes (h : CD B w c mb d dm df dq C S) (hB : B ≤ w.heap.size) {g : Nat → Nat} (hg : PL g C) (b : Nat) (hp : 0 < g b) :
    Calls Try.prog 17 #[.pointer (some ⟨c, 0, none⟩), .int .i64 (b : Int)] w fun e w' => ∃ C' : Ch, e = .returned (.int .i64 0) ∧ CD B w' c mb d dm df dq C' S ∧ Kp B mb w w' ∧ PL (nupd g b (g b - 1)) C' ∧ C'.bd = C.bd ∧ C'.hi + C'.mi = C.hi + C.mi := by
  by_cases hm : ∃ f ∈ C.L, f.b = b
  · obtain ⟨f, hf, rfl⟩ := hm
    have e := hg.1 f hf
    refine (unpin_ok h hf (by omega)).mono ?_
    rintro e w1 ⟨rfl, hcd, hfr⟩
    refine ⟨_, rfl, hcd, h.kp hB hfr, ?_, rfl, rfl⟩
    rw [e]
    exact hg.rep hf (f.p - 1)
  · have := hg.2 b (fun f hf e => hm ⟨f, hf, e⟩)
    omega
theorem unpin_no (h : CD B w c mb d dm df dq C S) {g : Nat → Nat} (hg : PL g C) (b : Nat) (hp : g b = 0) :
    Calls Try.prog 17 #[.pointer (some ⟨c, 0, none⟩), .int .i64 (b : Int)] w fun e w' => e = .returned (.int .i64 (if b < S.N then 3 else 1)) ∧ w' = w := by
  by_cases hb : b < S.N
  · rw [if_pos hb]
    by_cases hm : ∃ f ∈ C.L, f.b = b
    · obtain ⟨f, hf, rfl⟩ := hm
      have e := hg.1 f hf
      have hq := pinned_hit h.ci.toCW hf
      rw [decide_eq_false (by omega)] at hq
      exact unpin_not h f.b hb hq
    · exact unpin_not h b hb (pinned_miss h.ci.toCW hb (fun f hf e => hm ⟨f, hf, e⟩))
  · rw [if_neg hb]
    exact unpin_arg h (b : Int) (.inr (by omega))
theorem nupd_same {g : Nat → Nat} {b : Nat} (h : g b = 0) : nupd g b (g b - 1) = g := by
  funext k
  unfold nupd
  by_cases e : k = b
  · subst e; rw [if_pos rfl]; omega
  · rw [if_neg e]

theorem CD.but (h : CD B w c mb d dm df dq C S) {k : Nat} (hg : w.grownBy w' (some k)) (hk : (∃ es ck, w.heap[k]? = some (.map es ck)) ∧ k ≠ mb ∧ k ≠ dm ∧ k ≠ df) : CD B w' c mb d dm df dq C S := by
  obtain ⟨⟨es, ck, hm⟩, n1, n2, n3⟩ := hk
  refine ⟨h.ci.kept fun j hj => hg.block j (h.ci.toCW.in j hj).2 ?_, h.di.kept fun j hj => hg.block j (h.di.in j hj).2 ?_, h.ne⟩
  · intro e
    cases e
    rcases hj with rfl | e | ⟨f, hf, e⟩
    · have := h.ci.row; rw [hm] at this; cases this
    · exact n1 e
    · have := h.ci.buf f hf; rw [← e, hm] at this; cases this
  · intro e
    cases e
    rcases hj with rfl | e | e | e
    · have := h.di.row; rw [hm] at this; cases this
    · exact n2 e
    · exact n3 e
    · obtain ⟨cs, e'⟩ := own_ty h.di.que e
      rw [hm] at e'; cases e'

theorem held_sort (h : CD B w c mb d dm df dq C S) :
    Calls Try.prog 11 #[.pointer (some ⟨c, 0, none⟩)] w fun e w' => ∃ p n cp, e = .returned (.slice p n cp) ∧ Hid (n = C.L.length) ∧ Below w.heap.size w w' ∧ Hid (∀ w2, Below w'.heap.size w' w2 → (∀ x, Calls Try.prog 18 #[.slice p n cp, .int .i64 x] w2 fun e w'' => e = .returned (.bool (decide (x ∈ blks C.L))) ∧ w'' = w2) ∧
      Calls Try.prog 19 #[.slice p n cp] w2 fun e w3 => (∃ v, e = .returned v) ∧ Below w.heap.size w2 w3 ∧ Calls Try.prog 20 #[.slice p n cp] w3 fun e w4 => e = .returned (.slice p n cp) ∧ Below w3.heap.size w3 w4) := by
  refine (held_ok h.ci).mono ?_
  rintro e w5 ⟨v5, rfl, hN, hb⟩
  have hr := blks_rng h.ci.toCW
  have h12 := h.ci.toCW.twelve
  have h12' := h.ci.N12
  have hl := blks_len C.L
  have hnd : (blks C.L).Nodup := by
    have := h.ci.toCW.bnd
    have e : blks C.L = (C.L.map (·.b)).map (fun n : Nat => (n : Int)) := by simp [blks]
    rw [e]
    exact List.Pairwise.map _ (fun a b h e => h (by omega)) this
  rcases shape_case hN with ⟨rfl, h0⟩ | ⟨g, cap, rfl, hHg, hA⟩
  · rw [h0] at hl
    refine ⟨none, 0, 0, rfl, hl, hb, fun w2 hb2 => ⟨fun x => ?_, ?_⟩⟩
    · rw [h0]
      exact icontains_ok none 0 0 [] x w2 ⟨rfl, by omega, by simp, fun h => by omega⟩
    · refine (sortO_nil w2).mono ?_
      rintro e w3 ⟨hv, rfl⟩
      exact ⟨hv, Below.refl _ _, compact_ok none 0 0 [] w3 ⟨rfl, by omega, by simp, fun h => by omega⟩ List.nodup_nil (by omega)⟩
  · have hii : ∀ (W : World) (D : Array Int), Ar W g (blks C.L).length cap D → D.toList.Perm (blks C.L) → II W (some ⟨g, 0, none⟩) (blks C.L).length D.toList := fun W D hAr hp => by
      refine row_ii (xs := D.toList) hAr (by omega) (fun y hy => hr y (hp.mem_iff.1 hy))
    refine ⟨some ⟨g, 0, none⟩, _, cap, rfl, hl, hb, fun w2 hb2 => ?_⟩
    have hglt : g < w5.heap.size := by
      rcases hA.2 with ⟨h', _⟩ | ⟨g', cap', cur, h', hbg, hg, _⟩
      · cases h'
      · have e : g = g' := by simpa using (Value.slice.inj h').1
        subst e
        exact (Array.getElem?_eq_some_iff.1 hg).1
    have hA2 : Ar w2 g (blks C.L).length cap (blks C.L).toArray := hA.kept (hb2.block g hglt)
    refine ⟨fun x => icontains_ok _ _ cap _ x w2 (hii w2 _ hA2 (List.Perm.refl _)), ?_⟩
    refine (sortO_ok g _ cap _ w2 hA2 (by omega)).mono ?_
    rintro e w3 ⟨hv, hA3, hF3⟩
    have hp : (Go.Sort.insertionSort (ult id) (blks C.L).toArray 0 (blks C.L).length).toList.Perm (blks C.L) := by
      have := sortO_perm (blks C.L).toArray
      simpa using this
    exact ⟨hv, hF3.below (Nat.le_trans hb.size hb2.size) (fun k hk => by rw [hk]; exact hHg), compact_ok _ _ cap _ w3 (hii w3 _ hA3 hp) (hp.nodup_iff.2 hnd) (by omega)⟩
end
theorem three_mod (b : Int) : ∃ k : Nat, k < 3 ∧ wrap64 ((IntKind.u64.wrap b).tmod 3) = (k : Int) := by
  have h0 : 0 ≤ IntKind.u64.wrap b := by
    simp [IntKind.wrap, IntKind.bits, IntKind.signed]
    omega
  rw [Int.tmod_eq_emod_of_nonneg h0]
  generalize IntKind.u64.wrap b = u at *
  refine ⟨(u % 3).toNat, by omega, ?_⟩
  unfold wrap64; omega
set_option maxRecDepth 100000 in
set_option maxHeartbeats 4000000 in
theorem cacheBound_walk (blocks bound : Int) (p : Option Addr) (m cp : Nat) (ks : List KV) (w : World) (hl : KI w p m ks) :
    Calls Try.prog 4 #[.int .i64 blocks, .int .i64 bound, .slice p m cp] w fun e w' => e = .returned (.bool true) ∧ Below w.heap.size w w' := by
  obtain ⟨n0, hn0, en, en1⟩ := eight_mod bound
  obtain ⟨n, hn⟩ : ∃ n, n = 1 + n0 := ⟨_, rfl⟩
  have eN : 1 + (n0 : Int) = (n : Int) := by omega
  have hn1 : 1 ≤ n := by omega
  have hn2 : n ≤ 8 := by omega
  have hbo := both_ok blocks (n : Int) w
  have hmm := hl.big
  have hlen := hl.len
  have hmkm := @run_makeMap Try.prog
  clear hn
  go_enter Try.func4, Try.ntmps4
  go_wp2_with (first
    | (go_at_call 8; refine Calls.mono hbo ?_; rintro e w1 ⟨K, a, x, hK1, hK2, eK', hb1, h9⟩; have h9 := h9.resolve_left (fun hb => by have := hb.1; omega); obtain ⟨n', c, mc, y, dm, df, dq, bv, qv, fv, gB, gQ, en', _, _, rfl, hcd, _, _⟩ := h9))
  obtain rfl : n' = n := by omega
  have hSf := Sb_fl K K
  generalize Sb K K = S at *
  clear eK' en' hbo h9 hn0
  have hT0 := hcd.later ((Below.refl _ _).alloc (Nat.le_refl _) (.map #[] 0))
  have hpm : w.heap.size ≤ w1.heap.size ∧ w1.heap.size ≠ mc ∧ w1.heap.size ≠ dm ∧ w1.heap.size ≠ df := by
    have h1 := (hcd.ci.toCW.in mc (.inr (.inl rfl))).2
    have h2 := (hcd.di.in dm (.inr (.inl rfl))).2
    have h3 := (hcd.di.in df (.inr (.inr (.inl rfl)))).2
    exact ⟨hb1.size, by omega, by omega, by omega⟩
  have hP0 := pn_made w1
  have hb2 := hb1.alloc hb1.size (.map #[] 0)
  clear hcd hmkm
  generalize w1.alloc (.map #[] 0) = w2 at *
  generalize w1.heap.size = pb at *
  go_loopw [42] (fun i wr => ∃ (j : Nat) (g : Nat → Nat) (C : Ch), j ≤ m ∧ i = .int .i64 (j : Int) ∧ CD w.heap.size wr c mc a dm df dq C S ∧ Pn wr pb g ∧ PL g C ∧ C.bd = n' ∧ C.hi + C.mi ≤ j ∧ Below w.heap.size w wr) (fun i _ => m - (intOf i).toNat)
  case atStart => exact ⟨0, _, _, by omega, rfl, hT0, hP0, ⟨fun f hf => (by cases hf), fun _ _ => rfl⟩, rfl, Nat.le_refl _, hb2⟩
  case round =>
    clear hT0 hP0 hb2
    obtain ⟨j, g, C, hj, rfl, hcd, hP, hL, hbd, hcnt, hbw⟩ := hrel
    by_cases hlt : j < m
    · obtain ⟨bb, oo, rfl, hat⟩ := hl.cells (by omega)
      obtain ⟨k, hk⟩ : ∃ k, ks[j]? = some k := ⟨ks[j]'(by omega), List.getElem?_eq_getElem (by omega)⟩
      obtain ⟨k0, k1, k2, ⟨xp, xm, xc, k3, x1, x2, x3⟩, r0, r1, r2⟩ := (hat j k hk).kept hbw
      clear hat hk x3
      obtain ⟨b, hb12, eb, _⟩ := twelve_mod k.b
      obtain ⟨o, ho3, eo⟩ := three_mod k.op
      generalize k.op = op at *
      generalize k.b = kb at *
      generalize k.n = kn at *
      have hjI : (j : Int) < (m : Int) := by omega
      have hj0 : (0 : Int) ≤ (j : Int) := by omega
      have hba := (Below.refl wr.heap.size wr).alloc (Nat.le_refl _) (.cells #[.int .i64 op, .int .i64 kb, .int .i64 kn, .slice xp xm xc] 31)
      have hTa := hcd.later hba
      have hPa := hP.kept (hba.block pb hP.lt)
      have hbwa := hbw.alloc hbw.size (.cells #[.int .i64 op, .int .i64 kb, .int .i64 kn, .slice xp xm xc] 31)
      have hbxx := World.alloc_heap_new wr (.cells #[.int .i64 op, .int .i64 kb, .int .i64 kn, .slice xp xm xc] 31)
      have y0 : _ = some (Value.int .i64 op) := cell_of_row _ _ 0 _ 31 _ hbxx
      have y1 : _ = some (Value.int .i64 kb) := cell_of_row _ _ 1 _ 31 _ hbxx
      have hsz1 := hbwa.size
      obtain ⟨H, hH⟩ : ∃ H, wr.heap.size = H := ⟨_, rfl⟩
      rcases (by omega : o = 0 ∨ o = 1 ∨ o = 2) with rfl | rfl | rfl
      · have hget := get_all hTa hSf hsz1 b (by omega)
        go_wp2_with (first
          | (go_at_call 15; refine Calls.mono hget ?_; rintro e w3 ⟨v3, C', rfl, hcd3, hlk3, hkp3⟩; obtain ⟨es0, ck0, hm0⟩ := hPa.isMap; have hP3 := hPa.kept (hkp3.map pb es0 ck0 hm0 hpm.2.1); have hL3 := hL.turn hlk3; have hbw3 := hbwa.trans hkp3.below; have hheld := held_sort hcd3; have hlenC := hcd3.ci.len; have hbd3 := hlk3.bd; have hcn3 := hlk3.cnt)
          | (go_at_call 11; refine Calls.mono hheld ?_; rintro e w5 ⟨p5, n5, c5, rfl, hn5, hb5, HS5⟩; have hle5 : decide (n' < n5) = false := decide_eq_false (by have := hn5.out; have := hlenC; omega); obtain ⟨D0, hown, hpd⟩ := hP3.kept (hb5.block pb hP3.lt))
          | (at_range; refine wpList_range_own _ rfl _ 40 rfl 3 3 keyed3 Try.underlying40 _ pb (size D0) D0 rfl hown ?_; intro w0 hrg0 hg0 hs0))
        go_frame
        go_loopw [17] (fun _ wz2 => ∃ (left : Lit → Bool) (cnt : Nat), wz2.ranges Try.prog 3 (plainElem Try.prog 3) pb w5.heap.size (size D0) D0 left cnt ∧ Below w5.heap.size w5 wz2) (fun _ wz2 => wz2.rangeLeft pb w5.heap.size)
        case atStart => exact ⟨_, _, hrg0, below_of_grownx hg0⟩
        case round =>
          clear hrg0 hg0 hs0
          obtain ⟨left, cnt, hrg, hbz⟩ := hrel
          obtain ⟨hcon, hsort⟩ := HS5.out wr hbz
          go_wp2_with (first
            | (at_next; refine wpList_next_ranges_ii _ rfl _ rfl 3 3 .i64 .i64 keyed3 Try.underlying3 Try.underlying3 pb w5.heap.size (size D0) D0 left cnt rfl hrg ?_ ?_))
          · intro hc0 hl0
            have hbW : Below w3.heap.size w3 wr := hb5.trans (hbz.mono hb5.size)
            clear hcon hrg
            go_wp2_with (first
              | (go_at_call 19; refine Calls.mono hsort ?_; rintro e w7 ⟨⟨v7, rfl⟩, hb7, hcomp⟩; have hbW7 := hbW.trans (hb7.mono (Nat.le_refl _)))
              | (go_at_call 20; refine Calls.mono hcomp ?_; rintro e w8 ⟨rfl, hb8⟩; have hbW8 := hbW7.trans (hb8.mono hbW7.size); have hheld2 := held_sort (hcd3.later hbW8))
              | (go_at_call 11; refine Calls.mono hheld2 ?_; rintro e w9 ⟨p9, n9, c9, rfl, hn9, hb9, _⟩; obtain rfl : n9 = n5 := hn9.out.trans hn5.out.symm; have hbW9 := hbW8.trans (hb9.mono hbW8.size)))
            go_roundw
            case rel => exact ⟨j + 1, _, _, by omega, by go_num, hcd3.later hbW9, hP3.kept (hbW9.block pb hP3.lt), hL3, hbd3.trans hbd, (by omega), hbw3.trans (hbW9.mono hbw3.size)⟩
            case measure => simp [intOf]; omega
          · intro xk ck w6 cnt6 hwx hwc hlk hat2 hrg6 hlt6 hg6 hs6 hen
            obtain ⟨b', hb', ekl⟩ := hpd.1 (.int .i64 xk) (Maps.has_true_of_atKey hat2)
            obtain rfl : xk = (b' : Int) := by simp [key] at ekl; exact ekl
            obtain rfl : ck = ((g) b' : Int) := by
              have h1 := hat2 (.lit (.int .i64 0))
              have h2 := hpd.2 b' hb'
              rw [show (Lit.int .i64 (b' : Int)) = key b' from rfl, h2] at h1
              simpa using h1.symm
            have hbz6 := hbz.grown hg6 hbz.size (fun k hk => (by cases hk; exact Nat.le_refl _))
            obtain ⟨hcon6, _⟩ := HS5.out w6 hbz6
            clear hsort hcon hat2 hwx hwc ekl
            by_cases hpos : 0 < (g) b'
            · have hmem : (b' : Int) ∈ blks (C').L := by
                refine mem_blks.2 ?_
                by_cases hm : ∃ f ∈ (C').L, f.b = b'
                · exact hm
                · have := (hL3).2 b' (fun f hf e => hm ⟨f, hf, e⟩)
                  omega
              have hc6 := hcon6 (b' : Int)
              rw [decide_eq_true hmem] at hc6
              have hposI : (0 : Int) < ((g) b' : Int) := by omega
              go_wp2_with (first
                | (go_at_call 18; refine same_at hc6 ?_))
              go_roundw
              case rel => first | exact ⟨_, cnt6, hrg6, hbz6⟩ | exact ⟨_, _, _, _, _, _, _, _, _, _, _, _, _, _, _, _, ⟨_, cnt6, hrg6, hbz6⟩, rfl⟩
              case measure => rw [hrg6.left_eq, hrg.left_eq]; exact hlt6
            · have hposI : ¬ (0 : Int) < ((g) b' : Int) := by omega
              clear hcon6
              go_wp2_with fail
              go_roundw
              case rel => first | exact ⟨_, cnt6, hrg6, hbz6⟩ | exact ⟨_, _, _, _, _, _, _, _, _, _, _, _, _, _, _, _, ⟨_, cnt6, hrg6, hbz6⟩, rfl⟩
              case measure => rw [hrg6.left_eq, hrg.left_eq]; exact hlt6
      · have hpin := pin_all hTa hSf hsz1 b (by omega)
        go_wp2_with fail
        refine Calls.mono hpin ?_
        rintro e w3 ⟨er, C3, rfl, hcd3, hkp3, hcase⟩
        obtain ⟨es0, ck0, hm0⟩ := hPa.isMap
        have hP3 := hPa.kept (hkp3.map pb es0 ck0 hm0 hpm.2.1)
        have hbw3 := hbwa.trans hkp3.below
        clear hpin
        rcases hcase with ⟨hne, hlk3⟩ | ⟨rfl, C', f, hlk3, hf, rfl, hp, rfl⟩
        · have her : (er == 0) = false := by rw [beq_eq_false_iff_ne]; exact hne
          have hL3 := hL.turn hlk3
          have hbd3 := hlk3.bd
          have hcn3 := hlk3.cnt
          have hheld := held_sort hcd3
          have hlenC := hcd3.ci.len
          go_wp2_with (first
            | (go_at_call 11; refine Calls.mono hheld ?_; rintro e w5 ⟨p5, n5, c5, rfl, hn5, hb5, HS5⟩; have hle5 : decide (n' < n5) = false := decide_eq_false (by have := hn5.out; have := hlenC; omega); obtain ⟨D0, hown, hpd⟩ := hP3.kept (hb5.block pb hP3.lt))
            | (at_range; refine wpList_range_own _ rfl _ 40 rfl 3 3 keyed3 Try.underlying40 _ pb (size D0) D0 rfl hown ?_; intro w0 hrg0 hg0 hs0))
          go_frame
          go_loopw [17] (fun _ wz2 => ∃ (left : Lit → Bool) (cnt : Nat), wz2.ranges Try.prog 3 (plainElem Try.prog 3) pb w5.heap.size (size D0) D0 left cnt ∧ Below w5.heap.size w5 wz2) (fun _ wz2 => wz2.rangeLeft pb w5.heap.size)
          case atStart => exact ⟨_, _, hrg0, below_of_grownx hg0⟩
          case round =>
            clear hrg0 hg0 hs0
            obtain ⟨left, cnt, hrg, hbz⟩ := hrel
            obtain ⟨hcon, hsort⟩ := HS5.out wr hbz
            go_wp2_with (first
              | (at_next; refine wpList_next_ranges_ii _ rfl _ rfl 3 3 .i64 .i64 keyed3 Try.underlying3 Try.underlying3 pb w5.heap.size (size D0) D0 left cnt rfl hrg ?_ ?_))
            · intro hc0 hl0
              have hbW : Below w3.heap.size w3 wr := hb5.trans (hbz.mono hb5.size)
              clear hcon hrg
              go_wp2_with (first
                | (go_at_call 19; refine Calls.mono hsort ?_; rintro e w7 ⟨⟨v7, rfl⟩, hb7, hcomp⟩; have hbW7 := hbW.trans (hb7.mono (Nat.le_refl _)))
                | (go_at_call 20; refine Calls.mono hcomp ?_; rintro e w8 ⟨rfl, hb8⟩; have hbW8 := hbW7.trans (hb8.mono hbW7.size); have hheld2 := held_sort (hcd3.later hbW8))
                | (go_at_call 11; refine Calls.mono hheld2 ?_; rintro e w9 ⟨p9, n9, c9, rfl, hn9, hb9, _⟩; obtain rfl : n9 = n5 := hn9.out.trans hn5.out.symm; have hbW9 := hbW8.trans (hb9.mono hbW8.size)))
              go_roundw
              case rel => exact ⟨j + 1, _, _, by omega, by go_num, hcd3.later hbW9, hP3.kept (hbW9.block pb hP3.lt), hL3, hbd3.trans hbd, (by omega), hbw3.trans (hbW9.mono hbw3.size)⟩
              case measure => simp [intOf]; omega
            · intro xk ck w6 cnt6 hwx hwc hlk hat2 hrg6 hlt6 hg6 hs6 hen
              obtain ⟨b', hb', ekl⟩ := hpd.1 (.int .i64 xk) (Maps.has_true_of_atKey hat2)
              obtain rfl : xk = (b' : Int) := by simp [key] at ekl; exact ekl
              obtain rfl : ck = ((g) b' : Int) := by
                have h1 := hat2 (.lit (.int .i64 0))
                have h2 := hpd.2 b' hb'
                rw [show (Lit.int .i64 (b' : Int)) = key b' from rfl, h2] at h1
                simpa using h1.symm
              have hbz6 := hbz.grown hg6 hbz.size (fun k hk => (by cases hk; exact Nat.le_refl _))
              obtain ⟨hcon6, _⟩ := HS5.out w6 hbz6
              clear hsort hcon hat2 hwx hwc ekl
              by_cases hpos : 0 < (g) b'
              · have hmem : (b' : Int) ∈ blks (C3).L := by
                  refine mem_blks.2 ?_
                  by_cases hm : ∃ f ∈ (C3).L, f.b = b'
                  · exact hm
                  · have := (hL3).2 b' (fun f hf e => hm ⟨f, hf, e⟩)
                    omega
                have hc6 := hcon6 (b' : Int)
                rw [decide_eq_true hmem] at hc6
                have hposI : (0 : Int) < ((g) b' : Int) := by omega
                go_wp2_with (first
                  | (go_at_call 18; refine same_at hc6 ?_))
                go_roundw
                case rel => first | exact ⟨_, cnt6, hrg6, hbz6⟩ | exact ⟨_, _, _, _, _, _, _, _, _, _, _, _, _, _, _, _, ⟨_, cnt6, hrg6, hbz6⟩, rfl⟩
                case measure => rw [hrg6.left_eq, hrg.left_eq]; exact hlt6
              · have hposI : ¬ (0 : Int) < ((g) b' : Int) := by omega
                clear hcon6
                go_wp2_with fail
                go_roundw
                case rel => first | exact ⟨_, cnt6, hrg6, hbz6⟩ | exact ⟨_, _, _, _, _, _, _, _, _, _, _, _, _, _, _, _, ⟨_, cnt6, hrg6, hbz6⟩, rfl⟩
                case measure => rw [hrg6.left_eq, hrg.left_eq]; exact hlt6
        · have hL3 := hL.turn hlk3
          have hgb : g f.b = f.p := hL3.1 f hf
          have hL4 := hL3.rep hf (f.p + 1)
          rw [← hgb] at hL4
          have hgb1 : (g f.b : Int) < 100 := by omega
          have hgb0 : (0 : Int) ≤ (g f.b : Int) := by omega
          have hbd3 := hlk3.bd
          have hcn3 := hlk3.cnt
          have hlook := hP3.look f.b hb12
          obtain ⟨w4, hst, hP4, hg4⟩ := hP3.store f.b hb12 (g f.b + 1) (by omega)
          rw [show ((g f.b + 1 : Nat) : Int) = (g f.b : Int) + 1 by omega] at hst
          have hcd4 := hcd3.but hg4 ⟨hP3.isMap, hpm.2⟩
          have hbw4 := hbw3.grown hg4 hbw3.size (fun k hk => (by cases hk; exact hpm.1))
          rw [← hgb] at hcd4
          have hheld := held_sort hcd4
          have hlenC := hcd4.ci.len
          have hlenC : ({ C' with L := rep C'.L { f with p := g f.b + 1 } } : Ch).L.length ≤ n' := Nat.le_trans hlenC (Nat.le_of_eq (hbd3.trans hbd))
          obtain ⟨C4, hC4⟩ : ∃ C4 : Ch, C4 = { C' with L := rep C'.L { f with p := g f.b + 1 } } := ⟨_, rfl⟩
          have hbd4 : C4.bd = n' := by rw [hC4]; exact hbd3.trans hbd
          have hcn4 : C4.hi + C4.mi ≤ j + 1 := by rw [hC4]; show C'.hi + C'.mi ≤ j + 1; omega
          rw [← hC4] at hcd4 hL4 hheld hlenC
          clear hC4 hgb hf hp hlk3 hbd3 hcn3 hL3 hcd3
          obtain ⟨g4, hg4e⟩ : ∃ g4, g4 = nupd g f.b (g f.b + 1) := ⟨_, rfl⟩
          rw [← hg4e] at hP4 hL4
          clear hg4e
          go_wp2_with (first
            | (go_at_call 11; refine Calls.mono hheld ?_; rintro e w5 ⟨p5, n5, c5, rfl, hn5, hb5, HS5⟩; have hle5 : decide (n' < n5) = false := decide_eq_false (by have := hn5.out; have := hlenC; omega); obtain ⟨D0, hown, hpd⟩ := hP4.kept (hb5.block pb hP4.lt))
            | (at_range; refine wpList_range_own _ rfl _ 40 rfl 3 3 keyed3 Try.underlying40 _ pb (size D0) D0 rfl hown ?_; intro w0 hrg0 hg0 hs0))
          go_frame
          go_loopw [17] (fun _ wz2 => ∃ (left : Lit → Bool) (cnt : Nat), wz2.ranges Try.prog 3 (plainElem Try.prog 3) pb w5.heap.size (size D0) D0 left cnt ∧ Below w5.heap.size w5 wz2) (fun _ wz2 => wz2.rangeLeft pb w5.heap.size)
          case atStart => exact ⟨_, _, hrg0, below_of_grownx hg0⟩
          case round =>
            clear hrg0 hg0 hs0
            obtain ⟨left, cnt, hrg, hbz⟩ := hrel
            obtain ⟨hcon, hsort⟩ := HS5.out wr hbz
            go_wp2_with (first
              | (at_next; refine wpList_next_ranges_ii _ rfl _ rfl 3 3 .i64 .i64 keyed3 Try.underlying3 Try.underlying3 pb w5.heap.size (size D0) D0 left cnt rfl hrg ?_ ?_))
            · intro hc0 hl0
              have hbW : Below w4.heap.size w4 wr := hb5.trans (hbz.mono hb5.size)
              clear hcon hrg
              go_wp2_with (first
                | (go_at_call 19; refine Calls.mono hsort ?_; rintro e w7 ⟨⟨v7, rfl⟩, hb7, hcomp⟩; have hbW7 := hbW.trans (hb7.mono (Nat.le_refl _)))
                | (go_at_call 20; refine Calls.mono hcomp ?_; rintro e w8 ⟨rfl, hb8⟩; have hbW8 := hbW7.trans (hb8.mono hbW7.size); have hheld2 := held_sort (hcd4.later hbW8))
                | (go_at_call 11; refine Calls.mono hheld2 ?_; rintro e w9 ⟨p9, n9, c9, rfl, hn9, hb9, _⟩; obtain rfl : n9 = n5 := hn9.out.trans hn5.out.symm; have hbW9 := hbW8.trans (hb9.mono hbW8.size)))
              go_roundw
              case rel => exact ⟨j + 1, _, _, by omega, by go_num, hcd4.later hbW9, hP4.kept (hbW9.block pb hP4.lt), hL4, hbd4, hcn4, hbw4.trans (hbW9.mono hbw4.size)⟩
              case measure => simp [intOf]; omega
            · intro xk ck w6 cnt6 hwx hwc hlk hat2 hrg6 hlt6 hg6 hs6 hen
              obtain ⟨b', hb', ekl⟩ := hpd.1 (.int .i64 xk) (Maps.has_true_of_atKey hat2)
              obtain rfl : xk = (b' : Int) := by simp [key] at ekl; exact ekl
              obtain rfl : ck = ((g4) b' : Int) := by
                have h1 := hat2 (.lit (.int .i64 0))
                have h2 := hpd.2 b' hb'
                rw [show (Lit.int .i64 (b' : Int)) = key b' from rfl, h2] at h1
                simpa using h1.symm
              have hbz6 := hbz.grown hg6 hbz.size (fun k hk => (by cases hk; exact Nat.le_refl _))
              obtain ⟨hcon6, _⟩ := HS5.out w6 hbz6
              clear hsort hcon hat2 hwx hwc ekl
              by_cases hpos : 0 < (g4) b'
              · have hmem : (b' : Int) ∈ blks (C4).L := by
                  refine mem_blks.2 ?_
                  by_cases hm : ∃ f ∈ (C4).L, f.b = b'
                  · exact hm
                  · have := (hL4).2 b' (fun f hf e => hm ⟨f, hf, e⟩)
                    omega
                have hc6 := hcon6 (b' : Int)
                rw [decide_eq_true hmem] at hc6
                have hposI : (0 : Int) < ((g4) b' : Int) := by omega
                go_wp2_with (first
                  | (go_at_call 18; refine same_at hc6 ?_))
                go_roundw
                case rel => first | exact ⟨_, cnt6, hrg6, hbz6⟩ | exact ⟨_, _, _, _, _, _, _, _, _, _, _, _, _, _, _, _, ⟨_, cnt6, hrg6, hbz6⟩, rfl⟩
                case measure => rw [hrg6.left_eq, hrg.left_eq]; exact hlt6
              · have hposI : ¬ (0 : Int) < ((g4) b' : Int) := by omega
                clear hcon6
                go_wp2_with fail
                go_roundw
                case rel => first | exact ⟨_, cnt6, hrg6, hbz6⟩ | exact ⟨_, _, _, _, _, _, _, _, _, _, _, _, _, _, _, _, ⟨_, cnt6, hrg6, hbz6⟩, rfl⟩
                case measure => rw [hrg6.left_eq, hrg.left_eq]; exact hlt6
      · rcases Nat.eq_zero_or_pos (g b) with hg0 | hg0
        · have hun := fun q => unpin_no (hTa.later (below_drewN (Below.refl _ _) q)) hL b hg0
          obtain ⟨er, hee⟩ : ∃ er : Int, (if b < S.N then 3 else 1) = er := ⟨_, rfl⟩
          have hne : ¬ er = 0 := by rw [← hee]; split <;> omega
          simp only [hee] at hun
          have her : (er == 0) = false := by rw [beq_eq_false_iff_ne]; exact hne
          have hlook := fun q => (hPa.kept (w' := (wr.alloc (.cells #[.int .i64 op, .int .i64 kb, .int .i64 kn, .slice xp xm xc] 31)).drewN q) ((below_drewN (Below.refl _ _) q).block pb hPa.lt)).look b hb12
          simp only [hg0] at hlook
          clear hee
          go_wp2_with fail
          clear k0 k1 k2 k3
          generalize wr.alloc (.cells #[.int .i64 op, .int .i64 kb, .int .i64 kn, .slice xp xm xc] 31) = wa at *
          rw [eb]
          go_quiet (first | (go_at_call 17; exact Calls.quiet_of_same (hun _)))
          have hbq := below_drewN (Below.refl wa.heap.size wa) nq
          have hTq := hTa.later hbq
          have hPq := hPa.kept (hbq.block pb hPa.lt)
          have hbwq := below_drewN hbwa nq
          have hlq := hlook nq
          clear hun hlook hTa hPa hbwa hbq hsz1 y0 y1 hbxx hba
          generalize wa.drewN nq = wq at *
          obtain ⟨w4, hst, hP4, hg4⟩ := hPq.store b hb12 0 (by omega)
          have hst : (Instr.mapUpdate 40 (.map (some pb)) (.int .i64 (b : Int)) (.int .i64 0)).run Try.prog wq = .ok () w4 := hst
          have hcd4 := hTq.but hg4 ⟨hPq.isMap, hpm.2⟩
          have hbw4 := hbwq.grown hg4 hbwq.size (fun k hk => (by cases hk; exact hpm.1))
          have hgs : nupd g b 0 = g := by have := nupd_same hg0; rw [hg0] at this; exact this
          rw [hgs] at hP4
          have hheld := held_sort hcd4
          have hlenC : C.L.length ≤ n' := by rw [← hbd]; exact hcd4.ci.len
          have hmx : max (0 : Int) (-1) = 0 := by decide
          clear hgs hg0
          go_wp2_with (first
            | (go_at_call 11; refine Calls.mono hheld ?_; rintro e w5 ⟨p5, n5, c5, rfl, hn5, hb5, HS5⟩; have hle5 : decide (n' < n5) = false := decide_eq_false (by have := hn5.out; have := hlenC; omega); obtain ⟨D0, hown, hpd⟩ := hP4.kept (hb5.block pb hP4.lt))
            | (at_range; refine wpList_range_own _ rfl _ 40 rfl 3 3 keyed3 Try.underlying40 _ pb (size D0) D0 rfl hown ?_; intro w0 hrg0 hg0 hs0))
          go_frame
          go_loopw [17] (fun _ wz2 => ∃ (left : Lit → Bool) (cnt : Nat), wz2.ranges Try.prog 3 (plainElem Try.prog 3) pb w5.heap.size (size D0) D0 left cnt ∧ Below w5.heap.size w5 wz2) (fun _ wz2 => wz2.rangeLeft pb w5.heap.size)
          case atStart => exact ⟨_, _, hrg0, below_of_grownx hg0⟩
          case round =>
            clear hrg0 hg0 hs0
            obtain ⟨left, cnt, hrg, hbz⟩ := hrel
            obtain ⟨hcon, hsort⟩ := HS5.out wr hbz
            go_wp2_with (first
              | (at_next; refine wpList_next_ranges_ii _ rfl _ rfl 3 3 .i64 .i64 keyed3 Try.underlying3 Try.underlying3 pb w5.heap.size (size D0) D0 left cnt rfl hrg ?_ ?_))
            · intro hc0 hl0
              have hbW : Below w4.heap.size w4 wr := hb5.trans (hbz.mono hb5.size)
              clear hcon hrg
              go_wp2_with (first
                | (go_at_call 19; refine Calls.mono hsort ?_; rintro e w7 ⟨⟨v7, rfl⟩, hb7, hcomp⟩; have hbW7 := hbW.trans (hb7.mono (Nat.le_refl _)))
                | (go_at_call 20; refine Calls.mono hcomp ?_; rintro e w8 ⟨rfl, hb8⟩; have hbW8 := hbW7.trans (hb8.mono hbW7.size); have hheld2 := held_sort (hcd4.later hbW8))
                | (go_at_call 11; refine Calls.mono hheld2 ?_; rintro e w9 ⟨p9, n9, c9, rfl, hn9, hb9, _⟩; obtain rfl : n9 = n5 := hn9.out.trans hn5.out.symm; have hbW9 := hbW8.trans (hb9.mono hbW8.size)))
              go_roundw
              case rel => exact ⟨j + 1, _, _, by omega, by go_num, hcd4.later hbW9, hP4.kept (hbW9.block pb hP4.lt), hL, hbd, (by omega), hbw4.trans (hbW9.mono hbw4.size)⟩
              case measure => simp [intOf]; omega
            · intro xk ck w6 cnt6 hwx hwc hlk hat2 hrg6 hlt6 hg6 hs6 hen
              obtain ⟨b', hb', ekl⟩ := hpd.1 (.int .i64 xk) (Maps.has_true_of_atKey hat2)
              obtain rfl : xk = (b' : Int) := by simp [key] at ekl; exact ekl
              obtain rfl : ck = ((g) b' : Int) := by
                have h1 := hat2 (.lit (.int .i64 0))
                have h2 := hpd.2 b' hb'
                rw [show (Lit.int .i64 (b' : Int)) = key b' from rfl, h2] at h1
                simpa using h1.symm
              have hbz6 := hbz.grown hg6 hbz.size (fun k hk => (by cases hk; exact Nat.le_refl _))
              obtain ⟨hcon6, _⟩ := HS5.out w6 hbz6
              clear hsort hcon hat2 hwx hwc ekl
              by_cases hpos : 0 < (g) b'
              · have hmem : (b' : Int) ∈ blks (C).L := by
                  refine mem_blks.2 ?_
                  by_cases hm : ∃ f ∈ (C).L, f.b = b'
                  · exact hm
                  · have := (hL).2 b' (fun f hf e => hm ⟨f, hf, e⟩)
                    omega
                have hc6 := hcon6 (b' : Int)
                rw [decide_eq_true hmem] at hc6
                have hposI : (0 : Int) < ((g) b' : Int) := by omega
                go_wp2_with (first
                  | (go_at_call 18; refine same_at hc6 ?_))
                go_roundw
                case rel => first | exact ⟨_, cnt6, hrg6, hbz6⟩ | exact ⟨_, _, _, _, _, _, _, _, _, _, _, _, _, _, _, _, ⟨_, cnt6, hrg6, hbz6⟩, rfl⟩
                case measure => rw [hrg6.left_eq, hrg.left_eq]; exact hlt6
              · have hposI : ¬ (0 : Int) < ((g) b' : Int) := by omega
                clear hcon6
                go_wp2_with fail
                go_roundw
                case rel => first | exact ⟨_, cnt6, hrg6, hbz6⟩ | exact ⟨_, _, _, _, _, _, _, _, _, _, _, _, _, _, _, _, ⟨_, cnt6, hrg6, hbz6⟩, rfl⟩
                case measure => rw [hrg6.left_eq, hrg.left_eq]; exact hlt6
        · have hcda : CD w.heap.size (wr.alloc (.cells #[.int .i64 op, .int .i64 kb, .int .i64 kn, .slice xp xm xc] 31)).drew c mc a dm df dq C S := hTa.later (below_drewN (Below.refl _ _) 1)
          have hPd : Pn (wr.alloc (.cells #[.int .i64 op, .int .i64 kb, .int .i64 kn, .slice xp xm xc] 31)).drew pb g := hPa.kept rfl
          have hbwd : Below w.heap.size w (wr.alloc (.cells #[.int .i64 op, .int .i64 kb, .int .i64 kn, .slice xp xm xc] 31)).drew := below_drewN hbwa 1
          have hun := unpin_yes hcda hbwd.size hL b hg0
          have hgI : (0 : Int) < (g b : Int) := by omega
          have hgle : g b ≤ 100 := by
            by_cases hm : ∃ f ∈ C.L, f.b = b
            · obtain ⟨f, hf, rfl⟩ := hm
              rw [hL.1 f hf]
              exact hTa.ci.ps f hf
            · have := hL.2 b (fun f hf e => hm ⟨f, hf, e⟩)
              omega
          have hl1 := hPd.look b hb12
          go_wp2_with fail
          clear k0 k1 k2 k3
          generalize wr.alloc (.cells #[.int .i64 op, .int .i64 kb, .int .i64 kn, .slice xp xm xc] 31) = wa at *
          rw [eb]
          go_region_held3 (fun w' => (Instr.lookup 40 (.map (some pb)) (.int .i64 (b : Int)) false).run Try.prog w' = .ok (.int .i64 (g b : Int)) w') (first | exact hl1 | exact hl3) (first | (go_at_call 17; refine Calls.mono hun ?_; rintro e w3 ⟨C', rfl, hcd3, hkp3, hL3, hbd3, hcn3⟩; obtain ⟨es0, ck0, hm0⟩ := hPd.isMap; have hP3 := hPd.kept (hkp3.map pb es0 ck0 hm0 hpm.2.1); have hl3 := hP3.look b hb12))
          · have hbw3 := hbwd.trans hkp3.below
            obtain ⟨w4, hst, hP4, hg4⟩ := hP3.store b hb12 (g b - 1) (by have := hgle; omega)
            rw [show ((g b - 1 : Nat) : Int) = (g b : Int) - 1 by omega] at hst
            have hcd4 := hcd3.but hg4 ⟨hP3.isMap, hpm.2⟩
            have hbw4 := hbw3.grown hg4 hbw3.size (fun k hk => (by cases hk; exact hpm.1))
            have hheld := held_sort hcd4
            have hlenC : C'.L.length ≤ n' := by rw [← hbd, ← hbd3]; exact hcd4.ci.len
            have hmx : max (0 : Int) ((g b : Int) - 1) = (g b : Int) - 1 := by omega
            have hgI1 : (g b : Int) ≤ 100 := by omega
            have hbd4 : C'.bd = n' := hbd3.trans hbd
            have hcn4 : C'.hi + C'.mi ≤ j + 1 := by omega
            clear hun hl1 hcda hPd hTa hPa hbwa hbd3 hcn3 hkp3 hcd3
            obtain ⟨g4, hg4e⟩ : ∃ g4, g4 = nupd g b (g b - 1) := ⟨_, rfl⟩
            rw [← hg4e] at hP4 hL3
            clear hg4e
            go_wp2_with (first
              | (go_at_call 11; refine Calls.mono hheld ?_; rintro e w5 ⟨p5, n5, c5, rfl, hn5, hb5, HS5⟩; have hle5 : decide (n' < n5) = false := decide_eq_false (by have := hn5.out; have := hlenC; omega); obtain ⟨D0, hown, hpd⟩ := hP4.kept (hb5.block pb hP4.lt))
              | (at_range; refine wpList_range_own _ rfl _ 40 rfl 3 3 keyed3 Try.underlying40 _ pb (size D0) D0 rfl hown ?_; intro w0 hrg0 hg0 hs0))
            go_frame
            go_loopw [17] (fun _ wz2 => ∃ (left : Lit → Bool) (cnt : Nat), wz2.ranges Try.prog 3 (plainElem Try.prog 3) pb w5.heap.size (size D0) D0 left cnt ∧ Below w5.heap.size w5 wz2) (fun _ wz2 => wz2.rangeLeft pb w5.heap.size)
            case atStart => exact ⟨_, _, hrg0, below_of_grownx hg0⟩
            case round =>
              clear hrg0 hg0 hs0
              obtain ⟨left, cnt, hrg, hbz⟩ := hrel
              obtain ⟨hcon, hsort⟩ := HS5.out wr hbz
              go_wp2_with (first
                | (at_next; refine wpList_next_ranges_ii _ rfl _ rfl 3 3 .i64 .i64 keyed3 Try.underlying3 Try.underlying3 pb w5.heap.size (size D0) D0 left cnt rfl hrg ?_ ?_))
              · intro hc0 hl0
                have hbW : Below w4.heap.size w4 wr := hb5.trans (hbz.mono hb5.size)
                clear hcon hrg
                go_wp2_with (first
                  | (go_at_call 19; refine Calls.mono hsort ?_; rintro e w7 ⟨⟨v7, rfl⟩, hb7, hcomp⟩; have hbW7 := hbW.trans (hb7.mono (Nat.le_refl _)))
                  | (go_at_call 20; refine Calls.mono hcomp ?_; rintro e w8 ⟨rfl, hb8⟩; have hbW8 := hbW7.trans (hb8.mono hbW7.size); have hheld2 := held_sort (hcd4.later hbW8))
                  | (go_at_call 11; refine Calls.mono hheld2 ?_; rintro e w9 ⟨p9, n9, c9, rfl, hn9, hb9, _⟩; obtain rfl : n9 = n5 := hn9.out.trans hn5.out.symm; have hbW9 := hbW8.trans (hb9.mono hbW8.size)))
                go_roundw
                case rel => exact ⟨j + 1, _, _, by omega, by go_num, hcd4.later hbW9, hP4.kept (hbW9.block pb hP4.lt), hL3, hbd4, hcn4, hbw4.trans (hbW9.mono hbw4.size)⟩
                case measure => simp [intOf]; omega
              · intro xk ck w6 cnt6 hwx hwc hlk hat2 hrg6 hlt6 hg6 hs6 hen
                obtain ⟨b', hb', ekl⟩ := hpd.1 (.int .i64 xk) (Maps.has_true_of_atKey hat2)
                obtain rfl : xk = (b' : Int) := by simp [key] at ekl; exact ekl
                obtain rfl : ck = ((g4) b' : Int) := by
                  have h1 := hat2 (.lit (.int .i64 0))
                  have h2 := hpd.2 b' hb'
                  rw [show (Lit.int .i64 (b' : Int)) = key b' from rfl, h2] at h1
                  simpa using h1.symm
                have hbz6 := hbz.grown hg6 hbz.size (fun k hk => (by cases hk; exact Nat.le_refl _))
                obtain ⟨hcon6, _⟩ := HS5.out w6 hbz6
                clear hsort hcon hat2 hwx hwc ekl
                by_cases hpos : 0 < (g4) b'
                · have hmem : (b' : Int) ∈ blks (C').L := by
                    refine mem_blks.2 ?_
                    by_cases hm : ∃ f ∈ (C').L, f.b = b'
                    · exact hm
                    · have := (hL3).2 b' (fun f hf e => hm ⟨f, hf, e⟩)
                      omega
                  have hc6 := hcon6 (b' : Int)
                  rw [decide_eq_true hmem] at hc6
                  have hposI : (0 : Int) < ((g4) b' : Int) := by omega
                  go_wp2_with (first
                    | (go_at_call 18; refine same_at hc6 ?_))
                  go_roundw
                  case rel => first | exact ⟨_, cnt6, hrg6, hbz6⟩ | exact ⟨_, _, _, _, _, _, _, _, _, _, _, _, _, _, _, _, ⟨_, cnt6, hrg6, hbz6⟩, rfl⟩
                  case measure => rw [hrg6.left_eq, hrg.left_eq]; exact hlt6
                · have hposI : ¬ (0 : Int) < ((g4) b' : Int) := by omega
                  clear hcon6
                  go_wp2_with fail
                  go_roundw
                  case rel => first | exact ⟨_, cnt6, hrg6, hbz6⟩ | exact ⟨_, _, _, _, _, _, _, _, _, _, _, _, _, _, _, _, ⟨_, cnt6, hrg6, hbz6⟩, rfl⟩
                  case measure => rw [hrg6.left_eq, hrg.left_eq]; exact hlt6
          · have hbw3 := hbwd.trans hkp3.below
            obtain ⟨w4, hst, hP4, hg4⟩ := hP3.store b hb12 (g b - 1) (by have := hgle; omega)
            rw [show ((g b - 1 : Nat) : Int) = (g b : Int) - 1 by omega] at hst
            have hcd4 := hcd3.but hg4 ⟨hP3.isMap, hpm.2⟩
            have hbw4 := hbw3.grown hg4 hbw3.size (fun k hk => (by cases hk; exact hpm.1))
            have hheld := held_sort hcd4
            have hlenC : C'.L.length ≤ n' := by rw [← hbd, ← hbd3]; exact hcd4.ci.len
            have hmx : max (0 : Int) ((g b : Int) - 1) = (g b : Int) - 1 := by omega
            have hgI1 : (g b : Int) ≤ 100 := by omega
            have hbd4 : C'.bd = n' := hbd3.trans hbd
            have hcn4 : C'.hi + C'.mi ≤ j + 1 := by omega
            clear hun hl1 hcda hPd hTa hPa hbwa hbd3 hcn3 hkp3 hcd3
            obtain ⟨g4, hg4e⟩ : ∃ g4, g4 = nupd g b (g b - 1) := ⟨_, rfl⟩
            rw [← hg4e] at hP4 hL3
            clear hg4e
            go_wp2_with (first
              | (go_at_call 11; refine Calls.mono hheld ?_; rintro e w5 ⟨p5, n5, c5, rfl, hn5, hb5, HS5⟩; have hle5 : decide (n' < n5) = false := decide_eq_false (by have := hn5.out; have := hlenC; omega); obtain ⟨D0, hown, hpd⟩ := hP4.kept (hb5.block pb hP4.lt))
              | (at_range; refine wpList_range_own _ rfl _ 40 rfl 3 3 keyed3 Try.underlying40 _ pb (size D0) D0 rfl hown ?_; intro w0 hrg0 hg0 hs0))
            go_frame
            go_loopw [17] (fun _ wz2 => ∃ (left : Lit → Bool) (cnt : Nat), wz2.ranges Try.prog 3 (plainElem Try.prog 3) pb w5.heap.size (size D0) D0 left cnt ∧ Below w5.heap.size w5 wz2) (fun _ wz2 => wz2.rangeLeft pb w5.heap.size)
            case atStart => exact ⟨_, _, hrg0, below_of_grownx hg0⟩
            case round =>
              clear hrg0 hg0 hs0
              obtain ⟨left, cnt, hrg, hbz⟩ := hrel
              obtain ⟨hcon, hsort⟩ := HS5.out wr hbz
              go_wp2_with (first
                | (at_next; refine wpList_next_ranges_ii _ rfl _ rfl 3 3 .i64 .i64 keyed3 Try.underlying3 Try.underlying3 pb w5.heap.size (size D0) D0 left cnt rfl hrg ?_ ?_))
              · intro hc0 hl0
                have hbW : Below w4.heap.size w4 wr := hb5.trans (hbz.mono hb5.size)
                clear hcon hrg
                go_wp2_with (first
                  | (go_at_call 19; refine Calls.mono hsort ?_; rintro e w7 ⟨⟨v7, rfl⟩, hb7, hcomp⟩; have hbW7 := hbW.trans (hb7.mono (Nat.le_refl _)))
                  | (go_at_call 20; refine Calls.mono hcomp ?_; rintro e w8 ⟨rfl, hb8⟩; have hbW8 := hbW7.trans (hb8.mono hbW7.size); have hheld2 := held_sort (hcd4.later hbW8))
                  | (go_at_call 11; refine Calls.mono hheld2 ?_; rintro e w9 ⟨p9, n9, c9, rfl, hn9, hb9, _⟩; obtain rfl : n9 = n5 := hn9.out.trans hn5.out.symm; have hbW9 := hbW8.trans (hb9.mono hbW8.size)))
                go_roundw
                case rel => exact ⟨j + 1, _, _, by omega, by go_num, hcd4.later hbW9, hP4.kept (hbW9.block pb hP4.lt), hL3, hbd4, hcn4, hbw4.trans (hbW9.mono hbw4.size)⟩
                case measure => simp [intOf]; omega
              · intro xk ck w6 cnt6 hwx hwc hlk hat2 hrg6 hlt6 hg6 hs6 hen
                obtain ⟨b', hb', ekl⟩ := hpd.1 (.int .i64 xk) (Maps.has_true_of_atKey hat2)
                obtain rfl : xk = (b' : Int) := by simp [key] at ekl; exact ekl
                obtain rfl : ck = ((g4) b' : Int) := by
                  have h1 := hat2 (.lit (.int .i64 0))
                  have h2 := hpd.2 b' hb'
                  rw [show (Lit.int .i64 (b' : Int)) = key b' from rfl, h2] at h1
                  simpa using h1.symm
                have hbz6 := hbz.grown hg6 hbz.size (fun k hk => (by cases hk; exact Nat.le_refl _))
                obtain ⟨hcon6, _⟩ := HS5.out w6 hbz6
                clear hsort hcon hat2 hwx hwc ekl
                by_cases hpos : 0 < (g4) b'
                · have hmem : (b' : Int) ∈ blks (C').L := by
                    refine mem_blks.2 ?_
                    by_cases hm : ∃ f ∈ (C').L, f.b = b'
                    · exact hm
                    · have := (hL3).2 b' (fun f hf e => hm ⟨f, hf, e⟩)
                      omega
                  have hc6 := hcon6 (b' : Int)
                  rw [decide_eq_true hmem] at hc6
                  have hposI : (0 : Int) < ((g4) b' : Int) := by omega
                  go_wp2_with (first
                    | (go_at_call 18; refine same_at hc6 ?_))
                  go_roundw
                  case rel => first | exact ⟨_, cnt6, hrg6, hbz6⟩ | exact ⟨_, _, _, _, _, _, _, _, _, _, _, _, _, _, _, _, ⟨_, cnt6, hrg6, hbz6⟩, rfl⟩
                  case measure => rw [hrg6.left_eq, hrg.left_eq]; exact hlt6
                · have hposI : ¬ (0 : Int) < ((g4) b' : Int) := by omega
                  clear hcon6
                  go_wp2_with fail
                  go_roundw
                  case rel => first | exact ⟨_, cnt6, hrg6, hbz6⟩ | exact ⟨_, _, _, _, _, _, _, _, _, _, _, _, _, _, _, _, ⟨_, cnt6, hrg6, hbz6⟩, rfl⟩
                  case measure => rw [hrg6.left_eq, hrg.left_eq]; exact hlt6
    · obtain rfl : j = m := by omega
      have hheld := held_sort hcd
      have hlenC : C.L.length ≤ n' := by rw [← hbd]; exact hcd.ci.len
      clear hP hL
      go_wp2_with (first
        | (go_at_call 11; refine Calls.mono hheld ?_; rintro e w5 ⟨p5, n5, c5, rfl, hn5, hb5, _⟩; have hle5 : n5 ≤ n' := (by have := hn5.out; omega)))
      go_ret
      exact ⟨by first | rfl | exact ret_bool (by simp; omega) | exact ret_bool (by simp), hbw.trans (hb5.mono hbw.size)⟩
end Go.Proofs.Ytliljdencaocaaa
