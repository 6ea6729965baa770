/- The library's sort by a comparison, of twelve numbers at most. -/
import Derived.Test.YtliljdencaocaaaLen
import Derived.Sort.WalkA
import Derived.Sort.LotA
namespace Go.Proofs.Ytliljdencaocaaa
open Go.RowKit Go.Maps
set_option linter.unusedVariables false

/-- How cmp.Compare tells two numbers apart. -/
def cpr (x y : Int) : Int := if x < y then -1 else if y < x then 1 else 0

set_option maxHeartbeats 400000 in
theorem nan_ok (x : Int) (w : World) : Calls Try.prog 77 #[.int .i64 x] w fun e w' => e = .returned (.bool false) ∧ w' = w := by
  go_enter Try.func77, Try.ntmps77
  go_wp2
  go_ret
  exact ⟨rfl, rfl⟩
set_option maxHeartbeats 400000 in
theorem compare_ok (x y : Int) (w : World) : Calls Try.prog 50 #[.int .i64 x, .int .i64 y] w fun e w' => e = .returned (.int .i64 (cpr x y)) ∧ w' = w := by
  have H1 : Hid (x < y → cpr x y = -1) := fun h => by unfold cpr; rw [if_pos h]
  have H2 : Hid (y < x → cpr x y = 1) := fun h => by unfold cpr; rw [if_neg (by omega), if_pos h]
  have H3 : Hid (x = y → cpr x y = 0) := fun h => by unfold cpr; rw [if_neg (by omega), if_neg (by omega)]
  by_cases h1 : x < y
  · rw [H1.out h1]
    clear H1 H2 H3
    go_enter Try.func50, Try.ntmps50
    go_wp2_with (first | (go_at_call 77; refine same_at (nan_ok _ _) ?_))
    go_ret
    exact ⟨rfl, rfl⟩
  · by_cases h2 : y < x
    · rw [H2.out h2]
      clear H1 H2 H3
      go_enter Try.func50, Try.ntmps50
      go_wp2_with (first | (go_at_call 77; refine same_at (nan_ok _ _) ?_))
      go_ret
      exact ⟨rfl, rfl⟩
    · rw [H3.out (by omega)]
      clear H1 H2 H3
      go_enter Try.func50, Try.ntmps50
      go_wp2_with (first | (go_at_call 77; refine same_at (nan_ok _ _) ?_))
      go_ret
      exact ⟨rfl, rfl⟩


/-- The row of numbers at g is d. -/
def Ar (w : World) (g n cap : Nat) (d : Array Int) : Prop := w.ownsRow g 3 1 (.slice (some ⟨g, 0, none⟩) n cap) n (d.toList.map (Value.int .i64))
theorem Ar.len {w : World} {g n cap : Nat} {d : Array Int} (h : Ar w g n cap d) : d.size = n := by
  have := h.1
  simpa using this
theorem Ar.cell {w : World} {g n cap : Nat} {d : Array Int} (h : Ar w g n cap d) (j : Nat) (hj : j < n) : w.cell? ⟨g, j, none⟩ = some (.int .i64 d[j]!) := by
  have h1 := World.ownsRow.cellAt h j (by omega)
  have hl := h.len
  rw [h1, List.getElem?_map, Array.getElem?_toList, Array.getElem?_eq_getElem (by omega)]
  simp [getElem!_pos, show j < d.size by omega]
theorem Ar.set {w : World} {g n cap : Nat} {d : Array Int} (h : Ar w g n cap d) (j : Nat) (y : Int) : Ar (w.setCell ⟨g, j, none⟩ (.int .i64 y)) g n cap (d.setIfInBounds j y) := by
  have := (World.ownsRow.stored h j (.int .i64 y)).1
  unfold Ar
  rw [Array.toList_setIfInBounds, List.map_set]
  exact this
theorem Ar.kept {w w' : World} {g n cap : Nat} {d : Array Int} (h : Ar w g n cap d) (hb : w'.heap[g]? = w.heap[g]?) : Ar w' g n cap d := by
  refine ⟨h.1, ?_⟩
  rcases h.2 with ⟨h', _⟩ | ⟨g', cap', cur, h', hbg, hg, rest⟩
  · simp at h'
  · have e : g = g' := by simpa using (Value.slice.inj h').1
    subst e
    exact .inr ⟨g, cap', cur, h', hbg, hb.trans hg, rest⟩

/-- What a comparison answers, of numbers of the row, wherever only the row has turned. -/
def Cmp (w0 : World) (g fid cb : Nat) (u : Int → Int) (P : Int → Prop) : Prop :=
  ∀ x y, P x → P y → ∀ w', Frame (fun k => k = g) w0 w' → Calls Try.prog fid #[.int .i64 x, .int .i64 y, .pointer (some ⟨cb, 0, none⟩)] w' fun e w'' => e = .returned (.int .i64 (cpr (u x) (u y))) ∧ ∃ k, w'' = w'.drewN k

theorem frame_drewN {X : Nat → Prop} {w w' : World} (h : Frame X w w') (k : Nat) : Frame X w (w'.drewN k) := h.trans (frame_of_below (below_drewN (Below.refl _ _) k))
theorem cpr_lt (x y : Int) : decide (cpr x y < 0) = decide (x < y) := by
  unfold cpr
  by_cases h : x < y
  · simp [h]
  · rw [if_neg h]
    split <;> simp [h]

def ult (u : Int → Int) (x y : Int) : Bool := decide (u x < u y)
theorem ult_swo (u : Int → Int) : Sort.SWO (ult u) :=
  ⟨fun x => by simp [ult], fun x y z h k => by simp [ult] at *; omega, fun x y z h k => by simp [ult] at *; omega⟩

open Go.Sort in
set_option maxRecDepth 100000 in
set_option maxHeartbeats 2000000 in
theorem insertion_ok (g n cap fid cb : Nat) (u : Int → Int) (P : Int → Prop) (d : Array Int) (w : World) (hg : Ar w g n cap d) (hn : n ≤ 12) (hP : ∀ j, j < n → P d[j]!) (hC : Cmp w g fid cb u P)
    (eg : ∀ args w, (callFunc fid args).run Try.prog w = .ok (.enter fid args) w) :
    Calls Try.prog 105 #[.slice (some ⟨g, 0, none⟩) n cap, .int .i64 0, .int .i64 (n : Int), .func (.func fid) #[] #[.pointer (some ⟨cb, 0, none⟩)]] w fun e w' => (∃ v, e = .returned v) ∧ Ar w' g n cap (insertionSort (ult u) d 0 n) ∧ Frame (fun k => k = g) w w' := by
  have HC := (show Hid _ from hC)
  clear hC
  go_enter Try.func105, Try.ntmps105
  go_wp2
  go_loopw [8] (fun i wr => ∃ (k : Nat) (dk : Array Int), 1 ≤ k ∧ k ≤ n + 1 ∧ i = .int .i64 (k : Int) ∧ Ar wr g n cap dk ∧ Frame (fun k => k = g) w wr ∧ (∀ j, j < n → P dk[j]!) ∧ Hid (insOuter (ult u) 0 n k dk = insOuter (ult u) 0 n 1 d)) (fun i _ => n + 1 - (intOf i).toNat)
  case atStart => exact ⟨1, d, by omega, by omega, rfl, hg, Frame.refl _ _, hP, rfl⟩
  case round =>
    clear hP hg
    obtain ⟨k, dk, hk1, hk2, rfl, hA, hF, hPk, HO⟩ := hrel
    by_cases hlt : k < n
    · have hI : (k : Int) < (n : Int) := by omega
      go_wp2
      go_loopw [9] (fun i w2 => ∃ (j : Nat) (dj : Array Int), j ≤ k ∧ i = .int .i64 (j : Int) ∧ Ar w2 g n cap dj ∧ Frame (fun k => k = g) w w2 ∧ (∀ j, j < n → P dj[j]!) ∧ Hid (insInner (ult u) 0 j dj = insInner (ult u) 0 k dk)) (fun i _ => (intOf i).toNat)
      case atStart => exact ⟨k, dk, Nat.le_refl _, rfl, hA, hF, hPk, rfl⟩
      case round =>
        clear hA hF hPk
        obtain ⟨j, dj, hjk, rfl, hA, hF, hPj, HI⟩ := hrel
        have out : (j ≤ 0 ∨ ult u dj[j]! dj[j - 1]! = false) → Hid (insOuter (ult u) 0 n (k + 1) dj = insOuter (ult u) 0 n 1 d) := fun hs => by
          show _ = _
          rw [← HO.out, insOuter_go _ _ _ _ _ hlt, ← HI.out, insInner_stop _ _ _ _ hs]
        cases j with
        | zero =>
          have HOut := out (.inl (Nat.le_refl _))
          clear out
          have hd : decide ((0 : Int) < (0 : Int)) = false := rfl
          go_wp2_with fail
          go_quiet (fail)
          go_wp2
          go_roundw
          case rel => exact ⟨k + 1, dj, by omega, by omega, by go_num, hA.kept rfl, frame_drewN hF _, hPj, HOut⟩
          case measure => simp [intOf]; omega
        | succ jp =>
          have hx := hPj (jp + 1) (by omega)
          have hy := hPj jp (by omega)
          have c1 := hA.cell (jp + 1) (by omega)
          have c2 := hA.cell jp (by omega)
          have hcmp := fun q => HC.out _ _ hx hy (wr.drewN q) (frame_drewN hF q)
          have hlv := cpr_lt (u dj[jp + 1]!) (u dj[jp]!)
          have OUT := (show Hid _ from out)
          have b1 : ((jp : Int) + 1) < (n : Int) := by omega
          have b2 : (0 : Int) ≤ (jp : Int) + 1 := by omega
          have b3 : (jp : Int) < (n : Int) := by omega
          have b4 : (0 : Int) ≤ (jp : Int) := by omega
          have b5 : (0 : Int) < (jp : Int) + 1 := by omega
          have b6 : decide ((0 : Int) < (jp : Int) + 1) = true := decide_eq_true b5
          have b7 := IntWalk.i64_in (jp : Int) (by omega)
          have b8 : (jp : Int) + 1 - 1 = (jp : Int) := by omega
          clear out
          by_cases hl : u dj[jp + 1]! < u dj[jp]!
          · rw [decide_eq_true hl] at hlv
            have HIn : Hid (insInner (ult u) 0 jp (swp dj (jp + 1) jp) = insInner (ult u) 0 k dk) := by
              show _ = _
              rw [← HI.out, insInner_go (ult u) 0 (jp + 1) dj (by omega) (by simp only [ult, Nat.add_sub_cancel]; exact decide_eq_true hl)]
              rfl
            have hlen := hA.len
            have HPs : Hid (∀ j, j < n → P (swp dj (jp + 1) jp)[j]!) := by
              intro i hi
              rw [swp_get dj (by omega) (by omega)]
              split
              · exact hx
              · split
                · exact hy
                · exact hPj i hi
            have HSw : Hid (swp dj (jp + 1) jp = (dj.setIfInBounds (jp + 1) dj[jp]!).setIfInBounds jp dj[jp + 1]!) := rfl
            clear hl OUT
            generalize cpr (u dj[jp + 1]!) (u dj[jp]!) = cv at *
            generalize dj[jp + 1]! = x at *
            generalize dj[jp]! = y at *
            go_wp2_with fail
            go_quiet (first | exact Calls.quiet_of (hcmp _))
            have hA2 : Ar (wr.drewN nq) g n cap dj := hA.kept rfl
            have hF2 := frame_drewN hF nq
            have c1 : (wr.drewN nq).cell? _ = _ := c1
            have c2 : (wr.drewN nq).cell? _ = _ := c2
            clear hcmp hA hF
            generalize wr.drewN nq = w2 at *
            have f1 := World.ownsRow.frozenAt hA2 (jp + 1)
            have f2 := World.ownsRow.frozenAt hA2 jp
            have hA3 := (hA2.set (jp + 1) y).set jp x
            rw [← HSw.out] at hA3
            have hF3 := (hF2.trans (Frame.setCell w2 (p := ⟨g, jp + 1, none⟩) (.int .i64 y) rfl)).trans (Frame.setCell (w2.setCell ⟨g, jp + 1, none⟩ (.int .i64 y)) (p := ⟨g, jp, none⟩) (.int .i64 x) rfl)
            have c3 : (w2.setCell ⟨g, jp + 1, none⟩ (.int .i64 y)).cell? ⟨g, jp, none⟩ = some (.int .i64 y) := by
              rw [World.cell?_setCell_other]
              · exact c2
              · simp
            have f3 : (w2.setCell ⟨g, jp + 1, none⟩ (.int .i64 y)).frozen? ⟨g, jp, none⟩ = false := by
              rw [World.frozen?_setCell]; exact f2
            have b9 := IntWalk.i64_in ((jp : Int) + 1) (by omega)
            clear hA2 hF2
            go_wp2_with fail
            go_region
            go_wp2
            go_roundw
            case rel => exact ⟨jp, _, by omega, by go_num, hA3.kept rfl, frame_drewN hF3 1, HPs.out, HIn⟩
            case measure => simp [intOf]
          · rw [decide_eq_false hl] at hlv
            have HOut := OUT.out (.inr (by simp only [ult, Nat.add_sub_cancel]; exact decide_eq_false hl))
            clear hl OUT
            generalize cpr (u dj[jp + 1]!) (u dj[jp]!) = cv at *
            generalize dj[jp + 1]! = x at *
            generalize dj[jp]! = y at *
            go_wp2_with fail
            go_quiet (first | exact Calls.quiet_of (hcmp _))
            go_wp2
            go_roundw
            case rel => exact ⟨k + 1, dj, by omega, by omega, by go_num, hA.kept rfl, frame_drewN hF _, hPj, HOut⟩
            case measure => simp [intOf]; omega
    · have HE : Hid (insOuter (ult u) 0 n k dk = dk) := insOuter_stop _ _ _ _ _ hlt
      have hI : ¬ (k : Int) < (n : Int) := by omega
      go_wp2
      first | go_end0 | (refine bodyPost_ret (results_none rfl _ _ _) rfl ?_)
      refine ⟨⟨_, rfl⟩, ?_, hF⟩
      show Ar _ g n cap (insOuter (ult u) 0 n 1 d)
      rw [← HO.out, HE.out]
      exact hA

set_option maxRecDepth 100000 in
set_option maxHeartbeats 2000000 in
theorem pdq_ok (g n cap fid cb : Nat) (lim : Int) (u : Int → Int) (P : Int → Prop) (d : Array Int) (w : World) (hg : Ar w g n cap d) (hn : n ≤ 12) (hP : ∀ j, j < n → P d[j]!) (hC : Cmp w g fid cb u P)
    (eg : ∀ args w, (callFunc fid args).run Try.prog w = .ok (.enter fid args) w) :
    Calls Try.prog 99 #[.slice (some ⟨g, 0, none⟩) n cap, .int .i64 0, .int .i64 (n : Int), .int .i64 lim, .func (.func fid) #[] #[.pointer (some ⟨cb, 0, none⟩)]] w fun e w' => (∃ v, e = .returned v) ∧ Ar w' g n cap (Go.Sort.insertionSort (ult u) d 0 n) ∧ Frame (fun k => k = g) w w' := by
  have hI := insertion_ok g n cap fid cb u P d w hg hn hP hC eg
  have hnI : (n : Int) ≤ 12 := by omega
  clear hC
  go_enter Try.func99, Try.ntmps99
  go_wp2
  refine wp_loop_rounds 1 ?_
  rw [rounds_succ]
  go_wp2_with (first | (go_at_call 105; refine Calls.mono hI ?_; rintro e w' ⟨⟨v, rfl⟩, hA, hF⟩))
  first | go_end0 | (refine bodyPost_ret (results_none rfl _ _ _) rfl ?_)
  exact ⟨⟨_, rfl⟩, hA, hF⟩

set_option maxHeartbeats 400000 in
theorem sortFunc_ok (g n cap fid cb : Nat) (u : Int → Int) (P : Int → Prop) (d : Array Int) (w : World) (hg : Ar w g n cap d) (hn : n ≤ 12) (hP : ∀ j, j < n → P d[j]!) (hC : Cmp w g fid cb u P)
    (eg : ∀ args w, (callFunc fid args).run Try.prog w = .ok (.enter fid args) w) :
    Calls Try.prog 75 #[.slice (some ⟨g, 0, none⟩) n cap, .func (.func fid) #[] #[.pointer (some ⟨cb, 0, none⟩)]] w fun e w' => (∃ v, e = .returned v) ∧ Ar w' g n cap (Go.Sort.insertionSort (ult u) d 0 n) ∧ Frame (fun k => k = g) w w' := by
  have hL := len_small n hn w
  have hI := fun lim => pdq_ok g n cap fid cb lim u P d w hg hn hP hC eg
  clear hC
  go_enter Try.func75, Try.ntmps75
  go_wp2_with (first
    | (go_at_call 56; refine Calls.mono hL ?_; rintro e w' ⟨⟨lim, rfl⟩, rfl⟩)
    | (go_at_call 99; refine Calls.mono (hI lim) ?_; rintro e w2 ⟨⟨v, rfl⟩, hA, hF⟩))
  first | go_end0 | (refine bodyPost_ret (results_none rfl _ _ _) rfl ?_)
  exact ⟨⟨_, rfl⟩, hA, hF⟩

set_option maxRecDepth 100000 in
set_option maxHeartbeats 1000000 in
theorem insertion_nil (f : Value) (w : World) : Calls Try.prog 105 #[.slice none 0 0, .int .i64 0, .int .i64 0, f] w fun e w' => (∃ v, e = .returned v) ∧ w' = w := by
  go_enter Try.func105, Try.ntmps105
  go_wp2
  refine wp_loop_rounds 1 ?_
  rw [rounds_succ]
  go_wp2
  first | go_end0 | (refine bodyPost_ret (results_none rfl _ _ _) rfl ?_)
  exact ⟨⟨_, rfl⟩, rfl⟩
set_option maxRecDepth 100000 in
set_option maxHeartbeats 1000000 in
theorem sortFunc_nil (f : Value) (w : World) : Calls Try.prog 75 #[.slice none 0 0, f] w fun e w' => (∃ v, e = .returned v) ∧ w' = w := by
  have hL := len_small 0 (by omega) w
  have hI : ∀ lim, Calls Try.prog 99 #[.slice none 0 0, .int .i64 0, .int .i64 0, .int .i64 lim, f] w fun e w' => (∃ v, e = .returned v) ∧ w' = w := by
    intro lim
    have hi := insertion_nil f w
    go_enter Try.func99, Try.ntmps99
    go_wp2
    refine wp_loop_rounds 1 ?_
    rw [rounds_succ]
    go_wp2_with (first | (go_at_call 105; refine Calls.mono hi ?_; rintro e w' ⟨⟨v, rfl⟩, rfl⟩))
    first | go_end0 | (refine bodyPost_ret (results_none rfl _ _ _) rfl ?_)
    exact ⟨⟨_, rfl⟩, rfl⟩
  go_enter Try.func75, Try.ntmps75
  go_wp2_with (first
    | (go_at_call 56; refine Calls.mono hL ?_; rintro e w' ⟨⟨lim, rfl⟩, rfl⟩)
    | (go_at_call 99; refine Calls.mono (hI lim) ?_; rintro e w2 ⟨⟨v, rfl⟩, rfl⟩))
  first | go_end0 | (refine bodyPost_ret (results_none rfl _ _ _) rfl ?_)
  exact ⟨⟨_, rfl⟩, rfl⟩
end Go.Proofs.Ytliljdencaocaaa
