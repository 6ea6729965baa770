/- Sort Cache -/
import Derived.Test.YtjecicjpplibaaaGreatNw10
import Derived.Sort.WalkA
import Derived.Sort.LotA

/- The library's sort by a comparison, of twelve numbers at most. -/
namespace Go.Proofs.YtjecicjpplibaaaGreat
open Go.RowKit Go.Maps
set_option maxRecDepth 100000
set_option linter.unusedVariables false

/-- How cmp.Compare tells two numbers apart. -/
def cpr (x y : Int) : Int := if x < y then -1 else if y < x then 1 else 0

set_option maxHeartbeats 400000 in
theorem nan_ok (x : Int) (w : World) : Calls Tryz.prog 170 #[.int .i64 x] w fun e w' => e = .returned (.bool false) ∧ w' = w := by
  go_enter Tryz.func170, Tryz.ntmps170
  go_wp2
  go_ret
  exact ⟨rfl, rfl⟩
set_option maxHeartbeats 400000 in
theorem compare_ok (x y : Int) (w : World) : Calls Tryz.prog 183 #[.int .i64 x, .int .i64 y] w fun e w' => e = .returned (.int .i64 (cpr x y)) ∧ w' = w := by
  have H1 : Hid (x < y → cpr x y = -1) := fun h => by unfold cpr; rw [if_pos h]
  have H2 : Hid (y < x → cpr x y = 1) := fun h => by unfold cpr; rw [if_neg (by omega), if_pos h]
  have H3 : Hid (x = y → cpr x y = 0) := fun h => by unfold cpr; rw [if_neg (by omega), if_neg (by omega)]
  by_cases h1 : x < y
  · rw [H1.out h1]
    clear H1 H2 H3
    go_enter Tryz.func183, Tryz.ntmps183
    go_wp2_with (first | (go_at_call 170; refine same_at (nan_ok _ _) ?_))
    go_ret
    exact ⟨rfl, rfl⟩
  · by_cases h2 : y < x
    · rw [H2.out h2]
      clear H1 H2 H3
      go_enter Tryz.func183, Tryz.ntmps183
      go_wp2_with (first | (go_at_call 170; refine same_at (nan_ok _ _) ?_))
      go_ret
      exact ⟨rfl, rfl⟩
    · rw [H3.out (by omega)]
      clear H1 H2 H3
      go_enter Tryz.func183, Tryz.ntmps183
      go_wp2_with (first | (go_at_call 170; refine same_at (nan_ok _ _) ?_))
      go_ret
      exact ⟨rfl, rfl⟩


/-- The row of numbers at g is d. -/
def Ar (w : World) (g n cap : Nat) (d : Array Int) : Prop := w.ownsRow g 3 1 (.slice (some ⟨g, 0, none⟩) n cap) n (d.toList.map (Value.int .i64))
theorem Ar.len {w : World} {g n cap : Nat} {d : Array Int} (h : Ar w g n cap d) : d.size = n := by
  have := h.1
  simpa using this
theorem Ar.cell {w : World} {g n cap : Nat} {d : Array Int} (h : Ar w g n cap d) (j : Nat) (hj : j < n) : w.cell? ⟨g, j, none⟩ = some (.int .i64 d[j]!) := by
  have h1 := World.ownsRow.cellAt h j (by omega)
  have hl := h.len
  rw [h1, List.getElem?_map, Array.getElem?_toList, Array.getElem?_eq_getElem (by omega)]
  simp [getElem!_pos, show j < d.size by omega]
theorem Ar.set {w : World} {g n cap : Nat} {d : Array Int} (h : Ar w g n cap d) (j : Nat) (y : Int) : Ar (w.setCell ⟨g, j, none⟩ (.int .i64 y)) g n cap (d.setIfInBounds j y) := by
  have := (World.ownsRow.stored h j (.int .i64 y)).1
  unfold Ar
  rw [Array.toList_setIfInBounds, List.map_set]
  exact this
theorem Ar.kept {w w' : World} {g n cap : Nat} {d : Array Int} (h : Ar w g n cap d) (hb : w'.heap[g]? = w.heap[g]?) : Ar w' g n cap d := by
  refine ⟨h.1, ?_⟩
  rcases h.2 with ⟨h', _⟩ | ⟨g', cap', cur, h', hbg, hg, rest⟩
  · simp at h'
  · have e : g = g' := by simpa using (Value.slice.inj h').1
    subst e
    exact .inr ⟨g, cap', cur, h', hbg, hb.trans hg, rest⟩

/-- What a comparison answers, of numbers of the row, wherever only the row has turned. -/
def Cmp (w0 : World) (g fid cb : Nat) (u : Int → Int) (P : Int → Prop) : Prop :=
  ∀ x y, P x → P y → ∀ w', Frame (fun k => k = g) w0 w' → Calls Tryz.prog fid #[.int .i64 x, .int .i64 y, .pointer (some ⟨cb, 0, none⟩)] w' fun e w'' => e = .returned (.int .i64 (cpr (u x) (u y))) ∧ ∃ k, w'' = w'.drewN k

theorem frame_drewN {X : Nat → Prop} {w w' : World} (h : Frame X w w') (k : Nat) : Frame X w (w'.drewN k) := h.trans (frame_of_below (below_drewN (Below.refl _ _) k))
theorem cpr_lt (x y : Int) : decide (cpr x y < 0) = decide (x < y) := by
  unfold cpr
  by_cases h : x < y
  · simp [h]
  · rw [if_neg h]
    split <;> simp [h]

def ult (u : Int → Int) (x y : Int) : Bool := decide (u x < u y)
theorem ult_swo (u : Int → Int) : Sort.SWO (ult u) :=
  ⟨fun x => by simp [ult], fun x y z h k => by simp [ult] at *; omega, fun x y z h k => by simp [ult] at *; omega⟩

open Go.Sort in
set_option maxRecDepth 100000 in
set_option maxHeartbeats 2000000 in
theorem insertion_ok (g n cap fid cb : Nat) (u : Int → Int) (P : Int → Prop) (d : Array Int) (w : World) (hg : Ar w g n cap d) (hn : n ≤ 12) (hP : ∀ j, j < n → P d[j]!) (hC : Cmp w g fid cb u P)
    (eg : ∀ args w, (callFunc fid args).run Tryz.prog w = .ok (.enter fid args) w) :
    Calls Tryz.prog 188 #[.slice (some ⟨g, 0, none⟩) n cap, .int .i64 0, .int .i64 (n : Int), .func (.func fid) #[] #[.pointer (some ⟨cb, 0, none⟩)]] w fun e w' => (∃ v, e = .returned v) ∧ Ar w' g n cap (insertionSort (ult u) d 0 n) ∧ Frame (fun k => k = g) w w' := by
  have HC := (show Hid _ from hC)
  clear hC
  go_enter Tryz.func188, Tryz.ntmps188
  go_wp2
  go_loopw [8] (fun i wr => ∃ (k : Nat) (dk : Array Int), 1 ≤ k ∧ k ≤ n + 1 ∧ i = .int .i64 (k : Int) ∧ Ar wr g n cap dk ∧ Frame (fun k => k = g) w wr ∧ (∀ j, j < n → P dk[j]!) ∧ Hid (insOuter (ult u) 0 n k dk = insOuter (ult u) 0 n 1 d)) (fun i _ => n + 1 - (intOf i).toNat)
  case atStart => exact ⟨1, d, by omega, by omega, rfl, hg, Frame.refl _ _, hP, rfl⟩
  case round =>
    clear hP hg
    obtain ⟨k, dk, hk1, hk2, rfl, hA, hF, hPk, HO⟩ := hrel
    by_cases hlt : k < n
    · have hI : (k : Int) < (n : Int) := by omega
      go_wp2
      go_loopw [9] (fun i w2 => ∃ (j : Nat) (dj : Array Int), j ≤ k ∧ i = .int .i64 (j : Int) ∧ Ar w2 g n cap dj ∧ Frame (fun k => k = g) w w2 ∧ (∀ j, j < n → P dj[j]!) ∧ Hid (insInner (ult u) 0 j dj = insInner (ult u) 0 k dk)) (fun i _ => (intOf i).toNat)
      case atStart => exact ⟨k, dk, Nat.le_refl _, rfl, hA, hF, hPk, rfl⟩
      case round =>
        clear hA hF hPk
        obtain ⟨j, dj, hjk, rfl, hA, hF, hPj, HI⟩ := hrel
        have out : (j ≤ 0 ∨ ult u dj[j]! dj[j - 1]! = false) → Hid (insOuter (ult u) 0 n (k + 1) dj = insOuter (ult u) 0 n 1 d) := fun hs => by
          show _ = _
          rw [← HO.out, insOuter_go _ _ _ _ _ hlt, ← HI.out, insInner_stop _ _ _ _ hs]
        cases j with
        | zero =>
          have HOut := out (.inl (Nat.le_refl _))
          clear out
          have hd : decide ((0 : Int) < (0 : Int)) = false := rfl
          go_wp2_with fail
          go_quiet (fail)
          go_wp2
          go_roundw
          case rel => exact ⟨k + 1, dj, by omega, by omega, by go_num, hA.kept rfl, frame_drewN hF _, hPj, HOut⟩
          case measure => simp [intOf]; omega
        | succ jp =>
          have hx := hPj (jp + 1) (by omega)
          have hy := hPj jp (by omega)
          have c1 := hA.cell (jp + 1) (by omega)
          have c2 := hA.cell jp (by omega)
          have hcmp := fun q => HC.out _ _ hx hy (wr.drewN q) (frame_drewN hF q)
          have hlv := cpr_lt (u dj[jp + 1]!) (u dj[jp]!)
          have OUT := (show Hid _ from out)
          have b1 : ((jp : Int) + 1) < (n : Int) := by omega
          have b2 : (0 : Int) ≤ (jp : Int) + 1 := by omega
          have b3 : (jp : Int) < (n : Int) := by omega
          have b4 : (0 : Int) ≤ (jp : Int) := by omega
          have b5 : (0 : Int) < (jp : Int) + 1 := by omega
          have b6 : decide ((0 : Int) < (jp : Int) + 1) = true := decide_eq_true b5
          have b7 := IntWalk.i64_in (jp : Int) (by omega)
          have b8 : (jp : Int) + 1 - 1 = (jp : Int) := by omega
          clear out
          by_cases hl : u dj[jp + 1]! < u dj[jp]!
          · rw [decide_eq_true hl] at hlv
            have HIn : Hid (insInner (ult u) 0 jp (swp dj (jp + 1) jp) = insInner (ult u) 0 k dk) := by
              show _ = _
              rw [← HI.out, insInner_go (ult u) 0 (jp + 1) dj (by omega) (by simp only [ult, Nat.add_sub_cancel]; exact decide_eq_true hl)]
              rfl
            have hlen := hA.len
            have HPs : Hid (∀ j, j < n → P (swp dj (jp + 1) jp)[j]!) := by
              intro i hi
              rw [swp_get dj (by omega) (by omega)]
              split
              · exact hx
              · split
                · exact hy
                · exact hPj i hi
            have HSw : Hid (swp dj (jp + 1) jp = (dj.setIfInBounds (jp + 1) dj[jp]!).setIfInBounds jp dj[jp + 1]!) := rfl
            clear hl OUT
            generalize cpr (u dj[jp + 1]!) (u dj[jp]!) = cv at *
            generalize dj[jp + 1]! = x at *
            generalize dj[jp]! = y at *
            go_wp2_with fail
            go_quiet (first | exact Calls.quiet_of (hcmp _))
            have hA2 : Ar (wr.drewN nq) g n cap dj := hA.kept rfl
            have hF2 := frame_drewN hF nq
            have c1 : (wr.drewN nq).cell? _ = _ := c1
            have c2 : (wr.drewN nq).cell? _ = _ := c2
            clear hcmp hA hF
            generalize wr.drewN nq = w2 at *
            have f1 := World.ownsRow.frozenAt hA2 (jp + 1)
            have f2 := World.ownsRow.frozenAt hA2 jp
            have hA3 := (hA2.set (jp + 1) y).set jp x
            rw [← HSw.out] at hA3
            have hF3 := (hF2.trans (Frame.setCell w2 (p := ⟨g, jp + 1, none⟩) (.int .i64 y) rfl)).trans (Frame.setCell (w2.setCell ⟨g, jp + 1, none⟩ (.int .i64 y)) (p := ⟨g, jp, none⟩) (.int .i64 x) rfl)
            have c3 : (w2.setCell ⟨g, jp + 1, none⟩ (.int .i64 y)).cell? ⟨g, jp, none⟩ = some (.int .i64 y) := by
              rw [World.cell?_setCell_other]
              · exact c2
              · simp
            have f3 : (w2.setCell ⟨g, jp + 1, none⟩ (.int .i64 y)).frozen? ⟨g, jp, none⟩ = false := by
              rw [World.frozen?_setCell]; exact f2
            have b9 := IntWalk.i64_in ((jp : Int) + 1) (by omega)
            clear hA2 hF2
            go_wp2_with fail
            go_region
            go_wp2
            go_roundw
            case rel => exact ⟨jp, _, by omega, by go_num, hA3.kept rfl, frame_drewN hF3 1, HPs.out, HIn⟩
            case measure => simp [intOf]
          · rw [decide_eq_false hl] at hlv
            have HOut := OUT.out (.inr (by simp only [ult, Nat.add_sub_cancel]; exact decide_eq_false hl))
            clear hl OUT
            generalize cpr (u dj[jp + 1]!) (u dj[jp]!) = cv at *
            generalize dj[jp + 1]! = x at *
            generalize dj[jp]! = y at *
            go_wp2_with fail
            go_quiet (first | exact Calls.quiet_of (hcmp _))
            go_wp2
            go_roundw
            case rel => exact ⟨k + 1, dj, by omega, by omega, by go_num, hA.kept rfl, frame_drewN hF _, hPj, HOut⟩
            case measure => simp [intOf]; omega
    · have HE : Hid (insOuter (ult u) 0 n k dk = dk) := insOuter_stop _ _ _ _ _ hlt
      have hI : ¬ (k : Int) < (n : Int) := by omega
      go_wp2
      first | go_end0 | (refine bodyPost_ret (results_none rfl _ _ _) rfl ?_)
      refine ⟨⟨_, rfl⟩, ?_, hF⟩
      show Ar _ g n cap (insOuter (ult u) 0 n 1 d)
      rw [← HO.out, HE.out]
      exact hA

set_option maxRecDepth 100000 in
set_option maxHeartbeats 2000000 in
theorem pdq_ok (g n cap fid cb : Nat) (lim : Int) (u : Int → Int) (P : Int → Prop) (d : Array Int) (w : World) (hg : Ar w g n cap d) (hn : n ≤ 12) (hP : ∀ j, j < n → P d[j]!) (hC : Cmp w g fid cb u P)
    (eg : ∀ args w, (callFunc fid args).run Tryz.prog w = .ok (.enter fid args) w) :
    Calls Tryz.prog 187 #[.slice (some ⟨g, 0, none⟩) n cap, .int .i64 0, .int .i64 (n : Int), .int .i64 lim, .func (.func fid) #[] #[.pointer (some ⟨cb, 0, none⟩)]] w fun e w' => (∃ v, e = .returned v) ∧ Ar w' g n cap (Go.Sort.insertionSort (ult u) d 0 n) ∧ Frame (fun k => k = g) w w' := by
  have hI := insertion_ok g n cap fid cb u P d w hg hn hP hC eg
  have hnI : (n : Int) ≤ 12 := by omega
  clear hC
  go_enter Tryz.func187, Tryz.ntmps187
  go_wp2
  refine wp_loop_rounds 1 ?_
  rw [rounds_succ]
  go_wp2_with (first | (go_at_call 188; refine Calls.mono hI ?_; rintro e w' ⟨⟨v, rfl⟩, hA, hF⟩))
  first | go_end0 | (refine bodyPost_ret (results_none rfl _ _ _) rfl ?_)
  exact ⟨⟨_, rfl⟩, hA, hF⟩

set_option maxHeartbeats 400000 in
theorem sortFunc_ok (g n cap fid cb : Nat) (u : Int → Int) (P : Int → Prop) (d : Array Int) (w : World) (hg : Ar w g n cap d) (hn : n ≤ 12) (hP : ∀ j, j < n → P d[j]!) (hC : Cmp w g fid cb u P)
    (eg : ∀ args w, (callFunc fid args).run Tryz.prog w = .ok (.enter fid args) w) :
    Calls Tryz.prog 185 #[.slice (some ⟨g, 0, none⟩) n cap, .func (.func fid) #[] #[.pointer (some ⟨cb, 0, none⟩)]] w fun e w' => (∃ v, e = .returned v) ∧ Ar w' g n cap (Go.Sort.insertionSort (ult u) d 0 n) ∧ Frame (fun k => k = g) w w' := by
  have hL := len_small n hn w
  have hI := fun lim => pdq_ok g n cap fid cb lim u P d w hg hn hP hC eg
  clear hC
  go_enter Tryz.func185, Tryz.ntmps185
  go_wp2_with (first
    | (go_at_call 149; refine Calls.mono hL ?_; rintro e w' ⟨⟨lim, rfl⟩, rfl⟩)
    | (go_at_call 187; refine Calls.mono (hI lim) ?_; rintro e w2 ⟨⟨v, rfl⟩, hA, hF⟩))
  first | go_end0 | (refine bodyPost_ret (results_none rfl _ _ _) rfl ?_)
  exact ⟨⟨_, rfl⟩, hA, hF⟩

set_option maxRecDepth 100000 in
set_option maxHeartbeats 1000000 in
theorem insertion_nil (f : Value) (w : World) : Calls Tryz.prog 188 #[.slice none 0 0, .int .i64 0, .int .i64 0, f] w fun e w' => (∃ v, e = .returned v) ∧ w' = w := by
  go_enter Tryz.func188, Tryz.ntmps188
  go_wp2
  refine wp_loop_rounds 1 ?_
  rw [rounds_succ]
  go_wp2
  first | go_end0 | (refine bodyPost_ret (results_none rfl _ _ _) rfl ?_)
  exact ⟨⟨_, rfl⟩, rfl⟩
set_option maxRecDepth 100000 in
set_option maxHeartbeats 1000000 in
theorem sortFunc_nil (f : Value) (w : World) : Calls Tryz.prog 185 #[.slice none 0 0, f] w fun e w' => (∃ v, e = .returned v) ∧ w' = w := by
  have hL := len_small 0 (by omega) w
  have hI : ∀ lim, Calls Tryz.prog 187 #[.slice none 0 0, .int .i64 0, .int .i64 0, .int .i64 lim, f] w fun e w' => (∃ v, e = .returned v) ∧ w' = w := by
    intro lim
    have hi := insertion_nil f w
    go_enter Tryz.func187, Tryz.ntmps187
    go_wp2
    refine wp_loop_rounds 1 ?_
    rw [rounds_succ]
    go_wp2_with (first | (go_at_call 188; refine Calls.mono hi ?_; rintro e w' ⟨⟨v, rfl⟩, rfl⟩))
    first | go_end0 | (refine bodyPost_ret (results_none rfl _ _ _) rfl ?_)
    exact ⟨⟨_, rfl⟩, rfl⟩
  go_enter Tryz.func185, Tryz.ntmps185
  go_wp2_with (first
    | (go_at_call 149; refine Calls.mono hL ?_; rintro e w' ⟨⟨lim, rfl⟩, rfl⟩)
    | (go_at_call 187; refine Calls.mono (hI lim) ?_; rintro e w2 ⟨⟨v, rfl⟩, rfl⟩))
  first | go_end0 | (refine bodyPost_ret (results_none rfl _ _ _) rfl ?_)
  exact ⟨⟨_, rfl⟩, rfl⟩
end Go.Proofs.YtjecicjpplibaaaGreat

/- A cache in memory, and what only reads it. -/
namespace Go.Proofs.YtjecicjpplibaaaGreat
open Go.RowKit Go.Maps
set_option maxRecDepth 100000
set_option linter.unusedVariables false

/-- A buffer: its block, when it was used last, its pins, where it lies, its bytes. -/
structure Bf where
  b : Nat
  u : Nat
  p : Nat
  g : Nat
  xs : List Int
/-- What a cache has: how many it may hold, hits, misses, its buffers, the one that was used longest ago first. -/
structure Ch where
  bd : Nat
  hi : Nat
  mi : Nat
  L : List Bf
def bufL (f : Bf) : List Value := f.xs.map (Value.int .u8) ++ [.int .i64 (f.u : Int), .int .i64 (f.p : Int)]
def bufA (f : Bf) : Array Value := (bufL f).toArray
def bg (f : Bf) : Nat × Nat := (f.b, f.g)

structure CW (B : Nat) (w : World) (c mb d N : Nat) (C : Ch) : Prop where
  row : w.heap[c]? = some (.cells #[.pointer (some ⟨d, 0, none⟩), .int .i64 (C.bd : Int), .map (some mb), .int .i64 (C.hi : Int), .int .i64 (C.mi : Int)] 140 (0, 0))
  map : Bm w mb (C.L.map bg)
  buf : ∀ f ∈ C.L, w.heap[f.g]? = some (.cells (bufA f) 158 (0, 0))
  sec : ∀ f ∈ C.L, Sect f.xs
  gs : (C.L.map (·.g)).Nodup
  ps : ∀ f ∈ C.L, f.p ≤ 100
  bs : ∀ f ∈ C.L, f.b < N
  N12 : N ≤ 12
  bd : 1 ≤ C.bd ∧ C.bd ≤ 64
  len : C.L.length ≤ C.bd
  lo : B ≤ c ∧ B ≤ mb ∧ ∀ f ∈ C.L, B ≤ f.g
  cnt : C.hi + C.mi ≤ 4611686018427387904

/-- A cache: its buffers stand in the order of their use. -/
structure CI (B : Nat) (w : World) (c mb d N : Nat) (C : Ch) : Prop extends CW B w c mb d N C where
  ord : C.L.Pairwise (fun f h => f.u < h.u)
  us : ∀ f ∈ C.L, f.u ≤ C.hi + C.mi

/-- A cache's own blocks. -/
def cfoot (c mb : Nat) (C : Ch) (k : Nat) : Prop := k = c ∨ k = mb ∨ ∃ f ∈ C.L, k = f.g

section
variable {B : Nat} {w w' : World} {c mb d N : Nat} {C : Ch}
theorem CW.in (h : CW B w c mb d N C) : ∀ k, cfoot c mb C k → B ≤ k ∧ k < w.heap.size := by
  rintro k (rfl | rfl | ⟨f, hf, rfl⟩)
  · exact ⟨h.lo.1, (Array.getElem?_eq_some_iff.1 h.row).1⟩
  · exact ⟨h.lo.2.1, h.map.lt⟩
  · exact ⟨h.lo.2.2 f hf, (Array.getElem?_eq_some_iff.1 (h.buf f hf)).1⟩
theorem CW.kept (h : CW B w c mb d N C) (hb : ∀ k, cfoot c mb C k → w'.heap[k]? = w.heap[k]?) : CW B w' c mb d N C :=
  { h with row := (hb c (.inl rfl)).trans h.row, map := h.map.kept (hb mb (.inr (.inl rfl))), buf := fun f hf => (hb f.g (.inr (.inr ⟨f, hf, rfl⟩))).trans (h.buf f hf) }
theorem CW.later (h : CW B w c mb d N C) (hb : Below w.heap.size w w') : CW B w' c mb d N C :=
  h.kept fun k hk => hb.block k (h.in k hk).2
theorem CI.kept (h : CI B w c mb d N C) (hb : ∀ k, cfoot c mb C k → w'.heap[k]? = w.heap[k]?) : CI B w' c mb d N C := { CW.kept h.toCW hb with ord := h.ord, us := h.us }
theorem CI.later (h : CI B w c mb d N C) (hb : Below w.heap.size w w') : CI B w' c mb d N C := { CW.later h.toCW hb with ord := h.ord, us := h.us }
theorem CW.c0 (h : CW B w c mb d N C) : w.cell? ⟨c, 0, none⟩ = some (.pointer (some ⟨d, 0, none⟩)) := cell_of_row _ _ 0 _ 140 _ h.row
theorem CW.c1 (h : CW B w c mb d N C) : w.cell? ⟨c, 1, none⟩ = some (.int .i64 (C.bd : Int)) := cell_of_row _ _ 1 _ 140 _ h.row
theorem CW.c2 (h : CW B w c mb d N C) : w.cell? ⟨c, 2, none⟩ = some (.map (some mb)) := cell_of_row _ _ 2 _ 140 _ h.row
theorem CW.c3 (h : CW B w c mb d N C) : w.cell? ⟨c, 3, none⟩ = some (.int .i64 (C.hi : Int)) := cell_of_row _ _ 3 _ 140 _ h.row
theorem CW.c4 (h : CW B w c mb d N C) : w.cell? ⟨c, 4, none⟩ = some (.int .i64 (C.mi : Int)) := cell_of_row _ _ 4 _ 140 _ h.row
theorem CW.used (h : CW B w c mb d N C) {f : Bf} (hf : f ∈ C.L) : w.cell? ⟨f.g, 128, none⟩ = some (.int .i64 (f.u : Int)) := by
  have hl := (h.sec f hf).1
  have e : (bufA f)[128]? = some (.int .i64 (f.u : Int)) := by
    unfold bufA bufL
    simp [hl]
  simp [World.cell?, h.buf f hf, e]
theorem CW.pins (h : CW B w c mb d N C) {f : Bf} (hf : f ∈ C.L) : w.cell? ⟨f.g, 129, none⟩ = some (.int .i64 (f.p : Int)) := by
  have hl := (h.sec f hf).1
  have e : (bufA f)[129]? = some (.int .i64 (f.p : Int)) := by
    unfold bufA bufL
    simp [hl]
  simp [World.cell?, h.buf f hf, e]
theorem CW.hit (h : CW B w c mb d N C) {f : Bf} (hf : f ∈ C.L) : (Instr.lookup 138 (.map (some mb)) (.int .i64 (f.b : Int)) false).run Tryz.prog w = .ok (.pointer (some ⟨f.g, 0, none⟩)) w :=
  h.map.hit (bg f) (List.mem_map.2 ⟨f, hf, rfl⟩) (by have := h.bs f hf; have := h.N12; show f.b < _; omega)
theorem CW.miss (h : CW B w c mb d N C) {b : Nat} (hb : b < N) (hn : ∀ f ∈ C.L, ¬ f.b = b) : (Instr.lookup 138 (.map (some mb)) (.int .i64 (b : Int)) false).run Tryz.prog w = .ok (.pointer none) w :=
  h.map.miss b (by
    intro p hp
    obtain ⟨f, hf, rfl⟩ := List.mem_map.1 hp
    exact hn f hf) (by have := h.N12; omega)

set_option maxHeartbeats 400000 in
theorem cmade_ok (h : CW B w c mb d N C) : Calls Tryz.prog 153 #[.pointer (some ⟨c, 0, none⟩)] w fun e w' => e = .returned (.bool true) ∧ w' = w := by
  have hc := h.c0
  go_enter Tryz.func153, Tryz.ntmps153
  go_wp2
  go_ret
  exact ⟨rfl, rfl⟩

set_option maxHeartbeats 400000 in
theorem refusal_arg (h : CW B w c mb d N C) (hd : Calls Tryz.prog 56 #[.pointer (some ⟨d, 0, none⟩)] w fun e w' => e = .returned (.int .i64 (N : Int)) ∧ w' = w) (b : Int) (hb : b < 0 ∨ (N : Int) ≤ b) : Calls Tryz.prog 124 #[.pointer (some ⟨c, 0, none⟩), .int .i64 b] w fun e w' => e = .returned (.int .i64 1) ∧ w' = w := by
  have hc := h.c0
  have hm := cmade_ok h
  by_cases h0 : b < 0
  · clear hb
    go_enter Tryz.func124, Tryz.ntmps124
    go_wp2_with (first | (go_at_call 153; refine same_at hm ?_) | (go_at_call 56; refine same_at hd ?_))
    go_ret
    exact ⟨rfl, rfl⟩
  · have h1 : (N : Int) ≤ b := by omega
    have h0 : 0 ≤ b := by omega
    clear hb
    go_enter Tryz.func124, Tryz.ntmps124
    go_wp2_with (first | (go_at_call 153; refine same_at hm ?_) | (go_at_call 56; refine same_at hd ?_))
    go_ret
    exact ⟨rfl, rfl⟩
set_option maxHeartbeats 400000 in
theorem refusal_ok (h : CW B w c mb d N C) (hd : Calls Tryz.prog 56 #[.pointer (some ⟨d, 0, none⟩)] w fun e w' => e = .returned (.int .i64 (N : Int)) ∧ w' = w) (b : Nat) (hb : b < N) : Calls Tryz.prog 124 #[.pointer (some ⟨c, 0, none⟩), .int .i64 (b : Int)] w fun e w' => e = .returned (.int .i64 0) ∧ w' = w := by
  have hc := h.c0
  have hm := cmade_ok h
  have h0 : (0 : Int) ≤ (b : Int) := by omega
  have h1 : (b : Int) < (N : Int) := by omega
  go_enter Tryz.func124, Tryz.ntmps124
  go_wp2_with (first | (go_at_call 153; refine same_at hm ?_) | (go_at_call 56; refine same_at hd ?_))
  go_ret
  exact ⟨rfl, rfl⟩

set_option maxHeartbeats 400000 in
theorem pinned_hit (h : CW B w c mb d N C) {f : Bf} (hf : f ∈ C.L) : Calls Tryz.prog 172 #[.pointer (some ⟨c, 0, none⟩), .int .i64 (f.b : Int)] w fun e w' => e = .returned (.bool (decide (0 < f.p))) ∧ w' = w := by
  have hc := h.c2
  have hl := h.hit hf
  have hp := h.pins hf
  go_enter Tryz.func172, Tryz.ntmps172
  go_wp2
  go_ret
  exact ⟨ret_bool (by simp), rfl⟩
set_option maxHeartbeats 400000 in
theorem pinned_miss (h : CW B w c mb d N C) {b : Nat} (hb : b < N) (hn : ∀ f ∈ C.L, ¬ f.b = b) : Calls Tryz.prog 172 #[.pointer (some ⟨c, 0, none⟩), .int .i64 (b : Int)] w fun e w' => e = .returned (.bool false) ∧ w' = w := by
  have hc := h.c2
  have hl := h.miss hb hn
  go_enter Tryz.func172, Tryz.ntmps172
  go_wp2
  go_ret
  exact ⟨rfl, rfl⟩

set_option maxRecDepth 100000 in
set_option maxHeartbeats 1000000 in
theorem held1_ok (h : CW B w c mb d N C) (cb : Nat) (hcb : w.cell? ⟨cb, 0, none⟩ = some (.pointer (some ⟨c, 0, none⟩))) {f k : Bf} (hf : f ∈ C.L) (hk : k ∈ C.L) :
    Calls Tryz.prog 182 #[.int .i64 (f.b : Int), .int .i64 (k.b : Int), .pointer (some ⟨cb, 0, none⟩)] w fun e w' => e = .returned (.int .i64 (cpr (f.u : Int) (k.u : Int))) ∧ ∃ q, w' = w.drewN q := by
  have hc := h.c2
  have h1 := h.used hf
  have h2 := h.used hk
  have l1 : ∀ q, (Instr.lookup 138 (.map (some mb)) (.int .i64 (f.b : Int)) false).run Tryz.prog (w.drewN q) = .ok (.pointer (some ⟨f.g, 0, none⟩)) (w.drewN q) := fun q => (h.later (below_drewN (Below.refl _ _) q)).hit hf
  have l2 : ∀ q, (Instr.lookup 138 (.map (some mb)) (.int .i64 (k.b : Int)) false).run Tryz.prog (w.drewN q) = .ok (.pointer (some ⟨k.g, 0, none⟩)) (w.drewN q) := fun q => (h.later (below_drewN (Below.refl _ _) q)).hit hk
  clear h hf hk
  generalize f.b = fb at *
  generalize k.b = kb at *
  generalize f.g = fg at *
  generalize k.g = kg at *
  generalize f.u = fu at *
  generalize k.u = ku at *
  go_enter Tryz.func182, Tryz.ntmps182
  go_wp2_with fail
  go_quiet (first | (go_at_call 183; exact Calls.quiet_of_same (compare_ok _ _ _)))
  go_wp2
  go_ret
  exact ⟨rfl, _, rfl⟩
end
end Go.Proofs.YtjecicjpplibaaaGreat
