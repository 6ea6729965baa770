/- The document's own reader: what its calls answer, and what it is behind them. -/
import Derived.Test.YtnbknoibelajaaaRead5
namespace Go.Proofs.Ytnbknoibelajaaa
open Go.RowKit

/-- Block xb is the document's reader: what is left, and its error. -/
def Rx (w : World) (xb : Nat) (v : Value) (E : Int) : Prop := w.heap[xb]? = some (.cells #[v, .int .i64 E] 39 (0, 0))

theorem Rx.c0 {w : World} {xb : Nat} {v : Value} {E : Int} (h : Rx w xb v E) : w.cell? ⟨xb, 0, none⟩ = some v := by
  simp [World.cell?, show w.heap[xb]? = _ from h]
theorem Rx.c1 {w : World} {xb : Nat} {v : Value} {E : Int} (h : Rx w xb v E) : w.cell? ⟨xb, 1, none⟩ = some (.int .i64 E) := by
  simp [World.cell?, show w.heap[xb]? = _ from h]
theorem Rx.fz {w : World} {xb : Nat} {v : Value} {E : Int} (h : Rx w xb v E) (j : Nat) : w.frozen? ⟨xb, j, none⟩ = false := by
  simp [World.frozen?, show w.heap[xb]? = _ from h]
theorem Rx.lt {w : World} {xb : Nat} {v : Value} {E : Int} (h : Rx w xb v E) : xb < w.heap.size := (Array.getElem?_eq_some_iff.1 h).1
theorem Rx.set0 {w : World} {xb : Nat} {v : Value} {E : Int} (h : Rx w xb v E) (u : Value) : Rx (w.setCell ⟨xb, 0, none⟩ u) xb u E := by
  have := heap_setCell_same w xb 0 _ 39 u h
  simpa [Rx] using this
theorem Rx.set1 {w : World} {xb : Nat} {v : Value} {E : Int} (h : Rx w xb v E) (F : Int) : Rx (w.setCell ⟨xb, 1, none⟩ (.int .i64 F)) xb v F := by
  have := heap_setCell_same w xb 1 _ 39 (.int .i64 F) h
  simpa [Rx] using this

set_option maxHeartbeats 400000 in
theorem fits_had (w : World) (xb : Nat) (v : Value) (E k : Int) (h : Rx w xb v E) (hE : (E != 0) = true) :
    Calls Try.prog 36 #[.pointer (some ⟨xb, 0, none⟩), .int .i64 k] w fun e w' => e = .returned (.bool false) ∧ w' = w := by
  have c1 := h.c1
  go_enter Try.func36, Try.ntmps36
  go_wp2
  go_ret
  exact ⟨rfl, rfl⟩

set_option maxHeartbeats 400000 in
theorem fits_neg (w : World) (xb : Nat) (v : Value) (k : Int) (h : Rx w xb v 0) (hk : k < 0) :
    Calls Try.prog 36 #[.pointer (some ⟨xb, 0, none⟩), .int .i64 k] w fun e w' => e = .returned (.bool false) ∧ w' = w.setCell ⟨xb, 1, none⟩ (.int .i64 1) := by
  have c1 := h.c1
  have f1 := h.fz 1
  go_enter Try.func36, Try.ntmps36
  go_wp2
  go_ret
  exact ⟨rfl, rfl⟩

set_option maxHeartbeats 400000 in
theorem fits_past (w : World) (xb : Nat) (p : Option Addr) (n c : Nat) (k : Int) (h : Rx w xb (.slice p n c) 0) (hk : (n : Int) < k) :
    Calls Try.prog 36 #[.pointer (some ⟨xb, 0, none⟩), .int .i64 k] w fun e w' => e = .returned (.bool false) ∧ w' = w.setCell ⟨xb, 1, none⟩ (.int .i64 10) := by
  have c1 := h.c1
  have c0 := h.c0
  have f1 := h.fz 1
  have hk0 : 0 ≤ k := by omega
  go_enter Try.func36, Try.ntmps36
  go_wp2
  go_ret
  exact ⟨rfl, rfl⟩

set_option maxHeartbeats 400000 in
theorem fits_fine (w : World) (xb : Nat) (p : Option Addr) (n c k : Nat) (h : Rx w xb (.slice p n c) 0) (hk : k ≤ n) :
    Calls Try.prog 36 #[.pointer (some ⟨xb, 0, none⟩), .int .i64 k] w fun e w' => e = .returned (.bool true) ∧ w' = w := by
  have c1 := h.c1
  have c0 := h.c0
  go_enter Try.func36, Try.ntmps36
  go_wp2
  go_ret
  exact ⟨rfl, rfl⟩

theorem fits_bad (w : World) (xb : Nat) (p : Option Addr) (n c : Nat) (k : Int) (h : Rx w xb (.slice p n c) 0) (hk : Num.tE n k ≠ 0) :
    Calls Try.prog 36 #[.pointer (some ⟨xb, 0, none⟩), .int .i64 k] w fun e w' => e = .returned (.bool false) ∧ w' = w.setCell ⟨xb, 1, none⟩ (.int .i64 (Num.tE n k)) := by
  by_cases h1 : k < 0
  · have e : Num.tE n k = 1 := by unfold Num.tE; rw [if_pos h1]
    rw [e]
    exact fits_neg w xb _ k h h1
  · by_cases h2 : (n : Int) < k
    · have e : Num.tE n k = 10 := by unfold Num.tE; rw [if_neg h1, if_pos h2]
      rw [e]
      exact fits_past w xb p n c k h h2
    · exact absurd (by unfold Num.tE; rw [if_neg h1, if_neg h2]) hk

/-- The document's reader at xb has so much left, and an error. -/
def RestX (w : World) (xb : Nat) (n : Nat) (xs : List Int) (E : Int) : Prop :=
  ∃ p c, Rx w xb (.slice p n c) E ∧ n ≤ c ∧ BI w p n xs

theorem rx_no (v : Value) (E : Int) (hv : ∀ x, v ≠ Value.int .u8 x) : ∀ (x : Int) (j : Nat), (#[v, .int .i64 E] : Array Value)[j]? ≠ some (Value.int .u8 x) := by
  intro x j
  rcases j with _ | _ | j
  · simp; exact hv x
  · simp
  · simp

theorem grown_set (w : World) (xb j : Nat) (u : Value) : w.grownBy (w.setCell ⟨xb, j, none⟩ u) (some xb) :=
  ⟨rfl, rfl, rfl, by simp, fun k _ hk => Below.heap_setCell _ _ _ _ (fun e => hk (by simpa using congrArg some e))⟩

theorem bi_rx {w : World} {xb : Nat} {v : Value} {E : Int} {p : Option Addr} {n : Nat} {xs : List Int} (hx : Rx w xb v E) (hv : ∀ x, v ≠ Value.int .u8 x) (hb : BI w p n xs) (j : Nat) (u : Value) : BI (w.setCell ⟨xb, j, none⟩ u) p n xs := by
  refine bi_same hb fun b o e hn => ?_
  subst e
  have n1 := bi_ne hb hn hx (rx_no _ _ hv)
  rw [Below.heap_setCell _ _ _ _ (by simpa using n1)]

theorem restx_err {w : World} {xb n : Nat} {xs : List Int} (F : Int) {p : Option Addr} {c : Nat} (hx : Rx w xb (.slice p n c) 0) (hnc : n ≤ c) (hb : BI w p n xs) : RestX (w.setCell ⟨xb, 1, none⟩ (.int .i64 F)) xb n xs F :=
  ⟨p, c, hx.set1 F, hnc, bi_rx hx (by intro x; simp) hb 1 _⟩

set_option maxHeartbeats 400000 in
theorem rskip_no (w : World) (xb n : Nat) (xs : List Int) (E k : Int) (h : RestX w xb n xs E) (hE : (E != 0) = true) :
    Calls Try.prog 27 #[.pointer (some ⟨xb, 0, none⟩), .int .i64 k] w fun e w' => e = .returned (.tuple #[]) ∧ w' = w := by
  obtain ⟨p, c, hx, hnc, hb⟩ := h
  go_enter Try.func27, Try.ntmps27
  go_wp2_with fail
  refine same_at (fits_had w xb _ E k hx hE) ?_
  go_wp2
  go_end0
  exact ⟨rfl, rfl⟩

set_option maxHeartbeats 400000 in
theorem rskip_bad (w : World) (xb n : Nat) (xs : List Int) (k : Int) (h : RestX w xb n xs 0) (h1 : Num.tE n k ≠ 0) :
    Calls Try.prog 27 #[.pointer (some ⟨xb, 0, none⟩), .int .i64 k] w fun e w' => e = .returned (.tuple #[]) ∧ w.grownBy w' (some xb) ∧ RestX w' xb n xs (Num.tE n k) := by
  obtain ⟨p, c, hx, hnc, hb⟩ := h
  have hf := restx_err (Num.tE n k) hx hnc hb
  have hg := grown_set w xb 1 (.int .i64 (Num.tE n k))
  have hc := (show Hid _ from fits_bad w xb p n c k hx h1)
  clear h1
  generalize Num.tE n k = F at *
  go_enter Try.func27, Try.ntmps27
  go_wp2_with fail
  refine Calls.mono hc.out ?_
  rintro e w' ⟨rfl, rfl⟩
  go_wp2
  go_end0
  exact ⟨rfl, hg, hf⟩

theorem bi_end {w : World} {p : Option Addr} {n c k : Nat} {xs : List Int} (hb : BI w p n xs) (hnc : n ≤ c) (e : c = k) (hk : k ≤ n) : BI w p (n - k) (xs.drop k) :=
  ⟨by rw [List.length_drop, hb.len], by have := hb.big; omega, byt_drop hb.byt k, fun h => by omega⟩

theorem bi_tail {w : World} {p : Option Addr} {n k : Nat} {xs : List Int} (hb : BI w p n xs) (hk : k ≤ n) : BI w (Option.map (fun x => x.add k) p) (n - k) (xs.drop k) := by
  rcases Nat.eq_zero_or_pos n with h0 | h0
  · exact ⟨by rw [List.length_drop, hb.len], by have := hb.big; omega, byt_drop hb.byt k, fun h => by omega⟩
  · obtain ⟨b, o, rfl, _⟩ := hb.cells h0
    have e : (⟨b, o, none⟩ : Addr).add k = ⟨b, o + k, none⟩ := by unfold Addr.add; split <;> simp_all
    simp only [Option.map_some, e]
    exact hb.drop k hk

theorem restx_end {w : World} {xb n k : Nat} {xs : List Int} {p : Option Addr} {c : Nat} (hx : Rx w xb (.slice p n c) 0) (hnc : n ≤ c) (hb : BI w p n xs) (hk : k ≤ n) (e : c = k) : RestX (w.setCell ⟨xb, 0, none⟩ (.slice p (n - k) 0)) xb (n - k) (xs.drop k) 0 :=
  ⟨p, 0, hx.set0 _, by omega, bi_rx hx (by intro x; simp) (bi_end hb hnc e hk) 0 _⟩

theorem restx_tail {w : World} {xb n k : Nat} {xs : List Int} {p : Option Addr} {c : Nat} (hx : Rx w xb (.slice p n c) 0) (hnc : n ≤ c) (hb : BI w p n xs) (hk : k ≤ n) : RestX (w.setCell ⟨xb, 0, none⟩ (.slice (Option.map (fun x => x.add k) p) (n - k) (c - k))) xb (n - k) (xs.drop k) 0 :=
  ⟨_, _, hx.set0 _, by omega, bi_rx hx (by intro x; simp) (bi_tail hb hk) 0 _⟩

set_option maxHeartbeats 400000 in
theorem rskip_yes (w : World) (xb n k : Nat) (xs : List Int) (h : RestX w xb n xs 0) (h1 : k ≤ n) :
    Calls Try.prog 27 #[.pointer (some ⟨xb, 0, none⟩), .int .i64 k] w fun e w' => e = .returned (.tuple #[]) ∧ w.grownBy w' (some xb) ∧ RestX w' xb (n - k) (xs.drop k) 0 := by
  obtain ⟨p, c, hx, hnc, hb⟩ := h
  have c0 := hx.c0
  have f0 := hx.fz 0
  go_enter Try.func27, Try.ntmps27
  go_wp2_with fail
  refine same_at (fits_fine w xb p n c k hx h1) ?_
  have hend := @restx_end w xb n k xs p c hx hnc hb h1
  have htail := restx_tail hx hnc hb h1
  have HE := (show Hid _ from hend)
  clear hend
  go_wp2
  · go_end0
    exact ⟨rfl, grown_set _ _ _ _, HE.out (by assumption)⟩
  · go_end0
    exact ⟨rfl, grown_set _ _ _ _, htail⟩

set_option maxHeartbeats 400000 in
theorem rtext_no (w : World) (xb n : Nat) (xs : List Int) (E k : Int) (h : RestX w xb n xs E) (hE : (E != 0) = true) :
    Calls Try.prog 25 #[.pointer (some ⟨xb, 0, none⟩), .int .i64 k] w fun e w' => e = .returned (.string ByteArray.empty) ∧ w' = w := by
  obtain ⟨p, c, hx, hnc, hb⟩ := h
  go_enter Try.func25, Try.ntmps25
  go_wp2_with fail
  refine same_at (fits_had w xb _ E k hx hE) ?_
  go_wp2
  go_ret
  exact ⟨rfl, rfl⟩

set_option maxHeartbeats 400000 in
theorem rtext_bad (w : World) (xb n : Nat) (xs : List Int) (k : Int) (h : RestX w xb n xs 0) (h1 : Num.tE n k ≠ 0) :
    Calls Try.prog 25 #[.pointer (some ⟨xb, 0, none⟩), .int .i64 k] w fun e w' => e = .returned (.string ByteArray.empty) ∧ w.grownBy w' (some xb) ∧ RestX w' xb n xs (Num.tE n k) := by
  obtain ⟨p, c, hx, hnc, hb⟩ := h
  have hf := restx_err (Num.tE n k) hx hnc hb
  have hg := grown_set w xb 1 (.int .i64 (Num.tE n k))
  have hc := (show Hid _ from fits_bad w xb p n c k hx h1)
  clear h1
  generalize Num.tE n k = F at *
  go_enter Try.func25, Try.ntmps25
  go_wp2_with fail
  refine Calls.mono hc.out ?_
  rintro e w' ⟨rfl, rfl⟩
  go_wp2
  go_ret
  exact ⟨rfl, hg, hf⟩

set_option maxHeartbeats 400000 in
theorem rtext_yes (w : World) (xb n k : Nat) (xs : List Int) (h : RestX w xb n xs 0) (h1 : k ≤ n) :
    Calls Try.prog 25 #[.pointer (some ⟨xb, 0, none⟩), .int .i64 k] w fun e w' => e = .returned (.string (strOfNums (xs.take k))) ∧ w.grownBy w' (some xb) ∧ RestX w' xb (n - k) (xs.drop k) 0 := by
  obtain ⟨p, c, hx, hnc, hb⟩ := h
  have c0 := hx.c0
  have f0 := hx.fz 0
  have hcv := (hb.take k h1).conv c
  have hend := @restx_end w xb n k xs p c hx hnc hb h1
  have htail := restx_tail hx hnc hb h1
  have HE := (show Hid _ from hend)
  clear hend
  go_enter Try.func25, Try.ntmps25
  go_wp2_with fail
  refine same_at (fits_fine w xb p n c k hx h1) ?_
  go_wp2
  · go_ret
    exact ⟨rfl, grown_set _ _ _ _, HE.out (by assumption)⟩
  · go_ret
    exact ⟨rfl, grown_set _ _ _ _, htail⟩

set_option maxHeartbeats 400000 in
theorem rtake_no (w : World) (xb n : Nat) (xs : List Int) (E k : Int) (h : RestX w xb n xs E) (hE : (E != 0) = true) :
    Calls Try.prog 23 #[.pointer (some ⟨xb, 0, none⟩), .int .i64 k] w fun e w' => e = .returned (.int .i64 0) ∧ w' = w := by
  obtain ⟨p, c, hx, hnc, hb⟩ := h
  have c1 := hx.c1
  have hE' : (E == 0) = false := by simpa using hE
  go_enter Try.func23, Try.ntmps23
  go_wp2_with fail
  refine same_at (fits_had w xb _ E k hx hE) ?_
  go_wp2
  go_ret
  exact ⟨rfl, rfl⟩

set_option maxHeartbeats 400000 in
theorem rtake_arg (w : World) (xb n : Nat) (xs : List Int) (k : Int) (h : RestX w xb n xs 0) (h1 : k < 1 ∨ 4 < k) :
    Calls Try.prog 23 #[.pointer (some ⟨xb, 0, none⟩), .int .i64 k] w fun e w' => e = .returned (.int .i64 0) ∧ w.grownBy w' (some xb) ∧ RestX w' xb n xs 1 := by
  obtain ⟨p, c, hx, hnc, hb⟩ := h
  have hf := restx_err 1 hx hnc hb
  have hx1 := hx.set1 1
  have c1 := hx.c1
  have f1 := hx.fz 1
  have hg := grown_set w xb 1 (.int .i64 1)
  by_cases h2 : k < 1
  · clear h1
    go_enter Try.func23, Try.ntmps23
    go_wp2_with fail
    refine same_at (fits_had _ xb _ 1 k hx1 rfl) ?_
    go_wp2
    go_ret
    exact ⟨rfl, hg, hf⟩
  · have h3 : 4 < k := by omega
    clear h1
    go_enter Try.func23, Try.ntmps23
    go_wp2_with fail
    refine same_at (fits_had _ xb _ 1 k hx1 rfl) ?_
    go_wp2
    go_ret
    exact ⟨rfl, hg, hf⟩

set_option maxHeartbeats 400000 in
theorem rtake_past (w : World) (xb n k : Nat) (xs : List Int) (h : RestX w xb n xs 0) (h1 : 1 ≤ k) (h2 : k ≤ 4) (h3 : n < k) :
    Calls Try.prog 23 #[.pointer (some ⟨xb, 0, none⟩), .int .i64 k] w fun e w' => e = .returned (.int .i64 0) ∧ w.grownBy w' (some xb) ∧ RestX w' xb n xs 10 := by
  obtain ⟨p, c, hx, hnc, hb⟩ := h
  have hf := restx_err 10 hx hnc hb
  have c1 := hx.c1
  have hg := grown_set w xb 1 (.int .i64 10)
  go_enter Try.func23, Try.ntmps23
  go_wp2_with fail
  refine (fits_past w xb p n c k hx (by omega)).mono ?_
  rintro e w' ⟨rfl, rfl⟩
  go_wp2
  go_ret
  exact ⟨rfl, hg, hf⟩

set_option maxHeartbeats 400000 in
theorem rtake_yes (w : World) (xb n k : Nat) (xs : List Int) (h : RestX w xb n xs 0) (h1 : 1 ≤ k) (h2 : k ≤ 4) (h3 : k ≤ n) :
    Calls Try.prog 23 #[.pointer (some ⟨xb, 0, none⟩), .int .i64 k] w fun e w' => e = .returned (.int .i64 (Num.numD xs 0 k)) ∧ w.grownBy w' (some xb) ∧ RestX w' xb (n - k) (xs.drop k) 0 := by
  obtain ⟨p, c, hx, hnc, hb⟩ := h
  have c0 := hx.c0
  have c1 := hx.c1
  have f0 := hx.fz 0
  have hend := @restx_end w xb n k xs p c hx hnc hb h3
  have htail := restx_tail hx hnc hb h3
  have HE := (show Hid _ from hend)
  obtain ⟨b, o, rfl, hcs⟩ := hb.cells (by omega)
  have hg := (show Hid _ from rget_ok b o n c xs 0 k w h1 h2 hb.big (by omega) hb.byt hcs)
  have e : (Option.map (fun x : Addr => x.add k) (some ⟨b, o, none⟩)) = some ⟨b, o + k, none⟩ := by
    simp only [Option.map_some, Option.some.injEq]
    unfold Addr.add; split <;> simp_all
  rw [e] at htail
  clear hend hcs e
  generalize Num.numD xs 0 k = N at *
  go_enter Try.func23, Try.ntmps23
  go_wp2_with fail
  refine same_at (fits_fine w xb _ n c k hx h3) ?_
  go_wp2_with fail
  refine same_at hg.out ?_
  go_wp2
  · go_ret
    exact ⟨rfl, grown_set _ _ _ _, HE.out (by assumption)⟩
  · go_ret
    exact ⟨rfl, grown_set _ _ _ _, htail⟩
end Go.Proofs.Ytnbknoibelajaaa
