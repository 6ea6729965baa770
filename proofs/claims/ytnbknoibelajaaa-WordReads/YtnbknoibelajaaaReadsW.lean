/- WordReads: a reader reads what stands there, until its first error, and nothing from then on, whatever the bytes and the calls are. -/
import Derived.Test.YtnbknoibelajaaaReads
import Derived.Test.YtnbknoibelajaaaSealed
import Derived.Deep.RegionHeld3
namespace Go.Proofs.Ytnbknoibelajaaa
open Go.RowKit

/-- Over's reader, and where its bytes lie. -/
theorem over_lies (w : World) (p : Option Addr) (n c : Nat) (xs : List Int) (h : BI w p n xs) :
    Calls Try.prog 21 #[.slice p n c] w fun e w' => ∃ rb g cap, e = .returned (.pointer (some ⟨rb, 0, none⟩)) ∧ w.heap.size ≤ rb ∧ w.heap.size ≤ g ∧ Rd w' rb (.slice (some ⟨g, 0, none⟩) n cap) 0 true ∧ n ≤ cap ∧ BI w' (some ⟨g, 0, none⟩) n xs ∧ Below w.heap.size w w' := by
  go_enter Try.func21, Try.ntmps21
  go_wp2_with fail
  refine (clone_ok p n c xs w h).mono ?_
  rintro e w1 ⟨g, cap, rfl, ho, hb⟩
  go_wp2
  go_ret
  exact ⟨w1.heap.size, g, cap, rfl, hb.size, ho.spot.1, heap_alloc_new w1 _, ho.room.1, (ho.bi h.big h.byt).kept ((Below.refl _ _).alloc (Nat.le_refl _) _), hb.alloc hb.size _⟩

/-- The calls of a list: what each asks. -/
def Lk (w : World) (la : Option Addr) (m : Nat) (ops ns : Nat → Int) : Prop :=
  0 < m → ∃ lb lo, la = some ⟨lb, lo, none⟩ ∧ ∀ i, i < m → w.cell? ⟨lb, lo + i * 2, none⟩ = some (.int .i64 (ops i)) ∧ w.cell? ⟨lb, lo + i * 2 + 1, none⟩ = some (.int .i64 (ns i))

/-- A clone that may be nil: then there is no byte. -/
theorem bclone_own (p : Option Addr) (n c : Nat) (xs : List Int) (w : World) (h : BI w p n xs) :
    Calls Try.prog 9 #[.slice p n c] w fun e w' => ∃ p' cap, e = .returned (.slice p' n cap) ∧ (0 < n → ∃ g, p' = some ⟨g, 0, none⟩ ∧ Own w.heap.size w' g n cap xs) ∧ BI w' p' n xs ∧ Below w.heap.size w w' := by
  cases p with
  | none =>
    have hn : n = 0 := by
      rcases Nat.eq_zero_or_pos n with h0 | h0
      · exact h0
      · obtain ⟨b, o, e, _⟩ := h.cells h0
        cases e
    subst hn
    exact (bclone_nil 0 c w).mono fun e w' ⟨he, hw⟩ => ⟨none, 0, he, fun h => by omega, by rw [hw]; exact h, by rw [hw]; exact Below.refl _ _⟩
  | some a =>
    exact (bclone_some a n c xs w h).mono fun e w' ⟨g, cap, he, ho, hb⟩ => ⟨_, cap, he, fun _ => ⟨g, rfl, ho⟩, ho.bi h.big h.byt, hb⟩

theorem cell_turn {W w3 : World} {g k j : Nat} (hg : W.grownBy w3 (some g)) (hlt : k < W.heap.size) (hne : k ≠ g) : w3.cell? ⟨k, j, none⟩ = W.cell? ⟨k, j, none⟩ :=
  World.cell?_of_block (a := ⟨k, j, none⟩) (hg.block k hlt (by simpa using hne))

/-- While the first copy is spoilt: its block alone turns. -/
def Spoil (w w1 w3 wr : World) (p1 : Option Addr) (n cap1 : Nat) : Prop :=
  (0 < n → ∃ g ys, p1 = some ⟨g, 0, none⟩ ∧ Own w.heap.size wr g n cap1 ys ∧ g < w1.heap.size) ∧ ∃ q, (∀ g, q = some g → w.heap.size ≤ g ∧ g < w1.heap.size) ∧ (∀ g, p1 = some ⟨g, 0, none⟩ → 0 < n → q = some g) ∧ w3.grownBy wr q

theorem spoil_start {w w1 w3 : World} {p1 : Option Addr} {n cap1 : Nat} {xs : List Int} (ho : 0 < n → ∃ g, p1 = some ⟨g, 0, none⟩ ∧ Own w.heap.size w1 g n cap1 xs) (hb : Below w1.heap.size w1 w3) : Spoil w w1 w3 w3 p1 n cap1 := by
  refine ⟨fun hn => ?_, ?_⟩
  · obtain ⟨g, hp, hown⟩ := ho hn
    exact ⟨g, xs, hp, hown.kept hb, hown.spot.2⟩
  · rcases Nat.eq_zero_or_pos n with h0 | h0
    · exact ⟨none, by simp, fun g _ hn => by omega, grown_of_below (Below.refl _ _) _⟩
    · obtain ⟨g, hp, hown⟩ := ho h0
      exact ⟨some g, fun g' e => by cases e; exact hown.spot, fun g' e _ => by rw [hp] at e; cases e; rfl, grown_of_below (Below.refl _ _) _⟩

theorem spoil_set {w w1 w3 wr : World} {n cap1 g : Nat} (h : Spoil w w1 w3 wr (some ⟨g, 0, none⟩) n cap1) (hn : 0 < n) (j : Nat) (y : Int) : Spoil w w1 w3 (wr.setCell ⟨g, j, none⟩ (.int .u8 y)) (some ⟨g, 0, none⟩) n cap1 := by
  obtain ⟨h1, q, h2, h3, h4⟩ := h
  obtain ⟨g', ys, e, hown, hlt⟩ := h1 hn
  cases e
  have hq := h3 g rfl hn
  subst hq
  refine ⟨fun _ => ⟨g, _, rfl, hown.set j y, hlt⟩, some g, h2, fun _ e _ => h3 _ e hn, ⟨h4.os, h4.tape, h4.output, by have := h4.size; simpa using this, fun k hk hne => ?_⟩⟩
  rw [Below.heap_setCell _ _ _ _ (fun e => hne (by simpa using congrArg some e))]
  exact h4.block k hk hne

theorem spoil_end {w w1 w3 wr : World} {p1 p : Option Addr} {n cap1 rb xb g2 c2 c : Nat} {xs : List Int} (h : Spoil w w1 w3 wr p1 n cap1) (hw : w.heap.size ≤ w1.heap.size) (hrd : Rd w3 rb (.slice (some ⟨g2, 0, none⟩) n c2) 0 true) (hc2 : n ≤ c2) (hbi : BI w3 (some ⟨g2, 0, none⟩) n xs) (hrx : Rx w3 xb (.slice p n c) 0) (hnc : n ≤ c) (hbx : BI w p n xs)
    (l1 : w1.heap.size ≤ rb) (l2 : w1.heap.size ≤ xb) (l3 : w1.heap.size ≤ g2) (hne : xb ≠ rb) (hb : Below w.heap.size w w3) : Step w wr rb xb n xs 0 := by
  obtain ⟨_, q, h2, _, h4⟩ := h
  have old : ∀ k, k < w.heap.size → wr.heap[k]? = w3.heap[k]? := fun k hk => h4.block k (Nat.lt_of_lt_of_le hk hb.size) (by rintro e; have := h2 k e.symm; omega)
  have new : ∀ k, w1.heap.size ≤ k → k < w3.heap.size → wr.heap[k]? = w3.heap[k]? := fun k hk hk2 => h4.block k hk2 (by rintro e; have := h2 k e.symm; omega)
  have hbw : Below w.heap.size w wr := ⟨h4.os.trans hb.os, h4.tape.trans hb.tape, h4.output.trans hb.output, Nat.le_trans hb.size h4.size, fun k hk => (old k hk).trans (hb.block k hk)⟩
  refine ⟨⟨g2, 0, c2, ?_, hc2, bi_same hbi fun b o e hn => ?_⟩, ⟨p, c, ?_, hnc, hbx.kept hbw⟩, hne, by omega, by omega, hbw⟩
  · unfold Rd; rw [new rb l1 hrd.lt]; exact hrd
  · cases e; exact new g2 l3 (bi_block hbi hn)
  · unfold Rx; rw [new xb l2 hrx.lt]; exact hrx

set_option maxHeartbeats 1600000 in
theorem reads_walk (la : Option Addr) (m lc : Nat) (ops ns : Nat → Int) (p : Option Addr) (n c : Nat) (xs : List Int) (w : World) (h : BI w p n xs) (hnc : n ≤ c) (hm : m ≤ 140737488355328) (hl : Lk w la m ops ns) :
    Calls Try.prog 5 #[.slice p n c, .slice la m lc] w fun e w' => e = .returned (.bool true) ∧ Below w.heap.size w w' := by
  have hbig := h.big
  go_enter Try.func5, Try.ntmps5
  go_wp2_with fail
  refine (bclone_own p n c xs w h).mono ?_
  rintro e w1 ⟨p1, cap1, rfl, ho1, hg1, hb1⟩
  go_wp2_with fail
  refine (over_lies w1 _ n cap1 xs hg1).mono ?_
  rintro e w2 ⟨rb, g2, cap2, rfl, hrb, hg2, hrd, hc2, hbi2, hb2⟩
  have hb3 := (Below.refl w2.heap.size w2).alloc (Nat.le_refl _) (.cells #[.slice p n c, .int .i64 0] 39)
  have hsp := spoil_start ho1 (hb2.trans (hb3.mono hb2.size))
  have hend := fun wr (hs : Spoil w w1 (w2.alloc (.cells #[.slice p n c, .int .i64 0] 39)) wr p1 n cap1) => spoil_end (xs := xs) hs hb1.size (rd_kept hrd hb3) hc2 (hbi2.kept hb3) (heap_alloc_new w2 _) hnc h hrb hb2.size hg2 (by have := hrd.lt; omega) (hb1.trans ((hb2.mono hb1.size).trans (hb3.mono (Nat.le_trans hb1.size hb2.size))))
  have HE := (show Hid _ from hend)
  clear hend hb3 hbi2 hrd hg1 ho1 hc2 hb2 hb1
  go_wp2_with fail
  go_loopw [20] (fun i wr => ∃ j : Nat, j ≤ n ∧ i = .int .i64 j ∧ Spoil w w1 (w2.alloc (.cells #[.slice p n c, .int .i64 0] 39)) wr p1 n cap1) (fun i _ => n - (intOf i).toNat)
  case atStart => exact ⟨0, Nat.zero_le _, rfl, hsp⟩
  case round =>
    obtain ⟨j, hj, rfl, hs⟩ := hrel
    clear hsp
    by_cases hlt : j < n
    · obtain ⟨g, ys, hp1, ho, _⟩ := hs.1 (by omega)
      subst hp1
      have hc1 := ho.cell j hlt
      generalize ys.getD j 0 = y at hc1
      have hf1 := World.ownsRow.frozenAt ho j
      have hs2 := spoil_set hs (by omega) j (bits BinOp.xor IntKind.u8 y 255)
      clear HE hl h
      go_wp2
      go_roundw
      case rel => exact ⟨j + 1, by omega, by go_num, hs2⟩
      case measure => simp [intOf]; omega
    · have hst := HE.out wr hs
      clear HE hs
      go_wp2_with fail
      go_loopw [32] (fun i ws => ∃ j : Nat, j ≤ m ∧ i = .int .i64 j ∧ ∃ n' ys E', Step w ws rb w2.heap.size n' ys E') (fun i _ => m - (intOf i).toNat)
      case atStart => exact ⟨0, Nat.zero_le _, rfl, n, xs, 0, hst⟩
      case round =>
        obtain ⟨t, ht, rfl, n', ys, E, hS⟩ := hrel
        clear hst
        by_cases htm : t < m
        · obtain ⟨lb, lo, hla, hcs⟩ := hl (by omega)
          subst hla
          obtain ⟨k0, k1⟩ := hcs t htm
          have hlb := lt_of_cell k0
          have k0' : wr.cell? ⟨lb, lo + t * 2, none⟩ = some (.int .i64 (ops t)) := (hS.below.cell (p := ⟨lb, lo + t * 2, none⟩) hlb).trans k0
          have k1' : wr.cell? ⟨lb, lo + t * 2 + 1, none⟩ = some (.int .i64 (ns t)) := (hS.below.cell (p := ⟨lb, lo + t * 2 + 1, none⟩) hlb).trans k1
          generalize ops t = op at *
          generalize ns t = N at *
          obtain ⟨d, hd, e1⟩ : ∃ d : Nat, d < 3 ∧ (IntKind.u64.wrap op).tmod 3 = (d : Int) := tmod_nat op 3 (by omega)
          clear k0 k1 hl h hcs
          have hSk := hS.kept ((Below.refl wr.heap.size wr).alloc (Nat.le_refl _) (.cells #[.int .i64 op, .int .i64 N] 41))
          have hkb : (wr.alloc (.cells #[.int .i64 op, .int .i64 N] 41)).heap[wr.heap.size]? = some (.cells #[.int .i64 op, .int .i64 N] 41 (0, 0)) := heap_alloc_new wr _
          have hrbl : rb < wr.heap.size := by obtain ⟨_, _, _, hh, _, _⟩ := hS.rd; exact hh.lt
          have hxbl : w2.heap.size < wr.heap.size := by obtain ⟨_, _, hh, _, _⟩ := hS.rx; exact hh.lt
          rcases (by omega : d = 0 ∨ d = 1 ∨ d = 2) with rfl | rfl | rfl
          · obtain ⟨V, n2, zs, E2, hB1, hB2⟩ := take_both N n' ys E
            have H1 := (show Hid _ from hB1)
            have H2 := (show Hid _ from hB2)
            have hk2 : (wr.alloc (.cells #[.int .i64 op, .int .i64 N] 41)).cell? ⟨wr.heap.size, 1, none⟩ = some (.int .i64 N) := by
              rw [cell_of_row _ _ 1 _ _ _ hkb]
              rfl
            clear hB1 hB2 hS
            have hSd := hSk.kept ((Below.refl _ _).drew)
            have hk2d : (wr.alloc (.cells #[.int .i64 op, .int .i64 N] 41)).drew.cell? ⟨wr.heap.size, 1, none⟩ = some (.int .i64 N) := hk2
            go_wp2_with fail
            go_region_held3 (fun w' => w'.cell? ⟨wr.heap.size, 1, none⟩ = some (.int .i64 N)) (first | assumption | go_keep)
              (first
                | (go_at_call 22; refine Calls.mono (H1.out _ rb hSd.rd) ?_; rintro e w3 ⟨rfl, hg3, hr3⟩; have hx3 := restx_turn hSd.rx hSd.rd hSd.ne hg3; have hk3 := (cell_turn (j := 1) hg3 (k := wr.heap.size) (by simp) (by omega)).trans hk2d)
                | (go_at_call 23; refine Calls.mono (H2.out _ w2.heap.size (by assumption)) ?_; rintro e w4 ⟨rfl, hg4, hx4⟩; have hk4 := (cell_turn (j := 1) hg4 (k := wr.heap.size) (by have := hg3.size; simp at this; omega) (by omega)).trans hk3; have hS4 := hSd.go hg3 hr3 hg4 hx4 hx3))
            clear H1 H2 hg3 hr3 hg4 hx4 hx3 hk3 hk4 hSk hSd hk2 hk2d hkb k0' k1'
            obtain ⟨rb1, ro1, rc1, hrd4, _, _⟩ := hS4.rd
            obtain ⟨xp4, xc4, hrx4, _, _⟩ := hS4.rx
            have xk0 := hrx4.c0
            have xk1 := hrx4.c1
            go_wp2_with fail
            go_quiet (first | (go_at_call 28; exact Calls.quiet_of_same (left_some _ _ _ _ _ _ _ (rd_kept hrd4 (below_drewN (Below.refl _ _) _)))) | (go_at_call 29; exact Calls.quiet_of_same (err_made _ _ _ _ (rd_kept hrd4 (below_drewN (Below.refl _ _) _)))))
            have hS5 := hS4.kept (below_drewN (Below.refl _ _) nq)
            clear hS4 hrd4 hrx4 xk0 xk1
            go_wp2
            go_roundw
            case rel => exact ⟨t + 1, by omega, by go_num, _, _, _, hS5⟩
            case measure => simp [intOf]; omega
          · obtain ⟨V, n2, zs, E2, hB1, hB2⟩ := text_both N n' ys E
            have H1 := (show Hid _ from hB1)
            have H2 := (show Hid _ from hB2)
            have hk2 : (wr.alloc (.cells #[.int .i64 op, .int .i64 N] 41)).cell? ⟨wr.heap.size, 1, none⟩ = some (.int .i64 N) := by
              rw [cell_of_row _ _ 1 _ _ _ hkb]
              rfl
            clear hB1 hB2 hS
            have hSd := hSk.kept ((Below.refl _ _).drew)
            have hk2d : (wr.alloc (.cells #[.int .i64 op, .int .i64 N] 41)).drew.cell? ⟨wr.heap.size, 1, none⟩ = some (.int .i64 N) := hk2
            go_wp2_with fail
            go_region_held3 (fun w' => w'.cell? ⟨wr.heap.size, 1, none⟩ = some (.int .i64 N)) (first | assumption | go_keep)
              (first
                | (go_at_call 24; refine Calls.mono (H1.out _ rb hSd.rd) ?_; rintro e w3 ⟨rfl, hg3, hr3⟩; have hx3 := restx_turn hSd.rx hSd.rd hSd.ne hg3; have hk3 := (cell_turn (j := 1) hg3 (k := wr.heap.size) (by simp) (by omega)).trans hk2d)
                | (go_at_call 25; refine Calls.mono (H2.out _ w2.heap.size (by assumption)) ?_; rintro e w4 ⟨rfl, hg4, hx4⟩; have hk4 := (cell_turn (j := 1) hg4 (k := wr.heap.size) (by have := hg3.size; simp at this; omega) (by omega)).trans hk3; have hS4 := hSd.go hg3 hr3 hg4 hx4 hx3))
            clear H1 H2 hg3 hr3 hg4 hx4 hx3 hk3 hk4 hSk hSd hk2 hk2d hkb k0' k1'
            obtain ⟨rb1, ro1, rc1, hrd4, _, _⟩ := hS4.rd
            obtain ⟨xp4, xc4, hrx4, _, _⟩ := hS4.rx
            have xk0 := hrx4.c0
            have xk1 := hrx4.c1
            go_wp2_with fail
            go_quiet (first | (go_at_call 28; exact Calls.quiet_of_same (left_some _ _ _ _ _ _ _ (rd_kept hrd4 (below_drewN (Below.refl _ _) _)))) | (go_at_call 29; exact Calls.quiet_of_same (err_made _ _ _ _ (rd_kept hrd4 (below_drewN (Below.refl _ _) _)))))
            have hS5 := hS4.kept (below_drewN (Below.refl _ _) nq)
            clear hS4 hrd4 hrx4 xk0 xk1
            go_wp2
            go_roundw
            case rel => exact ⟨t + 1, by omega, by go_num, _, _, _, hS5⟩
            case measure => simp [intOf]; omega
          · obtain ⟨n2, zs, E2, hB1, hB2⟩ := skip_both N n' ys E
            have H1 := (show Hid _ from hB1)
            have H2 := (show Hid _ from hB2)
            clear hB1 hB2 hS
            go_wp2_with fail
            refine Calls.mono (H1.out _ rb hSk.rd) ?_
            rintro e w3 ⟨rfl, hg3, hr3⟩
            have hx3 := restx_turn hSk.rx hSk.rd hSk.ne hg3
            have hk3 : w3.cell? ⟨wr.heap.size, 1, none⟩ = some (.int .i64 N) := by
              rw [World.cell?_of_block (a := ⟨wr.heap.size, 1, none⟩) (hg3.block wr.heap.size (by simp) (by simp; omega)), cell_of_row _ _ 1 _ _ _ hkb]
              rfl
            go_wp2_with fail
            refine Calls.mono (H2.out _ w2.heap.size hx3) ?_
            rintro e w4 ⟨rfl, hg4, hx4⟩
            have hS4 := hSk.go hg3 hr3 hg4 hx4 hx3
            clear H1 H2 hg3 hr3 hg4 hx4 hx3 hk3 hSk hkb k0' k1'
            obtain ⟨rb1, ro1, rc1, hrd4, _, _⟩ := hS4.rd
            obtain ⟨xp4, xc4, hrx4, _, _⟩ := hS4.rx
            have xk0 := hrx4.c0
            have xk1 := hrx4.c1
            go_wp2_with fail
            go_quiet (first | (go_at_call 28; exact Calls.quiet_of_same (left_some _ _ _ _ _ _ _ (rd_kept hrd4 (below_drewN (Below.refl _ _) _)))) | (go_at_call 29; exact Calls.quiet_of_same (err_made _ _ _ _ (rd_kept hrd4 (below_drewN (Below.refl _ _) _)))))
            have hS5 := hS4.kept (below_drewN (Below.refl _ _) nq)
            clear hS4 hrd4 hrx4 xk0 xk1
            go_wp2
            go_roundw
            case rel => exact ⟨t + 1, by omega, by go_num, _, _, _, hS5⟩
            case measure => simp [intOf]; omega
        · obtain ⟨rb1, ro1, rc1, hrd4, _, _⟩ := hS.rd
          obtain ⟨xp4, xc4, hrx4, _, _⟩ := hS.rx
          have xk0 := hrx4.c0
          have hbel := hS.below
          clear hS hl h
          go_wp2_with fail
          go_quiet ((go_at_call 28; exact Calls.quiet_of_same (left_some _ _ _ _ _ _ _ (rd_kept hrd4 (below_drewN (Below.refl _ _) _)))))
          go_wp2
          go_ret
          exact ⟨rfl, below_drewN hbel _⟩
end Go.Proofs.Ytnbknoibelajaaa
