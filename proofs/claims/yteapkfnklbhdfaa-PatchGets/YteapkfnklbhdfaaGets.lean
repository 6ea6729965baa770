/- PatchGets: while something is pending, something may be written. -/
import Derived.Test.YteapkfnklbhdfaaLaw
namespace Go.Proofs.Yteapkfnklbhdfaa
open Go.RowKit Go.Maps
set_option linter.unusedVariables false

/-- The set, while its plans are done; block g lies beside it. -/
structure GI (w wr : World) (a mp mb last g : Nat) (P : List Pv) : Prop where
  ex : ∃ K, PS w.heap.size wr a mp mb last P K ∧ ∀ k, dm a mp mb P K k → w.heap.size ≤ k ∧ k ≠ g
  gd : Gd P
  bel : Below w.heap.size w wr
  bi : ∃ xs, BI wr (some ⟨g, 0, none⟩) 128 xs

theorem GI.on {w wr w' : World} {a mp mb last g : Nat} {P : List Pv} (h : GI w wr a mp mb last g P) (hb : Below wr.heap.size wr w') : GI w w' a mp mb last g P := by
  obtain ⟨K, h1, h2⟩ := h.ex
  obtain ⟨xs, h3⟩ := h.bi
  exact ⟨⟨K, h1.kept hb, h2⟩, h.gd, h.bel.trans (hb.mono h.bel.size), ⟨xs, h3.kept hb⟩⟩

theorem GI.done {w wr : World} {a mp mb last g : Nat} {P : List Pv} (h : GI w wr a mp mb last g P) (b : Int) (xs : List Int) (p : Option Addr) (n c : Nat) (hz : II wr p n (plnOf P b xs).1) :
    Calls Try.prog 33 #[.pointer (some ⟨a, 0, none⟩), .slice p n c] wr fun e w' => e = .returned (.int .i64 0) ∧ GI w w' a mp mb last g (kpP P (plnOf P b xs).1) := by
  obtain ⟨K, h1, h2⟩ := h.ex
  obtain ⟨ys, h3⟩ := h.bi
  have hi := pl_i64 h1 b xs
  have hl := pl_len h1 b xs
  have hbad : (still P (plnOf P b xs).1).any (bad P (plnOf P b xs).1) = false := bad_none h.gd (h.gd.planned b xs).1
  refine (done_ok h1 p n c _ hz (by have := hz.len; omega) (List.all_eq_true.2 (fun x hx => kn_true.2 (hi x hx)))).mono ?_
  rintro e w' (⟨⟨hb, _⟩, _⟩ | ⟨⟨_, rfl⟩, K', hPS, hSt⟩)
  · rw [hbad] at hb; cases hb
  · have hg : g < wr.heap.size := by
      obtain ⟨b', o', e', hc⟩ := h3.cells (by omega)
      have : g = b' := by injection e' with e'; injection e'
      have := lt_of_cell (hc 0 (by omega))
      omega
    refine ⟨rfl, ⟨K', hPS, fun k hk => ?_⟩, h.gd.kp hbad, h.bel.trans (hSt.below h.bel.size (fun k hk => (h2 k hk).1)), ⟨ys, ?_⟩⟩
    · rcases hSt.new k hk with h' | h'
      · exact h2 k h'
      · have := h.bel.size
        exact ⟨by omega, by omega⟩
    · refine h3.keptIf (fun g' hg' hl => ?_)
      have e : g = g' := Option.some.inj hg'
      exact hSt.fr.block g' hl (fun hd => (h2 g' hd).2 e.symm)

/-- The lowest pending number above i; 0: there is none. -/
def LowAt (P : List Pv) (i : Nat) (low : Int) : Prop := (low = 0 ∧ ∀ p ∈ P, p.id ≤ i) ∨ ∃ p ∈ P, (p.id : Int) = low ∧ i < p.id ∧ ∀ q ∈ P, i < q.id → p.id ≤ q.id

theorem LowAt.step {P : List Pv} {i : Nat} {low : Int} (h : LowAt P (i + 1) low) : LowAt P i (if (fP P ((i + 1 : Nat) : Int)).isSome then ((i + 1 : Nat) : Int) else low) := by
  by_cases hs : (fP P ((i + 1 : Nat) : Int)).isSome = true
  · rw [if_pos hs]
    obtain ⟨p, hp, e⟩ := fP_isSome.1 hs
    exact .inr ⟨p, hp, e, by omega, fun q hq hlt => by omega⟩
  · rw [if_neg hs]
    have hno : ∀ p ∈ P, p.id ≠ i + 1 := fun p hp e => hs (fP_isSome.2 ⟨p, hp, by omega⟩)
    rcases h with ⟨h1, h2⟩ | ⟨p, hp, e, h1, h2⟩
    · exact .inl ⟨h1, fun p hp => by have := h2 p hp; have := hno p hp; omega⟩
    · exact .inr ⟨p, hp, e, by omega, fun q hq hlt => h2 q hq (by have := hno q hq; omega)⟩
theorem low_start {P : List Pv} {last : Nat} (h : ∀ p ∈ P, p.id ≤ last) : LowAt P last 0 := .inl ⟨rfl, h⟩

set_option maxRecDepth 100000 in
set_option maxHeartbeats 4000000 in
theorem patchGets_walk (p : Option Addr) (n c : Nat) (D : List Dv) (w : World) (hD : DI w p n D) :
    Calls Try.prog 5 #[.slice p n c] w fun e w' => e = .returned (.bool true) ∧ Below w.heap.size w w' := by
  have hmk := mkset_ok p n c D w hD
  have hn := hD.big
  have hlen := hD.len
  have hms := zeros_ok
  go_enter Try.func5, Try.ntmps5
  go_wp2_with fail
  refine hmk.mono ?_
  rintro _ w1 ⟨a, mp, mb, P, K, rfl, hPS1, hst1, hb1, hdm1⟩
  obtain ⟨Z, hZ, hZB⟩ := hms w1
  clear hmk hms
  have hbZ : Below w1.heap.size w1 (w1.alloc (.cells Z 5)) := (Below.refl _ _).alloc (Nat.le_refl _) _
  have hgd : Gd P := gd_strip (by rw [hst1]; exact (mkS_good _).1)
  have hG0 : GI w (w1.alloc (.cells Z 5)) a mp mb (min n 41) w1.heap.size P := ⟨⟨K, hPS1.kept hbZ, fun k hk => ⟨hdm1 k hk, by have := hPS1.dm_lt hk; omega⟩⟩, hgd, hb1.trans (hbZ.mono hb1.size), ⟨_, hZB⟩⟩
  have hl0 : P.length ≤ 41 := by have := hPS1.len; omega
  have hm41 : min n 41 ≤ 41 := Nat.min_le_right _ _
  clear hPS1 hst1 hdm1 hgd hb1 hbZ hZB hD
  generalize min n 41 = lst at *
  generalize hgg : w1.heap.size = g at *
  dsimp only
  go_wp2_with fail
  go_loopw [14] (fun i wr => ∃ t : Nat, t ≤ 100 ∧ i = .int .i64 (t : Int) ∧ ∃ P, P.length + t ≤ 41 ∧ GI w wr a mp mb lst g P) (fun i _ => 100 - (intOf i).toNat)
  case atStart => exact ⟨0, by omega, rfl, P, by omega, hG0⟩
  case round =>
    clear hG0 hl0 hZ
    obtain ⟨t, ht, rfl, P, hPt, hG⟩ := hrel
    have htI : (t : Int) < 100 := by omega
    obtain ⟨K, hPS, hdm⟩ := hG.ex
    have hla := last_ok hPS
    go_wp2_with fail
    refine same_at hla ?_
    clear hla
    go_wp2_with fail
    go_loopw [5, 6] (fun v i w2 => ∃ (k : Nat) (low : Int), k ≤ lst ∧ v = .int .i64 low ∧ i = .int .i64 (k : Int) ∧ LowAt P k low ∧ Below wr.heap.size wr w2) (fun v i _ => (intOf i).toNat)
    case atStart => exact ⟨lst, 0, Nat.le_refl _, rfl, rfl, low_start (fun p hp => (hPS.ids p hp).2.1), Below.refl _ _⟩
    case round =>
      obtain ⟨k, low, hk, rfl, rfl, hLow, hb2⟩ := hrel
      cases k with
      | succ k =>
        have h1 : (1 : Int) ≤ ((k + 1 : Nat) : Int) := by omega
        have hdn := isDone_ok (hPS.kept hb2) ((k + 1 : Nat) : Int) ⟨by omega, by omega⟩
        have hst := hLow.step
        have hkn : kn lst ((k + 1 : Nat) : Int) = true := kn_true.2 ⟨h1, by omega⟩
        have hde : dn lst P ((k + 1 : Nat) : Int) = !(fP P ((k + 1 : Nat) : Int)).isSome := by unfold dn; rw [hkn]; rfl
        rw [hde] at hdn
        clear hde hkn hLow
        have e1 : ((k + 1 : Nat) : Int) - 1 = (k : Int) := by omega
        generalize hx : ((k + 1 : Nat) : Int) = x at *
        cases hs : (fP P x).isSome with
        | true =>
          rw [hs] at hdn hst
          have HSt : Hid _ := hst
          clear hst hs
          go_wp2_with fail
          refine below_at hdn ?_
          intro w3 hb3
          clear hdn
          go_wp2_with fail
          go_roundw
          case rel => exact ⟨k, x, by omega, rfl, (by go_num), HSt.out, hb2.trans (hb3.mono hb2.size)⟩
          case measure => simp [intOf]; omega
        | false =>
          rw [hs] at hdn hst
          have HSt : Hid _ := hst
          clear hst hs
          go_wp2_with fail
          refine below_at hdn ?_
          intro w3 hb3
          clear hdn
          go_wp2_with fail
          go_roundw
          case rel => exact ⟨k, low, by omega, rfl, (by go_num), HSt.out, hb2.trans (hb3.mono hb2.size)⟩
          case measure => simp [intOf]; omega
      | zero =>
        have hG2 := hG.on hb2
        clear hG hPS hdm hb2
        obtain ⟨K2, hPS, hdm⟩ := hG2.ex
        have hids := hPS.ids
        rcases hLow with ⟨rfl, hnone⟩ | ⟨p1, hp1, rfl, hpos, hmin⟩
        · have hP0 : P = [] := by
            cases P with
            | nil => rfl
            | cons q P => have := hnone q (by simp); have := (hids q (by simp)).1; omega
          subst hP0
          have hbl := blocks_ok hPS
          have e0 : blks [] = [] := rs_nil
          rw [e0] at hbl
          clear hids hnone
          go_wp2_with fail
          refine hbl.mono ?_
          rintro _ w4 ⟨p4, c4, rfl, hI4, hpl4, hg4, hb4⟩
          have haw := awake_ok w4
          clear hbl
          dsimp only
          go_wp2_with fail
          refine below_at haw ?_
          intro w5 hb5
          clear haw
          go_wp2_with fail
          go_ret
          exact ⟨rfl, hG2.bel.trans ((hb4.trans (hb5.mono hb4.size)).mono hG2.bel.size)⟩
        · have hid := hids p1 hp1
          have hbs : ∀ p ∈ P, 1 ≤ p.bs.length := fun p hp => (hids p hp).2.2.2.1
          obtain ⟨xs, hBI⟩ := hG2.bi
          obtain ⟨hnd, hin⟩ := hG2.gd.lowest hbs hp1 (fun q hq => hmin q hq (hids q hq).1) xs
          have hget := get_ok hPS (p1.id : Int) ⟨by omega, by omega⟩ p1 (fP_mem hPS.srt hp1) (hG2.gd.ndl hp1 (by omega))
          rw [hnd] at hget
          have hne : ((p1.id : Int) == 0) = false := beq_eq_false_iff_ne.2 (by omega)
          have hb64 : I64 (p1.blk : Int) := ⟨by omega, by omega⟩
          have hlt := kpP_lt hp1 hin
          have hE : plE (plnOf P (p1.blk : Int) xs) = 0 := by
            unfold plE
            rw [if_neg (fun e => by rw [show (pst P (ofB P (p1.blk : Int)) ([], xs)).1 = [] from e] at hin; cases hin)]
          have hcon : (plnOf P (p1.blk : Int) xs).1.contains (p1.id : Int) = true := List.contains_iff_mem.2 hin
          have HLT : Hid ((kpP P (plnOf P (p1.blk : Int) xs).1).length < P.length) := hlt
          clear hids hmin hnd hin hbs hlt hpos
          obtain ⟨h1, h2, h3, h4, h5⟩ := hid
          have hidne : ¬ (p1.id : Int) = 0 := by omega
          generalize hX : (p1.id : Int) = X at *
          go_wp2_with fail
          refine hget.mono ?_
          rintro _ w3 ⟨g3, cap3, q3, c3, rfl, hO3, hI3, hpl3, hg3, hb3⟩
          clear hget
          dsimp only
          go_wp2_with fail
          have hbA := (Below.refl w3.heap.size w3).alloc (Nat.le_refl _) (.cells #[.int .i64 X, .int .i64 (p1.blk : Int), .int .i64 (p1.off : Int), .slice (some ⟨g3, 0, none⟩) p1.bs.length cap3, .slice q3 0 c3] 44)
          generalize w3.alloc (.cells #[.int .i64 X, .int .i64 (p1.blk : Int), .int .i64 (p1.off : Int), .slice (some ⟨g3, 0, none⟩) p1.bs.length cap3, .slice q3 0 c3] 44) = w4 at *
          have hb4 := hb3.trans (hbA.mono hb3.size)
          have hG4 := hG2.on hb4
          have hp18 := plan2_ok (hPS.kept hb4) (p1.blk : Int) hb64 (some ⟨g, 0, none⟩) 128 xs (hBI.kept hb4)
          rw [hE] at hp18
          refine hp18.mono ?_
          rintro _ w5 ⟨ob, on, oc, ib, im, ic, rfl, hB5, hI5, hgo, hgi, hb5⟩
          have hG5 := hG4.on hb5
          have hc32 := icon_ok (c := ic) hI5 X
          rw [hcon] at hc32
          have hdo := hG5.done (p1.blk : Int) xs ib im ic hI5
          have HG5 : Hid _ := hG5
          clear hp18 hG2 hG4 hPS hBI hbA hb3 hb4 hB5 hgo hgi hO3 hI3 hpl3 hg3 hG5 hdm
          dsimp only
          go_wp2_with fail
          refine same_at hc32 ?_
          clear hc32
          go_wp2_with fail
          refine hdo.mono ?_
          rintro _ w6 ⟨rfl, hG6⟩
          clear hdo
          dsimp only
          go_wp2_with fail
          go_roundw
          case rel => exact ⟨t + 1, by omega, by go_num, _, (by have := HLT.out; omega), hG6⟩
          case measure => simp [intOf]; omega
end Go.Proofs.Yteapkfnklbhdfaa
