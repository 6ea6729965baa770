/- VX -/
import Derived.Test.YtjecicjpplibaaaGreatSd05

/- Behind a sync of all the disk has what the volume has (P9.8). -/
namespace Go.Proofs.YtjecicjpplibaaaGreat
open Go.RowKit Go.Maps
set_option linter.unusedVariables false
set_option maxRecDepth 100000

def oneTo (t : Nat) : List Int := (List.range t).map (fun k => ((k : Nat) : Int) + 1)
theorem oneTo_succ (t : Nat) : oneTo (t + 1) = oneTo t ++ [(t : Int) + 1] := by unfold oneTo; rw [List.range_succ, List.map_append]; rfl
theorem oneTo_len (t : Nat) : (oneTo t).length = t := by unfold oneTo; simp
theorem mem_oneTo {t : Nat} {x : Int} : x ∈ oneTo t ↔ 1 ≤ x ∧ x ≤ (t : Int) := by
  unfold oneTo
  rw [List.mem_map]
  constructor
  · rintro ⟨k, hk, rfl⟩
    have := List.mem_range.1 hk
    omega
  · intro h
    exact ⟨(x - 1).toNat, List.mem_range.2 (by omega), by omega⟩

section
variable {g : Int} {B : Nat} {w w' : World} {A : At} {T T' : Vs} {b : Nat}
theorem vIsDone_ok (h : VI 0 B w A T) (hP : T.P = []) (k : Int) (hk : 1 ≤ k ∧ k ≤ (T.last : Int)) : Calls Tryz.prog 18 #[.pointer (some ⟨A.v, 0, none⟩), .int .i64 k] w fun e w' => e = .returned (.bool true) ∧ VI 0 B w' A T ∧ Pt.Stp (fp A T) (fp A T) w w' := by
  have hg := h.guard 1
  have hs := h.ps.sml
  have hd : Pt.dn T.last T.P k = true := by
    unfold Pt.dn
    rw [hP, Pt.kn_true.2 hk]
    rfl
  refine (visDone_of h.vrow k (R := fun r w1 => r = .bool true ∧ VI 1 B w1 A T ∧ Pt.Stp (fp A T) (fp A T) (w.setCell ⟨A.v, 0, none⟩ (.int .i32 1)) w1) ((Pt.isDone_ok hg.ps k ⟨by omega, by omega⟩).mono ?_)).mono ?_
  · rintro e w1 ⟨rfl, hb⟩
    exact ⟨_, _, rfl, (hg.later hb).vheld, by rw [hd], hg.later hb, below_stp hb⟩
  · rintro e w2 ⟨r, y, w1, rfl, _, ⟨rfl, hv, hst⟩, rfl⟩
    obtain ⟨hv0, hs0⟩ := unguard hst hv
    exact ⟨rfl, hv0, hs0⟩

theorem img_im {g n : Nat} {gs : List Nat} {f : Nat → List Int} (h : Img B w g n gs f) : Im B w (.slice (some ⟨g, 0, none⟩) n n) (gs.map fun k => (k, 128)) ((List.range n).map f) := by
  have hl := h.len
  refine ⟨?_, by simp [hl], fun i q xs hq hx => ?_⟩
  · have := h.row
    rw [List.length_map, hl, List.map_map]
    exact this
  · rw [List.getElem?_map] at hq hx
    obtain ⟨k, hk, rfl⟩ := Option.map_eq_some_iff.1 hq
    obtain ⟨j, hj, rfl⟩ := Option.map_eq_some_iff.1 hx
    have hjl := (List.getElem?_eq_some_iff.1 hj).1
    have hji : j = i := by rw [List.getElem?_eq_getElem hjl] at hj; simpa using hj.symm
    subst hji
    have hjn : j < n := by simpa using hjl
    have e : gs.getD j 0 = k := by rw [List.getD_eq_getElem?_getD, hk]; rfl
    have := h.el j hjn
    rw [e] at this
    exact this

set_option maxHeartbeats 4000000 in
theorem volumeSynced_walk (n : Int) (p : Option Addr) (m c : Nat) (D : List Dk) (w : World) (hD : DosI w p m D) : Calls Tryz.prog 4 #[.int .i64 n, .slice p m c] w fun e w' => e = .returned (.bool true) ∧ Below w.heap.size w w' := by
  obtain ⟨i0, hi, hz0, hz1, hz2⟩ := info_parts info3z
  have hbg := begun_ok n p m c D w hD
  go_enter Tryz.func4, Tryz.ntmps4
  go_wp2_with fail
  refine Calls.mono hbg ?_
  rintro e w1 ⟨A, T, rfl, B, j0, hj, hB⟩
  have hla := vLast_ok hB.vi
  obtain ⟨lst, HL⟩ : ∃ lst, Hid (lst = T.last ∧ lst ≤ 41) := ⟨T.last, rfl, by rw [hB.last]; exact hj⟩
  rw [← HL.out.1] at hla
  have hl41 : lst ≤ 41 := HL.out.2
  clear hbg
  dsimp only
  go_wp2_with (first | (go_at_call 16; refine same_at hla ?_))
  go_loopw [8, 24] (fun sv iv wr => ∃ t : Nat, t ≤ lst ∧ iv = .int .i64 (t : Int) ∧ Pt.Nums w1.heap.size wr sv (oneTo t) ∧ Below w1.heap.size w1 wr) (fun sv iv _ => lst - (intOf iv).toNat)
  case atStart => exact ⟨0, by omega, rfl, Pt.Nums.nil _ _, Below.refl _ _⟩
  case round =>
    obtain ⟨t, ht, rfl, hN, hb2⟩ := hrel
    by_cases htl : t < lst
    · have htI : (t : Int) < (lst : Int) := by omega
      have hw1 : IntKind.i64.wrap ((t : Int) + 1) = (t : Int) + 1 := IntWalk.i64_in _ (by omega)
      have hw2 : wrap64 ((t : Int) + 1) = (t : Int) + 1 := by unfold wrap64; omega
      have HO : Hid ((oneTo t).length = t) := oneTo_len t
      have HZ : Hid (oneTo (t + 1) = oneTo t ++ [(t : Int) + 1]) := oneTo_succ t
      go_wp2_with (first
        | (at_builtin; refine wpList_append_own _ rfl _ _ 23 rfl w1.heap.size 3 i0 (.int .i64 0) 1 8 Tryz.underlying23 hi hz0 hz1 hz2 rfl (by decide) _ _ _ rfl (World.ownsRow.alloc hN _) ⟨wr.heap.size, 0, none⟩ 1 1 [.int .i64 ((t : Int) + 1)] rfl rfl (cell_one_new _ _ _) (by simp [Value.oneCell']) (by have := HO.out; unfold maxLen; omega) (by have := HO.out; omega) (by have := hb2.size; simp; omega) ?_; intro v' w3 hown hgrow _; have hown := Pt.Nums.snoc hown; obtain ⟨g', cap', rfl⟩ := Pt.Nums.succ hown))
      have hb3 := (hb2.alloc (by have := hb2.size; omega) _).grown hgrow (by have := hb2.size; simp; omega) (by intro k hk; exact (World.ownsRow.lt hN k hk).1)
      go_roundw
      case rel => exact ⟨t + 1, by omega, by go_num, by rw [HZ.out]; exact hown, hb3⟩
      case measure => simp [intOf]; omega
    · obtain rfl : t = lst := by omega
      have hI : ¬ (t : Int) < (t : Int) := by omega
      have hv2 := hB.vi.later hb2
      have hall := all_ok hv2 (by rw [hB.C]; decide)
      have hol := oneTo_len t
      obtain ⟨q6, c6, rfl, hI6, _⟩ := hN.ii (by omega) (fun x hx => by have := mem_oneTo.1 hx; exact ⟨by omega, by omega⟩)
      have hno6 : ∀ k, Pt.blkOf q6 = some k → ¬ fp A T k ∧ k < wr.heap.size := by
        intro k hk
        rcases hN.2 with ⟨e1, e2⟩ | ⟨g', cap', cur, e1, hbg, hg', rest⟩
        · obtain ⟨rfl, _, _⟩ := Value.slice.inj e1
          cases hk
        · obtain ⟨rfl, _, _⟩ := Value.slice.inj e1
          have hgk := Option.some.inj (show some g' = some k from hk)
          have hlt := (Array.getElem?_eq_some_iff.1 hg').1
          exact ⟨fun hf => by have := hB.vi.lt k hf; omega, by omega⟩
      rw [hol] at hI6
      try rw [hol]
      clear hla hN hol
      go_wp2_with fail
      refine Calls.mono hall ?_
      rintro e w3 ⟨v, gs, C', rfl, hIm, hio, hv3, hst3, hC3⟩
      have hI3 := ii_stp hI6 hst3 (fun k hk => (hno6 k hk).1)
      have hbw := hB.bel.trans (hb2.mono hB.bel.size)
      have hE3 : Env w wr.heap.size v gs (allOf T) A { T with C := C' } w3 := by
        refine ⟨hIm, hio, ?_, ?_⟩
        · refine ⟨hst3.fr.os.trans hbw.os, hst3.fr.tape.trans hbw.tape, hst3.fr.output.trans hbw.output, Nat.le_trans hbw.size hst3.fr.size, fun i hi => ?_⟩
          exact (hst3.fr.block i (Nat.lt_of_lt_of_le hi hbw.size) (fun hf => by have := hB.own i hf; omega)).trans (hbw.block i hi)
        · intro k hk
          rcases hst3.new k hk with h1 | h1
          · exact hB.own k h1
          · have := hbw.size; omega
      have hg := hB.good
      have hTl : ({ T with C := C' } : Vs).last = t := HL.out.1.symm
      have hpf3 : ∀ k, Pt.blkOf q6 = some k → ¬ fp A { T with C := C' } k := fun k hk hf => by
        rcases hst3.new k hf with h1 | h1
        · exact (hno6 k hk).1 h1
        · have := (hno6 k hk).2; omega
      have hsy := vSync_ok hv3 ⟨hg.gd, hg.q, hg.Y, hg.x, hg.blk⟩ q6 t c6 (oneTo t) hI3 (fun z hz => by rw [hTl]; exact mem_oneTo.1 hz) (fun pv hp => by
        have := hv3.ps.ids pv hp
        rw [hTl] at this
        exact mem_oneTo.2 (by omega)) hpf3 (by show C'.hi + C'.mi < 1000; rw [hB.C] at hC3; have : C'.hi + C'.mi ≤ 0 + 0 + 12 := hC3; omega) (by show T.S.last < 1000; rw [hB.Sl]; decide) (by show T.NW < 1000; rw [hB.N]; decide) (by show T.P.length ≤ 41; rw [hB.len]; exact hj)
      obtain ⟨hS, hLl⟩ := all_sect hB.vi
      have hsz3 : wr.heap.size ≤ w3.heap.size := hst3.fr.size
      have HCb : Hid (C'.hi + C'.mi ≤ 12 ∧ T.P.length ≤ 41) := ⟨by rw [hB.C] at hC3; have : C'.hi + C'.mi ≤ 0 + 0 + 12 := hC3; omega, by rw [hB.len]; exact hj⟩
      clear hall hIm hio hC3 hB hst3 hI6 hg
      dsimp only
      go_wp2_with fail
      refine Calls.mono hsy ?_
      rintro e w4 ⟨rfl, T4, hv4, hst4, hSy, hP4⟩
      have hE4 := hE3.stp hst4
      have hI4 := ii_stp hI3 hst4 hpf3
      have hpf4 : ∀ k, Pt.blkOf q6 = some k → ¬ fp A T4 k ∧ k < w4.heap.size := fun k hk => by
        have h1 := (hno6 k hk).2
        have h2 := hst4.fr.size
        refine ⟨fun hf => ?_, ?_⟩
        · rcases hst4.new k hf with h3 | h3
          · exact hpf3 k hk h3
          · omega
        · omega
      have hdi := vDirty_ok hv4
      have hb0 : (Pt.blks T4.P).length = 0 := by rw [hP4]; unfold Pt.blks; rw [List.map_nil, Pt.rs_nil]; rfl
      rw [hb0] at hdi
      have hA4 : allOf T4 = allOf T := hSy.all
      have hF4 : (List.range T4.S.N).map T4.S.f = allOf T := by
        rw [← hA4]
        unfold allOf nowOf
        rw [hP4]
        rfl
      have hT4 : T4.last = t := hSy.last.trans hTl
      have hq4 := hSy.good.q
      have hC4 : T4.C.hi + T4.C.mi < 100000 := by
        have h1 : T4.C.hi + T4.C.mi + 12 * T4.P.length ≤ C'.hi + C'.mi + 12 * T.P.length := hSy.C
        have h2 := HCb.out
        omega
      have HQ : Hid (T4.S.q = [] ∧ T4.P = [] ∧ T4.last = t) := ⟨hq4, hP4, hT4⟩
      clear hsy hE3 hI3 hst4 hb0 hq4 hP4 hT4 hSy hv3 hTl
      dsimp only
      go_wp2_with fail
      refine Calls.mono hdi ?_
      rintro e w5 ⟨p5, c5, rfl, hv5, hst5⟩
      have hE5 := hE4.stp hst5
      have hI5 := ii_stp hI4 hst5 (fun k hk => (hpf4 k hk).1)
      have hwy := vWay_ok hv5
      rw [HQ.out.1] at hwy
      clear hdi
      dsimp only
      go_wp2_with fail
      refine Calls.mono hwy ?_
      rintro e w6 ⟨p6, c7, rfl, hv6, hst6⟩
      have hE6 := hE5.stp hst6
      have hs56 := hst5.trans hst6
      clear hwy hE5 hE4 hI5 hv5 hst5 hst6
      dsimp only
      go_wp2_with fail
      go_loopw [51] (fun iv wz => ∃ k : Nat, k ≤ t ∧ iv = .int .i64 (k : Int) ∧ VI 0 B wz A T4 ∧ Env w wr.heap.size v gs (allOf T) A T4 wz ∧ Pt.Stp (fp A T4) (fp A T4) w4 wz) (fun iv _ => t - (intOf iv).toNat)
      case atStart => exact ⟨0, by omega, rfl, hv6, hE6, hs56⟩
      case round =>
        clear hv6 hE6 hs56
        obtain ⟨k, hk, rfl, hv7, hE7, hs7⟩ := hrel
        have hI7 := ii_stp hI4 hs7 (fun k hk => (hpf4 k hk).1)
        by_cases hkt : k < t
        · obtain ⟨b7, o7, rfl, hc7⟩ := hI7.cells (by omega)
          have e7 := hc7 k hkt
          have hget : (oneTo t).getD k 0 = (k : Int) + 1 := by
            unfold oneTo
            rw [List.getD_eq_getElem?_getD, List.getElem?_map, List.getElem?_range hkt]
            rfl
          rw [hget] at e7
          have hkI : (k : Int) < (t : Int) := by omega
          have hk0 : (0 : Int) ≤ (k : Int) := by omega
          have hdn := vIsDone_ok hv7 HQ.out.2.1 ((k : Int) + 1) (by rw [HQ.out.2.2]; omega)
          clear hc7 hI7 hget
          go_wp2_with fail
          refine Calls.mono hdn ?_
          rintro e w8 ⟨rfl, hv8, hst8⟩
          have hE8 := hE7.stp hst8
          have hs8 := hs7.trans hst8
          clear hdn
          dsimp only
          go_wp2_with fail
          go_roundw
          case rel => exact ⟨k + 1, by omega, by go_num, hv8, hE8, hs8⟩
          case measure => simp [intOf]; omega
        · obtain rfl : k = t := by omega
          have hkI : ¬ (k : Int) < (k : Int) := by omega
          have him := image_ok hv7.cd.di
          clear hI7
          go_wp2_with fail
          refine Calls.mono him ?_
          rintro e w8 ⟨g8, gs8, rfl, hIg, hb8⟩
          have hv8 := hv7.later hb8
          have hE8 := hE7.stp (below_stp (D := fp A T4) hb8)
          have hIm8 := img_im hIg
          rw [hF4] at hIm8
          have hsa := vsame_ok hIm8 hE8.im hS hLl
          have hal := all_ok hv8 (by omega)
          rw [hA4] at hal
          clear him hIg hF4
          dsimp only
          go_wp2_with fail
          refine same_at hsa ?_
          dsimp only
          go_wp2_with fail
          refine Calls.mono hal ?_
          rintro e w9 ⟨v9, gs9, C9, rfl, hIm9, hio9, hv9, hst9, hC9⟩
          have hE9 := hE8.stp hst9
          have hsa9 := vsame_ok hIm9 hE9.im hS hLl
          clear hal hsa
          dsimp only
          go_wp2_with fail
          refine same_at hsa9 ?_
          dsimp only
          go_wp2_with fail
          go_ret
          exact ⟨by simp, hE9.bel⟩
end
end Go.Proofs.YtjecicjpplibaaaGreat
