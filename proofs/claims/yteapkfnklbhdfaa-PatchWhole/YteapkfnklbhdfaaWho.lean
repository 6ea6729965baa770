/- PatchWhole: what may be written has all that it needs. -/
import Derived.Test.YteapkfnklbhdfaaLaw
import Derived.Test.YteapkfnklbhdfaaClo2
namespace Go.Proofs.Yteapkfnklbhdfaa
open Go.RowKit Go.Maps
set_option linter.unusedVariables false

theorem pair_at {xs : List Int} (hs : xs.Pairwise (fun x y => x < y)) {i j : Nat} (h : i < j) (hj : j < xs.length) : xs.getD i 0 < xs.getD j 0 := by
  have := List.pairwise_iff_getElem.1 hs i j (by omega) hj h
  rw [List.getD_eq_getElem?_getD, List.getD_eq_getElem?_getD, List.getElem?_eq_getElem (by omega), List.getElem?_eq_getElem hj]
  exact this

theorem isSorted_ok {w : World} {p : Option Addr} {n c : Nat} {xs : List Int} (hx : II w p n xs) (hs : xs.Pairwise (fun x y => x < y)) :
    Calls Try.prog 34 #[.slice p n c] w fun e w' => e = .returned (.bool true) ∧ Below w.heap.size w w' := by
  have hl := hx.len
  have hb := hx.big
  go_enter Try.func34, Try.ntmps34
  go_wp2_with fail
  go_loopw [3] (fun i wr => ∃ k : Int, -1 ≤ k ∧ k < (n : Int) ∧ i = .int .i64 k ∧ Below w.heap.size w wr) (fun i _ => (intOf i).toNat)
  case atStart => exact ⟨(n : Int) - 1, by omega, by omega, rfl, Below.refl _ _⟩
  case round =>
    obtain ⟨k, hk1, hk2, rfl, hbw⟩ := hrel
    by_cases hpos : 0 < k
    · obtain ⟨j, hj⟩ : ∃ j : Nat, k = ((j + 1 : Nat) : Int) := ⟨(k - 1).toNat, by omega⟩
      obtain ⟨b1, o1, rfl, hc1⟩ := (hx.kept hbw).cells (by omega)
      have e1 := hc1 (j + 1) (by omega)
      have e2 := hc1 j (by omega)
      have hlt := pair_at hs (show j < j + 1 by omega) (by omega)
      have hk0 : (0 : Int) ≤ k := by omega
      have hk3 : (0 : Int) ≤ k - 1 := by omega
      have hk4 : k - 1 < (n : Int) := by omega
      have ht1 : k.toNat = j + 1 := by omega
      have ht2 : (k - 1).toNat = j := by omega
      generalize xs.getD j 0 = y0 at *
      generalize xs.getD (j + 1) 0 = y1 at *
      have hle := fun w => sh_cmp_Less_int2 y1 y0 w
      have hd : decide (y1 < y0) = false := decide_eq_false (by omega)
      rw [hd] at hle
      have d1 : wr.drew.cell? ⟨b1, o1 + (j + 1), none⟩ = some (.int .i64 y1) := e1
      have d2 : wr.drew.cell? ⟨b1, o1 + j, none⟩ = some (.int .i64 y0) := e2
      have hbd : Below w.heap.size w wr.drew := hbw.drew
      clear hc1 hx hs hlt hd
      subst hj
      clear hk0 hk3 hk4 ht1 ht2 hpos hk1
      have hA1 : (0 : Int) ≤ (j : Int) + 1 := by omega
      have hA2 : (j : Int) + 1 < (n : Int) := by omega
      have hA3 : (0 : Int) ≤ (j : Int) := by omega
      have hA4 : (j : Int) < (n : Int) := by omega
      have hA5 : (0 : Int) < (j : Int) + 1 := by omega
      have hW1 : IntKind.i64.wrap ((j : Int) + 1 - 1) = (j : Int) := by rw [Int.add_sub_cancel]; exact IntWalk.i64_in _ (by omega)
      have hW2 : IntKind.i64.wrap (j : Int) = (j : Int) := IntWalk.i64_in _ (by omega)
      go_wp2_with fail
      go_region_held3 (fun w' => w'.cell? ⟨b1, o1 + (j + 1), none⟩ = some (.int .i64 y1) ∧ w'.cell? ⟨b1, o1 + j, none⟩ = some (.int .i64 y0)) (first | exact ⟨d1, d2⟩) (first | (go_at_call 70; refine same_at (hle _) ?_))
      go_wp2_with fail
      go_roundw
      case rel => exact ⟨(j : Int), by omega, by omega, by go_num, hbd⟩
      case measure => simp [intOf]
    · have hneg : ¬ 0 < k := hpos
      go_wp2_with fail
      go_ret
      exact ⟨rfl, hbw⟩

theorem rch_le {P : List Pv} (h : Gd P) {k : Int} : ∀ {x : Int}, Rch P [k] x → x ≤ k := by
  intro x hx
  induction hx with
  | base h1 h2 => rw [List.mem_singleton] at h1; omega
  | step h1 h2 h3 h4 ih =>
    obtain ⟨e1, e2⟩ := fP_some h2
    have := (h.low _ e1 _ h3).2
    omega

theorem last_max {xs : List Int} (hs : xs.Pairwise (fun x y => x < y)) {k : Int} (hk : k ∈ xs) (hm : ∀ x ∈ xs, x ≤ k) : 0 < xs.length ∧ xs.getD (xs.length - 1) 0 = k := by
  obtain ⟨i, hi, e⟩ := List.mem_iff_getElem.1 hk
  refine ⟨by omega, ?_⟩
  have h1 : xs.getD i 0 = k := by rw [List.getD_eq_getElem?_getD, List.getElem?_eq_getElem hi]; exact e
  have h2 : xs.getD (xs.length - 1) 0 ≤ k := hm _ (by rw [List.getD_eq_getElem?_getD, List.getElem?_eq_getElem (by omega)]; exact List.getElem_mem _)
  by_cases hh : i = xs.length - 1
  · rw [← hh]; exact h1
  · have := pair_at hs (show i < xs.length - 1 by omega) (by omega)
    omega

set_option maxRecDepth 100000 in
set_option maxHeartbeats 4000000 in
theorem patchWhole_walk (p : Option Addr) (n c : Nat) (D : List Dv) (w : World) (hD : DI w p n D) :
    Calls Try.prog 6 #[.slice p n c] w fun e w' => e = .returned (.bool true) ∧ Below w.heap.size w w' := by
  have hmk := mkset_ok p n c D w hD
  have hn := hD.big
  have hlen := hD.len
  go_enter Try.func6, Try.ntmps6
  go_wp2_with fail
  refine hmk.mono ?_
  rintro _ w1 ⟨a, mp, mb, P, K, rfl, hPS1, hst1, hb1, hdm1⟩
  clear hmk
  obtain ⟨hg1, hg2⟩ := mkS_good (D.take 41)
  rw [← hst1] at hg1 hg2
  have hgd : Gd P := gd_strip hg1
  have hall : ∀ k : Int, 1 ≤ k → k ≤ ((min n 41 : Nat) : Int) → (fP P k).isSome = true := fun k h1 h2 => by
    have := hg2 k h1 (by rw [List.length_take]; omega)
    rw [fP_strip, Option.isSome_map] at this
    exact this
  have hm41 : min n 41 ≤ 41 := Nat.min_le_right _ _
  have hbl := blocks_ok hPS1
  clear hg1 hg2 hst1 hdm1 hD
  generalize min n 41 = lst at *
  dsimp only
  go_wp2_with fail
  refine hbl.mono ?_
  rintro _ w2 ⟨p2, c2, rfl, hI2, hpl2, hgg2, hb2⟩
  have hlb := hI2.big
  have hPS := hPS1.kept hb2
  have hbw := hb1.trans (hb2.mono hb1.size)
  clear hbl hPS1 hb1 hb2 hpl2 hgg2
  dsimp only
  go_wp2_with fail
  go_loopw [22] (fun i wr => ∃ t : Nat, t ≤ (blks P).length ∧ i = .int .i64 (t : Int) ∧ Below w2.heap.size w2 wr) (fun i _ => (blks P).length - (intOf i).toNat)
  case atStart => exact ⟨0, by omega, rfl, Below.refl _ _⟩
  case round =>
    obtain ⟨t, ht, rfl, hb3⟩ := hrel
    by_cases hlt : t < (blks P).length
    · obtain ⟨b1, o1, rfl, hc1⟩ := (hI2.kept hb3).cells (by omega)
      have e1 := hc1 t hlt
      have hb64 := hI2.fitAt t
      have htI : (t : Int) < ((blks P).length : Int) := by omega
      have ht0 : (0 : Int) ≤ (t : Int) := by omega
      obtain ⟨Z, hZ, hZB⟩ := zeros_ok wr
      have hbZ : Below wr.heap.size wr (wr.alloc (.cells Z 5)) := (Below.refl _ _).alloc (Nat.le_refl _) _
      generalize (blks P).getD t 0 = y at *
      have hbz2 := hb3.trans (hbZ.mono hb3.size)
      have hp1 := plan2_ok (hPS.kept hbz2) y hb64 _ 128 _ hZB
      have hlen2 := pl_len hPS y zz
      have hi2 := pl_i64 hPS y zz
      obtain ⟨hCl, hin⟩ := hgd.planned y zz
      change Cl P (plnOf P y zz).1 at hCl
      change ∀ x ∈ (plnOf P y zz).1, _ at hin
      have hE : plE (plnOf P y zz) = 0 ∨ plE (plnOf P y zz) = 71 := by
        unfold plE
        split
        · exact .inr rfl
        · exact .inl rfl
      clear hc1
      generalize plnOf P y zz = S at *
      go_wp2_with fail
      refine hp1.mono ?_
      rintro _ w4 ⟨ob, on, oc, ib, im, ic, rfl, hB4, hI4, hgo, hgi, hb4⟩
      have hbw4 := hbz2.trans (hb4.mono hbz2.size)
      have himl := hI4.len
      clear hp1 hZ hZB hbZ hbz2 hgo hgi hB4 hb4
      generalize plE S = er at *
      rcases hE with rfl | rfl
      all_goals
        dsimp only
        go_wp2_with fail
        go_loopw [42] (fun i wr => ∃ t2 : Nat, t2 ≤ im ∧ i = .int .i64 (t2 : Int) ∧ Below w4.heap.size w4 wr) (fun i _ => im - (intOf i).toNat)
        case atStart => exact ⟨0, by omega, rfl, Below.refl _ _⟩
        case round =>
          obtain ⟨t2, ht2, rfl, hb5⟩ := hrel
          by_cases hlt2 : t2 < im
          · obtain ⟨b3, o3, rfl, hc3⟩ := (hI4.kept hb5).cells (by omega)
            have e3 := hc3 t2 hlt2
            have hy3 : S.1.getD t2 0 ∈ S.1 := getD_mem' (by omega)
            have ht2I : (t2 : Int) < (im : Int) := by omega
            have ht20 : (0 : Int) ≤ (t2 : Int) := by omega
            obtain ⟨p1, hp1, hpid, hpb⟩ := hin _ hy3
            generalize S.1.getD t2 0 = x at *
            have hid := hPS.ids p1 hp1
            have hbw5 := hbw4.trans (hb5.mono hbw4.size)
            have hget := get_ok (hPS.kept hbw5) x ⟨by omega, by omega⟩ p1 (by rw [← hpid]; exact fP_mem hPS.srt hp1) (hgd.ndl hp1 (by omega))
            have hwh := hgd.whole (fun q hq => (hPS.ids q hq).2.2.2.1) hCl hp1 (by rw [hpid]; exact hy3)
            rw [hpid] at hget hwh
            rw [hpb] at hget
            clear hc3
            go_wp2_with fail
            refine hget.mono ?_
            rintro _ w6 ⟨g6, cap6, q6, c6, rfl, hO6, hI6, hpl6, hg6, hb6⟩
            clear hget
            have hbA := (Below.refl w6.heap.size w6).alloc (Nat.le_refl _) (.cells #[.int .i64 x, .int .i64 y, .int .i64 (p1.off : Int), .slice (some ⟨g6, 0, none⟩) p1.bs.length cap6, .slice q6 (ndOf P p1).length c6] 44)
            dsimp only
            go_wp2_with fail
            generalize w6.alloc (.cells #[.int .i64 x, .int .i64 y, .int .i64 (p1.off : Int), .slice (some ⟨g6, 0, none⟩) p1.bs.length cap6, .slice q6 (ndOf P p1).length c6] 44) = w7 at *
            have hb57 := hb5.trans ((hb6.trans (hbA.mono hb6.size)).mono hb5.size)
            have hI7 := hI6.kept hbA
            have hnl := hI7.big
            clear hO6 hI6 hpl6 hg6 hb6 hbA hbw5
            generalize ndOf P p1 = nd at *
            go_loopw [63] (fun i wr => ∃ t3 : Nat, t3 ≤ nd.length ∧ i = .int .i64 (t3 : Int) ∧ Below w7.heap.size w7 wr) (fun i _ => nd.length - (intOf i).toNat)
            case atStart => exact ⟨0, by omega, rfl, Below.refl _ _⟩
            case round =>
              obtain ⟨t3, ht3, rfl, hb8⟩ := hrel
              by_cases hlt3 : t3 < nd.length
              · obtain ⟨b5, o5, rfl, hc5⟩ := (hI7.kept hb8).cells (by omega)
                have e5 := hc5 t3 hlt3
                obtain ⟨hlx, hxs⟩ := hwh _ (getD_mem' (zs := nd) (j := t3) (by omega))
                have ht3I : (t3 : Int) < (nd.length : Int) := by omega
                have ht30 : (0 : Int) ≤ (t3 : Int) := by omega
                generalize nd.getD t3 0 = z at *
                have hco := icon_ok (c := ic) (hI4.kept (hb57.trans (hb8.mono hb57.size))) z
                rw [List.contains_iff_mem.2 hxs] at hco
                have hge : ¬ x ≤ z := by omega
                have hge2 : decide (x ≤ z) = false := decide_eq_false hge
                clear hc5
                go_wp2_with fail
                refine same_at hco ?_
                clear hco
                go_wp2_with fail
                go_roundw
                case rel => exact ⟨t3 + 1, by omega, by go_num, hb8⟩
                case measure => simp [intOf]; omega
              · have hn3 : ¬ (t3 : Int) < (nd.length : Int) := by omega
                go_wp2_with fail
                go_roundw
                case rel => exact ⟨t2 + 1, by omega, by go_num, hb57.trans (hb8.mono hb57.size)⟩
                case measure => simp [intOf]; omega
          · have hn2 : ¬ (t2 : Int) < (im : Int) := by omega
            go_wp2_with fail
            go_roundw
            case rel => exact ⟨t + 1, by omega, by go_num, hbw4.trans (hb5.mono hbw4.size)⟩
            case measure => simp [intOf]; omega
    · have hnt : ¬ (t : Int) < ((blks P).length : Int) := by omega
      have hPS3 := hPS.kept hb3
      have hbw3 := hbw.trans (hb3.mono hbw.size)
      clear hPS hb3 hbw hI2
      go_wp2_with fail
      go_loopw [15] (fun i w8 => ∃ k : Nat, 1 ≤ k ∧ k ≤ lst + 1 ∧ i = .int .i64 (k : Int) ∧ Below wr.heap.size wr w8) (fun i _ => lst + 1 - (intOf i).toNat)
      case atStart => exact ⟨1, by omega, by omega, rfl, Below.refl _ _⟩
      case round =>
        obtain ⟨k, hk1, hk2, rfl, hb8⟩ := hrel
        have hPS8 := hPS3.kept hb8
        have hla := last_ok hPS8
        by_cases hkl : k ≤ lst
        · have hkI : (k : Int) ≤ (lst : Int) := by omega
          go_wp2_with fail
          refine same_at hla ?_
          clear hla
          go_wp2_with fail
          have hbA := (Below.refl wr.heap.size wr).alloc (Nat.le_refl _) (.cells #[.int .i64 (k : Int)] 3)
          have hIk : II (wr.alloc (.cells #[.int .i64 (k : Int)] 3)) (some ⟨wr.heap.size, 0, none⟩) 1 [(k : Int)] := ⟨rfl, by omega, (fun x hx => by simp only [List.mem_singleton] at hx; subst hx; exact ⟨by omega, by omega⟩), fun _ => ⟨wr.heap.size, 0, rfl, fun i hi => by
            obtain rfl : i = 0 := by omega
            rw [cell_of_row _ _ 0 _ 3 _ (at_new rfl)]; rfl⟩⟩
          have hcl := closure_ok (hPS8.kept hbA) (some ⟨wr.heap.size, 0, none⟩) 1 1 [(k : Int)] hIk
          refine hcl.mono ?_
          rintro _ w9 ⟨q9, c9, O, rfl, hI9, hpl9, hO, hg9, hb9⟩
          have hsrt := rs_sorted O
          obtain ⟨hl1, hl2⟩ := last_max hsrt (k := (k : Int)) ((mem_rs O _).2 ((hO _).2 (.base (by simp) (hall _ (by omega) hkI)))) (fun x hx => rch_le hgd ((hO x).1 ((mem_rs O x).1 hx)))
          have hiso := isSorted_ok (c := c9) hI9 hsrt
          obtain ⟨b9, o9, rfl, hc9⟩ := hI9.cells hl1
          have e9 := hc9 ((rs O).length - 1) (by omega)
          rw [hl2] at e9
          have hb89 := hb8.trans ((hbA.trans (hb9.mono hbA.size)).mono hb8.size)
          have hbig := hI9.big
          clear hcl hIk hI9 hO hc9 hsrt hl2 hbA hb9 hg9 hpl9
          generalize (rs O).length = L at *
          obtain ⟨L', rfl⟩ : ∃ L', L = L' + 1 := ⟨L - 1, by omega⟩
          rw [Nat.add_sub_cancel] at e9
          have hL1 : ¬ ((L' + 1 : Nat) : Int) = 0 := by omega
          have hL2 : (0 : Int) ≤ (L' : Int) := by omega
          have hL3 : (L' : Int) < ((L' + 1 : Nat) : Int) := by omega
          have hL4 : ¬ (L' : Int) + 1 = 0 := by omega
          have hL5 : (L' : Int) < (L' : Int) + 1 := by omega
          dsimp only
          go_wp2_with fail
          refine below_at hiso ?_
          intro w10 hb10
          clear hiso
          go_wp2_with fail
          go_roundw
          case rel => exact ⟨k + 1, by omega, by omega, by go_num, hb89.trans (hb10.mono hb89.size)⟩
          case measure => simp [intOf]; omega
        · have hkI : ¬ (k : Int) ≤ (lst : Int) := by omega
          have haw := awake_ok wr
          go_wp2_with fail
          refine same_at hla ?_
          clear hla
          go_wp2_with fail
          refine below_at haw ?_
          intro w10 hb10
          clear haw
          go_wp2_with fail
          go_ret
          exact ⟨rfl, hbw3.trans ((hb8.trans (hb10.mono hb8.size)).mono hbw3.size)⟩
end Go.Proofs.Yteapkfnklbhdfaa
