/- bollardref18.Geom: the walk. -/
import Derived.Test.YtijbbkkapimljaaGreatGH
namespace Go.Proofs.YtijbbkkapimljaaGreat
open Go.RowKit Go.Maps Go.MuLone
set_option linter.unusedVariables false
set_option maxRecDepth 100000

theorem info23g : (Tryz.prog.info? 23).map (·.size) = some 3 := by kernel_rfl
theorem geom_one (a b c : Int) : (#[.int .i64 a, .int .i64 b, .int .i64 c] : Array Value).all (·.oneCell') = true := by simp [Value.oneCell']

theorem dec_any (q : Option Addr) (m cc : Nat) (x : List Int) (X : World) (h : BI X q m x) (hm : m ≤ cc) : Calls Tryz.prog 20 #[.slice q m cc] X fun e w' => (∃ a b c d k, e = .returned (.tuple #[Mk.superV a b c d, .int .i64 k])) ∧ Below X.heap.size X w' := by
  refine (Mk.rdecodeSuper_ok q m cc x X h.toMk hm).mono ?_
  rintro e w' ⟨rfl, hb⟩
  obtain ⟨a, b, c, d, e⟩ := decV_is m x
  exact ⟨⟨a, b, c, d, _, by rw [e]⟩, hb⟩

set_option maxHeartbeats 2000000 in
theorem geom18_ok (p : Option Addr) (n c : Nat) (L : List (List Int)) (w : World) (h : ID w p n L) : Calls Tryz.prog 9 #[.slice p n c] w fun e w' => GeP w n L e w' := by
  have hlen := h.len
  have hbig := h.big
  have HB : Below w.heap.size w (w.alloc (Mk.geomO 0 0 0)) := (Below.refl _ w).alloc (Nat.le_refl _) _
  have hr1 : (w.alloc (Mk.geomO 0 0 0)).heap[w.heap.size]? = some (Mk.geomO 0 0 0) := at_new rfl
  have h1 := h.kept HB
  by_cases hn0 : n = 0
  · subst hn0
    go_enter Tryz.func9, Tryz.ntmps9
    go_wp2_with (refine wpList_store_row rfl 23 _ _ rfl w.heap.size _ rfl rfl 23 _ hr1 info23g rfl (geom_one 0 0 0) ?_)
    refine bodyPost_ret (v := .tuple #[Mk.geomV 0 0 0, .int .i64 6]) (Mk.results_cell_tmp_row (p := 2) (u := 3) (ty := 23) Tryz.results9 _ _ w.heap.size 23 _ (0, 0) _ rfl (setRow_heap _ _ _ _ _ _ hr1) Tryz.underlying23 rfl info23g) rfl ?_
    exact ⟨⟨0, 0, 0, 6, rfl, fun e => by cases e⟩, below_setRow HB (by omega) _⟩
  · have hnI : ¬ (n : Int) = 0 := by omega
    have H1 := (show Hid _ from h1)
    have HBB := (show Hid _ from HB)
    have HR := (show Hid _ from hr1)
    clear h h1 HB hr1
    go_enter Tryz.func9, Tryz.ntmps9
    go_wp2_with fail
    obtain ⟨W1, hW1⟩ : ∃ W1, w.alloc (Mk.geomO 0 0 0) = W1 := ⟨_, rfl⟩
    rw [show w.alloc (Obj.cells #[.int .i64 0, .int .i64 0, .int .i64 0] 23) = W1 from hW1]
    rw [hW1] at H1 HBB HR
    clear hW1
    go_loopw [14] (fun i wr => W1 = wr ∧ ∃ j : Nat, j ≤ n ∧ i = .int .i64 (j : Int) ∧ ∀ k xs, k < j → L[k]? = some xs → xs.length = 128) (fun (i : Value) _ => n - (Go.RowKit.intOf i).toNat)
    case atStart => exact ⟨rfl, 0, by omega, rfl, by intro k xs hk; omega⟩
    case round =>
      obtain ⟨rfl, j, hj, rfl, hall⟩ := hrel
      by_cases hlt : j < n
      · obtain ⟨b, o, rfl, hc⟩ := H1.out.cells (by omega)
        obtain ⟨xs, hxs⟩ : ∃ xs, L[j]? = some xs := ⟨L[j], List.getElem?_eq_getElem (by omega)⟩
        obtain ⟨q, m, d, hcell, hbi, hmd⟩ := hc j xs hxs
        have hml := hbi.len
        have hjI : (j : Int) < (n : Int) := by omega
        have hr1 := HR.out
        clear hc
        by_cases hm : m = 128
        · subst hm
          go_wp2
          go_roundw
          case rel =>
            refine ⟨trivial, j + 1, by omega, by go_num, fun k ys hk hy => ?_⟩
            by_cases e : k = j
            · subst e
              rw [hxs] at hy
              cases hy
              exact hml
            · exact hall k ys (by omega) hy
          case measure => simp [Go.RowKit.intOf]; omega
        · have hmI : ¬ (m : Int) = 128 := by omega
          go_wp2_with (refine wpList_store_row rfl 23 _ _ rfl w.heap.size _ rfl rfl 23 _ hr1 info23g rfl (geom_one 0 0 0) ?_)
          refine bodyPost_ret (v := .tuple #[Mk.geomV 0 0 0, .int .i64 6]) (Mk.results_cell_tmp_row (p := 2) (u := 3) (ty := 23) Tryz.results9 _ _ w.heap.size 23 _ (0, 0) _ rfl (setRow_heap _ _ _ _ _ _ hr1) Tryz.underlying23 rfl info23g) rfl ?_
          exact ⟨⟨0, 0, 0, 6, rfl, fun e => by cases e⟩, below_setRow HBB.out (by omega) _⟩
      · obtain rfl : j = n := by omega
        have hA : ∀ xs ∈ L, xs.length = 128 := fun xs hx => by
          obtain ⟨i, hi, rfl⟩ := List.getElem_of_mem hx
          exact hall i _ (by omega) (List.getElem?_eq_getElem hi)
        obtain ⟨b, o, rfl, hc⟩ := H1.out.cells (by omega)
        obtain ⟨xs, hxs⟩ : ∃ xs, L[0]? = some xs := ⟨L[0]'(by omega), List.getElem?_eq_getElem (by omega)⟩
        obtain ⟨q, m, d, hcell, hbi, hmd⟩ := hc 0 xs hxs
        rw [Nat.add_zero] at hcell
        have hd := dec_any q m d xs W1 hbi hmd
        have hpos : (0 : Int) < (j : Int) := by omega
        have HA := (show Hid _ from hA)
        clear hc hall hA hbi hmd
        go_wp2_with fail
        refine Calls.mono hd ?_
        rintro e w2 ⟨⟨G, B, I, M, k, rfl⟩, hb2⟩
        have hr2 : w2.heap[w.heap.size]? = some (Mk.geomO 0 0 0) := kept_row HR.out hb2
        have HB2 : Below w.heap.size w w2 := grew_trans' HBB.out hb2
        obtain ⟨W3, hW3⟩ : ∃ W3, (w2.alloc (.cells #[.int .i64 0, .int .i64 0, .int .i64 0, .int .i64 0] 80)).setRow w2.heap.size #[.int .i64 G, .int .i64 B, .int .i64 I, .int .i64 M] = W3 := ⟨_, rfl⟩
        have hb3 : Below w2.heap.size w2 W3 := by rw [← hW3]; exact below_setRow ((Below.refl _ _).alloc (Nat.le_refl _) _) (Nat.le_refl _) _
        have hx3 : W3.heap[w2.heap.size]? = some (.cells #[.int .i64 G, .int .i64 B, .int .i64 I, .int .i64 M] 80 (0, 0)) := by rw [← hW3]; exact setRow_heap _ _ _ _ _ _ (at_new rfl)
        have hz : (w2.alloc (.cells #[.int .i64 0, .int .i64 0, .int .i64 0, .int .i64 0] 80)).heap[w2.heap.size]? = some (.cells #[.int .i64 0, .int .i64 0, .int .i64 0, .int .i64 0] 80 (0, 0)) := at_new rfl
        have hr3 : W3.heap[w.heap.size]? = some (Mk.geomO 0 0 0) := kept_row hr2 hb3
        have HB3 : Below w.heap.size w W3 := grew_trans' HB2 hb3
        have c0 : W3.cell? ⟨w2.heap.size, 0, none⟩ = some (.int .i64 G) := cell_of_row _ _ 0 _ 80 _ hx3
        have c1 : W3.cell? ⟨w2.heap.size, 1, none⟩ = some (.int .i64 B) := cell_of_row _ _ 1 _ 80 _ hx3
        have c2 : W3.cell? ⟨w2.heap.size, 2, none⟩ = some (.int .i64 I) := cell_of_row _ _ 2 _ 80 _ hx3
        have hbl := Mk.rblocks_ok G B I W3
        have HX3 := (show Hid _ from hx3)
        have HB3' := (show Hid _ from HB3)
        clear hd hb2 hr2 HB2 hb3 hx3 HB3 hcell
        by_cases hk : k = 0
        · subst hk
          have hr3' := (show Hid _ from hr3)
          clear hr3
          dsimp only
          go_wp2_with (refine wpList_store_row rfl 80 _ _ rfl w2.heap.size _ rfl rfl 80 _ hz Mk.info25 rfl (Mk.super_one G B I M) ?_; rw [hW3])
          refine Calls.mono hbl ?_
          rintro e w4 ⟨rfl, hb4⟩
          have hr4 := kept_row hr3'.out hb4
          have hx4 := kept_row HX3.out hb4
          have HB4 := grew_trans' HB3'.out hb4
          have d0 : w4.cell? ⟨w2.heap.size, 0, none⟩ = some (.int .i64 G) := cell_of_row _ _ 0 _ 80 _ hx4
          have d1 : w4.cell? ⟨w2.heap.size, 1, none⟩ = some (.int .i64 B) := cell_of_row _ _ 1 _ 80 _ hx4
          have d2 : w4.cell? ⟨w2.heap.size, 2, none⟩ = some (.int .i64 I) := cell_of_row _ _ 2 _ 80 _ hx4
          have HH := (show Hid (_ ∧ _) from ⟨HB4, hr4⟩)
          by_cases hne : (j : Int) = Mk.Gm.num G B I B
          · have hmay : Mk.Gm.May G B I := Decidable.byContradiction (fun hno => by
              rw [Mk.Gm.num_neg hno] at hne
              omega)
            have hjn : (j : Int) = G * B := by rw [hne, Mk.Gm.num_pos hmay]
            clear hbl HB4 hb4 c0 c1 c2 hz hW3 hx4
            dsimp only
            go_wp2_with (refine wpList_store_row rfl 23 _ _ rfl w.heap.size _ rfl rfl 23 _ hr4 info23g rfl (geom_one G B I) ?_)
            refine bodyPost_ret (v := .tuple #[Mk.geomV G B I, .int .i64 0]) (Mk.results_cell_tmp_row (p := 2) (u := 3) (ty := 23) Tryz.results9 _ _ w.heap.size 23 _ (0, 0) _ rfl (setRow_heap _ _ _ _ _ _ hr4) Tryz.underlying23 rfl info23g) rfl ?_
            exact ⟨⟨G, B, I, 0, rfl, fun _ => ⟨HA.out, hmay, hjn⟩⟩, below_setRow HH.out.1 (by omega) _⟩
          · clear hbl HB4 hb4 c0 c1 c2 hz hW3 hx4
            dsimp only
            go_wp2_with (refine wpList_store_row rfl 23 _ _ rfl w.heap.size _ rfl rfl 23 _ hr4 info23g rfl (geom_one 0 0 0) ?_)
            refine bodyPost_ret (v := .tuple #[Mk.geomV 0 0 0, .int .i64 170]) (Mk.results_cell_tmp_row (p := 2) (u := 3) (ty := 23) Tryz.results9 _ _ w.heap.size 23 _ (0, 0) _ rfl (setRow_heap _ _ _ _ _ _ hr4) Tryz.underlying23 rfl info23g) rfl ?_
            exact ⟨⟨0, 0, 0, 170, rfl, fun e => by cases e⟩, below_setRow HH.out.1 (by omega) _⟩
        · dsimp only
          clear hbl
          go_wp2_with (first
            | (refine wpList_store_row rfl 80 _ _ rfl w2.heap.size _ rfl rfl 80 _ hz Mk.info25 rfl (Mk.super_one G B I M) ?_; rw [hW3])
            | (refine wpList_store_row rfl 23 _ _ rfl w.heap.size _ rfl rfl 23 _ hr3 info23g rfl (geom_one 0 0 0) ?_))
          refine bodyPost_ret (v := .tuple #[Mk.geomV 0 0 0, .int .i64 k]) (Mk.results_cell_tmp_row (p := 2) (u := 3) (ty := 23) Tryz.results9 _ _ w.heap.size 23 _ (0, 0) _ rfl (setRow_heap _ _ _ _ _ _ hr3) Tryz.underlying23 rfl info23g) rfl ?_
          exact ⟨⟨0, 0, 0, k, rfl, fun e => absurd e hk⟩, below_setRow HB3'.out (by omega) _⟩
end Go.Proofs.YtijbbkkapimljaaGreat
