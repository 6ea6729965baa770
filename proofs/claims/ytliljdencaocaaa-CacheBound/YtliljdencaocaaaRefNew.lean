/- The document's disk: New. -/
import Derived.Test.YtliljdencaocaaaRefFail
namespace Go.Proofs.Ytliljdencaocaaa
open Go.RowKit Go.Maps

set_option maxHeartbeats 400000 in
theorem new_arg (n : Int) (h : n < 1 ∨ 2048 < n) (w : World) : Calls Try.prog 30 #[.int .i64 n] w fun e w' => e = .returned (.tuple #[.pointer none, .int .i64 1]) ∧ w' = w := by
  by_cases h1 : n < 1
  · go_enter Try.func30, Try.ntmps30
    go_wp2
    go_ret2
    exact ⟨rfl, rfl⟩
  · have h2 : 2048 < n := by omega
    go_enter Try.func30, Try.ntmps30
    go_wp2
    go_ret2
    exact ⟨rfl, rfl⟩

set_option maxHeartbeats 400000 in
theorem rnew_arg (n : Int) (h : n < 1 ∨ 2048 < n) (w : World) : Calls Try.prog 31 #[.int .i64 n] w fun e w' => e = .returned (.tuple #[.pointer none, .int .i64 1]) ∧ w' = w := by
  by_cases h1 : n < 1
  · go_enter Try.func31, Try.ntmps31
    go_wp2
    go_ret2
    exact ⟨rfl, rfl⟩
  · have h2 : 2048 < n := by omega
    go_enter Try.func31, Try.ntmps31
    go_wp2
    go_ret2
    exact ⟨rfl, rfl⟩

theorem made128 (w : World) : (Instr.makeSlice 29 (.int .i64 128) (.int .i64 128)).run Try.prog w = .ok (.slice (some ⟨w.heap.size, 0, none⟩) 128 128) (w.alloc (.cells (secA zer) 5)) := by
  obtain ⟨i0, hi, hz0, hz1, hz2⟩ := info_parts info5
  have h := run_makeSlice (P := Try.prog) w 29 5 i0 (.int .u8 0) Try.underlying29 hi hz0 .i64 .i64 128 128 (by omega) (by omega) (by rw [hz1]; decide) (by rw [hz2]; decide) (by omega)
  rw [hz1] at h
  have e : madeCells (Value.int .u8 0).cells ((128 : Int).toNat * 1) = secA zer := by
    apply Array.toList_inj.1
    rw [show (128 : Int).toNat = 128 from rfl, made_list _ _ rfl]
    simp [secA, zer]
  rw [e] at h
  exact h

/-- A disk of the document that is being made: j of its blocks are there, whose bytes are L. -/
structure RN (B : Nat) (w : World) (x n j : Nat) (bv fv : Value) (gB : List (Nat × Nat)) (L : Nat → List Int) : Prop where
  row : w.heap[x]? = some (.cells #[bv, .slice none 0 0, fv, .int .i64 0] 105 (0, 0))
  bs : w.ownsRow B 29 1 bv j (gB.map slc)
  bel : ∀ (i : Nat) (p : Nat × Nat), gB[i]? = some p → Own B w p.1 128 p.2 (L i)
  fs : w.ownsRow B 3 1 fv n (List.replicate n (.int .i64 0))
  lo : B ≤ x

section
variable {B : Nat} {w w' : World} {x n j : Nat} {bv fv : Value} {gB : List (Nat × Nat)} {L : Nat → List Int}

theorem RN.len (h : RN B w x n j bv fv gB L) : gB.length = j := by have := h.bs.1; simpa using this

theorem RN.later (h : RN B w x n j bv fv gB L) (hb : Below w.heap.size w w') : RN B w' x n j bv fv gB L :=
  { row := (hb.block x (Array.getElem?_eq_some_iff.1 h.row).1).trans h.row
    bs := ownsRow_kept h.bs (fun k hk => hb.block k (h.bs.lt k hk).2)
    bel := fun i p hp => (h.bel i p hp).kept hb
    fs := ownsRow_kept h.fs (fun k hk => hb.block k (h.fs.lt k hk).2)
    lo := h.lo }

theorem row_set {cs : Array Value} {t : TypeId} (h : w.heap[x]? = some (.cells cs t (0, 0))) (i : Nat) (v : Value) : (w.setCell ⟨x, i, none⟩ v).heap[x]? = some (.cells (cs.setIfInBounds i v) t (0, 0)) :=
  heap_setCell_same w x i _ t v h

theorem not_row {cs : Array Value} {t : TypeId} (h : w.heap[x]? = some (.cells cs t (0, 0))) {e : TypeId} {s m : Nat} {v : Value} {Lx : List Value} (hv : w.ownsRow B e s v m Lx) (hne : e ≠ t) : v.ownBlock ≠ some x := by
  intro hg
  obtain ⟨cs', hc⟩ := own_ty hv hg
  rw [h] at hc
  simp only [Option.some.injEq, Obj.cells.injEq] at hc
  exact hne hc.2.1.symm

theorem RN.at0 (h : RN B w x n j bv fv gB L) (hg : w.grownBy w' bv.ownBlock) : w'.cell? ⟨x, 0, none⟩ = some bv ∧ w'.frozen? ⟨x, 0, none⟩ = false := by
  have hxb := not_row h.row h.bs (by decide)
  have hrow : w'.heap[x]? = _ := (hg.block x (Array.getElem?_eq_some_iff.1 h.row).1 (fun e => hxb e.symm)).trans h.row
  exact ⟨by rw [cell_of_row _ x 0 _ _ _ hrow]; rfl, by simp [World.frozen?, hrow]⟩

/-- One block more. -/
theorem RN.push (h : RN B w x n j bv fv gB L) {p : Nat × Nat} (hp : Own B w p.1 128 p.2 (L j)) {v : Value} (hown : w'.ownsRow B 29 1 v (j + 1) (gB.map slc ++ [slc p])) (hg : w.grownBy w' bv.ownBlock) : RN B (w'.setCell ⟨x, 0, none⟩ v) x n (j + 1) v fv (gB ++ [p]) L := by
  have hxb := not_row h.row h.bs (by decide)
  have hrow : w'.heap[x]? = _ := (hg.block x (Array.getElem?_eq_some_iff.1 h.row).1 (fun e => hxb e.symm)).trans h.row
  have hxv := not_row hrow hown (by decide)
  have hk : ∀ k, k ≠ x → (w'.setCell ⟨x, 0, none⟩ v).heap[k]? = w'.heap[k]? := fun k hk => Below.heap_setCell w' ⟨x, 0, none⟩ _ k hk
  have hk5 : ∀ {g c : Nat} {xs : List Int}, Own B w g 128 c xs → Own B (w'.setCell ⟨x, 0, none⟩ v) g 128 c xs := by
    intro g c xs ho
    refine ownsRow_kept ho (fun k hk' => ?_)
    have h1 : k ≠ x := by rintro rfl; exact not_row h.row ho (by decide) hk'
    rw [hk k h1]
    exact hg.block k (World.ownsRow.lt ho k hk').2 (fun e => owns_ne ho h.bs (by decide) hk' e.symm)
  refine ⟨row_set hrow 0 v, ?_, ?_, ?_, h.lo⟩
  · rw [List.map_append]
    exact ownsRow_kept hown (fun k hk' => hk k (by rintro rfl; exact hxv hk'))
  · intro i q hq
    have hl := h.len
    by_cases hi : i < j
    · rw [List.getElem?_append_left (by omega)] at hq
      exact hk5 (h.bel i q hq)
    · rw [List.getElem?_append_right (by omega)] at hq
      have hi0 : i - gB.length = 0 := by have := (List.getElem?_eq_some_iff.1 hq).1; simpa using this
      rw [hi0] at hq
      simp at hq
      subst hq
      obtain rfl : i = j := by omega
      exact hk5 hp
  · refine ownsRow_kept h.fs (fun k hk' => ?_)
    have h1 : k ≠ x := by rintro rfl; exact not_row h.row h.fs (by decide) hk'
    rw [hk k h1]
    exact hg.block k (h.fs.lt k hk').2 (fun e => owns_ne h.fs h.bs (by decide) hk' e.symm)

theorem RN.ri (h : RN B w x n n bv fv gB L) : RI B w x bv (.slice none 0 0) fv gB [] ⟨n, L, [], 0, fun _ => 0⟩ :=
  { row := h.row
    bs := h.bs
    bel := h.bel
    qs := World.ownsRow_nil _ _ _ _
    qlen := rfl
    qel := by simp
    fs := by
      have e : (List.range n).map (fun _ => Value.int .i64 0) = List.replicate n (.int .i64 0) := by simp [List.map_const']
      rw [e]
      exact h.fs
    lo := h.lo }
end

set_option maxRecDepth 10000 in
set_option maxHeartbeats 1000000 in
theorem rnew_ok (n : Nat) (h1 : 1 ≤ n) (h2 : n ≤ 2048) (w : World) : Calls Try.prog 31 #[.int .i64 (n : Int)] w fun e w' => ∃ x bv fv gB, e = .returned (.tuple #[.pointer (some ⟨x, 0, none⟩), .int .i64 0]) ∧ RI w.heap.size w' x bv (.slice none 0 0) fv gB [] ⟨n, fun _ => zer, [], 0, fun _ => 0⟩ ∧ Below w.heap.size w w' := by
  obtain ⟨i3, hi3, hy0, hy1, hy2⟩ := info_parts info3
  obtain ⟨i9, hi9, hx0, hx1, hx2⟩ := info_parts info30
  have hi1 : (1 : Int) ≤ (n : Int) := by omega
  have hi2 : (n : Int) ≤ 2048 := by omega
  go_enter Try.func31, Try.ntmps31
  go_wp2_with (at_make; refine wpList_make_full _ rfl _ _ 34 rfl w.heap.size 3 i3 (.int .i64 0) 1 Try.underlying34 hi3 hy0 hy1 .i64 .i64 _ _ n rfl rfl rfl rfl (by rw [hy2]; omega) (by unfold maxLen; omega) (Nat.le_refl _) ?_; intro w1 hown1 hgrow1; have hb1 := (Below.refl w.heap.size w).grown hgrow1 (Nat.le_refl _) (by intro k hk; cases hk); clear hgrow1)
  rw [made_list _ _ rfl] at hown1
  have hb2 := hb1.alloc hb1.size (.cells #[.slice none 0 0, .slice none 0 0, .slice (some ⟨w.heap.size, 0, none⟩) n n, .int .i64 0] 105)
  have hn1 : RN w.heap.size (w1.alloc (.cells #[.slice none 0 0, .slice none 0 0, .slice (some ⟨w.heap.size, 0, none⟩) n n, .int .i64 0] 105)) w1.heap.size n 0 (.slice none 0 0) (.slice (some ⟨w.heap.size, 0, none⟩) n n) [] (fun _ => zer) :=
    ⟨at_new rfl, World.ownsRow_nil _ _ _ _, by simp, ownsRow_kept hown1 (fun k hk => Below.heap_alloc _ _ _ (hown1.lt k hk).2), hb1.size⟩
  obtain ⟨x, hx⟩ : ∃ x, w1.heap.size = x := ⟨_, rfl⟩
  rw [hx] at hn1 ⊢
  clear hx hown1 hb1
  go_loopw [16] (fun i wr => ∃ (j : Nat) (bv : Value) (gB : List (Nat × Nat)), j ≤ n ∧ i = .int .i64 (j : Int) ∧ RN w.heap.size wr x n j bv (.slice (some ⟨w.heap.size, 0, none⟩) n n) gB (fun _ => zer) ∧ Below w.heap.size w wr) (fun i _ => n - (intOf i).toNat)
  case atStart => exact ⟨0, _, _, by omega, rfl, hn1, hb2⟩
  case round =>
    clear hn1 hb2
    obtain ⟨j, bv, gB, hj, rfl, hr, hb⟩ := hrel
    by_cases hlt : j < n
    · have hmk := made128
      have ba := (Below.refl wr.heap.size wr).alloc (Nat.le_refl _) (.cells (secA zer) 5)
      have hr2 := hr.later ba
      have ho2 : Own w.heap.size (wr.alloc (.cells (secA zer) 5)) wr.heap.size 128 128 zer :=
        World.ownsRow_lit wr (secA zer) 128 hb.size (by decide) (by simp [secA, zer])
      have bb := (Below.refl (wr.alloc (.cells (secA zer) 5)).heap.size (wr.alloc (.cells (secA zer) 5))).alloc (Nat.le_refl _) (.cells #[.slice (some ⟨wr.heap.size, 0, none⟩) 128 128] 29)
      have hr3 := (hr2.later bb).later (Below.refl _ _).drew
      have ho3 := (ho2.kept bb).kept (Below.refl _ _).drew
      have hrd := hr.later (Below.refl _ _).drew
      have hr2d := hr2.later (Below.refl _ _).drew
      have bx := ((hb.trans (ba.mono hb.size)).trans (bb.mono (Nat.le_trans hb.size ba.size))).drew
      have hjI : (j : Int) < (n : Int) := by omega
      have hc0 := cell_of_row _ x 0 _ _ _ hrd.row
      have hc1 := cell_of_row _ x 0 _ _ _ hr2d.row
      have hc2 := cell_of_row _ x 0 _ _ _ hr3.row
      simp only [List.getElem?_toArray, List.getElem?_cons_zero] at hc0 hc1 hc2
      have hnews : ∀ i u, [slc (wr.heap.size, 128)][i]? = some u → (((wr.alloc (.cells (secA zer) 5)).alloc (.cells #[.slice (some ⟨wr.heap.size, 0, none⟩) 128 128] 29)).drew).cell? ((⟨wr.heap.size + 1, 0, none⟩ : Addr).add i) = some u := World.news_of_block (cs := #[slc (wr.heap.size, 128)]) (t := 29) (fr := (0, 0)) (at_new (w := wr.alloc (.cells (secA zer) 5)) (by simp))
      have hone : ∀ u ∈ [slc (wr.heap.size, 128)], u.oneCell' = true := by intro u hu; simp at hu; subst hu; rfl
      have hmax : j + 1 ≤ maxLen := by unfold maxLen; omega
      have hbase : w.heap.size ≤ (((wr.alloc (.cells (secA zer) 5)).alloc (.cells #[.slice (some ⟨wr.heap.size, 0, none⟩) 128 128] 29)).drew).heap.size := Nat.le_trans hb.size (Nat.le_trans ba.size bb.size)
      have hH : (((wr.alloc (.cells (secA zer) 5)).alloc (.cells #[.slice (some ⟨wr.heap.size, 0, none⟩) 128 128] 29)).drew).heap.size = wr.heap.size + 2 := by show ((wr.alloc (.cells (secA zer) 5)).alloc (.cells #[.slice (some ⟨wr.heap.size, 0, none⟩) 128 128] 29)).heap.size = _; simp
      have HN := (show Hid _ from hnews)
      have HO := (show Hid _ from hone)
      have HH := (show Hid _ from hH)
      have HB := (show Hid _ from hbase)
      clear hnews hone hH hbase
      go_wp2_with fail
      go_region_law
        (first
          | (refine step_append_lies _ (by rfl) _ _ _ (by rfl) w.heap.size 29 i9 (.slice none 0 0) 1 24 Try.underlying102 hi9 hx0 hx1 hx2 (by rfl) (by omega) bv j (gB.map slc) (by rfl) hr3.bs ⟨wr.heap.size + 1, 0, none⟩ 1 1 [slc (wr.heap.size, 128)] (by rfl) rfl HN.out HO.out (by omega) hmax (by omega) HB.out (wr.heap.size + 2) HH.out ?_; intro g cap w4 hown4 hgrow4 hat4 hlt4; have hfin := hr3.push ho3 hown4 hgrow4; obtain ⟨hc4, hf4⟩ := hr3.at0 hgrow4; have hb4 := bx.grown hgrow4 bx.size (fun k hk => (hr3.bs.lt k hk).1)))
      all_goals (
        have hbw := hb4.setCell (p := ⟨x, 0, none⟩) hr.lo (.slice (some ⟨g, 0, none⟩) (j + 1) cap)
        clear hown4 hgrow4 hat4 hr3 hr2 hr2d hrd ho2 ho3 hr hb4 hc0 hc1 hc2 hc4
        go_wp2
        go_roundw
        case rel => exact ⟨j + 1, _, _, by omega, by go_num, hfin, hbw⟩
        case measure => simp [intOf]; omega)
    · obtain rfl : j = n := by omega
      go_wp2
      go_ret2
      exact ⟨_, _, _, _, rfl, hr.ri, hb⟩
end Go.Proofs.Ytliljdencaocaaa
