/- M3 M4 M5 M6 -/
import Derived.Test.YtgonehldgojcmaaMk11
import Derived.Deep.RegionHeld3

/- mkfs: an image while it is made; noughts. -/
namespace Go.Proofs.Ytgonehldgojcmaa
open Go.RowKit
set_option linter.unusedVariables false
set_option maxRecDepth 100000

def aZ : Array Value := ((zers 128).map (Value.int .u8)).toArray
/-- A list of blocks that is being made: it stands in block A, all of it from B on; its third block is noughts in a block of its own. -/
structure PIm (B : Nat) (w : World) (A n g2 : Nat) (L : Nat → List Int) : Prop where
  hA : B ≤ A
  row : ∃ cs : Array Value, w.heap[A]? = some (.cells cs 36 (0, 0)) ∧ n ≤ cs.size ∧ (∀ k, k < n → ∃ g o c, cs[k]? = some (.slice (some ⟨g, o, none⟩) 128 c) ∧ B ≤ g ∧ g ≠ A ∧ (k ≠ 2 → g ≠ g2) ∧ BI w (some ⟨g, o, none⟩) 128 (L k)) ∧ cs[2]? = some (.slice (some ⟨g2, 0, none⟩) 128 128)
  two : w.heap[g2]? = some (.cells aZ 5 (0, 0)) ∧ B ≤ g2 ∧ g2 ≠ A
section
variable {B : Nat} {w w' : World} {A n g2 : Nat} {L L' : Nat → List Int}
theorem PIm.lt (h : PIm B w A n g2 L) : A < w.heap.size ∧ g2 < w.heap.size := by
  obtain ⟨cs, h1, _⟩ := h.row
  exact ⟨(Array.getElem?_eq_some_iff.1 h1).1, (Array.getElem?_eq_some_iff.1 h.two.1).1⟩
theorem PIm.kept (h : PIm B w A n g2 L) (hb : Below w.heap.size w w') : PIm B w' A n g2 L := by
  obtain ⟨cs, h1, h2, h3, h4⟩ := h.row
  refine ⟨h.hA, ⟨cs, (hb.block A h.lt.1).trans h1, h2, fun k hk => ?_, h4⟩, (hb.block g2 h.lt.2).trans h.two.1, h.two.2⟩
  obtain ⟨g, o, c, e1, e2, e3, e4, e5⟩ := h3 k hk
  exact ⟨g, o, c, e1, e2, e3, e4, e5.kept hb⟩
theorem PIm.congr (h : PIm B w A n g2 L) (he : ∀ k, k < n → L' k = L k) : PIm B w A n g2 L' := by
  obtain ⟨cs, h1, h2, h3, h4⟩ := h.row
  refine ⟨h.hA, ⟨cs, h1, h2, fun k hk => ?_, h4⟩, h.two⟩
  rw [he k hk]
  exact h3 k hk
/-- What a block's place in the list has, and that it may be stored to. -/
theorem PIm.spot (h : PIm B w A n g2 L) (k : Nat) (hk : k < n) : ∃ g o c, w.cell? ⟨A, k, none⟩ = some (.slice (some ⟨g, o, none⟩) 128 c) ∧ BI w (some ⟨g, o, none⟩) 128 (L k) ∧ w.frozen? ⟨A, k, none⟩ = false := by
  obtain ⟨cs, h1, h2, h3, h4⟩ := h.row
  obtain ⟨g, o, c, e1, e2, e3, e4, e5⟩ := h3 k hk
  exact ⟨g, o, c, cell_row h1 k _ e1, e5, by simp [World.frozen?, h1]⟩
theorem PIm.third (h : PIm B w A n g2 L) : w.cell? ⟨A, 2, none⟩ = some (.slice (some ⟨g2, 0, none⟩) 128 128) := by
  obtain ⟨cs, h1, h2, h3, h4⟩ := h.row
  exact cell_row h1 2 _ h4
/-- A block put into the list. -/
theorem PIm.set (h : PIm B w A n g2 L) {k : Nat} (hk : k < n) (h2 : k ≠ 2) {g o c : Nat} {xs : List Int} (hg : B ≤ g) (hgA : g ≠ A) (hg2 : g ≠ g2) (hb : BI w (some ⟨g, o, none⟩) 128 xs) :
    PIm B (w.setCell ⟨A, k, none⟩ (.slice (some ⟨g, o, none⟩) 128 c)) A n g2 (fun x => if x = k then xs else L x) := by
  obtain ⟨cs, h1, hn, h3, h4⟩ := h.row
  have so : ∀ b, b ≠ A → (w.setCell ⟨A, k, none⟩ (.slice (some ⟨g, o, none⟩) 128 c)).heap[b]? = w.heap[b]? := fun b hb => Below.heap_setCell _ _ _ _ hb
  refine ⟨h.hA, ⟨_, heap_setCell_same w A k cs 36 _ h1, by simpa using hn, fun x hx => ?_, ?_⟩, (so g2 h.two.2.2).trans h.two.1, h.two.2⟩
  · by_cases hxk : x = k
    · subst hxk
      refine ⟨g, o, c, ?_, hg, hgA, fun _ => hg2, ?_⟩
      · rw [Array.getElem?_setIfInBounds_self_of_lt (by omega)]
      · rw [if_pos rfl]
        exact bi_same hb (fun b o e _ => by cases e; exact so _ hgA)
    · obtain ⟨g', o', c', e1, e2, e3, e4, e5⟩ := h3 x hx
      refine ⟨g', o', c', ?_, e2, e3, e4, ?_⟩
      · rw [Array.getElem?_setIfInBounds_ne (by omega)]; exact e1
      · rw [if_neg hxk]
        exact bi_same e5 (fun b o e _ => by cases e; exact so _ e3)
  · rw [Array.getElem?_setIfInBounds_ne (by omega)]; exact h4
end

theorem own_rowS {w : World} {B g n : Nat} {L : List Value} (h : w.ownsRow B 36 1 (.slice (some ⟨g, 0, none⟩) n n) n L) : w.heap[g]? = some (.cells L.toArray 36 (0, 0)) := by
  rcases h.2 with ⟨h', _⟩ | ⟨g', cap', cur, h', _, hg, _, _, hcs, ht⟩
  · simp at h'
  · simp only [Value.slice.injEq, Option.some.injEq, Addr.mk.injEq, and_true, true_and] at h'
    obtain ⟨rfl, rfl⟩ := h'
    rw [List.take_of_length_le (by simp; omega)] at ht
    subst ht
    simpa using hg
theorem info36S : (Try.prog.info? 36).map (fun i => (i.zero, i.size, i.bytes)) = some (some (.slice none 0 0), 1, 24) := by kernel_rfl
theorem info_partsS {t : TypeId} {z : Value} {s b : Nat} (h : (Try.prog.info? t).map (fun i => (i.zero, i.size, i.bytes)) = some (some z, s, b)) : ∃ i, Try.prog.info? t = some i ∧ i.zero = some z ∧ i.size = s ∧ i.bytes = b := by
  cases hi : Try.prog.info? t with
  | none => rw [hi] at h; cases h
  | some i => rw [hi] at h; simp at h; exact ⟨i, rfl, h.1, h.2.1, h.2.2⟩
/-- The list while noughts are put into it. -/
def rowN (gs : Nat → Nat) (n j : Nat) : List Value := (List.range j).map (fun k => Value.slice (some ⟨gs k, 0, none⟩) 128 128) ++ List.replicate (n - j) (Value.slice none 0 0)
theorem rowN_len {gs : Nat → Nat} {n j : Nat} (h : j ≤ n) : (rowN gs n j).length = n := by simp [rowN]; omega
theorem rowN_old {gs : Nat → Nat} {n j k : Nat} (h : k < j) : (rowN gs n j)[k]? = some (.slice (some ⟨gs k, 0, none⟩) 128 128) := by
  unfold rowN
  rw [List.getElem?_append_left (by simpa using h), List.getElem?_map, List.getElem?_range h]
  rfl
theorem rowN_new {gs : Nat → Nat} {n j : Nat} (h : j < n) : (rowN gs n j)[j]? = some (.slice none 0 0) := by
  unfold rowN
  rw [List.getElem?_append_right (by simp), List.getElem?_replicate, if_pos (by simp; omega)]
def gsN (gs : Nat → Nat) (j x : Nat) (k : Nat) : Nat := if k = j then x else gs k
theorem rowN_next {gs : Nat → Nat} {n j x : Nat} (h : j < n) : (rowN gs n j).toArray.setIfInBounds j (.slice (some ⟨x, 0, none⟩) 128 128) = (rowN (gsN gs j x) n (j + 1)).toArray := by
  rw [List.setIfInBounds_toArray]
  congr 1
  unfold rowN
  have e : (List.range j).map (fun k => Value.slice (some ⟨gsN gs j x k, 0, none⟩) 128 128) = (List.range j).map (fun k => Value.slice (some ⟨gs k, 0, none⟩) 128 128) := by
    apply List.map_congr_left
    intro k hk
    have : k < j := List.mem_range.1 hk
    unfold gsN
    rw [if_neg (by omega)]
  rw [List.set_append_right _ _ (by simp), List.length_map, List.length_range, Nat.sub_self, show n - j = (n - (j + 1)) + 1 by omega, List.replicate_succ, List.set_cons_zero, List.range_succ, List.map_append, e, List.append_assoc]
  simp [gsN]
/-- The noughts that were made so far. -/
structure NoI (w wr : World) (A n j : Nat) (gs : Nat → Nat) : Prop where
  row : wr.heap[A]? = some (.cells (rowN gs n j).toArray 36 (0, 0))
  el : ∀ k, k < j → A < gs k ∧ gs k < wr.heap.size ∧ wr.heap[gs k]? = some (.cells aZ 5 (0, 0))
  ne : ∀ k l, k < j → l < j → k ≠ l → gs k ≠ gs l
  bel : Below w.heap.size w wr
theorem made_zeroS (n : Nat) : (madeCells (Value.slice none 0 0).cells (n * 1)).toList = List.replicate n (Value.slice none 0 0) := by
  refine List.ext_getElem ?_ ?_
  · simp [madeCells]
  · intro i h1 h2
    simp [madeCells, Value.cells, Nat.mod_one]
theorem made_zeroB (n : Nat) : (madeCells (Value.int .u8 0).cells (n * 1)).toList = (zers n).map (Value.int .u8) := by
  refine List.ext_getElem ?_ ?_
  · simp [madeCells, zers]
  · intro i h1 h2
    simp [madeCells, Value.cells, Nat.mod_one, zers]

set_option maxHeartbeats 4000000 in
theorem noughts_ok (n : Nat) (h3 : 3 ≤ n) (hn : n ≤ 2048) (w : World) :
    Calls Try.prog 8 #[.int .i64 (n : Int)] w fun e w' => ∃ g2, e = .returned (.slice (some ⟨w.heap.size, 0, none⟩) n n) ∧ PIm w.heap.size w' w.heap.size n g2 (fun _ => zers 128) ∧ Below w.heap.size w w' := by
  obtain ⟨i5, hi5, hy0, hy1, hy2⟩ := info_partsS info5
  obtain ⟨i6, hi6, hz0, hz1, hz2⟩ := info_partsS info36S
  go_enter Try.func8, Try.ntmps8
  go_wp2_with (at_make; refine wpList_make_full _ rfl _ _ 24 rfl w.heap.size 36 i6 (.slice none 0 0) 1 Try.underlying24 hi6 hz0 hz1 .i64 .i64 _ _ n rfl rfl rfl rfl (by rw [hz2]; omega) (by unfold maxLen; omega) (Nat.le_refl _) ?_; intro w2 hown2 hgrow2)
  rw [made_zeroS] at hown2
  have hb2 : Below w.heap.size w w2 := (Below.refl _ _).grown hgrow2 (Nat.le_refl _) (by intro k hk; cases hk)
  have hr2 : w2.heap[w.heap.size]? = some (.cells (rowN (fun _ => 0) n 0).toArray 36 (0, 0)) := by
    rw [own_rowS hown2]
    simp [rowN]
  have H0 : Hid (NoI w w2 w.heap.size n 0 (fun _ => 0)) := ⟨hr2, fun k hk => by omega, fun k l hk => by omega, hb2⟩
  clear hown2 hgrow2 hb2 hr2
  go_loopw [9] (fun iv wr => ∃ (j : Nat) (gs : Nat → Nat), j ≤ n ∧ iv = .int .i64 (j : Int) ∧ NoI w wr w.heap.size n j gs) (fun iv _ => n - (intOf iv).toNat)
  case atStart => exact ⟨0, _, by omega, rfl, H0.out⟩
  case round =>
    clear H0
    obtain ⟨j, gs, hj, rfl, hI⟩ := hrel
    by_cases hlt : j < n
    · have hjI : (j : Int) < (n : Int) := by omega
      have hj0 : (0 : Int) ≤ (j : Int) := by omega
      have HI : Hid (NoI w wr w.heap.size n j gs) := hI
      have hAl : w.heap.size < wr.heap.size := (Array.getElem?_eq_some_iff.1 hI.row).1
      clear hI
      go_wp2_with (first
        | (at_make; refine wpList_make_full _ rfl _ _ 36 rfl wr.heap.size 5 i5 (.int .u8 0) 1 Try.underlying36 hi5 hy0 hy1 .i64 .i64 _ _ 128 rfl rfl rfl rfl (by rw [hy2]; decide) (by decide) (Nat.le_refl _) ?_; intro w3 hown3 hgrow3
           have hb3 : Below wr.heap.size wr w3 := (Below.refl _ _).grown hgrow3 (Nat.le_refl _) (by intro k hk; cases hk)
           have hr3 := (hb3.block w.heap.size hAl).trans HI.out.row
           have k3 : w3.cell? ⟨w.heap.size, j, none⟩ = some (.slice none 0 0) := cell_row hr3 j _ (by rw [List.getElem?_toArray]; exact rowN_new hlt)
           have f3 : w3.frozen? ⟨w.heap.size, j, none⟩ = false := by simp [World.frozen?, hr3]))
      rw [made_zeroB] at hown3
      have hz3 : w3.heap[wr.heap.size]? = some (.cells aZ 5 (0, 0)) := own_row hown3
      have hwl : wr.heap.size < w3.heap.size := (Array.getElem?_eq_some_iff.1 hz3).1
      have so : ∀ b, b ≠ w.heap.size → (w3.setCell ⟨w.heap.size, j, none⟩ (.slice (some ⟨wr.heap.size, 0, none⟩) 128 128)).heap[b]? = w3.heap[b]? := fun b hb => Below.heap_setCell _ _ _ _ hb
      refine ⟨⟨j + 1, gsN gs j wr.heap.size, by omega, by go_num, ?_, fun k hk => ?_, fun k l hk hl hkl => ?_, ?_⟩, by simp [intOf]; omega⟩
      · rw [← rowN_next hlt]
        exact heap_setCell_same w3 w.heap.size j _ 36 _ hr3
      · unfold gsN
        by_cases hkj : k = j
        · rw [if_pos hkj]
          exact ⟨hAl, by simpa using hwl, (so _ (by omega)).trans hz3⟩
        · rw [if_neg hkj]
          obtain ⟨e1, e2, e3⟩ := HI.out.el k (by omega)
          exact ⟨e1, by have := hb3.size; simp; omega, (so _ (by omega)).trans ((hb3.block _ e2).trans e3)⟩
      · unfold gsN
        by_cases hkj : k = j
        · rw [if_pos hkj, if_neg (by omega)]
          have := (HI.out.el l (by omega)).2.1
          omega
        · rw [if_neg hkj]
          have h1 := (HI.out.el k (by omega)).2.1
          by_cases hlj : l = j
          · rw [if_pos hlj]; omega
          · rw [if_neg hlj]
            exact HI.out.ne k l (by omega) (by omega) hkl
      · exact (grew_trans HI.out.bel hb3).setCell (Nat.le_refl _) _
    · obtain rfl : j = n := by omega
      have hjI : ¬ (j : Int) < (j : Int) := by omega
      have HI : Hid (NoI w wr w.heap.size j j gs) := hI
      clear hI
      go_wp2_with fail
      go_ret
      have hI := HI.out
      refine ⟨rfl, ⟨gs 2, ⟨Nat.le_refl _, ⟨_, hI.row, by simp [rowN_len], fun k hk => ?_, ?_⟩, ?_⟩⟩, hI.bel⟩
      · obtain ⟨e1, e2, e3⟩ := hI.el k hk
        refine ⟨gs k, 0, 128, ?_, by omega, by omega, fun h => hI.ne k 2 hk (by omega) h, ?_⟩
        · rw [List.getElem?_toArray]; exact rowN_old hk
        · exact (own_of_row (B := 0) (Nat.zero_le _) (by decide) (zers_len 128) e3).bi (by decide) (zers_byt 128)
      · rw [List.getElem?_toArray]; exact rowN_old (by omega)
      · obtain ⟨e1, e2, e3⟩ := hI.el 2 (by omega)
        exact ⟨e3, by omega, by omega⟩
end Go.Proofs.Ytgonehldgojcmaa

/- mkfs: a group is begun. -/
namespace Go.Proofs.Ytgonehldgojcmaa
open Go.RowKit
set_option linter.unusedVariables false
set_option maxRecDepth 100000

theorem in_place {g b i m : Nat} (h : Gm.In (g : Int) (b : Int) (i : Int) (m : Int)) : m * b + 1 < g * b ∧ m * b ≠ 2 ∧ m * b + 1 ≠ 2 ∧ m * b ≤ 2048 := by
  have hm := h.1.all
  have h2 := h.2
  have h3 : m + 1 ≤ g := by omega
  have h4 : (m + 1) * b ≤ g * b := Nat.mul_le_mul_right b h3
  have h5 : g * b ≤ 8 * 256 := Nat.mul_le_mul (by omega) (by omega)
  rw [Nat.add_mul] at h4
  rcases Nat.eq_zero_or_pos m with h0 | h0
  · subst h0; simp; omega
  · have : 1 * b ≤ m * b := Nat.mul_le_mul_right b h0
    omega
/-- A list's blocks behind a group's beginning. -/
def bgL (L : Nat → List Int) (g b i m : Nat) (x : Nat) : List Int := if x = m * b + 1 then groupL (m : Int) (hdY i m) else if x = m * b then superS g b i 0 else L x

set_option maxHeartbeats 4000000 in
theorem beginGroup_ok {B : Nat} {w : World} {A n g2 : Nat} {L : Nat → List Int} (h : PIm B w A n g2 L) (hB : B ≤ w.heap.size) (g b i m c : Nat) (hin : Gm.In (g : Int) (b : Int) (i : Int) (m : Int)) (hn : n = g * b) :
    Calls Try.prog 10 #[.slice (some ⟨A, 0, none⟩) n c, geomV g b i, .int .i64 (m : Int)] w fun e w' => e = .returned (.tuple #[]) ∧ PIm B w' A n g2 (bgL L g b i m) ∧ Below B w w' := by
  have hm := hin.1.all
  have h2 := hin.2
  obtain ⟨p1, p2, p3, p4⟩ := in_place hin
  obtain ⟨W1, hW1⟩ : ∃ W1, w.alloc (geomO g b i) = W1 := ⟨_, rfl⟩
  have hb1 : Below w.heap.size w W1 := by rw [← hW1]; exact grew_alloc _ _
  have hg1 : W1.heap[w.heap.size]? = some (geomO g b i) := by rw [← hW1]; exact at_new rfl
  have hsu := super_in hin W1
  obtain ⟨k, hk⟩ : ∃ k, k = m * b := ⟨_, rfl⟩
  have hkI : (m : Int) * (b : Int) = (k : Int) := by rw [hk]; simp
  rw [hkI] at hsu
  have HK : Hid (k = m * b ∧ k + 1 < n ∧ k ≠ 2 ∧ k + 1 ≠ 2 ∧ k ≤ 2048) := by show _ ∧ _; rw [hk, hn]; exact ⟨rfl, p1, p2, p3, p4⟩
  clear p1 p2 p3 p4 hk
  have HP : Hid (PIm B w A n g2 L) := h
  have hsm : SMay (g : Int) (b : Int) (i : Int) 0 := ⟨hin.1, by omega, by omega⟩
  have hgma : GMay (m : Int) := by unfold GMay; omega
  clear h hn
  go_enter Try.func10, Try.ntmps10
  go_wp2_with (first
    | (refine wpList_load_row rfl 23 (.tmp 4) rfl w.heap.size rfl 23 _ (0, 0) _ hg1 Try.underlying23 rfl info23 ?_))
  refine grew_at hsu ?_
  intro w2 hb2
  have hg2' := (hb2.block _ (Array.getElem?_eq_some_iff.1 hg1).1).trans hg1
  have hB2 := grew_trans hb1 hb2
  have hhe := header_in hin w2
  rw [hkI] at hhe
  clear hsu hg1 hb1 hb2
  dsimp only
  go_wp2_with (first
    | (refine wpList_load_row rfl 23 (.tmp 4) rfl w.heap.size rfl 23 _ (0, 0) _ hg2' Try.underlying23 rfl info23 ?_))
  refine grew_at hhe ?_
  intro w3 hb3
  have hg3 := (hb3.block _ (Array.getElem?_eq_some_iff.1 hg2').1).trans hg2'
  have hB3 := grew_trans hB2 hb3
  have hes := encodeSuper_yes g b i 0 hsm w3
  unfold superV at hes
  clear hhe hg2' hB2 hb3
  dsimp only
  go_wp2_with (first
    | (refine wpList_load_row rfl 23 (.tmp 4) rfl w.heap.size rfl 23 _ (0, 0) _ hg3 Try.underlying23 rfl info23 ?_))
  refine Calls.mono hes ?_
  rintro e w4 ⟨x1, c1, rfl, hO, hb4⟩
  have hg4 := (hb4.block _ (Array.getElem?_eq_some_iff.1 hg3).1).trans hg3
  have hB4 := grew_trans hB3 hb4
  have hP4 := HP.out.kept hB4
  obtain ⟨y, yo, yc, kc, _, kf⟩ := hP4.spot k (by have := HK.out; omega)
  have hx1 := hO.spot
  have hAl := HP.out.lt
  have hk0 : (0 : Int) ≤ (k : Int) := by omega
  have hkn : (k : Int) < (n : Int) := by have := HK.out; omega
  have hP5 := hP4.set (c := c1) (k := k) (by have := HK.out; omega) (by have := HK.out; omega) (g := x1) (o := 0) (xs := superS g b i 0) (by have := hB3.size; omega) (by have := hB3.size; omega) (by have := hB3.size; omega) (hO.bi (by decide) (superS_byt g b i 0))
  obtain ⟨W5, hW5⟩ : ∃ W5, w4.setCell ⟨A, k, none⟩ (.slice (some ⟨x1, 0, none⟩) 128 c1) = W5 := ⟨_, rfl⟩
  rw [hW5] at hP5
  have hs5 : W5.heap.size = w4.heap.size := by rw [← hW5]; simp
  have hwA : w.heap.size ≠ A := by have := hAl.1; omega
  have hg5 : W5.heap[w.heap.size]? = some (geomO g b i) := by rw [← hW5]; exact (Below.heap_setCell _ _ _ _ hwA).trans hg4
  have HB5 : Hid (Below B w W5 ∧ PIm B W5 A n g2 (fun x => if x = k then superS g b i 0 else L x) ∧ w4.heap.size = W5.heap.size ∧ w.heap.size ≤ w4.heap.size) := ⟨by rw [← hW5]; exact (hB4.mono hB).setCell HP.out.hA _, hP5, hs5.symm, hB4.size⟩
  have hnh := newHeader_ok g b i m hin W5
  clear hes hg3 hB3 hg4 hP4 hx1 hO hb4 hP5 hB4 hs5
  dsimp only
  go_wp2_with (first
    | (refine wpList_load_row rfl 23 (.tmp 4) rfl w.heap.size rfl 23 _ (0, 0) _ hg5 Try.underlying23 rfl info23 ?_))
  refine grew_at hnh ?_
  intro w6 hb6
  have heg := encodeGroup_yes (m : Int) (hdY i m) (hdY_len i m) (hdY_byt i m) hgma w6
  clear hnh kc kf hkn hk0 hg5 hW5
  dsimp only
  go_wp2_with fail
  refine Calls.mono heg ?_
  rintro e w7 ⟨x2, rfl, hO7, hb7⟩
  have hB7 := grew_trans hb6 hb7
  have hP7 := HB5.out.2.1.kept hB7
  obtain ⟨y', yo', yc', kc, _, kf⟩ := hP7.spot (k + 1) (by have := HK.out; omega)
  have hx2 := hO7.spot
  have hk0 : (0 : Int) ≤ (k : Int) + 1 := by omega
  have hkn : (k : Int) + 1 < (n : Int) := by have := HK.out; omega
  have hsz6 := hb6.size
  have hP8 := hP7.set (c := 128) (k := k + 1) (by have := HK.out; omega) (by have := HK.out; omega) (g := x2) (o := 0) (xs := groupL (m : Int) (hdY i m)) (by have := HB5.out; omega) (by have := HB5.out; omega) (by have := HB5.out; omega) (hO7.bi (by decide) (groupL_byt _ _ (hdY_byt i m)))
  have HF : Hid (PIm B (w7.setCell ⟨A, k + 1, none⟩ (.slice (some ⟨x2, 0, none⟩) 128 128)) A n g2 (bgL L g b i m) ∧ Below B w (w7.setCell ⟨A, k + 1, none⟩ (.slice (some ⟨x2, 0, none⟩) 128 128))) := by
    refine ⟨hP8.congr (fun x hx => ?_), ((HB5.out.1.trans (hB7.mono (by have := HB5.out; omega))).setCell HP.out.hA _)⟩
    unfold bgL
    rw [← HK.out.1]
  clear heg hb6 hb7 hO7 hB7 hP7 hP8 hx2
  dsimp only
  go_wp2_with fail
  go_end0
  exact ⟨rfl, HF.out⟩
end Go.Proofs.Ytgonehldgojcmaa

/- mkfs: the root's inode and block. -/
namespace Go.Proofs.Ytgonehldgojcmaa
open Go.RowKit
set_option linter.unusedVariables false
set_option maxRecDepth 100000

/-- . and .. , both the root. -/
def dd : List En := [⟨2, ⟨#[46]⟩⟩, ⟨2, ⟨#[46, 46]⟩⟩]
theorem dd_may : mayE dd := by
  refine ⟨by decide, ?_, ?_⟩
  · simp [clB, clR, dd, hit]
  · intro e he
    have : e = ⟨2, ⟨#[46]⟩⟩ ∨ e = ⟨2, ⟨#[46, 46]⟩⟩ := by simpa [dd] using he
    rcases this with rfl | rfl
    · exact .inr ⟨by decide, .inl (by simp [dots])⟩
    · exact .inr ⟨by decide, .inl (by simp [dots])⟩
theorem dd_len : (enB dd).length = 128 := by
  unfold enB
  rw [if_pos dd_may, encL_len _ (pad_may dd_may.2.2)]
  rfl
theorem dd_err : enE dd = 0 := if_pos dd_may
theorem dd_ei (w : World) : EI (w.alloc (.cells #[.int .i64 2, .string ⟨#[46]⟩, .int .i64 2, .string ⟨#[46, 46]⟩] 44)) (some ⟨w.heap.size, 0, none⟩) 2 dd := by
  refine ⟨rfl, by decide, fun _ => ⟨_, 0, rfl, fun i e he => ?_⟩⟩
  have hr := heap_new w (.cells #[.int .i64 2, .string ⟨#[46]⟩, .int .i64 2, .string ⟨#[46, 46]⟩] 44)
  have hi : i < 2 := (List.getElem?_eq_some_iff.1 he).1
  rcases (by omega : i = 0 ∨ i = 1) with rfl | rfl
  · cases he
    exact ⟨cell_row hr 0 _ rfl, cell_row hr 1 _ rfl⟩
  · cases he
    exact ⟨cell_row hr 2 _ rfl, cell_row hr 3 _ rfl⟩
theorem dd_small : ∀ e ∈ dd, e.s.size ≤ 140737488355328 := by
  intro e he
  have : e = ⟨2, ⟨#[46]⟩⟩ ∨ e = ⟨2, ⟨#[46, 46]⟩⟩ := by simpa [dd] using he
  rcases this with rfl | rfl <;> decide

/-- The root's inode, and the block that it stands in. -/
def rtD (i : Nat) : List Int := dinS 2 2 128 ((2 + i / 4 : Nat) : Int) 0 0 0 0 0
def rtB (i : Nat) : List Int := (zers 128).take 64 ++ rtD i ++ (zers 128).drop 96
theorem rt_may {i : Nat} (h : i ≤ 64) : DMay 2 2 128 ((2 + i / 4 : Nat) : Int) 0 0 0 0 0 := by
  refine .inr (.inr ⟨rfl, ?_, by decide⟩)
  refine ⟨by decide, by decide, fun z hz => ?_, fun z hz => ?_⟩
  · have : z = ((2 + i / 4 : Nat) : Int) ∨ z = 0 := by simpa using hz
    omega
  · have : z = 0 := by simpa using hz
    omega
theorem rtD_len (i : Nat) : (rtD i).length = 32 := by unfold rtD dinS sealL; rw [Num.putTo_length, dinL_len]
theorem info41 : (Try.prog.info? 41).map (·.size) = some 9 := by kernel_rfl
theorem rtD_byt (i : Nat) : Num.Byt (rtD i) := by unfold rtD dinS sealL; exact Num.putTo_byt (dinL_byt _ _ _ _ _ _ _ _ _) _ _ _
theorem rtB_len (i : Nat) : (rtB i).length = 128 := by unfold rtB; simp [rtD_len, zers_len]
theorem rtB_byt (i : Nat) : Num.Byt (rtB i) := byt_append (byt_append (byt_take (zers_byt 128) 64) (rtD_byt i)) (byt_drop (zers_byt 128) 96)
/-- A list of blocks that stands in block A. -/
def Rd (w : World) (A n : Nat) (L : Nat → List Int) : Prop := ∀ k, k < n → ∃ q m c, w.cell? ⟨A, k, none⟩ = some (.slice q m c) ∧ BI w q m (L k)
def rtL (L : Nat → List Int) (i : Nat) (x : Nat) : List Int := if x = 2 then rtB i else if x = 2 + i / 4 then enB dd else L x
/-- The root's inode copied into its block. -/
theorem rt_copy {w : World} {g2 : Nat} (i : Nat) (h : w.heap[g2]? = some (.cells aZ 5 (0, 0))) {x c : Nat} (hb : BI w (some ⟨x, 0, none⟩) 32 (rtD i)) (ty : TypeId) :
    (Builtin.copy_ #[36, 36] ty #[.slice (some ⟨g2, 64, none⟩) 64 64, .slice (some ⟨x, 0, none⟩) 32 c]).run Try.prog w = .ok (.int .i64 32) (w.setRow g2 ((rtB i).map (Value.int .u8)).toArray) := by
  have hl := hb.len
  have := run_copy_row (P := Try.prog) w 36 36 ty 5 g2 64 64 64 ⟨x, 0, none⟩ 32 c aZ 5 ((rtD i).map (Value.int .u8)) Try.underlying36 size5 h (by rw [List.length_map, hl]; rfl) hb.src' (by rw [List.length_map, hl]; simp [aZ, zers_len]) (one_cells _)
  rw [this]
  have e : (aZ.toList.take 64 ++ (rtD i).map (Value.int .u8) ++ aZ.toList.drop (64 + ((rtD i).map (Value.int .u8)).length)).toArray = ((rtB i).map (Value.int .u8)).toArray := by
    unfold aZ rtB
    rw [List.toList_toArray, List.length_map, hl, ← List.map_take, ← List.map_drop, ← List.map_append, ← List.map_append]
  rw [e]
  simp [goInt, hl]
theorem rt_read {B : Nat} {w : World} {A n g2 : Nat} {L : Nat → List Int} (h : PIm B w A n g2 L) (i : Nat) : Rd (w.setRow g2 ((rtB i).map (Value.int .u8)).toArray) A n (fun x => if x = 2 then rtB i else L x) := by
  obtain ⟨cs, h1, hn, h3, h4⟩ := h.row
  have so : ∀ b, b ≠ g2 → (w.setRow g2 ((rtB i).map (Value.int .u8)).toArray).heap[b]? = w.heap[b]? := fun b hb => setRow_other _ _ _ _ hb
  have hr : (w.setRow g2 ((rtB i).map (Value.int .u8)).toArray).heap[A]? = some (.cells cs 36 (0, 0)) := (so A (fun e => h.two.2.2 e.symm)).trans h1
  intro k hk
  by_cases h2 : k = 2
  · subst h2
    refine ⟨_, 128, 128, cell_row hr 2 _ h4, ?_⟩
    dsimp only
    rw [if_pos rfl]
    exact (own_of_row (B := 0) (Nat.zero_le _) (by decide) (rtB_len i) (setRow_heap _ _ _ _ 5 _ h.two.1)).bi (by decide) (rtB_byt i)
  · obtain ⟨g, o, c, e1, e2, e3, e4, e5⟩ := h3 k hk
    refine ⟨_, 128, c, cell_row hr k _ e1, ?_⟩
    dsimp only
    rw [if_neg h2]
    exact bi_same e5 (fun b o e _ => by cases e; exact so _ (e4 h2))

set_option maxHeartbeats 4000000 in
theorem plantRoot_ok {B : Nat} {w : World} {A n g2 : Nat} {L : Nat → List Int} (h : PIm B w A n g2 L) (hB : B ≤ w.heap.size) (g b i c : Nat) (hmay : Gm.May (g : Int) (b : Int) (i : Int)) (hn : n = g * b) :
    Calls Try.prog 11 #[.slice (some ⟨A, 0, none⟩) n c, geomV g b i] w fun e w' => e = .returned (.tuple #[]) ∧ Rd w' A n (rtL L i) ∧ Below B w w' := by
  have hm := hmay.all
  have hbn : b ≤ n := by rw [hn]; exact Nat.le_mul_of_pos_left b (by omega)
  have hin : Gm.In (g : Int) (b : Int) (i : Int) 0 := ⟨hmay, by omega, by omega⟩
  obtain ⟨d, hd⟩ : ∃ d, d = 2 + i / 4 := ⟨_, rfl⟩
  have HD : Hid (d = 2 + i / 4 ∧ d < n ∧ d ≠ 2) := by show _ ∧ _; omega
  obtain ⟨W1, hW1⟩ : ∃ W1, w.alloc (geomO g b i) = W1 := ⟨_, rfl⟩
  have hb1 : Below w.heap.size w W1 := by rw [← hW1]; exact grew_alloc _ _
  have hg1 : W1.heap[w.heap.size]? = some (geomO g b i) := by rw [← hW1]; exact at_new rfl
  have hda := data_in hin W1
  rw [show (0 : Int) * (b : Int) + (2 + (i : Int) / 4) = (d : Int) by omega] at hda
  have hof : Gm.Of (g : Int) (b : Int) (i : Int) (i : Int) 2 := ⟨hmay, by omega, by
    have : (1 : Int) * (i : Int) ≤ (g : Int) * (i : Int) := Int.mul_le_mul_of_nonneg_right (by omega) (by omega)
    omega⟩
  have HP : Hid (PIm B w A n g2 L) := h
  have hAl := h.lt
  have hrm := rt_may (i := i) (by omega)
  rw [← hd] at hrm
  clear h hn hbn hd
  go_enter Try.func11, Try.ntmps11
  go_wp2_with (first
    | (refine wpList_load_row rfl 23 (.tmp 3) rfl w.heap.size rfl 23 _ (0, 0) _ hg1 Try.underlying23 rfl info23 ?_))
  refine grew_at hda ?_
  intro w2 hb2
  have hg2' := (hb2.block _ (Array.getElem?_eq_some_iff.1 hg1).1).trans hg1
  have hB2 := grew_trans hb1 hb2
  have hen := Encode_c (some ⟨w2.heap.size, 0, none⟩) 2 2 dd _ (dd_ei w2) dd_small
  unfold P2c at hen
  rw [dd_err] at hen
  clear hda hg1 hb1 hb2
  dsimp only
  go_wp2_with fail
  refine Calls.mono hen ?_
  rintro e w3 ⟨q, m, c3, rfl, hBI, hb3, hmc, hc3, hfr⟩
  obtain rfl : m = 128 := by have := hBI.len; rw [dd_len] at this; omega
  obtain ⟨x, xo, rfl, _⟩ := hBI.cells (by omega)
  have hx : w2.heap.size < x := by have := hfr x xo rfl; rw [size_alloc] at this; omega
  have hbA := grew_trans (grew_alloc w2 (.cells #[.int .i64 2, .string ⟨#[46]⟩, .int .i64 2, .string ⟨#[46, 46]⟩] 44)) hb3
  have hg3 := (hbA.block _ (Array.getElem?_eq_some_iff.1 hg2').1).trans hg2'
  have hB3 := grew_trans hB2 hbA
  have hP3 := HP.out.kept hB3
  obtain ⟨y, yo, yc, kc, _, kf⟩ := hP3.spot d HD.out.2.1
  have hk0 : (0 : Int) ≤ (d : Int) := by omega
  have hkn : (d : Int) < (n : Int) := by have := HD.out; omega
  have hP4 := hP3.set (c := c3) HD.out.2.1 HD.out.2.2 (g := x) (o := xo) (xs := enB dd) (by have := hB2.size; omega) (by have := hB2.size; omega) (by have := hB2.size; omega) hBI
  obtain ⟨W4, hW4⟩ : ∃ W4, w3.setCell ⟨A, d, none⟩ (.slice (some ⟨x, xo, none⟩) 128 c3) = W4 := ⟨_, rfl⟩
  rw [hW4] at hP4
  have hwA : w.heap.size ≠ A := by have := hAl.1; omega
  have hg4 : W4.heap[w.heap.size]? = some (geomO g b i) := by rw [← hW4]; exact (Below.heap_setCell _ _ _ _ hwA).trans hg3
  have hs4 : W4.heap.size = w3.heap.size := by rw [← hW4]; simp
  have HB4 : Hid (Below B w W4 ∧ PIm B W4 A n g2 (fun x => if x = d then enB dd else L x) ∧ w.heap.size ≤ W4.heap.size) := ⟨by rw [← hW4]; exact (hB3.mono hB).setCell HP.out.hA _, hP4, by rw [hs4]; exact hB3.size⟩
  obtain ⟨W5, hW5⟩ : ∃ W5, W4.alloc (dinO 2 2 128 (d : Int) 0 0 0 0 0) = W5 := ⟨_, rfl⟩
  have hb5 : Below W4.heap.size W4 W5 := by rw [← hW5]; exact grew_alloc _ _
  have hr5 : W5.heap[W4.heap.size]? = some (dinO 2 2 128 (d : Int) 0 0 0 0 0) := by rw [← hW5]; exact at_new rfl
  have hde := encodeDinode_used 2 2 128 (d : Int) 0 0 0 0 0 hrm (by decide) W5
  have hg5 := (hb5.block _ (Array.getElem?_eq_some_iff.1 hg4).1).trans hg4
  clear hen hb3 hbA hg2' hB2 hg3 hP3 hB3 hP4 hBI hg4 hs4 hfr
  dsimp only
  go_wp2_with (first
    | (refine wpList_load_row rfl 41 (.tmp 7) rfl W4.heap.size rfl 41 _ (0, 0) _ hr5 Try.underlying41 rfl info41 ?_))
  refine Calls.mono hde ?_
  rintro e w6 ⟨x6, c6, rfl, hO6, hb6⟩
  have hg6 := (hb6.block _ (Array.getElem?_eq_some_iff.1 hg5).1).trans hg5
  have hB6 := grew_trans hb5 hb6
  have hio := inode_in hof w6
  have e1 : (2 : Int) / (i : Int) = 0 := Int.ediv_eq_zero_of_lt (by omega) (by omega)
  have e2 : (2 : Int) % (i : Int) = 2 := Int.emod_eq_of_lt (by omega) (by omega)
  rw [e1, e2, show (0 : Int) * (b : Int) + 2 + 2 / 4 = 2 by omega, show (2 : Int) % 4 * 32 = 64 by decide] at hio
  have HO6 : Hid (Own W5.heap.size w6 x6 32 c6 (rtD i)) := by
    show Own _ _ _ _ _ _
    unfold rtD
    rw [← HD.out.1]
    exact hO6
  clear hde hg5 hb5 hr5 hb6 hO6 e1 e2 kc kf hk0 hkn
  dsimp only
  go_wp2_with (first
    | (refine wpList_load_row rfl 23 (.tmp 3) rfl w.heap.size rfl 23 _ (0, 0) _ hg6 Try.underlying23 rfl info23 ?_))
  refine grew_at hio ?_
  intro w7 hb7
  have hB7 := grew_trans hB6 hb7
  have hP7 := HB4.out.2.1.kept hB7
  have k2 := hP7.third
  have h2n : (2 : Int) < (n : Int) := by have := HD.out; omega
  have hcd := fun ty => rt_copy (c := c6) i hP7.two.1 ((HO6.out.kept hb7).bi (by decide) (rtD_byt i)) ty
  obtain ⟨W8, hW8⟩ : ∃ W8, w7.setRow g2 ((rtB i).map (Value.int .u8)).toArray = W8 := ⟨_, rfl⟩
  rw [hW8] at hcd
  have HF : Hid (Rd W8 A n (rtL L i) ∧ Below B w W8) := by
    refine ⟨?_, ?_⟩
    · rw [← hW8]
      intro k hk
      obtain ⟨q, m, c', h1, h2⟩ := rt_read hP7 i k hk
      refine ⟨q, m, c', h1, ?_⟩
      unfold rtL
      rw [← HD.out.1]
      exact h2
    · rw [← hW8]
      exact below_setRow (HB4.out.1.trans (hB7.mono (Nat.le_trans hB HB4.out.2.2))) hP7.two.2.1 _
  clear hio hb7 hB7 hP7 hg6 hB6 hW8 hW5 hW4 hW1
  dsimp only
  go_wp2_with fail
  go_end0
  exact ⟨rfl, HF.out⟩
end Go.Proofs.Ytgonehldgojcmaa

/- mkfs: Make. -/
namespace Go.Proofs.Ytgonehldgojcmaa
open Go.RowKit
set_option linter.unusedVariables false
set_option maxRecDepth 100000

/-- A block of a new volume, but for the root's. -/
def blF (g b i x : Nat) : List Int := if x % b = 1 then groupL ((x / b : Nat) : Int) (hdY i (x / b)) else if x % b = 0 then superS g b i 0 else zers 128
/-- A new volume's blocks. -/
def img (g b i : Nat) : Nat → List Int := rtL (blF g b i) i
/-- The blocks when so many groups are begun. -/
def grL (g b i : Nat) : Nat → Nat → List Int
  | 0 => fun _ => zers 128
  | j + 1 => bgL (grL g b i j) g b i j
theorem grL_eq {g b i : Nat} (hb : 8 ≤ b) : ∀ (j x : Nat), grL g b i j x = if x / b < j then blF g b i x else zers 128
  | 0, x => by rw [if_neg (Nat.not_lt_zero _)]; rfl
  | j + 1, x => by
    have ih := grL_eq (g := g) (i := i) hb j x
    show bgL (grL g b i j) g b i j x = _
    unfold bgL
    have hx := Nat.div_add_mod x b
    have hr := Nat.mod_lt x (show 0 < b by omega)
    have hm : b * (x / b) = x / b * b := Nat.mul_comm _ _
    by_cases h1 : x = j * b + 1
    · have e1 : x / b = j := by rw [h1, Nat.add_comm, Nat.add_mul_div_right _ _ (by omega), Nat.div_eq_of_lt (by omega)]; omega
      have e2 : x % b = 1 := by rw [h1, Nat.add_comm, Nat.add_mul_mod_self_right, Nat.mod_eq_of_lt (by omega)]
      rw [if_pos h1, if_pos (by omega)]
      unfold blF
      rw [if_pos e2, e1]
    · rw [if_neg h1]
      by_cases h2 : x = j * b
      · have e1 : x / b = j := by rw [h2]; exact Nat.mul_div_cancel _ (by omega)
        have e2 : x % b = 0 := by rw [h2]; exact Nat.mul_mod_left _ _
        rw [if_pos h2, if_pos (by omega)]
        unfold blF
        rw [if_neg (by omega), if_pos e2]
      · rw [if_neg h2, ih]
        by_cases h3 : x / b < j
        · rw [if_pos h3, if_pos (by omega)]
        · rw [if_neg h3]
          by_cases h4 : x / b = j
          · rw [if_pos (by omega)]
            unfold blF
            rw [h4] at hm hx
            rw [if_neg (by omega), if_neg (by omega)]
          · rw [if_neg (by omega)]

set_option maxHeartbeats 4000000 in
theorem make_ok (g b i : Nat) (hmay : Gm.May (g : Int) (b : Int) (i : Int)) (w : World) :
    Calls Try.prog 4 #[geomV g b i] w fun e w' => ∃ A, e = .returned (.tuple #[.slice (some ⟨A, 0, none⟩) (g * b) (g * b), .int .i64 0]) ∧ Rd w' A (g * b) (img g b i) ∧ Below w.heap.size w w' := by
  have hm := hmay.all
  have hbn : 1 * b ≤ g * b := Nat.mul_le_mul_right b (by omega)
  have hb2 : g * b ≤ 8 * 256 := Nat.mul_le_mul (by omega) (by omega)
  obtain ⟨n, hn⟩ : ∃ n, n = g * b := ⟨_, rfl⟩
  rw [← hn] at hbn hb2
  obtain ⟨W1, hW1⟩ : ∃ W1, w.alloc (geomO g b i) = W1 := ⟨_, rfl⟩
  have hb1 : Below w.heap.size w W1 := by rw [← hW1]; exact grew_alloc _ _
  have hg1 : W1.heap[w.heap.size]? = some (geomO g b i) := by rw [← hW1]; exact at_new rfl
  have hca := can_may hmay W1
  rw [← hn]
  have HN : Hid (n = g * b) := hn
  have hnI : (g : Int) * (b : Int) = (n : Int) := by rw [hn]; simp
  clear hn
  go_enter Try.func4, Try.ntmps4
  go_wp2_with (first
    | (refine wpList_load_row rfl 23 (.tmp 1) rfl w.heap.size rfl 23 _ (0, 0) _ hg1 Try.underlying23 rfl info23 ?_))
  refine grew_at hca ?_
  intro w2 hbb2
  have hg2 := (hbb2.block _ (Array.getElem?_eq_some_iff.1 hg1).1).trans hg1
  have hB2 := grew_trans hb1 hbb2
  have hbl := blocks_ok (g : Int) (b : Int) (i : Int) w2
  rw [Gm.num_pos hmay, hnI] at hbl
  clear hca hg1 hb1 hbb2 hW1
  dsimp only
  go_wp2_with (first
    | (refine wpList_load_row rfl 23 (.tmp 1) rfl w.heap.size rfl 23 _ (0, 0) _ hg2 Try.underlying23 rfl info23 ?_))
  refine grew_at hbl ?_
  intro w3 hbb3
  have hg3 := (hbb3.block _ (Array.getElem?_eq_some_iff.1 hg2).1).trans hg2
  have hB3 := grew_trans hB2 hbb3
  have hno := noughts_ok n (by omega) (by omega) w3
  clear hbl hg2 hB2 hbb3
  dsimp only
  go_wp2_with fail
  refine Calls.mono hno ?_
  rintro e w4 ⟨g2, rfl, hP4, hb4⟩
  have hl3 : w.heap.size < w3.heap.size := (Array.getElem?_eq_some_iff.1 hg3).1
  have hg4 := (hb4.block _ hl3).trans hg3
  have G0 : w4.cell? ⟨w.heap.size, 0, none⟩ = some (.int .i64 (g : Int)) := cell_row hg4 0 _ rfl
  have HI : Hid (PIm w3.heap.size w4 w3.heap.size n g2 (grL g b i 0) ∧ Below w3.heap.size w3 w4) := ⟨hP4, hb4⟩
  have HB3 : Hid (Below w.heap.size w w3) := hB3
  clear hno hb4 hP4 hB3 hg4
  dsimp only
  go_wp2_with fail
  go_loopw [17] (fun iv wr => ∃ j : Nat, j ≤ g ∧ iv = .int .i64 (j : Int) ∧ PIm w3.heap.size wr w3.heap.size n g2 (grL g b i j) ∧ Below w3.heap.size w3 wr) (fun iv _ => g - (intOf iv).toNat)
  case atStart => exact ⟨0, by omega, rfl, HI.out⟩
  case round =>
    clear HI G0
    obtain ⟨j, hj, rfl, hP, hb⟩ := hrel
    have hg5 := (hb.block _ hl3).trans hg3
    by_cases hlt : j < g
    · have hjI : (j : Int) < (g : Int) := by omega
      have hbg := beginGroup_ok hP hb.size g b i j n ⟨hmay, by omega, hjI⟩ HN.out
      have HH : Hid (Below w3.heap.size w3 wr) := hb
      clear hP hb
      go_wp2_with (first
        | (refine wpList_load_row rfl 23 (.tmp 1) rfl w.heap.size rfl 23 _ (0, 0) _ hg5 Try.underlying23 rfl info23 ?_))
      refine Calls.mono hbg ?_
      rintro e w6 ⟨rfl, hP6, hb6⟩
      have H6 : Hid (PIm w3.heap.size w6 w3.heap.size n g2 (grL g b i (j + 1)) ∧ Below w3.heap.size w3 w6) := ⟨hP6, HH.out.trans hb6⟩
      clear hbg hP6 hb6
      dsimp only
      go_wp2_with fail
      go_roundw
      case rel => exact ⟨j + 1, by omega, by go_num, H6.out⟩
      case measure => simp [intOf]; omega
    · obtain rfl : j = g := by omega
      have hjI : ¬ (j : Int) < (j : Int) := by omega
      have hpr := plantRoot_ok hP hb.size j b i n hmay HN.out
      have HH : Hid (Below w3.heap.size w3 wr) := hb
      clear hP hb
      go_wp2_with (first
        | (refine wpList_load_row rfl 23 (.tmp 1) rfl w.heap.size rfl 23 _ (0, 0) _ hg5 Try.underlying23 rfl info23 ?_))
      refine Calls.mono hpr ?_
      rintro e w6 ⟨rfl, hR, hb6⟩
      have H6 : Hid (Rd w6 w3.heap.size n (img j b i) ∧ Below w.heap.size w w6) := by
        refine ⟨fun k hk => ?_, HB3.out.trans ((HH.out.trans hb6).mono HB3.out.size)⟩
        obtain ⟨q, m, c, h1, h2⟩ := hR k hk
        refine ⟨q, m, c, h1, ?_⟩
        have e : img j b i k = rtL (grL j b i j) i k := by
          have hk' : k < j * b := by rw [← HN.out]; exact hk
          have hkj : k / b < j := Nat.div_lt_of_lt_mul (by rw [Nat.mul_comm]; exact hk')
          unfold img rtL
          rw [grL_eq (by omega) j k, if_pos hkj]
        rw [e]
        exact h2
      clear hpr hR hb6
      dsimp only
      go_wp2_with fail
      go_ret2
      exact ⟨_, rfl, H6.out⟩
end Go.Proofs.Ytgonehldgojcmaa
