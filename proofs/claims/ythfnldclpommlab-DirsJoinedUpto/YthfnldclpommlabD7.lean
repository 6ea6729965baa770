/- dirs: Find, Free, With, Without. -/
import Derived.Test.YthfnldclpommlabD6
namespace Go.Proofs.Ythfnldclpommlab
open Go.RowKit
set_option linter.unusedVariables false

/-- A block's entries; none, if it may not be. -/
def El (n : Nat) (xs : List Int) : List En := if mayB n xs then ents xs 8 else []
theorem El_yes {n : Nat} {xs : List Int} (h : mayB n xs) : El n xs = dec8 n xs := by unfold El dec8; rw [if_pos h, if_pos h]
theorem El_no {n : Nat} {xs : List Int} (h : ¬ mayB n xs) : El n xs = [] := by unfold El; rw [if_neg h]

theorem page_box (w1 : World) (E : List En) (hl : E.length = 8) (hn : ∀ e ∈ E, e.n = 0 → e.s = ⟨#[]⟩) :
    Pge ((w1.alloc (.cells z16 53)).setRow w1.heap.size (flat2 E).toArray) w1.heap.size E ∧ Below w1.heap.size w1 ((w1.alloc (.cells z16 53)).setRow w1.heap.size (flat2 E).toArray) :=
  ⟨⟨setRow_heap _ _ _ _ _ _ (heap_new w1 _), hl, hn⟩, below_setRow (grew_alloc _ _) (Nat.le_refl _) _⟩

/-- What read gives, boxed. -/
structure Boxed (w1 : World) (E : List En) (W : World) : Prop where
  eq : (w1.alloc (.cells z16 53)).setRow w1.heap.size (flat2 E).toArray = W
  pg : Pge W w1.heap.size E
  bel : Below w1.heap.size w1 W
theorem boxed (w1 : World) (n : Nat) (xs : List Int) : ∃ W, Boxed w1 (dec8 n xs) W := by
  have h := page_box w1 (dec8 n xs) (dec8_len n xs) (dec8_non n xs)
  exact ⟨_, rfl, h.1, h.2⟩
theorem info53' (n : Nat) (xs : List Int) : (Try.prog.info? 53).map (·.size) = some (flat2 (dec8 n xs)).toArray.size := by rw [flat2_size _ (dec8_len n xs)]; exact info53
theorem size53' (n : Nat) (xs : List Int) : z16.size = (flat2 (dec8 n xs)).toArray.size := by rw [flat2_size _ (dec8_len n xs)]; rfl

def idN (L : List En) (i : Option Nat) : Int := (i.map (fun k => (L.getD k ent00).n)).getD 0

set_option maxRecDepth 20000 in
set_option maxHeartbeats 1000000 in
theorem Find_ok (p : Option Addr) (n c : Nat) (xs : List Int) (s : ByteArray) (w : World) (h : BI w p n xs) (hnc : n ≤ c) (hc2 : c ≤ 9223372036854775807) :
    Calls Try.prog 8 #[.slice p n c, .string s] w fun e w' => e = .returned (.tuple #[.int .i64 ((((El n xs).findIdx? (hit s)).getD 0 : Nat) : Int), .int .i64 (idN (El n xs) ((El n xs).findIdx? (hit s))), .bool ((El n xs).findIdx? (hit s)).isSome]) ∧ Below w.heap.size w w' := by
  have hre := read_ok p n c xs w h hnc hc2
  by_cases hm : mayB n xs
  · rw [El_yes hm]
    rw [decide_eq_true hm] at hre
    go_enter Try.func8, Try.ntmps8
    go_wp2_with fail
    refine grew_at hre ?_
    intro w1 hb1
    clear hre
    obtain ⟨W, hW⟩ := boxed w1 n xs
    have hWe := hW.eq
    have hi53 := info53' n xs
    have hs53 := size53' n xs
    have hone := flat2_all (dec8 n xs)
    have hfi := find_ok hW.pg s
    have HW : Hid _ := hW
    have HM : Hid _ := hm
    clear hW hm
    dsimp only
    cases hx : (dec8 n xs).findIdx? (hit s) with
    | none =>
      rw [hx] at hfi
      have HX : Hid _ := hx
      clear hx
      go_wp2_with (refine wpList_store_row rfl 53 _ _ rfl w1.heap.size (flat2 (dec8 n xs)).toArray rfl rfl 53 _ (heap_new w1 _) hi53 hs53 hone ?_; rw [hWe])
      refine grew_at hfi ?_
      intro w2 hb2
      clear hfi
      dsimp only
      go_wp2_with fail
      go_ret3
      exact ⟨by rw [HX.out]; rfl, grew_trans hb1 (grew_trans HW.out.bel hb2)⟩
    | some k =>
      rw [hx] at hfi
      have hk := (List.findIdx?_eq_some_iff_getElem.1 hx).1
      rw [dec8_len] at hk
      obtain ⟨e, he⟩ : ∃ e, (dec8 n xs)[k]? = some e := ⟨_, List.getElem?_eq_getElem (by rw [dec8_len]; exact hk)⟩
      have hid : idN (dec8 n xs) (some k) = e.n := by simp [idN, List.getD_eq_getElem?_getD, he]
      have hkI : (k : Int) < 8 := by omega
      have hk0 : (0 : Int) ≤ (k : Int) := by omega
      have HX : Hid _ := And.intro hx (And.intro he hid)
      clear hx hid he
      go_wp2_with (refine wpList_store_row rfl 53 _ _ rfl w1.heap.size (flat2 (dec8 n xs)).toArray rfl rfl 53 _ (heap_new w1 _) hi53 hs53 hone ?_; rw [hWe])
      refine grew_at hfi ?_
      intro w2 hb2
      clear hfi
      have c0 := (HW.out.pg.kept hb2).c0 HX.out.2.1
      have c0d : w2.drew.cell? ⟨w1.heap.size, k * 2, none⟩ = some (.int .i64 e.n) := c0
      dsimp only [Option.getD_some, Option.isSome_some]
      go_wp2_with fail
      go_region_held3 (fun w' => w'.cell? ⟨w1.heap.size, k * 2, none⟩ = some (.int .i64 e.n)) (first | exact c0 | exact c0d) (fail)
      go_wp2_with fail
      go_ret3
      exact ⟨by rw [HX.out.1, HX.out.2.2]; rfl, (grew_trans hb1 (grew_trans HW.out.bel hb2)).drew⟩
  · rw [El_no hm]
    rw [decide_eq_false hm] at hre
    go_enter Try.func8, Try.ntmps8
    go_wp2_with fail
    refine grew_at hre ?_
    intro w1 hb1
    clear hre
    obtain ⟨W, hW⟩ := boxed w1 n xs
    have hWe := hW.eq
    have hi53 := info53' n xs
    have hs53 := size53' n xs
    have hone := flat2_all (dec8 n xs)
    have HW : Hid _ := hW
    clear hW hm
    dsimp only
    go_wp2_with (refine wpList_store_row rfl 53 _ _ rfl w1.heap.size (flat2 (dec8 n xs)).toArray rfl rfl 53 _ (heap_new w1 _) hi53 hs53 hone ?_; rw [hWe])
    go_ret3
    exact ⟨rfl, grew_trans hb1 HW.out.bel⟩

set_option maxRecDepth 20000 in
set_option maxHeartbeats 1000000 in
theorem Free_ok (p : Option Addr) (n c : Nat) (xs : List Int) (w : World) (h : BI w p n xs) (hnc : n ≤ c) (hc2 : c ≤ 9223372036854775807) :
    Calls Try.prog 10 #[.slice p n c] w fun e w' => e = .returned (.tuple #[.int .i64 ((((El n xs).findIdx? emp).getD 0 : Nat) : Int), .bool ((El n xs).findIdx? emp).isSome]) ∧ Below w.heap.size w w' := by
  have hre := read_ok p n c xs w h hnc hc2
  by_cases hm : mayB n xs
  · rw [El_yes hm]
    rw [decide_eq_true hm] at hre
    go_enter Try.func10, Try.ntmps10
    go_wp2_with fail
    refine grew_at hre ?_
    intro w1 hb1
    clear hre
    obtain ⟨W, hW⟩ := boxed w1 n xs
    have hWe := hW.eq
    have hi53 := info53' n xs
    have hs53 := size53' n xs
    have hone := flat2_all (dec8 n xs)
    have hfi := free_ok hW.pg
    obtain ⟨r, hr⟩ : ∃ r, (dec8 n xs).findIdx? emp = r := ⟨_, rfl⟩
    rw [hr] at hfi
    have HX : Hid _ := hr
    have HW : Hid _ := hW
    clear hW hm hr
    dsimp only
    go_wp2_with (refine wpList_store_row rfl 53 _ _ rfl w1.heap.size (flat2 (dec8 n xs)).toArray rfl rfl 53 _ (heap_new w1 _) hi53 hs53 hone ?_; rw [hWe])
    refine grew_at hfi ?_
    intro w2 hb2
    clear hfi
    dsimp only
    go_wp2_with fail
    go_ret2
    exact ⟨by rw [HX.out]; rfl, grew_trans hb1 (grew_trans HW.out.bel hb2)⟩
  · rw [El_no hm]
    rw [decide_eq_false hm] at hre
    go_enter Try.func10, Try.ntmps10
    go_wp2_with fail
    refine grew_at hre ?_
    intro w1 hb1
    clear hre
    obtain ⟨W, hW⟩ := boxed w1 n xs
    have hWe := hW.eq
    have hi53 := info53' n xs
    have hs53 := size53' n xs
    have hone := flat2_all (dec8 n xs)
    have HW : Hid _ := hW
    clear hW hm
    dsimp only
    go_wp2_with (refine wpList_store_row rfl 53 _ _ rfl w1.heap.size (flat2 (dec8 n xs)).toArray rfl rfl 53 _ (heap_new w1 _) hi53 hs53 hone ?_; rw [hWe])
    go_ret2
    exact ⟨rfl, grew_trans hb1 HW.out.bel⟩

/-- Bytes, a place, an error. -/
def P3 (w : World) (L : List Int) (i er : Int) (e : Ending) (w' : World) : Prop := ∃ q m d, e = .returned (.tuple #[.slice q m d, .int .i64 i, .int .i64 er]) ∧ BI w' q m L ∧ Below w.heap.size w w'
/-- The same, and room. -/
def P3c (w : World) (L : List Int) (i er : Int) (e : Ending) (w' : World) : Prop := ∃ q m d, e = .returned (.tuple #[.slice q m d, .int .i64 i, .int .i64 er]) ∧ BI w' q m L ∧ Below w.heap.size w w' ∧ m ≤ d ∧ d ≤ 9223372036854775807
theorem P3c.p3 {w w' : World} {L : List Int} {i er : Int} {e : Ending} (h : P3c w L i er e w') : P3 w L i er e w' := by
  obtain ⟨q, m, d, h1, h2, h3, _⟩ := h
  exact ⟨q, m, d, h1, h2, h3⟩
/-- What Without gives: bytes, a place, an error. -/
def woE (n : Nat) (xs : List Int) (s : ByteArray) : Int := if mayB n xs then (if ((El n xs).findIdx? (hit s)).isSome then 0 else 211) else 6
def woI (n : Nat) (xs : List Int) (s : ByteArray) : Nat := ((El n xs).findIdx? (hit s)).getD 0
def woB (n : Nat) (xs : List Int) (s : ByteArray) : List Int := match (El n xs).findIdx? (hit s) with | some k => encL ((El n xs).set k ent00) | none => []

theorem set_may {E : List En} {k : Nat} {e : En} (h : ∀ e ∈ E, EMay e.n e.s) (he : EMay e.n e.s) : ∀ x ∈ E.set k e, EMay x.n x.s := fun x hx => by
  rcases List.mem_or_eq_of_mem_set hx with hx | hx
  · exact h x hx
  · rw [hx]; exact he
theorem bi_nil (w : World) : BI w none 0 [] := ⟨rfl, by omega, (fun i => by simp), fun h => by omega⟩

set_option maxRecDepth 20000 in
set_option maxHeartbeats 1000000 in
theorem Without_c (p : Option Addr) (n c : Nat) (xs : List Int) (s : ByteArray) (w : World) (h : BI w p n xs) (hnc : n ≤ c) (hc2 : c ≤ 9223372036854775807) :
    Calls Try.prog 18 #[.slice p n c, .string s] w fun e w' => P3c w (woB n xs s) (woI n xs s : Int) (woE n xs s) e w' := by
  have hre := read_ok p n c xs w h hnc hc2
  by_cases hm : mayB n xs
  · have hE0 : ((dec8 n xs).findIdx? (hit s)) = none → woE n xs s = 211 ∧ woI n xs s = 0 ∧ woB n xs s = [] := fun hx => by
      unfold woE woI woB
      rw [if_pos hm, El_yes hm, hx]
      exact ⟨rfl, rfl, rfl⟩
    have hE1 : ∀ k, ((dec8 n xs).findIdx? (hit s)) = some k → woE n xs s = 0 ∧ woI n xs s = k ∧ woB n xs s = encL ((dec8 n xs).set k ent00) := fun k hx => by
      unfold woE woI woB
      rw [if_pos hm, El_yes hm, hx]
      exact ⟨rfl, rfl, rfl⟩
    have HE : Hid _ := And.intro hE0 hE1
    clear hE0 hE1
    rw [decide_eq_true hm] at hre
    go_enter Try.func18, Try.ntmps18
    go_wp2_with fail
    refine grew_at hre ?_
    intro w1 hb1
    clear hre
    obtain ⟨W, hW⟩ := boxed w1 n xs
    have hWe := hW.eq
    have hi53 := info53' n xs
    have hs53 := size53' n xs
    have hone := flat2_all (dec8 n xs)
    have hfi := find_ok hW.pg s
    have HW : Hid _ := hW
    clear hW hm
    dsimp only
    cases hx : (dec8 n xs).findIdx? (hit s) with
    | none =>
      rw [hx] at hfi
      have HX : Hid _ := hx
      clear hx
      go_wp2_with (refine wpList_store_row rfl 53 _ _ rfl w1.heap.size (flat2 (dec8 n xs)).toArray rfl rfl 53 _ (heap_new w1 _) hi53 hs53 hone ?_; rw [hWe])
      refine grew_at hfi ?_
      intro w2 hb2
      clear hfi
      dsimp only
      go_wp2_with fail
      go_ret3
      obtain ⟨e1, e2, e3⟩ := HE.out.1 HX.out
      exact ⟨none, 0, 0, by rw [e1, e2]; rfl, by rw [e3]; exact bi_nil _, grew_trans hb1 (grew_trans HW.out.bel hb2), Nat.le_refl _, by omega⟩
    | some k =>
      rw [hx] at hfi
      have hk := (List.findIdx?_eq_some_iff_getElem.1 hx).1
      rw [dec8_len] at hk
      have HX : Hid _ := hx
      clear hx
      go_wp2_with (refine wpList_store_row rfl 53 _ _ rfl w1.heap.size (flat2 (dec8 n xs)).toArray rfl rfl 53 _ (heap_new w1 _) hi53 hs53 hone ?_; rw [hWe])
      refine grew_at hfi ?_
      intro w2 hb2
      clear hfi
      have hP2 := HW.out.pg.kept hb2
      have hpu := pput_empty hP2 (B := w1.heap.size) (Nat.le_refl _) k hk
      have HB2 : Hid _ := And.intro hb1 (grew_trans HW.out.bel hb2)
      clear hP2 hb2 hb1
      dsimp only [Option.getD_some, Option.isSome_some]
      go_wp2_with fail
      refine hpu.mono ?_
      rintro _ w3 ⟨rfl, hP3, hb3⟩
      clear hpu
      have hby := pbytes_c hP3 (set_may (dec8_may n xs) (.inl ⟨rfl, rfl⟩))
      have HB3 : Hid _ := HB2.out.2.trans hb3
      clear hP3 hb3
      dsimp only
      go_wp2_with fail
      refine hby.mono ?_
      rintro _ w4 ⟨q, d, rfl, hB, hb4, hcap⟩
      clear hby
      have HB4 : Hid _ := And.intro hB (And.intro (grew_trans HB2.out.1 (HB3.out.trans (hb4.mono HB3.out.size))) hcap)
      clear hB hb4 hcap
      dsimp only
      go_wp2_with fail
      go_ret3
      obtain ⟨e1, e2, e3⟩ := HE.out.2 k HX.out
      exact ⟨q, 128, d, by rw [e1, e2]; rfl, by rw [e3]; exact HB4.out.1, HB4.out.2.1, HB4.out.2.2⟩
  · have hE0 : woE n xs s = 6 ∧ woI n xs s = 0 ∧ woB n xs s = [] := by
      unfold woE woI woB
      rw [if_neg hm, El_no hm]
      exact ⟨rfl, rfl, rfl⟩
    have HE : Hid _ := hE0
    clear hE0
    rw [decide_eq_false hm] at hre
    go_enter Try.func18, Try.ntmps18
    go_wp2_with fail
    refine grew_at hre ?_
    intro w1 hb1
    clear hre
    obtain ⟨W, hW⟩ := boxed w1 n xs
    have hWe := hW.eq
    have hi53 := info53' n xs
    have hs53 := size53' n xs
    have hone := flat2_all (dec8 n xs)
    have HW : Hid _ := hW
    clear hW hm
    dsimp only
    go_wp2_with (refine wpList_store_row rfl 53 _ _ rfl w1.heap.size (flat2 (dec8 n xs)).toArray rfl rfl 53 _ (heap_new w1 _) hi53 hs53 hone ?_; rw [hWe])
    go_ret3
    obtain ⟨e1, e2, e3⟩ := HE.out
    exact ⟨none, 0, 0, by rw [e1, e2]; rfl, by rw [e3]; exact bi_nil _, grew_trans hb1 HW.out.bel, Nat.le_refl _, by omega⟩
theorem Without_ok (p : Option Addr) (n c : Nat) (xs : List Int) (s : ByteArray) (w : World) (h : BI w p n xs) (hnc : n ≤ c) (hc2 : c ≤ 9223372036854775807) :
    Calls Try.prog 18 #[.slice p n c, .string s] w fun e w' => P3 w (woB n xs s) (woI n xs s : Int) (woE n xs s) e w' := (Without_c p n c xs s w h hnc hc2).mono fun e w' h => h.p3
end Go.Proofs.Ythfnldclpommlab
