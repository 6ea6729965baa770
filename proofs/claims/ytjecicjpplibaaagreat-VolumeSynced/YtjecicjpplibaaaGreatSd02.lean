/- VQ VR -/
import Derived.Test.YtjecicjpplibaaaGreatSd01
import Derived.Shelf.Slices.SearchI
import Derived.Ground.Names2Prog

/- known, hasOneOf: a list asked by a function. -/
namespace Go.Proofs.YtjecicjpplibaaaGreat
open Go.RowKit Go.Maps
set_option linter.unusedVariables false
set_option maxRecDepth 100000

def ukn (l : Int) (x : Int) : Bool := decide (x < 1) || decide (l < x)
set_option maxHeartbeats 400000 in
theorem kn1_ok {w : World} {a : Nat} {l : Int} (h : w.cell? ⟨a, 0, none⟩ = some (.int .i64 l)) (x : Int) (hx : Pt.I64 x) : Calls Tryz.prog 87 #[.int .i64 x, .pointer (some ⟨a, 0, none⟩)] w fun e w' => e = .returned (.bool (ukn l x)) ∧ Below w.heap.size w w' := by
  have HU : Hid (ukn l x = (decide (x < 1) || decide (l < x))) := rfl
  by_cases h1 : x < 1
  · have HR : Hid (ukn l x = true) := by show _ = _; rw [HU.out, decide_eq_true h1]; rfl
    go_enter Tryz.func87, Tryz.ntmps87
    go_wp2_with fail
    go_ret
    exact ⟨by rw [HR.out]; try rfl, Below.refl _ _⟩
  · by_cases h2 : l < x
    · have HR : Hid (ukn l x = true) := by show _ = _; rw [HU.out, decide_eq_true h2]; simp
      go_enter Tryz.func87, Tryz.ntmps87
      go_wp2_with fail
      go_ret
      exact ⟨by rw [HR.out]; try rfl, Below.refl _ _⟩
    · have HR : Hid (ukn l x = false) := by show _ = _; rw [HU.out, decide_eq_false h2, decide_eq_false h1]; rfl
      go_enter Tryz.func87, Tryz.ntmps87
      go_wp2_with fail
      go_ret
      exact ⟨by rw [HR.out]; try rfl, Below.refl _ _⟩

set_option maxHeartbeats 1000000 in
theorem kn1_idx {w : World} {a : Nat} {l : Int} (h : w.cell? ⟨a, 0, none⟩ = some (.int .i64 l)) (p : Option Addr) (n c : Nat) (zs : List Int) (hz : Pt.II w p n zs) :
    Calls Tryz.prog 94 #[.slice p n c, .func (.func 87) #[] #[.pointer (some ⟨a, 0, none⟩)]] w fun e w' => ∃ r : Int, e = .returned (.int .i64 r) ∧ Hid (decide (0 ≤ r) = zs.any (ukn l)) ∧ Below w.heap.size w w' := by
  have hl := hz.len
  have hg := hz.big
  go_enter Tryz.func94, Tryz.ntmps94
  go_wp2_with fail
  go_loopw [8] (fun i wr => ∃ j : Nat, j ≤ n ∧ i = .int .i64 (j : Int) ∧ Hid ((zs.take j).any (ukn l) = false) ∧ Below w.heap.size w wr) (fun i _ => n - (intOf i).toNat)
  case atStart => exact ⟨0, by omega, rfl, rfl, Below.refl _ _⟩
  case round =>
    obtain ⟨j, hj, rfl, HA, hb⟩ := hrel
    by_cases hlt : j < n
    · obtain ⟨b1, o1, rfl, hc1⟩ := (hz.kept hb).cells (by omega)
      have e1 := hc1 j hlt
      have hh := kn1_ok ((hb.cell (p := ⟨a, 0, none⟩) (lt_of_cell h)).trans h) (zs.getD j 0) (hz.fitAt j)
      have hjI : (j : Int) < (n : Int) := by omega
      have hj0 : (0 : Int) ≤ (j : Int) := by omega
      have HT : Hid _ := Pt.take_one (zs := zs) (j := j) (by omega)
      have HM : Hid _ := Pt.getD_mem' (zs := zs) (j := j) (by omega)
      clear hc1
      generalize zs.getD j 0 = y at e1 hh HT HM
      cases hy : (ukn l) y with
      | true =>
        rw [hy] at hh
        have HR : Hid (zs.any (ukn l) = true) := List.any_eq_true.2 ⟨y, HM.out, hy⟩
        clear hy
        go_wp2_with (first | (go_at_call 87; refine Pt.below_at hh ?_; intro w1 hb1))
        go_ret
        exact ⟨_, rfl, by show _ = _; rw [HR.out]; exact decide_eq_true hj0, Pt.below_on hb hb1⟩
      | false =>
        rw [hy] at hh
        have HY : Hid _ := hy
        clear hy
        go_wp2_with (first | (go_at_call 87; refine Pt.below_at hh ?_; intro w1 hb1))
        go_roundw
        case rel => exact ⟨j + 1, by omega, by go_num, (by show _ = _; rw [HT.out, List.any_append, HA.out]; simp [HY.out]), Pt.below_on hb hb1⟩
        case measure => simp [intOf]; omega
    · obtain rfl : j = n := by omega
      have HR : Hid (zs.any (ukn l) = false) := by show _ = _; rw [← HA.out, List.take_of_length_le (by omega)]
      go_wp2
      go_ret
      exact ⟨-1, rfl, by show _ = _; rw [HR.out]; rfl, hb⟩

set_option maxHeartbeats 400000 in
theorem kn1_has {w : World} {a : Nat} {l : Int} (h : w.cell? ⟨a, 0, none⟩ = some (.int .i64 l)) (p : Option Addr) (n c : Nat) (zs : List Int) (hz : Pt.II w p n zs) :
    Calls Tryz.prog 86 #[.slice p n c, .func (.func 87) #[] #[.pointer (some ⟨a, 0, none⟩)]] w fun e w' => e = .returned (.bool (zs.any (ukn l))) ∧ Below w.heap.size w w' := by
  have hi := kn1_idx h p n c zs hz
  go_enter Tryz.func86, Tryz.ntmps86
  go_wp2_with (first | (go_at_call 94; refine hi.mono ?_; rintro e w' ⟨r, rfl, HR, hb⟩))
  go_ret
  exact ⟨by rw [← HR.out]; rfl, hb⟩

section
variable {g : Int} {B : Nat} {w w' : World} {A : At} {T T' : Vs} {b : Nat}
set_option maxHeartbeats 1000000 in
theorem vknown_ok (h : VI g B w A T) (p : Option Addr) (n c : Nat) (zs : List Int) (hz : Pt.II w p n zs) (hk : ∀ z ∈ zs, 1 ≤ z ∧ z ≤ (T.last : Int)) : Calls Tryz.prog 48 #[.pointer (some ⟨A.v, 0, none⟩), .slice p n c] w fun e w' => e = .returned (.bool true) ∧ Below w.heap.size w w' := by
  have c4 := h.c4
  have hla := Pt.last_ok h.ps
  go_enter Tryz.func48, Tryz.ntmps48
  go_wp2_with fail
  refine same_at hla ?_
  dsimp only
  obtain ⟨W1, hW1⟩ : ∃ W1, w.alloc (.cells #[.int .i64 (T.last : Int)] 3) = W1 := ⟨_, rfl⟩
  have hb1 : Below w.heap.size w W1 := by rw [← hW1]; exact (Below.refl _ _).alloc (Nat.le_refl _) _
  have hr1 : W1.heap[w.heap.size]? = some (.cells #[.int .i64 (T.last : Int)] 3 (0, 0)) := by rw [← hW1]; exact at_new rfl
  have hca := kn1_has ((cell_of_row _ _ 0 _ 3 _ hr1).trans rfl) p n c zs (hz.kept hb1)
  have hno : zs.any (ukn (T.last : Int)) = false := by
    rw [List.any_eq_false]
    intro z hz
    have := hk z hz
    unfold ukn
    rw [decide_eq_false (by omega), decide_eq_false (by omega)]
    decide
  rw [hno] at hca
  clear hla hno
  go_wp2_with (first | (go_at_call 86; refine Pt.below_at hca ?_; intro w2 hb2))
  go_ret
  exact ⟨rfl, Pt.below_on hb1 hb2⟩
end
end Go.Proofs.YtjecicjpplibaaaGreat

/- hasOneOf: whether a block has a patch of a rising list. -/
namespace Go.Proofs.YtjecicjpplibaaaGreat
open Go.RowKit Go.Maps
set_option linter.unusedVariables false
set_option maxRecDepth 100000

def sh_laysNm225_ren : Go.Shelf.Ren := ⟨fun | 25 => 128 | 31 => 155 | 32 => 156 | 37 => 170 | n => n, fun | 22 => 23 | 3 => 3 | 4 => 4 | 40 => 31 | 0 => 0 | n => n, fun | n => n⟩
theorem sh_laysNm225 : Go.Proofs.Lays2.n25 Tryz.prog sh_laysNm225_ren := {
  mixed := by kernel_rfl
  f25 := Tryz.func128.trans (congrArg some (by kernel_rfl))
  f31 := Tryz.func155.trans (congrArg some (by kernel_rfl))
  f32 := Tryz.func156.trans (congrArg some (by kernel_rfl))
  f37 := Tryz.func170.trans (congrArg some (by kernel_rfl))
  t0 := Tryz.underlying0
  a0 := Tryz.isAgg0
  z0 := Tryz.sizeOf0
  v0 := Tryz.zeroValue0
  t3 := Tryz.underlying3
  a3 := Tryz.isAgg3
  z3 := Tryz.sizeOf3
  v3 := Tryz.zeroValue3
  t4 := Tryz.underlying4
  a4 := Tryz.isAgg4
  z4 := Tryz.sizeOf4
  v4 := Tryz.zeroValue4
  t22 := Tryz.underlying23
  a22 := Tryz.isAgg23
  z22 := Tryz.sizeOf23
  v22 := Tryz.zeroValue23
  t40 := Tryz.underlying31
  a40 := Tryz.isAgg31
  z40 := Tryz.sizeOf31
  v40 := Tryz.zeroValue31 }
open Go.RowKit Go.Lib in
theorem sh_bsearch (b off n c : Nat) (zs : List Int) (x : Int) (w : World) (hz : n ≤ zs.length) (hbig : n < 4611686018427387904) (hc : ∀ j, j < zs.length → w.cell? ⟨b, off + j, none⟩ = some (.int .i64 (zs.getD j 0))) (hs : (zs.take n).Pairwise (· ≤ ·)) :
    Calls Tryz.prog 128 #[.slice (some ⟨b, off, none⟩) n c, .int .i64 x] w fun e w' => e = .returned (.tuple #[.int .i64 ((zs.take n).countP (· < x) : Nat), .bool ((zs.take n).contains x)]) ∧ ∃ q, w' = w.drewN q := Any.slices_BinarySearch_int sh_laysNm225 b off n c zs x w hz hbig hc hs

/-- A box with a rising list. -/
structure Bx (w : World) (a : Nat) (O : List Int) : Prop where
  ex : ∃ p n c, w.cell? ⟨a, 0, none⟩ = some (.slice p n c) ∧ Pt.II w p n O
  up : O.Pairwise (fun x y => x < y)
  ne : O ≠ []
theorem Bx.kept {w w' : World} {a : Nat} {O : List Int} (h : Bx w a O) (hb : Below w.heap.size w w') : Bx w' a O := by
  obtain ⟨p, n, c, h1, h2⟩ := h.ex
  exact ⟨⟨p, n, c, (hb.cell (p := ⟨a, 0, none⟩) (lt_of_cell h1)).trans h1, h2.kept hb⟩, h.up, h.ne⟩
def inO (O : List Int) (x : Int) : Bool := O.contains x
set_option maxHeartbeats 400000 in
theorem ho1_ok {w : World} {a : Nat} {O : List Int} (h : Bx w a O) (x : Int) (hx : Pt.I64 x) : Calls Tryz.prog 127 #[.int .i64 x, .pointer (some ⟨a, 0, none⟩)] w fun e w' => e = .returned (.bool (inO O x)) ∧ Below w.heap.size w w' := by
  obtain ⟨p, n, c, c0, hII⟩ := h.ex
  have hl := hII.len
  have hpos : 0 < O.length := List.length_pos_iff.2 h.ne
  obtain ⟨b, o, rfl, hc⟩ := hII.cells (by omega)
  have hbg := hII.big
  have hbs := sh_bsearch b o n c O x w (by omega) (by omega) (fun j hj => hc j (by omega)) (by rw [List.take_of_length_le (by omega)]; exact h.up.imp (fun h => by omega))
  rw [List.take_of_length_le (by omega)] at hbs
  have HI : Hid (O.contains x = inO O x) := rfl
  rw [HI.out] at hbs
  generalize O.countP (· < x) = cn at hbs
  generalize inO O x = r at hbs
  clear HI hc hII hl hpos h
  go_enter Tryz.func127, Tryz.ntmps127
  go_wp2_with (first | (go_at_call 128; refine Calls.mono hbs ?_; rintro e w1 ⟨rfl, q, rfl⟩))
  go_ret
  exact ⟨rfl, below_drewN (Below.refl _ _) _⟩

set_option maxHeartbeats 1000000 in
theorem ho1_idx {w : World} {a : Nat} {O : List Int} (h : Bx w a O) (p : Option Addr) (n c : Nat) (zs : List Int) (hz : Pt.II w p n zs) :
    Calls Tryz.prog 94 #[.slice p n c, .func (.func 127) #[] #[.pointer (some ⟨a, 0, none⟩)]] w fun e w' => ∃ r : Int, e = .returned (.int .i64 r) ∧ Hid (decide (0 ≤ r) = zs.any (inO O)) ∧ Below w.heap.size w w' := by
  have hl := hz.len
  have hg := hz.big
  go_enter Tryz.func94, Tryz.ntmps94
  go_wp2_with fail
  go_loopw [8] (fun i wr => ∃ j : Nat, j ≤ n ∧ i = .int .i64 (j : Int) ∧ Hid ((zs.take j).any (inO O) = false) ∧ Below w.heap.size w wr) (fun i _ => n - (intOf i).toNat)
  case atStart => exact ⟨0, by omega, rfl, rfl, Below.refl _ _⟩
  case round =>
    obtain ⟨j, hj, rfl, HA, hb⟩ := hrel
    by_cases hlt : j < n
    · obtain ⟨b1, o1, rfl, hc1⟩ := (hz.kept hb).cells (by omega)
      have e1 := hc1 j hlt
      have hh := ho1_ok (h.kept hb) (zs.getD j 0) (hz.fitAt j)
      have hjI : (j : Int) < (n : Int) := by omega
      have hj0 : (0 : Int) ≤ (j : Int) := by omega
      have HT : Hid _ := Pt.take_one (zs := zs) (j := j) (by omega)
      have HM : Hid _ := Pt.getD_mem' (zs := zs) (j := j) (by omega)
      clear hc1
      generalize zs.getD j 0 = y at e1 hh HT HM
      cases hy : (inO O) y with
      | true =>
        rw [hy] at hh
        have HR : Hid (zs.any (inO O) = true) := List.any_eq_true.2 ⟨y, HM.out, hy⟩
        clear hy
        go_wp2_with (first | (go_at_call 127; refine Pt.below_at hh ?_; intro w1 hb1))
        go_ret
        exact ⟨_, rfl, by show _ = _; rw [HR.out]; exact decide_eq_true hj0, Pt.below_on hb hb1⟩
      | false =>
        rw [hy] at hh
        have HY : Hid _ := hy
        clear hy
        go_wp2_with (first | (go_at_call 127; refine Pt.below_at hh ?_; intro w1 hb1))
        go_roundw
        case rel => exact ⟨j + 1, by omega, by go_num, (by show _ = _; rw [HT.out, List.any_append, HA.out]; simp [HY.out]), Pt.below_on hb hb1⟩
        case measure => simp [intOf]; omega
    · obtain rfl : j = n := by omega
      have HR : Hid (zs.any (inO O) = false) := by show _ = _; rw [← HA.out, List.take_of_length_le (by omega)]
      go_wp2
      go_ret
      exact ⟨-1, rfl, by show _ = _; rw [HR.out]; rfl, hb⟩

set_option maxHeartbeats 400000 in
theorem ho1_has {w : World} {a : Nat} {O : List Int} (h : Bx w a O) (p : Option Addr) (n c : Nat) (zs : List Int) (hz : Pt.II w p n zs) :
    Calls Tryz.prog 86 #[.slice p n c, .func (.func 127) #[] #[.pointer (some ⟨a, 0, none⟩)]] w fun e w' => e = .returned (.bool (zs.any (inO O))) ∧ Below w.heap.size w w' := by
  have hi := ho1_idx h p n c zs hz
  go_enter Tryz.func86, Tryz.ntmps86
  go_wp2_with (first | (go_at_call 94; refine hi.mono ?_; rintro e w' ⟨r, rfl, HR, hb⟩))
  go_ret
  exact ⟨by rw [← HR.out]; rfl, hb⟩

section
variable {g : Int} {B : Nat} {w w' : World} {A : At} {T T' : Vs} {b : Nat}
set_option maxHeartbeats 1000000 in
theorem vhasOne_ok (h : VI g B w A T) (b : Int) (hb : Pt.I64 b) (p : Option Addr) (n c : Nat) (O : List Int) (hz : Pt.II w p n O) (hup : O.Pairwise (fun x y => x < y)) (hne : O ≠ []) (hin : ∃ x ∈ Pt.idsOf T.P b, x ∈ O) : Calls Tryz.prog 93 #[.pointer (some ⟨A.v, 0, none⟩), .slice p n c, .int .i64 b] w fun e w' => e = .returned (.bool true) ∧ Below w.heap.size w w' := by
  obtain ⟨W1, hW1⟩ : ∃ W1, w.alloc (.cells #[.slice p n c] 23) = W1 := ⟨_, rfl⟩
  have hb1 : Below w.heap.size w W1 := by rw [← hW1]; exact (Below.refl _ _).alloc (Nat.le_refl _) _
  have hr1 : W1.heap[w.heap.size]? = some (.cells #[.slice p n c] 23 (0, 0)) := by rw [← hW1]; exact at_new rfl
  have hBx : Bx W1 w.heap.size O := ⟨⟨p, n, c, (cell_of_row _ _ 0 _ 23 _ hr1).trans rfl, hz.kept hb1⟩, hup, hne⟩
  have h1 := h.later hb1
  have c4 := h1.c4
  have hof := Pt.of_ok h1.ps b hb
  have HIN := (show Hid _ from hin)
  clear hin
  go_enter Tryz.func93, Tryz.ntmps93
  go_wp2_with fail
  refine Calls.mono hof ?_
  rintro e w2 ⟨v, rfl, hN, hb2⟩
  have hlen : (Pt.idsOf T.P b).length ≤ 1000 := by
    have h2 := h1.ps.sml
    have h3 : T.P.length ≤ T.last := h1.ps.len
    have h4 : (Pt.idsOf T.P b).length ≤ T.P.length := by unfold Pt.idsOf; rw [List.length_map]; exact List.length_filter_le _ _
    omega
  obtain ⟨p2, c2, rfl, hI2, _⟩ := hN.ii (by omega) (fun x hx => by
    obtain ⟨pv, hp, rfl⟩ := List.mem_map.1 hx
    have := h1.ps.ids pv (List.mem_filter.1 hp).1
    have := h1.ps.sml
    exact ⟨by omega, by omega⟩)
  have hca := ho1_has (hBx.kept hb2) p2 _ c2 _ hI2
  have hyes : (Pt.idsOf T.P b).any (inO O) = true := by
    obtain ⟨x, h3, h4⟩ := HIN.out
    exact List.any_eq_true.2 ⟨x, h3, List.contains_iff_mem.2 h4⟩
  rw [hyes] at hca
  clear hof hN hI2 hyes
  dsimp only
  go_wp2_with (first | (go_at_call 86; refine Pt.below_at hca ?_; intro w3 hb3))
  go_ret
  exact ⟨rfl, Pt.below_on (Pt.below_on hb1 hb2) hb3⟩
end
end Go.Proofs.YtjecicjpplibaaaGreat
