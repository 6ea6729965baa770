/- Same RefNew DOf VVoid VNew Mu Find Place Build -/
import Derived.Test.YthdlpeejmmobmaaGreatAn05
import Derived.Deep.RegionHeld3
import Derived.Test.YthdlpeejmmobmaaGreatAn04
import Derived.Conc.MuLone
import Derived.KernelRfl
import Derived.Laws.Tables

/- A new disk; images compared. -/
namespace Go.Proofs.YthdlpeejmmobmaaGreat
open Go.RowKit Go.Maps

set_option maxHeartbeats 400000 in
theorem new_ok (n : Nat) (h1 : 1 ≤ n) (h2 : n ≤ 2048) (w : World) : Calls Tryz.prog 188 #[.int .i64 (n : Int)] w fun e w' => ∃ a mb fb, e = .returned (.tuple #[.pointer (some ⟨a, 0, none⟩), .int .i64 0]) ∧ DI w.heap.size w' a mb fb (.slice none 0 0) ⟨n, fun _ => zer, [], 0, fun _ => 0⟩ ∧ Below w.heap.size w w' := by
  have hmm := @run_makeMap Tryz.prog
  have hi1 : (1 : Int) ≤ (n : Int) := by omega
  have hi2 : (n : Int) ≤ 2048 := by omega
  go_enter Tryz.func188, Tryz.ntmps188
  go_wp2
  go_ret2
  refine ⟨w.heap.size + 1 + 1, w.heap.size, w.heap.size + 1, rfl, ?_, ?_⟩
  · refine { row := at_new (by simp), secs := (secs_made w n).kept ?_, que := World.ownsRow_nil _ _ _ _, fls := ?_, lo := ⟨by omega, by omega, by omega⟩, ne := by omega, N1 := h1, N2 := h2, q64 := by simp, qok := by simp, lok := by simp }
    · rw [Below.heap_alloc _ _ _ (by simp; omega), Below.heap_alloc _ _ _ (by simp)]
    · have := fls_made (w.alloc (.map #[] 0)) n
      simp only [World.size_alloc] at this
      exact this.kept (Below.heap_alloc _ _ _ (by simp))
  · exact (((Below.refl _ _).alloc (Nat.le_refl _) _).alloc (by simp) _).alloc (by simp; omega) _

/-- The slice at p, of n slices of bytes, holds L. -/
structure IB (w : World) (p : Option Addr) (n : Nat) (L : List (List Int)) : Prop where
  len : L.length = n
  big : n ≤ 140737488355328
  cells : 0 < n → ∃ b o, p = some ⟨b, o, none⟩ ∧ ∀ i x, L[i]? = some x → ∃ q m c, w.cell? ⟨b, o + i, none⟩ = some (.slice q m c) ∧ BI w q m x

theorem call22 (args : Array Value) (w : World) : (callFunc 86 args).run Tryz.prog w = .ok (.enter 86 args) w := by kernel_rfl

set_option maxHeartbeats 1000000 in
theorem equalFunc_ok (p1 p2 : Option Addr) (n1 c1 n2 c2 : Nat) (L1 L2 : List (List Int)) (w : World) (h1 : IB w p1 n1 L1) (h2 : IB w p2 n2 L2) :
    Calls Tryz.prog 85 #[.slice p1 n1 c1, .slice p2 n2 c2, .func (.func 86) #[] #[]] w fun e w' => e = .returned (.bool (L1 == L2)) ∧ w' = w := by
  have hl1 := h1.len
  have hl2 := h2.len
  have hg1 := h1.big
  by_cases hne : n1 = n2
  · subst hne
    go_enter Tryz.func85, Tryz.ntmps85
    go_wp2_with fail
    go_loopw [17] (fun i wr => wr = w ∧ ∃ j : Nat, j ≤ n1 ∧ i = .int .i64 (j : Int) ∧ ∀ k, k < j → L1[k]? = L2[k]?) (fun i _ => n1 - (intOf i).toNat)
    case atStart => exact ⟨rfl, 0, by omega, rfl, by intro k hk; omega⟩
    case round =>
      obtain ⟨rfl, j, hj, rfl, heq⟩ := hrel
      by_cases hlt : j < n1
      · obtain ⟨b1, o1, rfl, hc1⟩ := h1.cells (by omega)
        obtain ⟨b2, o2, rfl, hc2⟩ := h2.cells (by omega)
        obtain ⟨x, hx⟩ : ∃ x, L1[j]? = some x := ⟨L1[j], List.getElem?_eq_getElem (by omega)⟩
        obtain ⟨y, hy⟩ : ∃ y, L2[j]? = some y := ⟨L2[j], List.getElem?_eq_getElem (by omega)⟩
        obtain ⟨q1, m1, d1, e1, hb1⟩ := hc1 j x hx
        obtain ⟨q2, m2, d2, e2, hb2⟩ := hc2 j y hy
        clear hc1 hc2
        go_wp2_with fail
        refine same_at (equal_any q1 q2 m1 d1 m2 d2 x y wr hb1 hb2) ?_
        cases hxy : (x == y) with
        | true =>
          have hxy' : x = y := by simpa using hxy
          go_wp2
          go_roundw
          case rel =>
            refine ⟨trivial, j + 1, by omega, by go_num, ?_⟩
            intro k hk
            by_cases e : k = j
            · subst e; rw [hx, hy, hxy']
            · exact heq k (by omega)
          case measure => simp [intOf]; omega
        | false =>
          have hxy' : ¬ x = y := by simpa using hxy
          go_wp2
          go_ret
          refine ⟨ret_bool ?_, rfl⟩
          symm
          rw [beq_eq_false_iff_ne]
          rintro rfl
          rw [hx] at hy
          cases hy
          exact hxy' rfl
      · obtain rfl : j = n1 := by omega
        go_wp2
        go_ret
        refine ⟨ret_bool ?_, rfl⟩
        symm
        rw [beq_iff_eq]
        apply List.ext_getElem?
        intro k
        by_cases hk : k < j
        · exact heq k hk
        · rw [List.getElem?_eq_none (by omega), List.getElem?_eq_none (by omega)]
  · have hne' : ¬ (n1 : Int) = (n2 : Int) := by omega
    go_enter Tryz.func85, Tryz.ntmps85
    go_wp2
    go_ret
    refine ⟨ret_bool ?_, rfl⟩
    symm
    rw [beq_eq_false_iff_ne]
    rintro rfl
    omega

set_option maxHeartbeats 400000 in
theorem sameImage_ok (p1 p2 : Option Addr) (n1 c1 n2 c2 : Nat) (L1 L2 : List (List Int)) (w : World) (h1 : IB w p1 n1 L1) (h2 : IB w p2 n2 L2) :
    Calls Tryz.prog 31 #[.slice p1 n1 c1, .slice p2 n2 c2] w fun e w' => e = .returned (.bool (L1 == L2)) ∧ w' = w := by
  go_enter Tryz.func31, Tryz.ntmps31
  go_wp2_with fail
  refine same_at (equalFunc_ok p1 p2 n1 c1 n2 c2 L1 L2 w h1 h2) ?_
  go_wp2
  go_ret
  exact ⟨rfl, rfl⟩

/-- The bytes of blocks 0 to n - 1. -/
def imgL (f : Nat → List Int) (n : Nat) : List (List Int) := (List.range n).map f

theorem Img.ib {B : Nat} {w : World} {g n : Nat} {gs : List Nat} {L : Nat → List Int} (h : Img B w g n gs L) (hn : n ≤ 2048) (hs : ∀ i, i < n → Num.Byt (L i)) : IB w (some ⟨g, 0, none⟩) n (imgL L n) := by
  refine ⟨by simp [imgL], by omega, fun _ => ⟨g, 0, rfl, fun i x hx => ?_⟩⟩
  have hi : i < n := by have := (List.getElem?_eq_some_iff.1 hx).1; simpa [imgL] using this
  have ex : x = L i := by simpa [imgL, hi] using hx.symm
  subst ex
  refine ⟨some ⟨gs.getD i 0, 0, none⟩, 128, 128, ?_, (h.el i hi).bi (by omega) (hs i hi)⟩
  have hl := h.len
  rw [Nat.zero_add, h.row.cellAt i (by omega), List.getElem?_map, List.getD_eq_getElem?_getD, List.getElem?_eq_getElem (by omega)]
  rfl
end Go.Proofs.YthdlpeejmmobmaaGreat

/- The document's disk: New. -/
namespace Go.Proofs.YthdlpeejmmobmaaGreat
open Go.RowKit Go.Maps

set_option maxHeartbeats 400000 in
theorem new_arg (n : Int) (h : n < 1 ∨ 2048 < n) (w : World) : Calls Tryz.prog 188 #[.int .i64 n] w fun e w' => e = .returned (.tuple #[.pointer none, .int .i64 1]) ∧ w' = w := by
  by_cases h1 : n < 1
  · go_enter Tryz.func188, Tryz.ntmps188
    go_wp2
    go_ret2
    exact ⟨rfl, rfl⟩
  · have h2 : 2048 < n := by omega
    go_enter Tryz.func188, Tryz.ntmps188
    go_wp2
    go_ret2
    exact ⟨rfl, rfl⟩

section
variable {B : Nat} {w w' : World} {x n j : Nat} {bv fv : Value} {gB : List (Nat × Nat)} {L : Nat → List Int}

end

end Go.Proofs.YthdlpeejmmobmaaGreat

/- disk.Of: a disk of an image. -/
namespace Go.Proofs.YthdlpeejmmobmaaGreat
open Go.RowKit Go.Maps
set_option linter.unusedVariables false

theorem DI.apartO {B : Nat} {w : World} {a mb fb : Nat} {qv : Value} {S : St} (h : DI B w a mb fb qv S) : a ≠ mb ∧ a ≠ fb ∧ qv.ownBlock ≠ some a ∧ qv.ownBlock ≠ some mb ∧ qv.ownBlock ≠ some fb := by
  have hr := h.row
  obtain ⟨D, ⟨es, ck, hm, _⟩, _⟩ := h.secs.ex
  obtain ⟨D', ⟨es', ck', hf, _⟩, _⟩ := h.fls.ex
  refine ⟨?_, ?_, ?_⟩
  · rintro rfl; rw [hr] at hm; cases hm
  · rintro rfl; rw [hr] at hf; cases hf
  rcases h.que.2 with ⟨rfl, _⟩ | ⟨g, cap, cur, rfl, _, hg, _⟩
  · simp [Value.ownBlock]
  · simp only [Value.ownBlock, ne_eq, Option.some.injEq]
    refine ⟨?_, ?_, ?_⟩
    · rintro rfl; rw [hr] at hg; simp at hg
    · rintro rfl; rw [hm] at hg; cases hg
    · rintro rfl; rw [hf] at hg; cases hg

theorem DI.turnSecO {B : Nat} {w : World} {a mb fb : Nat} {qv : Value} {S : St} (h : DI B w a mb fb qv S) {w' : World} {f' : Nat → List Int} (hs : Secs w' mb S.N f') (hg : w.grownBy w' (some mb)) : DI B w' a mb fb qv { S with f := f' } := by
  obtain ⟨n1, n2, n3, n4, n5⟩ := h.apartO
  have ho : ∀ k, k < w.heap.size → k ≠ mb → w'.heap[k]? = w.heap[k]? := fun k hk h1 => hg.block k hk (by simpa using h1)
  exact { row := (ho a (Array.getElem?_eq_some_iff.1 h.row).1 n1).trans h.row, secs := hs, que := ownsRow_kept h.que (fun k hk => ho k (h.que.lt k hk).2 (by rintro rfl; exact n4 hk)), fls := h.fls.kept (ho fb h.fls.lt h.ne.symm), lo := h.lo, ne := h.ne, N1 := h.N1, N2 := h.N2, q64 := h.q64, qok := h.qok, lok := h.lok }

/-- The first j blocks of an image. -/
def part (L : List (List Int)) (j : Nat) : Nat → List Int := fun i => if i < j then L.getD i zer else zer

theorem part_step (L : List (List Int)) (j : Nat) (xs : List Int) (h : L[j]? = some xs) : upd (part L j) j xs = part L (j + 1) := by
  funext i
  unfold upd part
  by_cases e : i = j
  · subst e
    rw [if_pos rfl, if_pos (by omega), List.getD_eq_getElem?_getD, h]
    rfl
  · rw [if_neg e]
    by_cases hi : i < j
    · rw [if_pos hi, if_pos (by omega)]
    · rw [if_neg hi, if_neg (by omega)]

theorem part_zero (L : List (List Int)) : part L 0 = fun _ => zer := by
  funext i
  simp [part]

set_option maxHeartbeats 400000 in
theorem of_range (p : Option Addr) (n c : Nat) (hn : n < 1 ∨ 2048 < n) (w : World) : Calls Tryz.prog 107 #[.slice p n c] w fun e w' => e = .returned (.tuple #[.pointer none, .int .i64 1]) ∧ w' = w := by
  have hc := new_arg (n : Int) (by omega) w
  go_enter Tryz.func107, Tryz.ntmps107
  go_wp2_with fail
  refine same_at hc ?_
  go_wp2
  go_ret2
  exact ⟨rfl, rfl⟩

set_option maxRecDepth 10000 in
set_option maxHeartbeats 2000000 in
theorem of_ok (p : Option Addr) (n c : Nat) (L : List (List Int)) (w : World) (h : IB w p n L) (h1 : 1 ≤ n) (h2 : n ≤ 2048) : Calls Tryz.prog 107 #[.slice p n c] w fun e w' => Below w.heap.size w w' ∧ (((∀ xs ∈ L, xs.length = 128) ∧ ∃ a mb fb, e = .returned (.tuple #[.pointer (some ⟨a, 0, none⟩), .int .i64 0]) ∧ DI w.heap.size w' a mb fb (.slice none 0 0) ⟨n, part L n, [], 0, fun _ => 0⟩) ∨ ((∃ xs ∈ L, xs.length ≠ 128) ∧ e = .returned (.tuple #[.pointer none, .int .i64 1]))) := by
  have hlen := h.len
  go_enter Tryz.func107, Tryz.ntmps107
  go_wp2_with fail
  refine (new_ok n h1 h2 w).mono ?_
  rintro e w1 ⟨a, mb, fb, rfl, hd1, hb1⟩
  rw [← part_zero L] at hd1
  go_wp2_with fail
  go_loopw [19] (fun i wr => ∃ j : Nat, j ≤ n ∧ i = .int .i64 (j : Int) ∧ DI w.heap.size wr a mb fb (.slice none 0 0) ⟨n, part L j, [], 0, fun _ => 0⟩ ∧ (∀ xs ∈ L.take j, xs.length = 128) ∧ Below w.heap.size w wr) (fun i _ => n - (intOf i).toNat)
  case atStart => exact ⟨0, by omega, rfl, hd1, by simp, hb1⟩
  case round =>
    clear hd1 hb1
    obtain ⟨j, hj, rfl, hd, hall, hb⟩ := hrel
    by_cases hlt : j < n
    · obtain ⟨bb, oo, rfl, hic⟩ := h.cells (by omega)
      obtain ⟨xs, hxs⟩ : ∃ xs, L[j]? = some xs := ⟨L[j], List.getElem?_eq_getElem (by omega)⟩
      obtain ⟨q, m, d, hcell, hbi⟩ := hic j xs hxs
      have hcell' := (hb.cell (p := ⟨bb, oo + j, none⟩) (lt_of_cell hcell)).trans hcell
      have hbi' := hbi.kept hb
      have hml := hbi.len
      clear hic hcell
      have hjI : (j : Int) < (n : Int) := by omega
      by_cases hm : m = 128
      · subst hm
        have hsx : Sect xs := ⟨hml, hbi.byt⟩
        have hdd := hd.later (Below.refl _ _).drew
        have c1 := hdd.c1
        have hbid := hbi'.kept (Below.refl _ _).drew
        go_wp2_with fail
        go_region_held3 (fun w' => w'.cell? ⟨a, 1, none⟩ = some (.map (some mb))) (first | exact c1 | exact c1' | exact c1'')
          ((go_at_call 189; refine Calls.mono (sectorOf_ok _ d xs _ hbid) ?_; rintro e w3 ⟨rfl, hb3⟩; have hd3 := hdd.later hb3; have c1' := hd3.c1; obtain ⟨w4, hrun, hs4, hg4⟩ := hd3.secs.update h2 j hlt xs hsx; have hd4 := hd3.turnSecO hs4 hg4; have c1'' := hd4.c1))
        have hbw := (hb.drew.trans (hb3.mono hb.size)).grown hg4 (Nat.le_trans hb.size hb3.size) (fun k hk => by cases hk; exact hd.lo.2.1)
        rw [part_step L j xs hxs] at hd4
        clear c1 c1' c1'' hrun hs4 hg4 hd3 hdd
        go_wp2
        go_roundw
        case rel =>
          refine ⟨j + 1, by omega, by go_num, hd4, fun ys hy => ?_, hbw⟩
          rw [List.take_add_one, hxs] at hy
          rcases List.mem_append.1 hy with h' | h'
          · exact hall ys h'
          · simp at h'
            subst h'
            exact hml
        case measure => simp [intOf]; omega
      · have hmI : ¬ (m : Int) = 128 := by omega
        go_wp2
        go_ret2
        exact ⟨hb, .inr ⟨⟨xs, List.mem_of_getElem? hxs, by omega⟩, rfl⟩⟩
    · obtain rfl : n = j := by omega
      rw [List.take_of_length_le (by omega)] at hall
      go_wp2
      go_ret2
      exact ⟨hb, .inl ⟨hall, _, _, _, rfl, hd⟩⟩
end Go.Proofs.YthdlpeejmmobmaaGreat

/- A volume that no call made. -/
namespace Go.Proofs.YthdlpeejmmobmaaGreat
open Go.RowKit
set_option linter.unusedVariables false

/-- v stands for a volume that no call made. -/
def VVoid (w : World) (v : Value) : Prop := v = .pointer none ∨ ∃ z, v = .pointer (some ⟨z, 0, none⟩) ∧ w.cell? ⟨z, 2, none⟩ = some (.pointer none)

section
variable {w : World} {v : Value}
set_option maxHeartbeats 400000 in
theorem vmade_void (h : VVoid w v) : Calls Tryz.prog 46 #[v] w fun e w' => e = .returned (.bool false) ∧ w' = w := by
  rcases h with rfl | ⟨z, rfl, hc⟩
  · go_enter Tryz.func46, Tryz.ntmps46
    go_wp2
    go_ret
    exact ⟨rfl, rfl⟩
  · go_enter Tryz.func46, Tryz.ntmps46
    go_wp2
    go_ret
    exact ⟨rfl, rfl⟩
set_option maxHeartbeats 400000 in
theorem vread_void (h : VVoid w v) (b : Int) : Calls Tryz.prog 19 #[v, .int .i64 b] w fun e w' => e = .returned (.tuple #[.slice none 0 0, .int .i64 2]) ∧ w' = w := by
  have hm := vmade_void h
  go_enter Tryz.func19, Tryz.ntmps19
  go_wp2_with (first | (go_at_call 46; refine same_at hm ?_))
  go_ret2
  exact ⟨rfl, rfl⟩
set_option maxHeartbeats 400000 in
theorem vchange_void (h : VVoid w v) (b : Int) (s : Value) : Calls Tryz.prog 17 #[v, .int .i64 b, .int .i64 0, s, .slice none 0 0] w fun e w' => e = .returned (.tuple #[.int .i64 0, .int .i64 2]) ∧ w' = w := by
  have hm := vmade_void h
  go_enter Tryz.func17, Tryz.ntmps17
  go_wp2_with (first | (go_at_call 46; refine same_at hm ?_))
  go_ret2
  exact ⟨rfl, rfl⟩
set_option maxHeartbeats 400000 in
theorem vold_void (h : VVoid w v) (b : Int) : Calls Tryz.prog 128 #[v, .int .i64 b] w fun e w' => e = .returned (.tuple #[.slice none 0 0, .int .i64 2]) ∧ w' = w := by
  have hm := vmade_void h
  go_enter Tryz.func128, Tryz.ntmps128
  go_wp2_with (first | (go_at_call 46; refine same_at hm ?_))
  go_ret2
  exact ⟨rfl, rfl⟩
set_option maxHeartbeats 400000 in
theorem vundo_void (h : VVoid w v) (b : Int) : Calls Tryz.prog 84 #[v, .int .i64 b] w fun e w' => e = .returned (.int .i64 2) ∧ w' = w := by
  have hm := vmade_void h
  go_enter Tryz.func84, Tryz.ntmps84
  go_wp2_with (first | (go_at_call 46; refine same_at hm ?_))
  go_ret
  exact ⟨rfl, rfl⟩
set_option maxHeartbeats 400000 in
theorem vfreeze_void (h : VVoid w v) (b : Int) : Calls Tryz.prog 50 #[v, .int .i64 b] w fun e w' => e = .returned (.int .i64 2) ∧ w' = w := by
  have hm := vmade_void h
  go_enter Tryz.func50, Tryz.ntmps50
  go_wp2_with (first | (go_at_call 46; refine same_at hm ?_))
  go_ret
  exact ⟨rfl, rfl⟩
set_option maxHeartbeats 400000 in
theorem vthaw_void (h : VVoid w v)  : Calls Tryz.prog 129 #[v] w fun e w' => e = .returned (.int .i64 2) ∧ w' = w := by
  have hm := vmade_void h
  go_enter Tryz.func129, Tryz.ntmps129
  go_wp2_with (first | (go_at_call 46; refine same_at hm ?_))
  go_ret
  exact ⟨rfl, rfl⟩
set_option maxHeartbeats 400000 in
theorem vbroken_void (h : VVoid w v)  : Calls Tryz.prog 117 #[v] w fun e w' => e = .returned (.bool false) ∧ w' = w := by
  have hm := vmade_void h
  go_enter Tryz.func117, Tryz.ntmps117
  go_wp2_with (first | (go_at_call 46; refine same_at hm ?_))
  go_ret
  exact ⟨rfl, rfl⟩
set_option maxHeartbeats 400000 in
theorem vkept_void (h : VVoid w v)  : Calls Tryz.prog 118 #[v] w fun e w' => e = .returned (.int .i64 0) ∧ w' = w := by
  have hm := vmade_void h
  go_enter Tryz.func118, Tryz.ntmps118
  go_wp2_with (first | (go_at_call 46; refine same_at hm ?_))
  go_ret
  exact ⟨rfl, rfl⟩
set_option maxHeartbeats 400000 in
theorem vlast_void (h : VVoid w v)  : Calls Tryz.prog 81 #[v] w fun e w' => e = .returned (.int .i64 0) ∧ w' = w := by
  have hm := vmade_void h
  go_enter Tryz.func81, Tryz.ntmps81
  go_wp2_with (first | (go_at_call 46; refine same_at hm ?_))
  go_ret
  exact ⟨rfl, rfl⟩
set_option maxHeartbeats 400000 in
theorem vblocks_void (h : VVoid w v)  : Calls Tryz.prog 13 #[v] w fun e w' => e = .returned (.int .i64 0) ∧ w' = w := by
  have hm := vmade_void h
  go_enter Tryz.func13, Tryz.ntmps13
  go_wp2_with (first | (go_at_call 46; refine same_at hm ?_))
  go_ret
  exact ⟨rfl, rfl⟩
set_option maxHeartbeats 400000 in
theorem vpending_void (h : VVoid w v) (b : Int) : Calls Tryz.prog 173 #[v, .int .i64 b] w fun e w' => e = .returned (.slice none 0 0) ∧ w' = w := by
  have hm := vmade_void h
  go_enter Tryz.func173, Tryz.ntmps173
  go_wp2_with (first | (go_at_call 46; refine same_at hm ?_))
  go_ret
  exact ⟨rfl, rfl⟩
end
end Go.Proofs.YthdlpeejmmobmaaGreat

/- volume.Open: over no disk, and over a disk. -/
namespace Go.Proofs.YthdlpeejmmobmaaGreat
open Go.RowKit Go.Maps
set_option linter.unusedVariables false

section
variable {w : World}
set_option maxHeartbeats 400000 in
/-- A cache over no disk: New tells that there is none. -/
theorem cnew_void (d : Value) (bd : Int) (hd : Calls Tryz.prog 47 #[d] w fun e w' => e = .returned (.int .i64 0) ∧ w' = w) : Calls Tryz.prog 192 #[d, .int .i64 bd] w fun e w' => e = .returned (.tuple #[.pointer none, .int .i64 2]) ∧ w' = w := by
  go_enter Tryz.func192, Tryz.ntmps192
  go_wp2_with (first | (go_at_call 47; refine same_at hd ?_))
  go_ret2
  exact ⟨rfl, rfl⟩
set_option maxHeartbeats 400000 in
theorem vopen_void (d : Value) (bd : Int) (hd : Calls Tryz.prog 47 #[d] w fun e w' => e = .returned (.int .i64 0) ∧ w' = w) : Calls Tryz.prog 110 #[d, .int .i64 bd] w fun e w' => e = .returned (.tuple #[.pointer none, .int .i64 2]) ∧ w' = w := by
  have hc := cnew_void d bd hd
  go_enter Tryz.func110, Tryz.ntmps110
  go_wp2_with (first | (go_at_call 192; refine same_at hc ?_))
  go_ret2
  exact ⟨rfl, rfl⟩

/-- What a call that makes a cache, a set of patches leaves: a pointer, and memory that has grown. -/
theorem cnew64_ok {B d dm df : Nat} {dq : Value} {S : St} (h : DI B w d dm df dq S) : Calls Tryz.prog 192 #[.pointer (some ⟨d, 0, none⟩), .int .i64 64] w fun e w' => ∃ c, e = .returned (.tuple #[.pointer (some ⟨c, 0, none⟩), .int .i64 0]) ∧ Below w.heap.size w w' := by
  have hd := blocks_ok h
  have hN := h.N1
  have hN2 : ((S.N : Int) == 0) = false := by rw [beq_eq_false_iff_ne]; omega
  have hN3 : ¬ (S.N : Int) = 0 := by omega
  have hmm := @run_makeMap Tryz.prog
  go_enter Tryz.func192, Tryz.ntmps192
  go_wp2_with (first | (go_at_call 47; refine same_at hd ?_))
  go_ret2
  have hb0 : Below w.heap.size w (w.alloc (.map #[] 0)) := (Below.refl _ w).alloc (Nat.le_refl _) _
  have hb1 := hb0.alloc (show w.heap.size ≤ (w.alloc (.map #[] 0)).heap.size by simp) (.cells #[.pointer (some ⟨d, 0, none⟩), .int .i64 64, .map (some w.heap.size), .int .i64 0, .int .i64 0] 323)
  exact ⟨_, rfl, hb1⟩
set_option maxHeartbeats 400000 in
theorem pnew_ok (w : World) : Calls Tryz.prog 193 #[] w fun e w' => ∃ c, e = .returned (.pointer (some ⟨c, 0, none⟩)) ∧ Below w.heap.size w w' := by
  have hmm := @run_makeMap Tryz.prog
  go_enter Tryz.func193, Tryz.ntmps193
  go_wp2
  go_ret
  refine ⟨_, rfl, ?_⟩
  exact (((Below.refl _ w).alloc (Nat.le_refl _) _).alloc (by simp) _).alloc (by simp; omega) _
set_option maxHeartbeats 400000 in
theorem vopen_ok {B d dm df : Nat} {dq : Value} {S : St} (h : DI B w d dm df dq S) : Calls Tryz.prog 110 #[.pointer (some ⟨d, 0, none⟩), .int .i64 64] w fun e w' => ∃ v, e = .returned (.tuple #[.pointer (some ⟨v, 0, none⟩), .int .i64 0]) ∧ w'.cell? ⟨v, 2, none⟩ = some (.pointer (some ⟨d, 0, none⟩)) ∧ Below w.heap.size w w' := by
  have hc := cnew64_ok h
  have hmm := @run_makeMap Tryz.prog
  go_enter Tryz.func110, Tryz.ntmps110
  go_wp2_with (first | (go_at_call 192; refine Calls.mono hc ?_; rintro e w1 ⟨c, rfl, hb1⟩) | (go_at_call 193; refine Calls.mono (pnew_ok _) ?_; rintro e w2 ⟨p, rfl, hb2⟩))
  go_ret2
  have hb := hb1.trans (hb2.mono hb1.size)
  have hs := hb.size
  refine ⟨w2.heap.size + 1, rfl, ?_, ?_⟩
  · rw [cell_of_row _ _ 2 _ 98 _ (at_new (by simp))]; rfl
  · exact (hb.alloc hs _).alloc (by simp; omega) _
set_option maxHeartbeats 400000 in
theorem vmade_ok {v d : Nat} (hv : w.cell? ⟨v, 2, none⟩ = some (.pointer (some ⟨d, 0, none⟩))) : Calls Tryz.prog 46 #[.pointer (some ⟨v, 0, none⟩)] w fun e w' => e = .returned (.bool true) ∧ w' = w := by
  go_enter Tryz.func46, Tryz.ntmps46
  go_wp2
  go_ret
  exact ⟨rfl, rfl⟩
set_option maxHeartbeats 400000 in
theorem vblocks_ok {v d : Nat} {k : Int} (hv : w.cell? ⟨v, 2, none⟩ = some (.pointer (some ⟨d, 0, none⟩))) (hd : w.cell? ⟨d, 0, none⟩ = some (.int .i64 k)) : Calls Tryz.prog 13 #[.pointer (some ⟨v, 0, none⟩)] w fun e w' => e = .returned (.int .i64 k) ∧ w' = w := by
  have hm := vmade_ok hv
  have hb := blocks_some w d k hd
  go_enter Tryz.func13, Tryz.ntmps13
  go_wp2_with (first | (go_at_call 46; refine same_at hm ?_) | (go_at_call 47; refine same_at hb ?_))
  go_ret
  exact ⟨rfl, rfl⟩
end
end Go.Proofs.YthdlpeejmmobmaaGreat

/- The numbers under which this program holds sync.Mutex, and the volume's methods that take its guard. -/
namespace Go.Proofs.YthdlpeejmmobmaaGreat
open Go.RowKit Go.Maps Go.MuLone
set_option linter.unusedVariables false

abbrev muLink : Go.Conc.Locks.MuLink := { lock := 52, unlock := 53, ilock := 115, iunlock := 116, lockSlow := 200, unlockSlow := 203, disable := 196, enable := 198, acquire := 199, relMerge := 201, cas32 := 197, add32 := 202, tMutex := 92, tIMutex := 90, tPMutex := 208, tPIMutex := 313, tPI32 := 315, tUP := 317, tNoCopy := 87, tU32 := 88 }
theorem muLib : Go.Conc.Locks.MuLib Tryz.prog muLink :=
  ⟨Tryz.func52, Tryz.func53, Tryz.func115, Tryz.func116, Tryz.func196, Tryz.func198, Tryz.func199, Tryz.func201, Tryz.func197, Tryz.func202, Tryz.underlying90, Tryz.runUnderlying90, Tryz.sizeOf90, Tryz.isAgg90, Tryz.zeroValue90, Tryz.underlying92, Tryz.runUnderlying92, Tryz.sizeOf92, Tryz.isAgg92, Tryz.zeroValue92, Tryz.underlying208, Tryz.runUnderlying208, Tryz.sizeOf208, Tryz.isAgg208, Tryz.zeroValue208, Tryz.underlying313, Tryz.runUnderlying313, Tryz.sizeOf313, Tryz.isAgg313, Tryz.zeroValue313, Tryz.underlying315, Tryz.runUnderlying315, Tryz.sizeOf315, Tryz.isAgg315, Tryz.zeroValue315, Tryz.underlying317, Tryz.runUnderlying317, Tryz.sizeOf317, Tryz.isAgg317, Tryz.zeroValue317, Tryz.underlying87, Tryz.runUnderlying87, Tryz.sizeOf87, Tryz.isAgg87, Tryz.zeroValue87, Tryz.underlying21, Tryz.runUnderlying21, Tryz.sizeOf21, Tryz.isAgg21, Tryz.zeroValue21, by kernel_rfl⟩

/-- Block v is a volume: its guard free; its disk d, cache c, patches s, way map m and view x. -/
def VRow (w : World) (v d c s m : Nat) (x : Option Addr) : Prop :=
  w.heap[v]? = some (.cells #[.int .i32 0, .int .u32 0, .pointer (some ⟨d, 0, none⟩), .pointer (some ⟨c, 0, none⟩), .pointer (some ⟨s, 0, none⟩), .map (some m), .pointer x] 98 (0, 0))
/-- The same while the guard is held. -/
def VHeld (w : World) (v d c s m : Nat) (x : Option Addr) : Prop :=
  w.heap[v]? = some (.cells #[.int .i32 1, .int .u32 0, .pointer (some ⟨d, 0, none⟩), .pointer (some ⟨c, 0, none⟩), .pointer (some ⟨s, 0, none⟩), .map (some m), .pointer x] 98 (0, 0))

section
variable {w : World} {v d c s m : Nat} {x : Option Addr}
theorem VRow.held (h : VRow w v d c s m x) : VHeld (w.setCell ⟨v, 0, none⟩ (.int .i32 1)) v d c s m x := heap_setCell_same w v 0 _ 98 _ h
theorem VHeld.free (h : VHeld w v d c s m x) : VRow (w.setCell ⟨v, 0, none⟩ (.int .i32 0)) v d c s m x := heap_setCell_same w v 0 _ 98 _ h
theorem VRow.made (h : VRow w v d c s m x) : w.cell? ⟨v, 2, none⟩ = some (.pointer (some ⟨d, 0, none⟩)) := cell_of_row w v 2 _ 98 _ h
theorem VRow.lock (h : VRow w v d c s m x) : Calls Tryz.prog 52 #[.pointer (some ⟨v, 0, none⟩)] w fun e w' => e = .returned (.tuple #[]) ∧ w' = w.setCell ⟨v, 0, none⟩ (.int .i32 1) :=
  lock_free muLib ⟨v, 0, none⟩ w (cell_of_row w v 0 _ 98 _ h) (by have h1 := h; unfold VRow at h1; simp [World.frozen?, h1])
theorem VHeld.unlock (h : VHeld w v d c s m x) (u : FrameMode) : CallsD Tryz.prog 53 #[.pointer (some ⟨v, 0, none⟩)] u w fun e u' w' => u' = u ∧ (e = .returned (.tuple #[]) ∧ w' = w.setCell ⟨v, 0, none⟩ (.int .i32 0)) :=
  unlock_deferred muLib ⟨v, 0, none⟩ u w (cell_of_row w v 0 _ 98 _ h) (by have h1 := h; unfold VHeld at h1; simp [World.frozen?, h1])

/-- Taken and let go, the guard is as it was. -/
theorem VRow.back (h : VRow w v d c s m x) : (w.setCell ⟨v, 0, none⟩ (.int .i32 1)).setCell ⟨v, 0, none⟩ (.int .i32 0) = w := by
  have hv := (Array.getElem?_eq_some_iff.1 h)
  obtain ⟨hlt, hv⟩ := hv
  have e : ((w.setCell ⟨v, 0, none⟩ (.int .i32 1)).setCell ⟨v, 0, none⟩ (.int .i32 0)).heap = w.heap := by
    apply Array.ext
    · simp [World.setCell]
    · intro i h1 h2
      simp only [World.setCell, Array.getElem_modify]
      by_cases hi : v = i
      · subst hi
        rw [hv]
        simp
      · simp [hi]
  cases w
  simp only [World.setCell] at e ⊢
  rw [e]

set_option maxHeartbeats 1000000 in
theorem vlast_of (h : VRow w v d c s m x)  {R : Value → World → Prop} (hl : Calls Tryz.prog 150 #[.pointer (some ⟨s, 0, none⟩)] (w.setCell ⟨v, 0, none⟩ (.int .i32 1)) fun e w1 => ∃ r y, e = .returned r ∧ VHeld w1 v d c s m y ∧ R r w1) : Calls Tryz.prog 81 #[.pointer (some ⟨v, 0, none⟩)] w fun e w' => ∃ r y w1, e = .returned r ∧ VHeld w1 v d c s m y ∧ R r w1 ∧ w' = w1.setCell ⟨v, 0, none⟩ (.int .i32 0) := by
  have hm := vmade_ok h.made
  have hlk := h.lock
  have c4 := cell_of_row _ v 4 _ 98 _ h.held
  go_enter_defers Tryz.func81, Tryz.ntmps81
  go_wp2_with (first
    | (go_at_call 46; refine same_at hm ?_)
    | (go_at_call 52; refine Calls.mono hlk ?_; rintro e w' ⟨rfl, rfl⟩)
    | (go_at_call 150; refine Calls.mono hl ?_; rintro e w1 ⟨r, y, rfl, h1, hr⟩))
  refine leaves_cons (f := 53) (args := #[.pointer (some ⟨v, 0, none⟩)]) (by simp) (by simp [go_sem]) ?_
  refine (h1.unlock .returning).mono ?_
  rintro e u' w'' ⟨rfl, rfl, rfl⟩
  exact ⟨_, results_tmp rfl _ _ _, r, y, w1, rfl, h1, hr, rfl⟩
set_option maxHeartbeats 1000000 in
theorem vpending_of (h : VRow w v d c s m x) (b : Int) {R : Value → World → Prop} (hl : Calls Tryz.prog 251 #[.pointer (some ⟨s, 0, none⟩), .int .i64 b] (w.setCell ⟨v, 0, none⟩ (.int .i32 1)) fun e w1 => ∃ r y, e = .returned r ∧ VHeld w1 v d c s m y ∧ R r w1) : Calls Tryz.prog 173 #[.pointer (some ⟨v, 0, none⟩), .int .i64 b] w fun e w' => ∃ r y w1, e = .returned r ∧ VHeld w1 v d c s m y ∧ R r w1 ∧ w' = w1.setCell ⟨v, 0, none⟩ (.int .i32 0) := by
  have hm := vmade_ok h.made
  have hlk := h.lock
  have c4 := cell_of_row _ v 4 _ 98 _ h.held
  go_enter_defers Tryz.func173, Tryz.ntmps173
  go_wp2_with (first
    | (go_at_call 46; refine same_at hm ?_)
    | (go_at_call 52; refine Calls.mono hlk ?_; rintro e w' ⟨rfl, rfl⟩)
    | (go_at_call 251; refine Calls.mono hl ?_; rintro e w1 ⟨r, y, rfl, h1, hr⟩))
  refine leaves_cons (f := 53) (args := #[.pointer (some ⟨v, 0, none⟩)]) (by simp) (by simp [go_sem]) ?_
  refine (h1.unlock .returning).mono ?_
  rintro e u' w'' ⟨rfl, rfl, rfl⟩
  exact ⟨_, results_tmp rfl _ _ _, r, y, w1, rfl, h1, hr, rfl⟩
set_option maxHeartbeats 1000000 in
theorem vread_of (h : VRow w v d c s m x) (b : Int) {R : Value → Value → World → Prop} (hl : Calls Tryz.prog 58 #[.pointer (some ⟨v, 0, none⟩), .int .i64 b] (w.setCell ⟨v, 0, none⟩ (.int .i32 1)) fun e w1 => ∃ r q y, e = .returned (.tuple #[r, q]) ∧ VHeld w1 v d c s m y ∧ R r q w1) : Calls Tryz.prog 19 #[.pointer (some ⟨v, 0, none⟩), .int .i64 b] w fun e w' => ∃ r q y w1, e = .returned (.tuple #[r, q]) ∧ VHeld w1 v d c s m y ∧ R r q w1 ∧ w' = w1.setCell ⟨v, 0, none⟩ (.int .i32 0) := by
  have hm := vmade_ok h.made
  have hlk := h.lock
  go_enter_defers Tryz.func19, Tryz.ntmps19
  go_wp2_with (first
    | (go_at_call 46; refine same_at hm ?_)
    | (go_at_call 52; refine Calls.mono hlk ?_; rintro e w' ⟨rfl, rfl⟩)
    | (go_at_call 58; refine Calls.mono hl ?_; rintro e w1 ⟨r, q, y, rfl, h1, hr⟩))
  refine leaves_cons (f := 53) (args := #[.pointer (some ⟨v, 0, none⟩)]) (by simp) (by simp [go_sem]) ?_
  refine (h1.unlock .returning).mono ?_
  rintro e u' w'' ⟨rfl, rfl, rfl⟩
  exact ⟨_, results_tmp2 rfl _ _ _, r, q, y, w1, rfl, h1, hr, rfl⟩
end
end Go.Proofs.YthdlpeejmmobmaaGreat

/- Where a write stands in the queue: place, busy. -/
namespace Go.Proofs.YthdlpeejmmobmaaGreat
open Go.RowKit Go.Maps
set_option maxRecDepth 100000

def wrA (x : Wr) : Array Value := x.cells.toArray
theorem cells_len (x : Wr) (h : Sect x.bytes) : x.cells.length = 130 := by simp [Wr.cells, h.1]

theorem flat_at : ∀ (q : List Wr), (∀ x ∈ q, Sect x.bytes) → ∀ (j i : Nat) (x : Wr), q[j]? = some x → i < 130 → (flat q)[j * 130 + i]? = x.cells[i]?
  | [], _, j, i, x, h, _ => by simp at h
  | y :: r, ha, 0, i, x, h, hi => by
    simp only [List.getElem?_cons_zero, Option.some.injEq] at h
    subst h
    simp only [flat, List.flatMap_cons]
    rw [Nat.zero_mul, Nat.zero_add, List.getElem?_append_left (by rw [cells_len y (ha y (by simp))]; exact hi)]
  | y :: r, ha, j + 1, i, x, h, hi => by
    simp only [List.getElem?_cons_succ] at h
    have ih := flat_at r (fun z hz => ha z (by simp [hz])) j i x h hi
    have hl := cells_len y (ha y (by simp))
    simp only [flat, List.flatMap_cons]
    rw [List.getElem?_append_right (by rw [hl]; omega), hl]
    have e : (j + 1) * 130 + i - 130 = j * 130 + i := by omega
    rw [e]
    exact ih

/-- A write of the queue lies in its row. -/
theorem range_at {w : World} {B g n c : Nat} {q : List Wr} (h : w.ownsRow B 437 130 (.slice (some ⟨g, 0, none⟩) n c) n (flat q)) (hn : q.length = n) (ha : ∀ x ∈ q, Sect x.bytes) {j : Nat} {x : Wr} (hj : q[j]? = some x) : w.rangeAt g (j * 130) x.cells := by
  intro i v hv
  have hi := (List.getElem?_eq_some_iff.1 hv).1
  have hx := List.mem_of_getElem? hj
  rw [cells_len x (ha x hx)] at hi
  have hjl := (List.getElem?_eq_some_iff.1 hj).1
  rw [h.cellAt _ (by rw [← hn]; omega), flat_at q ha j i x hj hi, hv]

/-- The first place in the queue of which t holds, or -1. -/
def idx (t : Wr → Bool) (q : List Wr) : Int := match q.findIdx? t with | some i => (i : Int) | none => -1
theorem idx_some {t : Wr → Bool} {q : List Wr} {i : Nat} (h : q.findIdx? t = some i) : idx t q = i := by simp [idx, h]
theorem idx_none {t : Wr → Bool} {q : List Wr} (h : q.findIdx? t = none) : idx t q = -1 := by simp [idx, h]

theorem info86 : (Tryz.prog.info? 437).map (·.size) = some 130 := by kernel_rfl

theorem wrA_size (x : Wr) (h : Sect x.bytes) : (wrA x).size = 130 := by simp [wrA, cells_len x h]
theorem wrA_0 (x : Wr) : (wrA x)[0]? = some (.int .i64 x.id) := by simp [wrA, Wr.cells]
theorem wrA_1 (x : Wr) : (wrA x)[1]? = some (.int .i64 (x.block : Int)) := by simp [wrA, Wr.cells]

end Go.Proofs.YthdlpeejmmobmaaGreat

/- place and busy. -/
namespace Go.Proofs.YthdlpeejmmobmaaGreat
open Go.RowKit Go.Maps
set_option maxRecDepth 100000

theorem DI.qcase {B : Nat} {w : World} {a mb fb : Nat} {qv : Value} {S : St} (h : DI B w a mb fb qv S) : (qv = .slice none 0 0 ∧ S.q = []) ∨ ∃ g cap, qv = .slice (some ⟨g, 0, none⟩) S.q.length cap := by
  rcases h.que.2 with ⟨h1, h2⟩ | ⟨g, cap, cur, h1, _⟩
  · exact .inl ⟨h1, List.eq_nil_of_length_eq_zero h2⟩
  · exact .inr ⟨g, cap, h1⟩

theorem DI.sects {B : Nat} {w : World} {a mb fb : Nat} {qv : Value} {S : St} (h : DI B w a mb fb qv S) : ∀ x ∈ S.q, Sect x.bytes := fun x hx => (h.qok x hx).2.1

theorem idx_nil (t : Wr → Bool) : idx t [] = -1 := rfl

section
variable {B : Nat} {w : World} {a mb fb : Nat} {qv : Value} {S : St}

end
end Go.Proofs.YthdlpeejmmobmaaGreat

/- How a write is built of its parts, and a list of one write. -/
namespace Go.Proofs.YthdlpeejmmobmaaGreat
open Go.RowKit Go.Maps
set_option maxRecDepth 100000

theorem put_list : ∀ (vs : List Value) (k off : Nat) (cs : List Value), off + k + vs.length ≤ cs.length →
    ((vs.zipIdx k).foldl (fun (c : Array Value) (p : Value × Nat) => c.setIfInBounds (off + p.2) p.1) cs.toArray).toList = splice cs (off + k) vs
  | [], k, off, cs, _ => by simp [splice]
  | v :: r, k, off, cs, h => by
    simp only [List.length_cons] at h
    simp only [List.zipIdx_cons, List.foldl_cons]
    have e : (cs.toArray.setIfInBounds (off + k) v) = (cs.set (off + k) v).toArray := by simp
    rw [e, put_list r (k + 1) off _ (by simp; omega)]
    unfold splice
    apply List.ext_getElem?
    intro i
    have hk : off + k < cs.length := by omega
    have e1 : (cs.set (off + k) v).take (off + (k + 1)) = cs.take (off + k) ++ [v] := by
      rw [← Nat.add_assoc, List.take_add_one]
      simp [List.take_set_of_le, hk]
    have e2 : (cs.set (off + k) v).drop (off + (k + 1) + r.length) = cs.drop (off + k + (v :: r).length) := by
      rw [List.drop_set_of_lt (by omega)]
      simp only [List.length_cons]
      congr 1; omega
    rw [e1, e2]
    simp

theorem put_arr (vs cs : List Value) (off : Nat) (h : off + vs.length ≤ cs.length) : vs.toArray.zipIdx.foldl (fun cs (c, j) => cs.setIfInBounds (off + j) c) cs.toArray = (splice cs off vs).toArray := by
  have := put_list vs 0 off cs (by simpa using h)
  apply Array.toList_inj.1
  rw [Nat.add_zero] at this
  rw [← Array.foldl_toList, Array.toList_zipIdx]
  exact this

/-- The cells of a write of noughts. -/
def zwr : List Value := .int .i64 0 :: .int .i64 0 :: zer.map (Value.int .u8)
theorem zero86 : (Tryz.prog.info? 437).bind (·.zero) = some (.agg zwr.toArray) := by kernel_rfl
theorem fill_step (place : Nat → Option (Nat × Nat)) (cs vs : List Value) (i off sz : Nat) (v : Value) (rest : List (Nat × Value)) (hp : place i = some (off, sz)) (hv : v.cells = vs.toArray) (hs : vs.length = sz) (hl : off + sz ≤ cs.length) :
    Instr.fill place cs.toArray ((i, v) :: rest) = Instr.fill place (splice cs off vs).toArray rest := by
  rw [Instr.fill, hp]
  simp only [hv, List.size_toArray]
  rw [if_neg (by simp [hs]; omega), put_arr vs cs off (by omega)]

theorem zwr_len : zwr.length = 130 := by simp [zwr, zer]

theorem built86 (x : Wr) (h : Sect x.bytes) : Tryz.prog.built 437 [(0, .int .i64 x.id), (1, .int .i64 (x.block : Int)), (2, .agg (secA x.bytes))] = some (wrA x) := by
  obtain ⟨it, hit, hz⟩ := Option.bind_eq_some_iff.1 zero86
  have hp : List.mapM (fun f : Field => Option.map (fun i => (f.offset, i.size)) (Tryz.prog.info? f.type))
        [{ name := "id", type := 3, offset := 0, embedded := false, tag := "", pkgPath := "bollard/disk",
            byteOffset := 0 },
          { name := "block", type := 3, offset := 1, embedded := false, tag := "", pkgPath := "bollard/disk",
            byteOffset := 8 },
          { name := "bytes", type := 294, offset := 2, embedded := false, tag := "", pkgPath := "bollard/disk",
            byteOffset := 16 }] = some [(0, 1), (1, 1), (2, 128)] := by kernel_rfl
  have hx := h.1
  unfold Program.built
  rw [hit, Tryz.underlying437]
  simp only [hz, hp]
  show Instr.fill _ zwr.toArray _ = _
  rw [fill_step _ zwr [.int .i64 x.id] 0 0 1 _ _ rfl rfl rfl (by rw [zwr_len]; omega)]
  have e1 : splice zwr 0 [.int .i64 x.id] = .int .i64 x.id :: .int .i64 0 :: zer.map (Value.int .u8) := by simp [splice, zwr]
  rw [e1, fill_step _ _ [.int .i64 (x.block : Int)] 1 1 1 _ _ rfl rfl rfl (by simp [zer])]
  have e2 : splice (Value.int .i64 x.id :: .int .i64 0 :: zer.map (Value.int .u8)) 1 [.int .i64 (x.block : Int)] = .int .i64 x.id :: .int .i64 (x.block : Int) :: zer.map (Value.int .u8) := by simp [splice]
  rw [e2, fill_step _ _ (x.bytes.map (Value.int .u8)) 2 2 128 _ _ rfl rfl (by simpa using hx) (by simp [zer])]
  have e3 : splice (Value.int .i64 x.id :: .int .i64 (x.block : Int) :: zer.map (Value.int .u8)) 2 (x.bytes.map (Value.int .u8)) = x.cells := by
    simp [splice, Wr.cells, hx, zer]
  rw [e3]
  rfl

theorem build_wr (x : Wr) (h : Sect x.bytes) (w : World) : (Instr.build 437 #[(0, .int .i64 x.id), (1, .int .i64 (x.block : Int)), (2, .agg (secA x.bytes))]).run Tryz.prog w = .ok (.agg (wrA x)) w :=
  run_build w 437 _ _ (built86 x h)

theorem splice_whole (cs vs : List Value) (h : vs.length = cs.length) : splice cs 0 vs = vs := by simp [splice, h]

theorem buildSlice_wr (x : Wr) (h : Sect x.bytes) (w : World) : (Instr.buildSlice 200 1 #[(0, .agg (wrA x))]).run Tryz.prog w = .ok (.slice (some ⟨w.heap.size, 0, none⟩) 1 1) (w.alloc (.cells (wrA x) 437)) := by
  obtain ⟨it, hit, hz⟩ := Option.bind_eq_some_iff.1 zero86
  have hs : it.size = 130 := by have := info86; rw [hit] at this; simpa using this
  have hl := cells_len x h
  have hsz : (sizeOf 437).run Tryz.prog w = .ok 130 w := by simp [sizeOf, typeInfo, hit, hs]
  have hzr : (zeroValue 437).run Tryz.prog w = .ok (.agg zwr.toArray) w := by simp [zeroValue, typeInfo, hit, hz]
  have hf : ∀ cs : Array Value, cs.size = 130 → Instr.fill (fun i => some (i * 130, 130)) cs [(0, .agg (wrA x))] = some (wrA x) := by
    intro cs hcl
    have e : cs = cs.toList.toArray := by simp
    rw [e, fill_step _ cs.toList x.cells 0 0 130 _ _ (by simp) rfl hl (by simp [hcl]), splice_whole _ _ (by rw [hl]; simp [hcl])]
    rfl
  simp [Instr.buildSlice, run_underlying Tryz.underlying200, hsz, newRow]
  rw [hf _ (by simp)]
  simp
end Go.Proofs.YthdlpeejmmobmaaGreat
