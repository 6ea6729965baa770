/- Image Same RefNew DOf VVoid VNew -/
import Derived.Test.YtomkhipdcjnkhaaGreatFb04
import Derived.Deep.RegionHeld3

/- Images: a list of blocks, each a list of bytes of its own. -/
namespace Go.Proofs.YtomkhipdcjnkhaaGreat
open Go.RowKit Go.Maps

/-- A whole block's bytes as a slice. -/
def sl (g : Nat) : Value := .slice (some ⟨g, 0, none⟩) 128 128
theorem info30 : (Tryz.prog.info? 38).map (fun i => (i.zero, i.size, i.bytes)) = some (some (.slice none 0 0), 1, 24) := by kernel_rfl

/-- Block g holds n slices, of the blocks gs, whose bytes are L. -/
structure Img (B : Nat) (w : World) (g n : Nat) (gs : List Nat) (L : Nat → List Int) : Prop where
  row : w.ownsRow B 38 1 (.slice (some ⟨g, 0, none⟩) n n) n (gs.map sl)
  el : ∀ i, i < n → Own B w (gs.getD i 0) 128 128 (L i)

theorem Img.len {B : Nat} {w : World} {g n : Nat} {gs : List Nat} {L : Nat → List Int} (h : Img B w g n gs L) : gs.length = n := by
  have := h.row.1; simpa using this

theorem Img.kept {B : Nat} {w w' : World} {g n : Nat} {gs : List Nat} {L : Nat → List Int} (h : Img B w g n gs L) (hb : ∀ k, B ≤ k → k < w.heap.size → w'.heap[k]? = w.heap[k]?) : Img B w' g n gs L := by
  refine ⟨ownsRow_kept h.row (fun k hk => ?_), fun i hi => ownsRow_kept (h.el i hi) (fun k hk => ?_)⟩
  · have := h.row.lt k hk
    exact hb k this.1 this.2
  · have := World.ownsRow.lt (h.el i hi) k hk
    exact hb k this.1 this.2

theorem Img.base {B B' : Nat} {w : World} {g n : Nat} {gs : List Nat} {L : Nat → List Int} (h : Img B w g n gs L) (hB : B' ≤ B) : Img B' w g n gs L := by
  refine ⟨⟨h.row.1, ?_⟩, fun i hi => (h.el i hi).base hB⟩
  rcases h.row.2 with ⟨h', _⟩ | ⟨g', cap', cur, h', hbg, rest⟩
  · simp at h'
  · exact .inr ⟨g', cap', cur, h', by omega, rest⟩

theorem made_list (z : Value) (n : Nat) (hz : z.cells = #[z]) : (madeCells z.cells (n * 1)).toList = List.replicate n z := by
  rw [hz]
  apply List.ext_getElem
  · simp [madeCells]
  · intro i h1 h2
    simp [madeCells, Nat.mod_one]

theorem set_mid (gs : List Nat) (N : Nat) (g : Nat) (h : gs.length < N) : (gs.map sl ++ List.replicate (N - gs.length) (Value.slice none 0 0)).set gs.length (sl g) = (gs ++ [g]).map sl ++ List.replicate (N - (gs.length + 1)) (Value.slice none 0 0) := by
  obtain ⟨m, hm⟩ : ∃ m, N - gs.length = m + 1 := ⟨N - gs.length - 1, by omega⟩
  have hm' : N - (gs.length + 1) = m := by omega
  rw [hm, hm', List.set_append_right _ _ (by simp)]
  simp [List.replicate_succ]

/-- Rows of two types are two blocks. -/
theorem rows_ne {w : World} {B B' : Nat} {e e' : TypeId} {s s' : Nat} {g g' n c n' c' : Nat} {L L' : List Value} (h : w.ownsRow B e s (.slice (some ⟨g, 0, none⟩) n c) n L) (h' : w.ownsRow B' e' s' (.slice (some ⟨g', 0, none⟩) n' c') n' L') (hne : e ≠ e') : g ≠ g' := by
  rintro rfl
  rcases h.2 with ⟨k, _⟩ | ⟨g1, cap1, cur1, k, _, hg1, _⟩
  · simp at k
  rcases h'.2 with ⟨k', _⟩ | ⟨g2, cap2, cur2, k', _, hg2, _⟩
  · simp at k'
  simp only [Value.slice.injEq, Option.some.injEq, Addr.mk.injEq, and_true, true_and] at k k'
  obtain ⟨rfl, _⟩ := k
  obtain ⟨rfl, _⟩ := k'
  rw [hg1] at hg2
  simp only [Option.some.injEq, Obj.cells.injEq] at hg2
  exact hne hg2.2.1

theorem Own.setOther {B : Nat} {w : World} {g n cap : Nat} {xs : List Int} (h : Own B w g n cap xs) {k j : Nat} (hne : g ≠ k) (u : Value) : Own B (w.setCell ⟨k, j, none⟩ u) g n cap xs :=
  ownsRow_kept h (fun i hi => by cases hi; exact Below.heap_setCell w ⟨k, j, none⟩ u g hne)

end Go.Proofs.YtomkhipdcjnkhaaGreat

/- A new disk; images compared. -/
namespace Go.Proofs.YtomkhipdcjnkhaaGreat
open Go.RowKit Go.Maps

set_option maxHeartbeats 400000 in
theorem new_ok (n : Nat) (h1 : 1 ≤ n) (h2 : n ≤ 2048) (w : World) : Calls Tryz.prog 214 #[.int .i64 (n : Int)] w fun e w' => ∃ a mb fb, e = .returned (.tuple #[.pointer (some ⟨a, 0, none⟩), .int .i64 0]) ∧ DI w.heap.size w' a mb fb (.slice none 0 0) ⟨n, fun _ => zer, [], 0, fun _ => 0⟩ ∧ Below w.heap.size w w' := by
  have hmm := @run_makeMap Tryz.prog
  have hi1 : (1 : Int) ≤ (n : Int) := by omega
  have hi2 : (n : Int) ≤ 2048 := by omega
  go_enter Tryz.func214, Tryz.ntmps214
  go_wp2
  go_ret2
  refine ⟨w.heap.size + 1 + 1, w.heap.size, w.heap.size + 1, rfl, ?_, ?_⟩
  · refine { row := at_new (by simp), secs := (secs_made w n).kept ?_, que := World.ownsRow_nil _ _ _ _, fls := ?_, lo := ⟨by omega, by omega, by omega⟩, ne := by omega, N1 := h1, N2 := h2, q64 := by simp, qok := by simp, lok := by simp }
    · rw [Below.heap_alloc _ _ _ (by simp; omega), Below.heap_alloc _ _ _ (by simp)]
    · have := fls_made (w.alloc (.map #[] 0)) n
      simp only [World.size_alloc] at this
      exact this.kept (Below.heap_alloc _ _ _ (by simp))
  · exact (((Below.refl _ _).alloc (Nat.le_refl _) _).alloc (by simp) _).alloc (by simp; omega) _

/-- The slice at p, of n slices of bytes, holds L. -/
structure IB (w : World) (p : Option Addr) (n : Nat) (L : List (List Int)) : Prop where
  len : L.length = n
  big : n ≤ 140737488355328
  cells : 0 < n → ∃ b o, p = some ⟨b, o, none⟩ ∧ ∀ i x, L[i]? = some x → ∃ q m c, w.cell? ⟨b, o + i, none⟩ = some (.slice q m c) ∧ BI w q m x

theorem call22 (args : Array Value) (w : World) : (callFunc 224 args).run Tryz.prog w = .ok (.enter 224 args) w := by kernel_rfl

/-- The bytes of blocks 0 to n - 1. -/
def imgL (f : Nat → List Int) (n : Nat) : List (List Int) := (List.range n).map f

theorem Img.ib {B : Nat} {w : World} {g n : Nat} {gs : List Nat} {L : Nat → List Int} (h : Img B w g n gs L) (hn : n ≤ 2048) (hs : ∀ i, i < n → Num.Byt (L i)) : IB w (some ⟨g, 0, none⟩) n (imgL L n) := by
  refine ⟨by simp [imgL], by omega, fun _ => ⟨g, 0, rfl, fun i x hx => ?_⟩⟩
  have hi : i < n := by have := (List.getElem?_eq_some_iff.1 hx).1; simpa [imgL] using this
  have ex : x = L i := by simpa [imgL, hi] using hx.symm
  subst ex
  refine ⟨some ⟨gs.getD i 0, 0, none⟩, 128, 128, ?_, (h.el i hi).bi (by omega) (hs i hi)⟩
  have hl := h.len
  rw [Nat.zero_add, h.row.cellAt i (by omega), List.getElem?_map, List.getD_eq_getElem?_getD, List.getElem?_eq_getElem (by omega)]
  rfl
end Go.Proofs.YtomkhipdcjnkhaaGreat

/- The document's disk: New. -/
namespace Go.Proofs.YtomkhipdcjnkhaaGreat
open Go.RowKit Go.Maps

set_option maxHeartbeats 400000 in
theorem new_arg (n : Int) (h : n < 1 ∨ 2048 < n) (w : World) : Calls Tryz.prog 214 #[.int .i64 n] w fun e w' => e = .returned (.tuple #[.pointer none, .int .i64 1]) ∧ w' = w := by
  by_cases h1 : n < 1
  · go_enter Tryz.func214, Tryz.ntmps214
    go_wp2
    go_ret2
    exact ⟨rfl, rfl⟩
  · have h2 : 2048 < n := by omega
    go_enter Tryz.func214, Tryz.ntmps214
    go_wp2
    go_ret2
    exact ⟨rfl, rfl⟩

section
variable {B : Nat} {w w' : World} {x n j : Nat} {bv fv : Value} {gB : List (Nat × Nat)} {L : Nat → List Int}

end

end Go.Proofs.YtomkhipdcjnkhaaGreat

/- disk.Of: a disk of an image. -/
namespace Go.Proofs.YtomkhipdcjnkhaaGreat
open Go.RowKit Go.Maps
set_option linter.unusedVariables false

theorem DI.apartO {B : Nat} {w : World} {a mb fb : Nat} {qv : Value} {S : St} (h : DI B w a mb fb qv S) : a ≠ mb ∧ a ≠ fb ∧ qv.ownBlock ≠ some a ∧ qv.ownBlock ≠ some mb ∧ qv.ownBlock ≠ some fb := by
  have hr := h.row
  obtain ⟨D, ⟨es, ck, hm, _⟩, _⟩ := h.secs.ex
  obtain ⟨D', ⟨es', ck', hf, _⟩, _⟩ := h.fls.ex
  refine ⟨?_, ?_, ?_⟩
  · rintro rfl; rw [hr] at hm; cases hm
  · rintro rfl; rw [hr] at hf; cases hf
  rcases h.que.2 with ⟨rfl, _⟩ | ⟨g, cap, cur, rfl, _, hg, _⟩
  · simp [Value.ownBlock]
  · simp only [Value.ownBlock, ne_eq, Option.some.injEq]
    refine ⟨?_, ?_, ?_⟩
    · rintro rfl; rw [hr] at hg; simp at hg
    · rintro rfl; rw [hm] at hg; cases hg
    · rintro rfl; rw [hf] at hg; cases hg

theorem DI.turnSecO {B : Nat} {w : World} {a mb fb : Nat} {qv : Value} {S : St} (h : DI B w a mb fb qv S) {w' : World} {f' : Nat → List Int} (hs : Secs w' mb S.N f') (hg : w.grownBy w' (some mb)) : DI B w' a mb fb qv { S with f := f' } := by
  obtain ⟨n1, n2, n3, n4, n5⟩ := h.apartO
  have ho : ∀ k, k < w.heap.size → k ≠ mb → w'.heap[k]? = w.heap[k]? := fun k hk h1 => hg.block k hk (by simpa using h1)
  exact { row := (ho a (Array.getElem?_eq_some_iff.1 h.row).1 n1).trans h.row, secs := hs, que := ownsRow_kept h.que (fun k hk => ho k (h.que.lt k hk).2 (by rintro rfl; exact n4 hk)), fls := h.fls.kept (ho fb h.fls.lt h.ne.symm), lo := h.lo, ne := h.ne, N1 := h.N1, N2 := h.N2, q64 := h.q64, qok := h.qok, lok := h.lok }

/-- The first j blocks of an image. -/
def part (L : List (List Int)) (j : Nat) : Nat → List Int := fun i => if i < j then L.getD i zer else zer

theorem part_step (L : List (List Int)) (j : Nat) (xs : List Int) (h : L[j]? = some xs) : upd (part L j) j xs = part L (j + 1) := by
  funext i
  unfold upd part
  by_cases e : i = j
  · subst e
    rw [if_pos rfl, if_pos (by omega), List.getD_eq_getElem?_getD, h]
    rfl
  · rw [if_neg e]
    by_cases hi : i < j
    · rw [if_pos hi, if_pos (by omega)]
    · rw [if_neg hi, if_neg (by omega)]

theorem part_zero (L : List (List Int)) : part L 0 = fun _ => zer := by
  funext i
  simp [part]

set_option maxHeartbeats 400000 in
theorem of_range (p : Option Addr) (n c : Nat) (hn : n < 1 ∨ 2048 < n) (w : World) : Calls Tryz.prog 119 #[.slice p n c] w fun e w' => e = .returned (.tuple #[.pointer none, .int .i64 1]) ∧ w' = w := by
  have hc := new_arg (n : Int) (by omega) w
  go_enter Tryz.func119, Tryz.ntmps119
  go_wp2_with fail
  refine same_at hc ?_
  go_wp2
  go_ret2
  exact ⟨rfl, rfl⟩

set_option maxRecDepth 10000 in
set_option maxHeartbeats 2000000 in
theorem of_ok (p : Option Addr) (n c : Nat) (L : List (List Int)) (w : World) (h : IB w p n L) (h1 : 1 ≤ n) (h2 : n ≤ 2048) : Calls Tryz.prog 119 #[.slice p n c] w fun e w' => Below w.heap.size w w' ∧ (((∀ xs ∈ L, xs.length = 128) ∧ ∃ a mb fb, e = .returned (.tuple #[.pointer (some ⟨a, 0, none⟩), .int .i64 0]) ∧ DI w.heap.size w' a mb fb (.slice none 0 0) ⟨n, part L n, [], 0, fun _ => 0⟩) ∨ ((∃ xs ∈ L, xs.length ≠ 128) ∧ e = .returned (.tuple #[.pointer none, .int .i64 1]))) := by
  have hlen := h.len
  go_enter Tryz.func119, Tryz.ntmps119
  go_wp2_with fail
  refine (new_ok n h1 h2 w).mono ?_
  rintro e w1 ⟨a, mb, fb, rfl, hd1, hb1⟩
  rw [← part_zero L] at hd1
  go_wp2_with fail
  go_loopw [19] (fun i wr => ∃ j : Nat, j ≤ n ∧ i = .int .i64 (j : Int) ∧ DI w.heap.size wr a mb fb (.slice none 0 0) ⟨n, part L j, [], 0, fun _ => 0⟩ ∧ (∀ xs ∈ L.take j, xs.length = 128) ∧ Below w.heap.size w wr) (fun i _ => n - (intOf i).toNat)
  case atStart => exact ⟨0, by omega, rfl, hd1, by simp, hb1⟩
  case round =>
    clear hd1 hb1
    obtain ⟨j, hj, rfl, hd, hall, hb⟩ := hrel
    by_cases hlt : j < n
    · obtain ⟨bb, oo, rfl, hic⟩ := h.cells (by omega)
      obtain ⟨xs, hxs⟩ : ∃ xs, L[j]? = some xs := ⟨L[j], List.getElem?_eq_getElem (by omega)⟩
      obtain ⟨q, m, d, hcell, hbi⟩ := hic j xs hxs
      have hcell' := (hb.cell (p := ⟨bb, oo + j, none⟩) (lt_of_cell hcell)).trans hcell
      have hbi' := hbi.kept hb
      have hml := hbi.len
      clear hic hcell
      have hjI : (j : Int) < (n : Int) := by omega
      by_cases hm : m = 128
      · subst hm
        have hsx : Sect xs := ⟨hml, hbi.byt⟩
        have hdd := hd.later (Below.refl _ _).drew
        have c1 := hdd.c1
        have hbid := hbi'.kept (Below.refl _ _).drew
        go_wp2_with fail
        go_region_held3 (fun w' => w'.cell? ⟨a, 1, none⟩ = some (.map (some mb))) (first | exact c1 | exact c1' | exact c1'')
          ((go_at_call 215; refine Calls.mono (sectorOf_ok _ d xs _ hbid) ?_; rintro e w3 ⟨rfl, hb3⟩; have hd3 := hdd.later hb3; have c1' := hd3.c1; obtain ⟨w4, hrun, hs4, hg4⟩ := hd3.secs.update h2 j hlt xs hsx; have hd4 := hd3.turnSecO hs4 hg4; have c1'' := hd4.c1))
        have hbw := (hb.drew.trans (hb3.mono hb.size)).grown hg4 (Nat.le_trans hb.size hb3.size) (fun k hk => by cases hk; exact hd.lo.2.1)
        rw [part_step L j xs hxs] at hd4
        clear c1 c1' c1'' hrun hs4 hg4 hd3 hdd
        go_wp2
        go_roundw
        case rel =>
          refine ⟨j + 1, by omega, by go_num, hd4, fun ys hy => ?_, hbw⟩
          rw [List.take_add_one, hxs] at hy
          rcases List.mem_append.1 hy with h' | h'
          · exact hall ys h'
          · simp at h'
            subst h'
            exact hml
        case measure => simp [intOf]; omega
      · have hmI : ¬ (m : Int) = 128 := by omega
        go_wp2
        go_ret2
        exact ⟨hb, .inr ⟨⟨xs, List.mem_of_getElem? hxs, by omega⟩, rfl⟩⟩
    · obtain rfl : n = j := by omega
      rw [List.take_of_length_le (by omega)] at hall
      go_wp2
      go_ret2
      exact ⟨hb, .inl ⟨hall, _, _, _, rfl, hd⟩⟩
end Go.Proofs.YtomkhipdcjnkhaaGreat

/- A volume that no call made. -/
namespace Go.Proofs.YtomkhipdcjnkhaaGreat
open Go.RowKit
set_option linter.unusedVariables false

/-- v stands for a volume that no call made. -/
def VVoid (w : World) (v : Value) : Prop := v = .pointer none ∨ ∃ z, v = .pointer (some ⟨z, 0, none⟩) ∧ w.cell? ⟨z, 2, none⟩ = some (.pointer none)

section
variable {w : World} {v : Value}
set_option maxHeartbeats 400000 in
theorem vmade_void (h : VVoid w v) : Calls Tryz.prog 111 #[v] w fun e w' => e = .returned (.bool false) ∧ w' = w := by
  rcases h with rfl | ⟨z, rfl, hc⟩
  · go_enter Tryz.func111, Tryz.ntmps111
    go_wp2
    go_ret
    exact ⟨rfl, rfl⟩
  · go_enter Tryz.func111, Tryz.ntmps111
    go_wp2
    go_ret
    exact ⟨rfl, rfl⟩
set_option maxHeartbeats 400000 in
theorem vread_void (h : VVoid w v) (b : Int) : Calls Tryz.prog 60 #[v, .int .i64 b] w fun e w' => e = .returned (.tuple #[.slice none 0 0, .int .i64 2]) ∧ w' = w := by
  have hm := vmade_void h
  go_enter Tryz.func60, Tryz.ntmps60
  go_wp2_with (first | (go_at_call 111; refine same_at hm ?_))
  go_ret2
  exact ⟨rfl, rfl⟩
set_option maxHeartbeats 400000 in
theorem vchange_void (h : VVoid w v) (b : Int) (s : Value) : Calls Tryz.prog 155 #[v, .int .i64 b, .int .i64 0, s, .slice none 0 0] w fun e w' => e = .returned (.tuple #[.int .i64 0, .int .i64 2]) ∧ w' = w := by
  have hm := vmade_void h
  go_enter Tryz.func155, Tryz.ntmps155
  go_wp2_with (first | (go_at_call 111; refine same_at hm ?_))
  go_ret2
  exact ⟨rfl, rfl⟩
set_option maxHeartbeats 400000 in
theorem vold_void (h : VVoid w v) (b : Int) : Calls Tryz.prog 106 #[v, .int .i64 b] w fun e w' => e = .returned (.tuple #[.slice none 0 0, .int .i64 2]) ∧ w' = w := by
  have hm := vmade_void h
  go_enter Tryz.func106, Tryz.ntmps106
  go_wp2_with (first | (go_at_call 111; refine same_at hm ?_))
  go_ret2
  exact ⟨rfl, rfl⟩
set_option maxHeartbeats 400000 in
theorem vundo_void (h : VVoid w v) (b : Int) : Calls Tryz.prog 142 #[v, .int .i64 b] w fun e w' => e = .returned (.int .i64 2) ∧ w' = w := by
  have hm := vmade_void h
  go_enter Tryz.func142, Tryz.ntmps142
  go_wp2_with (first | (go_at_call 111; refine same_at hm ?_))
  go_ret
  exact ⟨rfl, rfl⟩
set_option maxHeartbeats 400000 in
theorem vfreeze_void (h : VVoid w v) (b : Int) : Calls Tryz.prog 55 #[v, .int .i64 b] w fun e w' => e = .returned (.int .i64 2) ∧ w' = w := by
  have hm := vmade_void h
  go_enter Tryz.func55, Tryz.ntmps55
  go_wp2_with (first | (go_at_call 111; refine same_at hm ?_))
  go_ret
  exact ⟨rfl, rfl⟩
set_option maxHeartbeats 400000 in
theorem vthaw_void (h : VVoid w v)  : Calls Tryz.prog 108 #[v] w fun e w' => e = .returned (.int .i64 2) ∧ w' = w := by
  have hm := vmade_void h
  go_enter Tryz.func108, Tryz.ntmps108
  go_wp2_with (first | (go_at_call 111; refine same_at hm ?_))
  go_ret
  exact ⟨rfl, rfl⟩
set_option maxHeartbeats 400000 in
theorem vbroken_void (h : VVoid w v)  : Calls Tryz.prog 110 #[v] w fun e w' => e = .returned (.bool false) ∧ w' = w := by
  have hm := vmade_void h
  go_enter Tryz.func110, Tryz.ntmps110
  go_wp2_with (first | (go_at_call 111; refine same_at hm ?_))
  go_ret
  exact ⟨rfl, rfl⟩
set_option maxHeartbeats 400000 in
theorem vkept_void (h : VVoid w v)  : Calls Tryz.prog 109 #[v] w fun e w' => e = .returned (.int .i64 0) ∧ w' = w := by
  have hm := vmade_void h
  go_enter Tryz.func109, Tryz.ntmps109
  go_wp2_with (first | (go_at_call 111; refine same_at hm ?_))
  go_ret
  exact ⟨rfl, rfl⟩
set_option maxHeartbeats 400000 in
theorem vlast_void (h : VVoid w v)  : Calls Tryz.prog 141 #[v] w fun e w' => e = .returned (.int .i64 0) ∧ w' = w := by
  have hm := vmade_void h
  go_enter Tryz.func141, Tryz.ntmps141
  go_wp2_with (first | (go_at_call 111; refine same_at hm ?_))
  go_ret
  exact ⟨rfl, rfl⟩
set_option maxHeartbeats 400000 in
theorem vblocks_void (h : VVoid w v)  : Calls Tryz.prog 53 #[v] w fun e w' => e = .returned (.int .i64 0) ∧ w' = w := by
  have hm := vmade_void h
  go_enter Tryz.func53, Tryz.ntmps53
  go_wp2_with (first | (go_at_call 111; refine same_at hm ?_))
  go_ret
  exact ⟨rfl, rfl⟩
set_option maxHeartbeats 400000 in
theorem vpending_void (h : VVoid w v) (b : Int) : Calls Tryz.prog 171 #[v, .int .i64 b] w fun e w' => e = .returned (.slice none 0 0) ∧ w' = w := by
  have hm := vmade_void h
  go_enter Tryz.func171, Tryz.ntmps171
  go_wp2_with (first | (go_at_call 111; refine same_at hm ?_))
  go_ret
  exact ⟨rfl, rfl⟩
end
end Go.Proofs.YtomkhipdcjnkhaaGreat

/- volume.Open: over no disk, and over a disk. -/
namespace Go.Proofs.YtomkhipdcjnkhaaGreat
open Go.RowKit Go.Maps
set_option linter.unusedVariables false

section
variable {w : World}
set_option maxHeartbeats 400000 in
/-- A cache over no disk: New tells that there is none. -/
theorem cnew_void (d : Value) (bd : Int) (hd : Calls Tryz.prog 112 #[d] w fun e w' => e = .returned (.int .i64 0) ∧ w' = w) : Calls Tryz.prog 218 #[d, .int .i64 bd] w fun e w' => e = .returned (.tuple #[.pointer none, .int .i64 2]) ∧ w' = w := by
  go_enter Tryz.func218, Tryz.ntmps218
  go_wp2_with (first | (go_at_call 112; refine same_at hd ?_))
  go_ret2
  exact ⟨rfl, rfl⟩
set_option maxHeartbeats 400000 in
theorem vopen_void (d : Value) (bd : Int) (hd : Calls Tryz.prog 112 #[d] w fun e w' => e = .returned (.int .i64 0) ∧ w' = w) : Calls Tryz.prog 122 #[d, .int .i64 bd] w fun e w' => e = .returned (.tuple #[.pointer none, .int .i64 2]) ∧ w' = w := by
  have hc := cnew_void d bd hd
  go_enter Tryz.func122, Tryz.ntmps122
  go_wp2_with (first | (go_at_call 218; refine same_at hc ?_))
  go_ret2
  exact ⟨rfl, rfl⟩

/-- What a call that makes a cache, a set of patches leaves: a pointer, and memory that has grown. -/
theorem cnew64_ok {B d dm df : Nat} {dq : Value} {S : St} (h : DI B w d dm df dq S) : Calls Tryz.prog 218 #[.pointer (some ⟨d, 0, none⟩), .int .i64 64] w fun e w' => ∃ c, e = .returned (.tuple #[.pointer (some ⟨c, 0, none⟩), .int .i64 0]) ∧ Below w.heap.size w w' := by
  have hd := blocks_ok h
  have hN := h.N1
  have hN2 : ((S.N : Int) == 0) = false := by rw [beq_eq_false_iff_ne]; omega
  have hN3 : ¬ (S.N : Int) = 0 := by omega
  have hmm := @run_makeMap Tryz.prog
  go_enter Tryz.func218, Tryz.ntmps218
  go_wp2_with (first | (go_at_call 112; refine same_at hd ?_))
  go_ret2
  have hb0 : Below w.heap.size w (w.alloc (.map #[] 0)) := (Below.refl _ w).alloc (Nat.le_refl _) _
  have hb1 := hb0.alloc (show w.heap.size ≤ (w.alloc (.map #[] 0)).heap.size by simp) (.cells #[.pointer (some ⟨d, 0, none⟩), .int .i64 64, .map (some w.heap.size), .int .i64 0, .int .i64 0] 416)
  exact ⟨_, rfl, hb1⟩
set_option maxHeartbeats 400000 in
theorem pnew_ok (w : World) : Calls Tryz.prog 219 #[] w fun e w' => ∃ c, e = .returned (.pointer (some ⟨c, 0, none⟩)) ∧ Below w.heap.size w w' := by
  have hmm := @run_makeMap Tryz.prog
  go_enter Tryz.func219, Tryz.ntmps219
  go_wp2
  go_ret
  refine ⟨_, rfl, ?_⟩
  exact (((Below.refl _ w).alloc (Nat.le_refl _) _).alloc (by simp) _).alloc (by simp; omega) _
set_option maxHeartbeats 400000 in
theorem vopen_ok {B d dm df : Nat} {dq : Value} {S : St} (h : DI B w d dm df dq S) : Calls Tryz.prog 122 #[.pointer (some ⟨d, 0, none⟩), .int .i64 64] w fun e w' => ∃ v, e = .returned (.tuple #[.pointer (some ⟨v, 0, none⟩), .int .i64 0]) ∧ w'.cell? ⟨v, 2, none⟩ = some (.pointer (some ⟨d, 0, none⟩)) ∧ Below w.heap.size w w' := by
  have hc := cnew64_ok h
  have hmm := @run_makeMap Tryz.prog
  go_enter Tryz.func122, Tryz.ntmps122
  go_wp2_with (first | (go_at_call 218; refine Calls.mono hc ?_; rintro e w1 ⟨c, rfl, hb1⟩) | (go_at_call 219; refine Calls.mono (pnew_ok _) ?_; rintro e w2 ⟨p, rfl, hb2⟩))
  go_ret2
  have hb := hb1.trans (hb2.mono hb1.size)
  have hs := hb.size
  refine ⟨w2.heap.size + 1, rfl, ?_, ?_⟩
  · rw [cell_of_row _ _ 2 _ 55 _ (at_new (by simp))]; rfl
  · exact (hb.alloc hs _).alloc (by simp; omega) _
set_option maxHeartbeats 400000 in
theorem vmade_ok {v d : Nat} (hv : w.cell? ⟨v, 2, none⟩ = some (.pointer (some ⟨d, 0, none⟩))) : Calls Tryz.prog 111 #[.pointer (some ⟨v, 0, none⟩)] w fun e w' => e = .returned (.bool true) ∧ w' = w := by
  go_enter Tryz.func111, Tryz.ntmps111
  go_wp2
  go_ret
  exact ⟨rfl, rfl⟩
set_option maxHeartbeats 400000 in
theorem vblocks_ok {v d : Nat} {k : Int} (hv : w.cell? ⟨v, 2, none⟩ = some (.pointer (some ⟨d, 0, none⟩))) (hd : w.cell? ⟨d, 0, none⟩ = some (.int .i64 k)) : Calls Tryz.prog 53 #[.pointer (some ⟨v, 0, none⟩)] w fun e w' => e = .returned (.int .i64 k) ∧ w' = w := by
  have hm := vmade_ok hv
  have hb := blocks_some w d k hd
  go_enter Tryz.func53, Tryz.ntmps53
  go_wp2_with (first | (go_at_call 111; refine same_at hm ?_) | (go_at_call 112; refine same_at hb ?_))
  go_ret
  exact ⟨rfl, rfl⟩
end
end Go.Proofs.YtomkhipdcjnkhaaGreat
