/- disk.Of: a disk of an image. -/
import Derived.Test.YtemhhgpgpjiijaaRefNew
import Derived.Test.YtemhhgpgpjiijaaComplete
namespace Go.Proofs.Ytemhhgpgpjiijaa
open Go.RowKit Go.Maps

/-- The first j blocks of an image. -/
def part (L : List (List Int)) (j : Nat) : Nat → List Int := fun i => if i < j then L.getD i zer else zer

theorem part_step (L : List (List Int)) (j : Nat) (xs : List Int) (h : L[j]? = some xs) : upd (part L j) j xs = part L (j + 1) := by
  funext i
  unfold upd part
  by_cases e : i = j
  · subst e
    rw [if_pos rfl, if_pos (by omega), List.getD_eq_getElem?_getD, h]
    rfl
  · rw [if_neg e]
    by_cases hi : i < j
    · rw [if_pos hi, if_pos (by omega)]
    · rw [if_neg hi, if_neg (by omega)]

theorem part_zero (L : List (List Int)) : part L 0 = fun _ => zer := by
  funext i
  simp [part]

set_option maxHeartbeats 400000 in
theorem of_range (p : Option Addr) (n c : Nat) (hn : n < 1 ∨ 2048 < n) (w : World) : Calls Try.prog 18 #[.slice p n c] w fun e w' => e = .returned (.tuple #[.pointer none, .int .i64 1]) ∧ w' = w := by
  have hc := new_arg (n : Int) (by omega) w
  go_enter Try.func18, Try.ntmps18
  go_wp2_with fail
  refine same_at hc ?_
  go_wp2
  go_ret2
  exact ⟨rfl, rfl⟩

set_option maxRecDepth 10000 in
set_option maxHeartbeats 2000000 in
theorem of_ok (p : Option Addr) (n c : Nat) (L : List (List Int)) (w : World) (h : IB w p n L) (h1 : 1 ≤ n) (h2 : n ≤ 2048) : Calls Try.prog 18 #[.slice p n c] w fun e w' => Below w.heap.size w w' ∧ (((∀ xs ∈ L, xs.length = 128) ∧ ∃ a mb fb, e = .returned (.tuple #[.pointer (some ⟨a, 0, none⟩), .int .i64 0]) ∧ DI w.heap.size w' a mb fb (.slice none 0 0) ⟨n, part L n, [], 0, fun _ => 0⟩) ∨ ((∃ xs ∈ L, xs.length ≠ 128) ∧ e = .returned (.tuple #[.pointer none, .int .i64 1]))) := by
  have hlen := h.len
  go_enter Try.func18, Try.ntmps18
  go_wp2_with fail
  refine (new_ok n h1 h2 w).mono ?_
  rintro e w1 ⟨a, mb, fb, rfl, hd1, hb1⟩
  rw [← part_zero L] at hd1
  go_wp2_with fail
  go_loopw [19] (fun i wr => ∃ j : Nat, j ≤ n ∧ i = .int .i64 (j : Int) ∧ DI w.heap.size wr a mb fb (.slice none 0 0) ⟨n, part L j, [], 0, fun _ => 0⟩ ∧ (∀ xs ∈ L.take j, xs.length = 128) ∧ Below w.heap.size w wr) (fun i _ => n - (intOf i).toNat)
  case atStart => exact ⟨0, by omega, rfl, hd1, by simp, hb1⟩
  case round =>
    clear hd1 hb1
    obtain ⟨j, hj, rfl, hd, hall, hb⟩ := hrel
    by_cases hlt : j < n
    · obtain ⟨bb, oo, rfl, hic⟩ := h.cells (by omega)
      obtain ⟨xs, hxs⟩ : ∃ xs, L[j]? = some xs := ⟨L[j], List.getElem?_eq_getElem (by omega)⟩
      obtain ⟨q, m, d, hcell, hbi⟩ := hic j xs hxs
      have hcell' := (hb.cell (p := ⟨bb, oo + j, none⟩) (lt_of_cell hcell)).trans hcell
      have hbi' := hbi.kept hb
      have hml := hbi.len
      clear hic hcell
      have hjI : (j : Int) < (n : Int) := by omega
      by_cases hm : m = 128
      · subst hm
        have hsx : Sect xs := ⟨hml, hbi.byt⟩
        have hdd := hd.later (Below.refl _ _).drew
        have c1 := hdd.c1
        have hbid := hbi'.kept (Below.refl _ _).drew
        go_wp2_with fail
        go_region_held3 (fun w' => w'.cell? ⟨a, 1, none⟩ = some (.map (some mb))) (first | exact c1 | exact c1' | exact c1'')
          ((go_at_call 41; refine Calls.mono (sectorOf_ok _ d xs _ hbid) ?_; rintro e w3 ⟨rfl, hb3⟩; have hd3 := hdd.later hb3; have c1' := hd3.c1; obtain ⟨w4, hrun, hs4, hg4⟩ := hd3.secs.update h2 j hlt xs hsx; have hd4 := hd3.turnSec hs4 hg4; have c1'' := hd4.c1))
        have hbw := (hb.drew.trans (hb3.mono hb.size)).grown hg4 (Nat.le_trans hb.size hb3.size) (fun k hk => by cases hk; exact hd.lo.2.1)
        rw [part_step L j xs hxs] at hd4
        clear c1 c1' c1'' hrun hs4 hg4 hd3 hdd
        go_wp2
        go_roundw
        case rel =>
          refine ⟨j + 1, by omega, by go_num, hd4, fun ys hy => ?_, hbw⟩
          rw [List.take_add_one, hxs] at hy
          rcases List.mem_append.1 hy with h' | h'
          · exact hall ys h'
          · simp at h'
            subst h'
            exact hml
        case measure => simp [intOf]; omega
      · have hmI : ¬ (m : Int) = 128 := by omega
        go_wp2
        go_ret2
        exact ⟨hb, .inr ⟨⟨xs, List.mem_of_getElem? hxs, by omega⟩, rfl⟩⟩
    · obtain rfl : n = j := by omega
      rw [List.take_of_length_le (by omega)] at hall
      go_wp2
      go_ret2
      exact ⟨hb, .inl ⟨hall, _, _, _, rfl, hd⟩⟩
end Go.Proofs.Ytemhhgpgpjiijaa
