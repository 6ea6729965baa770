/- ForeBytes: the walk. -/
import Derived.Test.YtknklopohdmncaaFG
namespace Go.Proofs.Ytknklopohdmncaa
open Go.RowKit Go.Maps

set_option maxRecDepth 10000 in
set_option maxHeartbeats 1000000 in
theorem fblocks_no (p : Option Addr) (n c : Nat) (w : World) (h : n = 0 ∨ n % 128 ≠ 0 ∨ 2048 < n / 128) (hn : n ≤ 140737488355328) :
    Calls Try.prog 5 #[.slice p n c] w fun e w' => e = .returned (.tuple #[.slice none 0 0, .int .i64 220]) ∧ w' = w := by
  by_cases h0 : n = 0
  · subst h0
    go_enter Try.func5, Try.ntmps5
    go_wp2
    go_ret2
    exact ⟨rfl, rfl⟩
  · have h0I : ¬ (n : Int) = 0 := by omega
    by_cases h1 : n % 128 = 0
    · have h2 : 2048 < n / 128 := by omega
      have h1I : Int.tmod (n : Int) 128 = 0 := by rw [Int.tmod_eq_emod_of_nonneg (by omega)]; omega
      have h2I : (262144 : Int) < (n : Int) := by omega
      go_enter Try.func5, Try.ntmps5
      go_wp2
      go_ret2
      exact ⟨rfl, rfl⟩
    · have h1I : ¬ Int.tmod (n : Int) 128 = 0 := by rw [Int.tmod_eq_emod_of_nonneg (by omega)]; omega
      go_enter Try.func5, Try.ntmps5
      go_wp2
      go_ret2
      exact ⟨rfl, rfl⟩

theorem BI.frame {X : Nat → Prop} {w w' : World} {p : Option Addr} {n : Nat} {xs : List Int} (h : BI w p n xs) (hf : Frame X w w') (hx : ∀ a, p = some a → ¬ X a.block) : BI w' p n xs := by
  refine ⟨h.len, h.big, h.byt, fun hn => ?_⟩
  obtain ⟨b, o, rfl, hc⟩ := h.cells hn
  refine ⟨b, o, rfl, fun i hi => ?_⟩
  have h1 := hc i hi
  have hlt := lt_of_cell h1
  rw [← h1]
  unfold World.cell?
  rw [hf.block b hlt (hx _ rfl)]

theorem cat_bi {B : Nat} {w : World} {v : Value} {L : List (List Int)} (h : Cat B w v L) (hb : Num.Byt (cat L)) (ht : tot L ≤ 1048576) : ∃ p c, v = .slice p (tot L) c ∧ BI w p (tot L) (cat L) := by
  obtain ⟨p, c, rfl, _⟩ := row_case h
  exact ⟨p, c, rfl, own_bi h (by omega) hb⟩

theorem byt_app {xs ys : List Int} (h : Num.Byt xs) (k : Num.Byt ys) : Num.Byt (xs ++ ys) := by
  intro i
  rw [List.getD_eq_getElem?_getD]
  by_cases hi : i < xs.length
  · rw [List.getElem?_append_left hi]
    have := h i
    rwa [List.getD_eq_getElem?_getD] at this
  · rw [List.getElem?_append_right (by omega)]
    have := k (i - xs.length)
    rwa [List.getD_eq_getElem?_getD] at this

theorem cat_byt : ∀ (L : List (List Int)), (∀ x ∈ L, Num.Byt x) → Num.Byt (cat L)
  | [], _ => fun i => by simp [cat]
  | x :: L, h => by
    have : cat (x :: L) = x ++ cat L := by simp [cat]
    rw [this]
    exact byt_app (h x (List.mem_cons_self ..)) (cat_byt L (fun y hy => h y (List.mem_cons_of_mem _ hy)))

theorem IC.byt {w : World} {p : Option Addr} {n : Nat} {L : List (List Int)} (h : IC w p n L) : Num.Byt (cat L) := by
  refine cat_byt L (fun x hx => ?_)
  obtain ⟨i, hi, rfl⟩ := List.getElem_of_mem hx
  have hl := h.len
  obtain ⟨b, o, _, hc⟩ := h.cells (by omega)
  obtain ⟨_, _, _, _, hb, _⟩ := hc i _ (List.getElem?_eq_getElem hi)
  exact hb.byt
end Go.Proofs.Ytknklopohdmncaa
