/- Print of a gauge, the document's, as a whole; GaugeOrders. -/
import Derived.Test.YtllcpggdfdnjcabDoorRPrint
import Derived.Test.YtllcpggdfdnjcabDoorRank
namespace Go.Proofs.YtllcpggdfdnjcabDoor
open Go.RowKit
set_option linter.unusedVariables false

theorem empty_append (b : ByteArray) : (⟨#[]⟩ : ByteArray) ++ b = b := by apply ByteArray.ext; simp

set_option maxHeartbeats 2000000 in
set_option maxRecDepth 100000 in
theorem rprint_ok (a : Nat) (ha : a < 18446744073709551616) (w : World) :
    Calls Tryd.prog 9 #[.int .u64 (a : Int)] w fun e w' => e = .returned (.string (prt a)) ∧ Below w.heap.size w w' := by
  have n1 := rfloat_ok (a : Int)
  have n2 : (FloatKind.f64.format.order a a != some .eq) = decide (isN a) := order_self a
  by_cases h1 : isN a
  · have HP : Hid (prt a = ⟨#[110, 97, 110]⟩) := by show prt a = _; unfold prt; rw [if_pos h1]
    rw [decide_eq_true h1] at n2
    go_enter Tryd.func9, Tryd.ntmps9
    go_wp2_with (first | (go_at_call 20; refine same_at (n1 _) ?_))
    go_ret
    exact ⟨by rw [HP.out]; rfl, Below.refl _ _⟩
  rw [decide_eq_false h1] at n2
  have hneg : ∀ w, (Op.unary .neg (.float .f64 a)).run Tryd.prog w = .ok (.float .f64 (Op.negFloat .f64 a)) w := fun w => rfl
  by_cases h2 : a = 9218868437227405312
  · have HP : Hid (prt a = ⟨#[]⟩ ++ ⟨#[105, 110, 102]⟩) := by show prt a = _; unfold prt; rw [if_neg h1, if_pos h2]; rfl
    have hsh : (a : Int) / 9223372036854775808 = 0 := by omega
    have n3 : (FloatKind.f64.format.order a 9218868437227405311 == some .gt) = true := by
      rw [above_top a ha]; exact decide_eq_true h2
    clear h2
    go_enter Tryd.func9, Tryd.ntmps9
    go_wp2_with (first | (go_at_call 20; refine same_at (n1 _) ?_))
    go_ret
    exact ⟨by rw [HP.out]; rfl, Below.refl _ _⟩
  by_cases h3 : a = 18442240474082181120
  · have HP : Hid (prt a = ⟨#[45]⟩ ++ ⟨#[105, 110, 102]⟩) := by show prt a = _; unfold prt; rw [if_neg h1, if_neg h2, if_pos h3]; rfl
    have hsh : (a : Int) / 9223372036854775808 = 1 := by omega
    have hn := negFloat_eq a ha
    have n3 : (FloatKind.f64.format.order (Op.negFloat .f64 a) 9218868437227405311 == some .gt) = true := by
      rw [above_top _ (by rw [hn]; split <;> omega)]; exact decide_eq_true (by rw [hn]; split <;> omega)
    generalize Op.negFloat .f64 a = b at *
    clear h2 h3 hn
    go_enter Tryd.func9, Tryd.ntmps9
    go_wp2_with (first | (go_at_call 20; refine same_at (n1 _) ?_))
    go_ret
    exact ⟨by rw [HP.out]; rfl, Below.refl _ _⟩
  have hf := finite_of a ha h1 h2 h3
  obtain ⟨v, hv, hvl⟩ := mul_thousand (rg a) hf
  have hpt : prt a = if 4845873199050653696 ≤ v then ⟨#[98, 105, 103]⟩ else if 9223372036854775808 ≤ a then ⟨#[45]⟩ ++ pnt (padB (rhe (mg v) U)) else pnt (padB (rhe (mg v) U)) := by
    unfold prt; rw [if_neg h1, if_neg h2, if_neg h3, hv]
  by_cases hb : 4845873199050653696 ≤ v
  · rw [if_pos hb] at hpt
    have HP : Hid _ := hpt
    have hrun := fun (t : TypeId) (w : World) => run_float_arith (P := Tryd.prog) w .mul t .f64 (rg a) 4652007308841189376 v hv
    have n4 : (FloatKind.f64.format.order v 4845873199050653696 == some .lt) = false := by
      rw [order_big v hvl]
      rcases Nat.lt_or_ge 4845873199050653696 v with h | h
      · rw [cmp_gt (by omega)]; rfl
      · rw [cmp_eq (by omega)]; rfl
    have n3 : (FloatKind.f64.format.order (rg a) 9218868437227405311 == some .gt) = false := by
      rw [above_top (rg a) (by omega)]
      exact decide_eq_false (by omega)
    clear hpt hv hvl hb hf h2 h3
    by_cases hs : 9223372036854775808 ≤ a
    · have hsh : (a : Int) / 9223372036854775808 = 1 := by omega
      have hnf : Op.negFloat .f64 a = rg a := by rw [negFloat_eq a ha, if_pos hs]; unfold rg; omega
      clear hs
      go_enter Tryd.func9, Tryd.ntmps9
      go_wp2_with (first | (go_at_call 20; refine same_at (n1 _) ?_))
      go_ret
      exact ⟨by rw [HP.out]; rfl, Below.refl _ _⟩
    · have hsh : (a : Int) / 9223372036854775808 = 0 := by omega
      have hra : rg a = a := by unfold rg; omega
      rw [hra] at n3 hrun
      clear hra hs
      go_enter Tryd.func9, Tryd.ntmps9
      go_wp2_with (first | (go_at_call 20; refine same_at (n1 _) ?_))
      go_ret
      exact ⟨by rw [HP.out]; rfl, Below.refl _ _⟩
  · rw [if_neg hb] at hpt
    by_cases hs : 9223372036854775808 ≤ a
    · rw [if_pos hs] at hpt
      rw [hpt]
      exact rprint_fin a ha h1 hf v hv (by omega) ⟨#[45]⟩ (Or.inl ⟨hs, rfl⟩) w
    · rw [if_neg hs] at hpt
      rw [hpt, ← empty_append (pnt (padB (rhe (mg v) U)))]
      exact rprint_fin a ha h1 hf v hv (by omega) ⟨#[]⟩ (Or.inr ⟨hs, rfl⟩) w

theorem below_at {P : Program} {f : FuncId} {args : Array Value} {w : World} {v : Value} {Q : Ending → World → Prop} (h : Calls P f args w fun e w' => e = .returned v ∧ Below w.heap.size w w') (hq : ∀ w', Below w.heap.size w w' → Q (.returned v) w') : Calls P f args w Q :=
  h.mono fun _ _ ⟨he, hb⟩ => by rw [he]; exact hq _ hb

theorem tab_drew {w : World} {name : String} {k : IntKind} {zs : List Int} (h : Lib.TabIs Tryd.prog w name k zs) (n : Nat) : Lib.TabIs Tryd.prog (w.drewN n) name k zs := h

set_option maxHeartbeats 1000000 in
set_option maxRecDepth 100000 in
theorem gaugeOrders_walk (a b : Nat) (ha : a < 18446744073709551616) (hb : b < 18446744073709551616) (p : Option Addr) (n c : Nat) (xs : List Nat) (w : World) (h : UI w p n xs) (htab : Lib.TabIs Tryd.prog w "internal/strconv.uint64pow10" .u64 Lib.pow10Tab) :
    Calls Tryd.prog 3 #[.int .u64 (a : Int), .int .u64 (b : Int), .slice p n c] w fun e w' => e = .returned (.bool true) ∧ Below w.heap.size w w' := by
  have f1 := best_ok p n c xs w h
  have f2 := fun k => rbest_ok p n c xs (w.drewN k) (h.kept (below_drewN (Below.refl _ _) k))
  have f3 := order_ok a b ha hb
  have f4 := rorder_ok a b ha hb
  have f5 := fun k => print_ok a ha (w.drewN k) (tab_drew htab k)
  have f6 := rprint_ok a ha
  go_enter Tryd.func3, Tryd.ntmps3
  go_wp2_with (first
    | (go_at_call 4; refine drew_at f1 ?_; intro k)
    | (go_at_call 5; refine drew_at (f2 _) ?_; intro k)
    | (go_at_call 6; refine same_at (f3 _) ?_)
    | (go_at_call 7; refine same_at (f4 _) ?_)
    | (go_at_call 8; refine below_at (f5 _) ?_; intro w1 hb1)
    | (go_at_call 9; refine below_at (f6 _) ?_; intro w2 hb2))
  go_ret
  exact ⟨rfl, ((below_drewN (Below.refl _ w) _).trans hb1).trans (hb2.mono hb1.size)⟩
end Go.Proofs.YtllcpggdfdnjcabDoor
