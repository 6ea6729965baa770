/- Sums of floats; Mean and Broken, the program's and the document's. -/
import Derived.Test.YtllcpggdfdnjcabSl
import Derived.Test.YtllcpggdfdnjcabFills
namespace Go.Proofs.Ytllcpggdfdnjcab
open Go.RowKit
set_option linter.unusedVariables false

/-- The sum of so many, from nought on, in order. -/
def osum (F : Nat → Option Nat) : Nat → Option Nat
  | 0 => some 0
  | k + 1 => ob .add (osum F k) (F k)

set_option maxRecDepth 10000 in
theorem sum83_ok (n : Nat) (hn : n ≤ 140737488355328) (cv : Value) (F : Nat → Option Nat) (w : World)
    (hF : ∀ (k : Nat) (q : Nat), k < n → Calls Try.prog 83 #[.int .i64 (k : Int), cv] (w.drewN q) fun e w' => ∃ x q', e = .returned (.float .f64 x) ∧ Hid (fc x = F k) ∧ w' = w.drewN q') :
    Calls Try.prog 68 #[.int .i64 (n : Int), .func (.func 83) #[] #[cv]] w fun e w' => ∃ x q, e = .returned (.float .f64 x) ∧ fc x = osum F n ∧ w' = w.drewN q := by
  have ha := fun (w : World) (t : TypeId) (x y : Nat) => run_fop (P := Try.prog) w Fop.add t x y
  go_enter Try.func68, Try.ntmps68
  go_wp2_with fail
  go_loopw [5, 8] (fun s j wr => ∃ (k : Nat) (x q : Nat), k ≤ n ∧ j = .int .i64 (k : Int) ∧ s = .float .f64 x ∧ Hid (fc x = osum F k) ∧ wr = w.drewN q) (fun s j _ => n - (intOf j).toNat)
  case atStart => exact ⟨0, 0, 0, by omega, rfl, rfl, fc_nought, rfl⟩
  case round =>
    obtain ⟨k, x, q, hk, rfl, rfl, hx, rfl⟩ := hrel
    by_cases hlt : k < n
    · have hkI : (k : Int) < (n : Int) := by omega
      have hc := hF k
      go_wp2_with (first | (go_at_call 83; refine (hc _ hlt).mono ?_; rintro e w' ⟨y, q', rfl, hy, rfl⟩))
      go_roundw
      case rel => exact ⟨k + 1, _, _, by omega, by go_num, rfl, by show fc _ = ob .add (osum F k) (F k); rw [fc_fv, hx.out, hy.out], rfl⟩
      case measure => simp [intOf]; omega
    · obtain rfl : k = n := by omega
      go_wp2
      go_ret
      exact ⟨_, _, rfl, hx.out, rfl⟩

theorem toge83 (p : Option Addr) (n c : Nat) (xs : List Int) (w : World) (h : II w p n xs) (g : Nat) (hg : w.cell? ⟨g, 0, none⟩ = some (.slice p n c)) (k q : Nat) (hk : k < n) :
    Calls Try.prog 83 #[.int .i64 (k : Int), .pointer (some ⟨g, 0, none⟩)] (w.drewN q) fun e w' => ∃ x q', e = .returned (.float .f64 x) ∧ Hid (fc x = fi (xs.getD k 0)) ∧ w' = w.drewN q' := by
  have hbig := h.big
  obtain ⟨b1, o1, rfl, hc1⟩ := h.cells (by omega)
  have e1 := hc1 k hk
  clear hc1
  generalize xs.getD k 0 = y at e1
  have hkI : (k : Int) < (n : Int) := by omega
  have hk0 : (0 : Int) ≤ (k : Int) := by omega
  go_enter Try.func83, Try.ntmps83
  go_wp2
  go_ret
  exact ⟨_, _, rfl, fc_fi y, rfl⟩

theorem together_ok (p : Option Addr) (n c : Nat) (xs : List Int) (w : World) (h : II w p n xs) :
    Calls Try.prog 62 #[.slice p n c] w fun e w' => ∃ x, e = .returned (.float .f64 x) ∧ Hid (fc x = osum (fun k => fi (xs.getD k 0)) n) ∧ Below w.heap.size w w' := by
  have hbig := h.big
  have hb0 := (Below.refl w.heap.size w).alloc (Nat.le_refl _) (Obj.cells #[.slice p n c] 34)
  have hg : (w.alloc (Obj.cells #[.slice p n c] 34)).cell? ⟨w.heap.size, 0, none⟩ = some (.slice p n c) := by
    unfold World.cell?; rw [World.alloc_heap_new]; rfl
  have hs := sum83_ok n hbig (.pointer (some ⟨w.heap.size, 0, none⟩)) (fun k => fi (xs.getD k 0)) (w.alloc (Obj.cells #[.slice p n c] 34))
    (fun k q hk => toge83 p n c xs _ (h.kept hb0) _ hg k q hk)
  clear hg
  go_enter Try.func62, Try.ntmps62
  go_wp2_with (first | (go_at_call 68; refine hs.mono ?_; rintro e w' ⟨x, q, rfl, hx, rfl⟩))
  go_ret
  exact ⟨_, rfl, hx, below_drewN hb0 _⟩
end Go.Proofs.Ytllcpggdfdnjcab
