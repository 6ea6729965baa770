/- adjust.Do of a request of another snapshot: the rules. -/
import Derived.Test.YtijbbkkapimljaaGreatAD
namespace Go.Proofs.YtijbbkkapimljaaGreat
open Go.RowKit Go.Maps Go.MuLone
set_option linter.unusedVariables false
set_option maxRecDepth 100000

theorem call34 (args : Array Value) (w : World) : (callFunc 34 args).run Tryz.prog w = .ok (.enter 34 args) w := by kernel_rfl
theorem call35 (args : Array Value) (w : World) : (callFunc 35 args).run Tryz.prog w = .ok (.enter 35 args) w := by kernel_rfl

set_option maxHeartbeats 2000000 in
theorem first_stale {w : World} {f P v : Nat} {k G B I N d gen : Int} (h : Pl w P v G B I d gen) (hv : VHas w v k) (hk : 0 < k) (hm : Mk.Gm.May G B I) (hN : G * B = N) (hlt : ¬ k < N) (hne : ¬ d = gen)
    (f0 : w.cell? ⟨f, 0, none⟩ = some (.func (.func 34) #[.pointer (some ⟨P, 0, none⟩)] #[])) (f1 : w.cell? ⟨f, 1, none⟩ = some (.func (.func 35) #[.pointer (some ⟨P, 0, none⟩)] #[])) :
    Calls Tryz.prog 33 #[.slice (some ⟨f, 0, none⟩) 7 7] w fun e w' => e = .returned (.int .i64 200) ∧ Below w.heap.size w w' := by
  have e34 := call34
  have e35 := call35
  have ht := tryVolume_ok h hv hk hm hN hlt
  have HP := (show Hid _ from h)
  have HF := (show Hid _ from f1)
  clear h hv hm hN hlt
  go_enter Tryz.func33, Tryz.ntmps33
  go_wp2_with fail
  go_loopw [8] (fun i wr => (i = .int .i64 0 ∧ w = wr) ∨ (i = .int .i64 1 ∧ Below w.heap.size w wr)) (fun (i : Value) _ => 7 - (Go.RowKit.intOf i).toNat)
  case atStart => exact .inl ⟨rfl, rfl⟩
  case round =>
    rcases hrel with ⟨rfl, rfl⟩ | ⟨rfl, hb⟩
    · go_wp2_with fail
      refine Calls.mono ht ?_
      rintro e w2 ⟨rfl, hb2⟩
      dsimp only
      go_wp2
      go_roundw
      case rel => exact .inr ⟨rfl, hb2⟩
      case measure => simp [Go.RowKit.intOf]
    · have f1' := (hb.cell (p := ⟨f, 1, none⟩) (lt_of_cell HF.out)).trans HF.out
      have hg := tryGen_no (HP.out.kept hb) hne
      clear f0 f1
      go_wp2_with fail
      refine Calls.mono hg ?_
      rintro e w2 ⟨rfl, hb2⟩
      dsimp only
      go_wp2
      go_ret
      exact ⟨rfl, grew_trans' hb hb2⟩

set_option maxHeartbeats 2000000 in
theorem hear_stale {w : World} {P v : Nat} {k G B I N d gen : Int} (h : Pl w P v G B I d gen) (hv : VHas w v k) (hk : 0 < k) (hm : Mk.Gm.May G B I) (hN : G * B = N) (hlt : ¬ k < N) (hne : ¬ d = gen) :
    Calls Tryz.prog 14 #[.pointer (some ⟨P, 0, none⟩)] w fun e w' => e = .returned (.int .i64 200) ∧ Below w.heap.size w w' := by
  have H := (show Hid (_ ∧ _ ∧ _ ∧ _) from ⟨h, hv, hm, hN⟩)
  clear h hv hm hN
  go_enter Tryz.func14, Tryz.ntmps14
  go_wp2_with fail
  obtain ⟨W1, hW1⟩ : ∃ W1, w.alloc (.cells #[.func (.func 34) #[.pointer (some ⟨P, 0, none⟩)] #[], .func (.func 35) #[.pointer (some ⟨P, 0, none⟩)] #[], .func (.func 36) #[.pointer (some ⟨P, 0, none⟩)] #[], .func (.func 37) #[.pointer (some ⟨P, 0, none⟩)] #[], .func (.func 38) #[.pointer (some ⟨P, 0, none⟩)] #[], .func (.func 39) #[.pointer (some ⟨P, 0, none⟩)] #[], .func (.func 40) #[.pointer (some ⟨P, 0, none⟩)] #[]] 70) = W1 := ⟨_, rfl⟩
  rw [hW1]
  have hb1 : Below w.heap.size w W1 := by rw [← hW1]; exact (Below.refl _ w).alloc (Nat.le_refl _) _
  have g0 : W1.cell? ⟨w.heap.size, 0, none⟩ = some (.func (.func 34) #[.pointer (some ⟨P, 0, none⟩)] #[]) := by rw [← hW1]; exact cell_of_row _ _ 0 _ _ _ (at_new rfl)
  have g1 : W1.cell? ⟨w.heap.size, 1, none⟩ = some (.func (.func 35) #[.pointer (some ⟨P, 0, none⟩)] #[]) := by rw [← hW1]; exact cell_of_row _ _ 1 _ _ _ (at_new rfl)
  have hf := first_stale (f := w.heap.size) (H.out.1.kept hb1) (H.out.2.1.kept hb1) hk H.out.2.2.1 H.out.2.2.2 (by omega) hne g0 g1
  have HB := (show Hid _ from hb1)
  clear g0 g1 hb1 hW1
  refine Calls.mono hf ?_
  rintro e w2 ⟨rfl, hb2⟩
  dsimp only
  go_wp2
  go_ret
  exact ⟨rfl, grew_trans' HB.out hb2⟩
end Go.Proofs.YtijbbkkapimljaaGreat
