/- dirs: Base. -/
import Derived.Test.YtfchclpglcogoaaG3
namespace Go.Proofs.Ytfchclpglcogoaa
open Go.RowKit
set_option linter.unusedVariables false

/-- What Base tells. -/
def bs (s : ByteArray) : List ByteArray × ByteArray × Int :=
  if spE s ≠ 0 then ([], ⟨#[]⟩, spE s) else match (spL s).getLast? with
    | none => ([], ⟨#[]⟩, 1)
    | some x => ((spL s).dropLast, x, 0)
def PB (w : World) (s : ByteArray) (e : Ending) (w' : World) : Prop := ∃ q d, e = .returned (.tuple #[.slice q (bs s).1.length d, .string (bs s).2.1, .int .i64 (bs s).2.2]) ∧ SI w' q (bs s).1.length (bs s).1 ∧ Below w.heap.size w w'
theorem SI.take {w : World} {p : Option Addr} {n : Nat} {L : List ByteArray} (h : SI w p n L) (k : Nat) (hk : k ≤ n) : SI w p k (L.take k) := by
  refine ⟨by rw [List.length_take]; have := h.len; omega, by have := h.big; omega, fun h0 => ?_⟩
  obtain ⟨b, o, rfl, hc⟩ := h.cells (by omega)
  refine ⟨b, o, rfl, fun i e he => hc i e ?_⟩
  rw [List.getElem?_take] at he
  split at he
  · exact he
  · cases he
theorem pb_err {w w' : World} {s : ByteArray} (h : spE s ≠ 0) (hb : Below w.heap.size w w') : PB w s (.returned (.tuple #[.slice none 0 0, .string ⟨#[]⟩, .int .i64 (spE s)])) w' := by
  have e : bs s = ([], ⟨#[]⟩, spE s) := by unfold bs; rw [if_pos h]
  refine ⟨none, 0, ?_, ?_, hb⟩
  · rw [e]; rfl
  · rw [e]; exact si_nil _
theorem pb_root {w w' : World} {s : ByteArray} (h : spE s = 0) (hl : spL s = []) (hb : Below w.heap.size w w') : PB w s (.returned (.tuple #[.slice none 0 0, .string ⟨#[]⟩, .int .i64 1])) w' := by
  have e : bs s = ([], ⟨#[]⟩, 1) := by unfold bs; rw [if_neg (by simp [h]), hl]; rfl
  refine ⟨none, 0, ?_, ?_, hb⟩
  · rw [e]; rfl
  · rw [e]; exact si_nil _
theorem pb_ok {w w' : World} {s x : ByteArray} {L : List ByteArray} {k : Nat} {q : Option Addr} {d : Nat} (h : spE s = 0) (hl : spL s = L) (hk : L.length = k + 1) (hx : L[k]? = some x) (hS : SI w' q (k + 1) L) (hb : Below w.heap.size w w') : PB w s (.returned (.tuple #[.slice q k d, .string x, .int .i64 0])) w' := by
  have hg : L.getLast? = some x := by rw [List.getLast?_eq_getElem?, hk]; exact hx
  have e : bs s = (L.dropLast, x, 0) := by unfold bs; rw [if_neg (by simp [h]), hl, hg]
  have hdl : L.dropLast = L.take k := by rw [List.dropLast_eq_take, hk]; rfl
  have hlen : (L.take k).length = k := by rw [List.length_take]; omega
  refine ⟨q, d, ?_, ?_, hb⟩
  · rw [e]; show _ = Ending.returned (.tuple #[.slice q L.dropLast.length d, .string x, .int .i64 0]); rw [hdl, hlen]
  · rw [e]; show SI w' q L.dropLast.length L.dropLast; rw [hdl, hlen]; exact hS.take k (by omega)

set_option maxRecDepth 20000 in
set_option maxHeartbeats 2000000 in
theorem Base_ok (s : ByteArray) (w : World) (hs : s.size ≤ 140737488355328) : Calls Try.prog 55 #[.string s] w fun e w' => PB w s e w' := by
  have hsp := Split_ok s w hs
  go_enter Try.func55, Try.ntmps55
  go_wp2_with fail
  refine hsp.mono ?_
  rintro _ w1 ⟨q, d, rfl, hS, hb1, hd1, hd2⟩
  clear hsp
  obtain ⟨L, hL⟩ : ∃ L, spL s = L := ⟨_, rfl⟩
  obtain ⟨E, hE⟩ : ∃ E, spE s = E := ⟨_, rfl⟩
  rw [hL] at hS hd1
  rw [hL, hE]
  have H1 : Hid _ := And.intro hL (And.intro hE (And.intro hS hb1))
  clear hL hE hS hb1
  by_cases h0 : E = 0
  · subst h0
    cases hk : L.length with
    | zero =>
      have HK : Hid _ := List.length_eq_zero_iff.1 hk
      rw [hk] at hd1
      clear hk
      dsimp only
      go_wp2_with fail
      go_ret3
      exact pb_root H1.out.2.1 (H1.out.1.trans HK.out) H1.out.2.2.2
    | succ k =>
      obtain ⟨x, hx⟩ : ∃ x, L[k]? = some x := ⟨_, List.getElem?_eq_getElem (by omega)⟩
      have hS := H1.out.2.2.1
      rw [hk] at hS
      obtain ⟨b, o, rfl, hcs⟩ := hS.cells (by omega)
      have c0 := hcs k x hx
      have hbig := hS.big
      rw [hk] at hd1
      have h1 : ¬ ((k + 1 : Nat) : Int) = 0 := by omega
      have h2 : ((k + 1 : Nat) : Int) - 1 = (k : Int) := by omega
      have h3 : (k : Int) ≤ (d : Int) := by omega
      have h4 : (0 : Int) ≤ (k : Int) := by omega
      have h5 : (k : Int) < ((k + 1 : Nat) : Int) := by omega
      have HK : Hid _ := And.intro hk (And.intro hx hS)
      clear hk hx hS hcs
      dsimp only
      go_wp2_with fail
      go_quiet (fail)
      go_wp2_with fail
      go_ret3
      exact pb_ok H1.out.2.1 H1.out.1 HK.out.1 HK.out.2.1 (by have := HK.out.2.2; exact this.kept (below_drewN (Below.refl _ _) _)) (below_drewN H1.out.2.2.2 _)
  · dsimp only
    go_wp2_with fail
    go_ret3
    have := pb_err (w' := w1) (by rw [H1.out.2.1]; exact h0) H1.out.2.2.2
    rw [H1.out.2.1] at this
    exact this

end Go.Proofs.Ytfchclpglcogoaa
