/- A range over a function whose values lie in memory that the function makes for each round; and crash.subsets. -/
import Derived.RangeFuncNested
import Derived.RangeFuncBound
import Derived.RangeFuncCalls
import Derived.RangeFuncLeaves
import Derived.RangeFuncBox
import Derived.Maps.AppendAt
import Derived.Shelf.Abstract
import Derived.Shelf.RegionOpen
import Derived.OwnWalkIn
import Derived.TacticsInMore
import Derived.LoopNIn
import Derived.LoopIn
import Derived.Test.YtemhhgpgpjiijaaEA
namespace Go.Proofs.Ytemhhgpgpjiijaa
open Go.RowKit Go.Shelf
set_option linter.unusedVariables false
attribute [local go_sem] Oper.semAt_some

/-- What holds of a world holds of each that has only more blocks. -/
def Lasts {β : Type} (J : β → World → Prop) : Prop := ∀ s A B, J s A → A.grownBy B none → J s B

/-- What the function that is ranged over does: it goes through some values, each in memory as V says when it is handed on. -/
def Walks {α : Type} (F : Fence) (n : Nat) (P : Program) (gf : Nat) (lb : Array Value) (encs : α → Array Value) (Kp : World → World → Prop) (V : α → World → Prop) (S : List α → Prop) (N : Nat) (w : World) : Prop :=
  ∀ (l : Nat) (J : List α → World → Prop) (W : World), Below w.heap.size w W → Lasts J →
    (∀ pre x W1, J pre W1 → V x W1 → pre.length < N → YieldAt F (n - 1) P l (encs x) W1 fun e W' => e = .returned (.bool true) ∧ J (pre ++ [x]) W' ∧ Kp W1 W') →
    J [] W → CallsIn F n P gf (#[.func (.yield l) #[] #[]] ++ lb) W fun e W' => (∃ v, e = .returned v) ∧ ∃ xs, S xs ∧ J xs W'

section
variable {F : Fence} {n : Nat} {P : Program}

/-- The loop, where its body always goes on. -/
theorem range_walks {α : Type} {g : Operand} {ps : Array Tmp} {assign body : Code} {Q : Exit → Act → World → Prop} {a : Act} {w : World}
    (hro : F.round = none) (h1 : 1 ≤ n) {gf : Nat} {lb : Array Value} (hg : a.eval g = .func (.func gf) #[] lb) (hFg : F.fn gf) (eg : ∀ args w, (callFunc gf args).run P w = .ok (.enter gf args) w)
    {encs : α → Array Value} {Kp : World → World → Prop} {V : α → World → Prop} {S : List α → Prop} {N : Nat} {w0 : World} (hit : Walks F (n - 1) P gf lb encs Kp V S N w0)
    (hKt : ∀ {A B C : World}, Kp A B → Kp B C → Kp A C) (hKb : ∀ (W : World) (l : Nat) (o : Obj), w.heap.size ≤ l → Kp W (W.putObj l o)) (hb0 : Below w0.heap.size w0 w) (hps : ∀ x, (encs x).size = ps.size)
    (hV : ∀ x W l o o', V x W → W.heap[l]? = some o → o.isCells = false → V x (W.putObj l o'))
    (I : List α → World → Prop) (hI : OwnFrom w.heap.size I) (h0 : I [] w) (a₁ : α → Act)
    (hassign : ∀ (l : Nat) (x : α) (W : World) (K : Act → World → Prop), K (a₁ x) W →
      assign.wpIn (F.inRound l) (n - 1 - 1) P (Exit.then K (fun _ _ _ => False)) { tmps := (ps.zip (encs x)).foldl (fun t (p, v) => t.setIfInBounds p v) a.tmps, defers := [] } W)
    (hbody : ∀ (l : Nat) (pre : List α) (x : α) (W : World), I pre W → V x W → pre.length < N → body.wpIn (F.inRound l) (n - 1 - 1) P (fun e _ W' => e = .normal ∧ KeepsFrom w.heap.size W W' ∧ Kp W W' ∧ I (pre ++ [x]) W') (a₁ x) W)
    (hdone : ∀ (D : Nat) (xs : List α) (W : World), w.heap.size ≤ D → S xs → I xs W → W.heap[D]? = some (.deferred (some [])) → Q .normal { a with defers := { target := .collected D, args := #[] } :: a.defers } W) :
    (Code.rangeFunc g ps assign body).wpIn F n P Q a w := by
  refine wpIn_rangeFunc fun fn hfn => ?_
  obtain ⟨H, hH⟩ : ∃ H, w.heap.size = H := ⟨_, rfl⟩
  let rd : Loop := { state := .ready, pending := none, fn := fn, tmps := a.tmps, params := ps, assign := assign, body := body, defers := H }
  let bz : Loop := { rd with state := .busy }
  let M : World → Prop := fun W => W.heap[H + 1]? = some (.loop rd) ∧ W.heap[H]? = some (.deferred (some []))
  obtain ⟨W0, hW0⟩ : ∃ W0, (w.alloc (.deferred (some []))).alloc (.loop rd) = W0 := ⟨_, rfl⟩
  have hM0 : M W0 := by
    refine ⟨?_, ?_⟩
    · have := World.alloc_heap_new (w.alloc (.deferred (some []))) (.loop rd)
      rw [World.size_alloc, hH] at this
      rw [← hW0]; exact this
    · rw [← hW0, ← hH]
      exact (Below.heap_alloc _ _ _ (by simp)).trans (World.alloc_heap_new w _)
  have hbw : Below w.heap.size w W0 := by rw [← hW0]; exact ((Below.refl _ w).alloc (Nat.le_refl _) _).alloc (by simp) _
  have hI0 : I [] W0 := by rw [← hW0]; exact hI.alloc _ (hI.alloc _ h0)
  have hyes : (Instr.enterLoop fn a.tmps ps assign body F.round).run P w = .ok (H + 1, [{ target := .collected H, args := #[] }]) W0 := by
    rw [hro, run_enterLoop_outer, ← hW0]
    simp only [rd, hH]
  refine ⟨H + 1, _, W0, { target := .fn (.func gf) lb, args := #[.func (.yield (H + 1)) #[] #[]] }, W0, gf, #[.func (.yield (H + 1)) #[] #[]] ++ lb, W0, hyes, ?_, ?_, ?_, fun _ => h1, ?_⟩
  · simp only [resolve, hg]
    simp [go_sem]
  · intro f' hf'
    simp [Target.leads] at hf'
    rw [← hf']; exact hFg
  · simp [invoke, go_sem, eg]
  have hM : ∀ {A B : World}, M A → A.grownBy B none → M B := fun hA hg' =>
    ⟨(hg'.block _ (Array.getElem?_eq_some_iff.1 hA.1).1 (by simp)).trans hA.1, (hg'.block _ (Array.getElem?_eq_some_iff.1 hA.2).1 (by simp)).trans hA.2⟩
  refine (hit (H + 1) (fun pre W => I pre W ∧ M W) W0 (hb0.trans (hbw.mono hb0.size)) (fun s A B hs hg' => ⟨hI s A B none hs.1 hg' (fun r e => by cases e), hM hs.2 hg'⟩) ?_ ⟨hI0, hM0⟩).mono ?_
  · rintro pre x W ⟨hi, hm⟩ hv hlen
    have hlt : H + 1 < W.heap.size := (Array.getElem?_eq_some_iff.1 hm.1).1
    refine ⟨fn, _, assign, body, run_yield (P := P) (args := encs x) hm.1 (hps x), roundIn_of_wpIn hfn (hassign _ x W _ ⟨_, run_beginRound hm.1 rfl, ?_⟩)⟩
    have hm2 : (W.putObj (H + 1) (.loop bz)).heap[H + 1]? = some (.loop bz) ∧ (W.putObj (H + 1) (.loop bz)).heap[H]? = some (.deferred (some [])) := ⟨World.putObj_heap_same hlt, (World.putObj_heap_other (by omega)).trans hm.2⟩
    refine wpIn_mono (hbody _ pre x _ (hI.putObj _ hi (by omega) hm.1 rfl) (hV _ _ _ _ _ hv hm.1 rfl) hlen) ?_
    rintro e b W3 ⟨rfl, hk3, hp3, hi3⟩
    have hl3 := hk3.same _ _ (by omega) hm2.1 rfl
    have hd3 := hk3.same _ _ (by omega) hm2.2 rfl
    refine ⟨_, _, run_endRound none hl3, rfl, ⟨hI.putObj _ hi3 (by omega) hl3 rfl, World.putObj_heap_same (Array.getElem?_eq_some_iff.1 hl3).1, (World.putObj_heap_other (by omega)).trans hd3⟩, ?_⟩
    exact hKt (hKt (hKb _ _ _ (by omega)) hp3) (hKb _ _ _ (by omega))
  · rintro e W2 ⟨⟨v, rfl⟩, xs, hS, hi, hm⟩
    exact ⟨none, _, run_endLoop hm.1 (by simp [rd]), hdone H xs _ (by omega) hS (hI.putObj _ hi (by omega) hm.1 rfl) ((World.putObj_heap_other (by omega)).trans hm.2)⟩
end

/-- The blocks below B lie as they lay. -/
def Kb (B : Nat) (W W' : World) : Prop := W.heap.size ≤ W'.heap.size ∧ ∀ k, k < B → W'.heap[k]? = W.heap[k]?

theorem Kb.refl (B : Nat) (W : World) : Kb B W W := ⟨Nat.le_refl _, fun _ _ => rfl⟩
theorem Kb.trans {B : Nat} {A C D : World} (h : Kb B A C) (k : Kb B C D) : Kb B A D := ⟨Nat.le_trans h.1 k.1, fun i hi => (k.2 i hi).trans (h.2 i hi)⟩
theorem Kb.putObj {B l : Nat} (W : World) (o : Obj) (h : B ≤ l) : Kb B W (W.putObj l o) := ⟨by simp, fun k hk => World.putObj_heap_other (by omega)⟩
theorem Kb.below {B : Nat} {W W' : World} (h : Below B W W') : Kb B W W' := ⟨h.size, fun k hk => h.block k hk⟩
theorem grown_below {W W' : World} (h : Below W.heap.size W W') : W.grownBy W' none := ⟨h.os, h.tape, h.output, h.size, fun k hk _ => h.block k hk⟩

theorem Kb.cell {B b o : Nat} {W W' : World} {v : Value} (h : Kb B W W') (hb : b < B) (hc : W.cell? ⟨b, o, none⟩ = some v) : W'.cell? ⟨b, o, none⟩ = some v := by
  unfold World.cell? at *
  rw [h.2 b hb]; exact hc

end Go.Proofs.Ytemhhgpgpjiijaa
