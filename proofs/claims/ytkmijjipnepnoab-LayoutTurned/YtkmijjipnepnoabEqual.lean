/- Arrays of bytes, and headers, compared. -/
import Derived.Test.YtkmijjipnepnoabRGDec
import Derived.DeepKeys2
namespace Go.Proofs.Ytkmijjipnepnoab
open Go.RowKit
set_option linter.unusedVariables false

theorem cells5' : Try.prog.cellsOf 5 = 1 := by kernel_rfl
theorem cells3' : Try.prog.cellsOf 3 = 1 := by kernel_rfl

theorem lit_byte (d : Nat) (v : Int) (h : 0 ≤ v ∧ v < 256) : Try.prog.keyLits (d + 1) 5 [.int .u8 v] = some [Lit.int .u8 v] := by
  unfold Program.keyLits
  simp only [Try.underlying5]
  rw [if_pos ⟨trivial, by simp [Lit.wf, IntKind.min, IntKind.max, IntKind.signed, IntKind.bits]; omega⟩]
theorem lit_int (d : Nat) (v : Int) (h : -9223372036854775808 ≤ v ∧ v < 9223372036854775808) : Try.prog.keyLits (d + 1) 3 [.int .i64 v] = some [Lit.int .i64 v] := by
  unfold Program.keyLits
  simp only [Try.underlying3]
  rw [if_pos ⟨trivial, by simp [Lit.wf, IntKind.min, IntKind.max, IntKind.signed, IntKind.bits]; omega⟩]

theorem mapM_some {α β : Type} (f : α → Option β) : ∀ l : List α, (∀ x ∈ l, ∃ y, f x = some y) → ∃ ys, l.mapM f = some ys
  | [], _ => ⟨[], rfl⟩
  | x :: l, h => by
    obtain ⟨y, hy⟩ := h x (by simp)
    obtain ⟨ys, hys⟩ := mapM_some f l (fun z hz => h z (by simp [hz]))
    exact ⟨y :: ys, by rw [List.mapM_cons, hy, hys]; rfl⟩

/-- Bytes of an array are a key's parts. -/
theorem lits_bytes {t : TypeId} {n : Nat} (ht : Try.prog.underlying t = some (.array n 5)) (hc : Try.prog.cellsOf t = n) (d : Nat) (ys : List Int) (hl : ys.length = n) (hy : Num.Byt ys) : ∃ l, Try.prog.keyLits (d + 2) t (ys.map (Value.int .u8)) = some l := by
  rw [show d + 2 = (d + 1) + 1 from rfl]
  unfold Program.keyLits
  simp only [ht]
  rw [if_pos (by rw [hc, List.length_map, hl])]
  obtain ⟨ls, hls⟩ := mapM_some (fun i => Try.prog.keyLits (d + 1) 5 (((ys.map (Value.int .u8)).drop (i * Try.prog.cellsOf 5)).take (Try.prog.cellsOf 5))) (List.range n) (by
    intro i hi
    have hi := List.mem_range.1 hi
    rw [cells5', Nat.mul_one]
    have e : ((ys.map (Value.int .u8)).drop i).take 1 = [Value.int .u8 (ys.getD i 0)] := by
      rw [List.drop_eq_getElem_cons (by simp; omega)]
      simp [List.getD_eq_getElem?_getD, List.getElem?_eq_getElem (show i < ys.length by omega)]
    rw [e]
    exact ⟨_, lit_byte d _ (hy i)⟩)
  rw [hls]
  exact ⟨_, rfl⟩

theorem cells36 : Try.prog.cellsOf 70 = 32 := by kernel_rfl
theorem wpList_eql_wanted {P : Program} {ops : Array Oper} {rest : List Oper} {o : Oper} {a : Act} {w : World} {Q : Exit → Act → World → Prop} (hwant : Region.wanted o (yielded ops a.tmps) = true) (t : TypeId) (x y : Operand) (ho : o.op = .binOp .eql t x y t)
    (A B : Array Value) (hx : a.eval x = .agg A) (hy : a.eval y = .agg B) (hg : P.eqGuardType P.depth t = false) (r : Bool) (hr : (Op.equalIn 10000 t (.agg A) (.agg B)).run P w = .ok r w)
    (h : wpList P ops Q rest (a.put o.dst (.bool r)) w) : wpList P ops Q (o :: rest) a w :=
  wpList_step fun K hK => by
    rw [if_pos hwant]
    unfold Oper.wp
    have h1 := run_eqGuard_agg (P := P) (w := w) BinOp.eql t x y A B hg
    have h2 := run_eql_struct (P := P) (w := w) t A B
    rw [hr] at h2
    simp [execOp, ho, hx, hy, h1, h2, Result.andThen]
    exact hK _ _ h
end Go.Proofs.Ytkmijjipnepnoab
