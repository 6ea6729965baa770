/- Arrays of bytes, and headers, compared. -/
import Derived.Test.YtkmijjipnepnoaaRGDec
import Derived.DeepKeys2
namespace Go.Proofs.Ytkmijjipnepnoaa
open Go.RowKit
set_option linter.unusedVariables false

theorem cells5' : Try.prog.cellsOf 5 = 1 := by kernel_rfl
theorem cells3' : Try.prog.cellsOf 3 = 1 := by kernel_rfl

theorem lit_byte (d : Nat) (v : Int) (h : 0 ≤ v ∧ v < 256) : Try.prog.keyLits (d + 1) 5 [.int .u8 v] = some [Lit.int .u8 v] := by
  unfold Program.keyLits
  simp only [Try.underlying5]
  rw [if_pos ⟨trivial, by simp [Lit.wf, IntKind.min, IntKind.max, IntKind.signed, IntKind.bits]; omega⟩]
theorem lit_int (d : Nat) (v : Int) (h : -9223372036854775808 ≤ v ∧ v < 9223372036854775808) : Try.prog.keyLits (d + 1) 3 [.int .i64 v] = some [Lit.int .i64 v] := by
  unfold Program.keyLits
  simp only [Try.underlying3]
  rw [if_pos ⟨trivial, by simp [Lit.wf, IntKind.min, IntKind.max, IntKind.signed, IntKind.bits]; omega⟩]

theorem mapM_some {α β : Type} (f : α → Option β) : ∀ l : List α, (∀ x ∈ l, ∃ y, f x = some y) → ∃ ys, l.mapM f = some ys
  | [], _ => ⟨[], rfl⟩
  | x :: l, h => by
    obtain ⟨y, hy⟩ := h x (by simp)
    obtain ⟨ys, hys⟩ := mapM_some f l (fun z hz => h z (by simp [hz]))
    exact ⟨y :: ys, by rw [List.mapM_cons, hy, hys]; rfl⟩

/-- Bytes of an array are a key's parts. -/
theorem lits_bytes {t : TypeId} {n : Nat} (ht : Try.prog.underlying t = some (.array n 5)) (hc : Try.prog.cellsOf t = n) (d : Nat) (ys : List Int) (hl : ys.length = n) (hy : Num.Byt ys) : ∃ l, Try.prog.keyLits (d + 2) t (ys.map (Value.int .u8)) = some l := by
  rw [show d + 2 = (d + 1) + 1 from rfl]
  unfold Program.keyLits
  simp only [ht]
  rw [if_pos (by rw [hc, List.length_map, hl])]
  obtain ⟨ls, hls⟩ := mapM_some (fun i => Try.prog.keyLits (d + 1) 5 (((ys.map (Value.int .u8)).drop (i * Try.prog.cellsOf 5)).take (Try.prog.cellsOf 5))) (List.range n) (by
    intro i hi
    have hi := List.mem_range.1 hi
    rw [cells5', Nat.mul_one]
    have e : ((ys.map (Value.int .u8)).drop i).take 1 = [Value.int .u8 (ys.getD i 0)] := by
      rw [List.drop_eq_getElem_cons (by simp; omega)]
      simp [List.getD_eq_getElem?_getD, List.getElem?_eq_getElem (show i < ys.length by omega)]
    rw [e]
    exact ⟨_, lit_byte d _ (hy i)⟩)
  rw [hls]
  exact ⟨_, rfl⟩

theorem cells35 : Try.prog.cellsOf 35 = 8 := by kernel_rfl
theorem cells36 : Try.prog.cellsOf 36 = 32 := by kernel_rfl
theorem cells38 : Try.prog.cellsOf 38 = 41 := by kernel_rfl

theorem lits_group (d : Nat) (N : Int) (hN : -9223372036854775808 ≤ N ∧ N < 9223372036854775808) (ys : List Int) (hl : ys.length = 40) (hy : Num.Byt ys) : ∃ l, Try.prog.keyLits (d + 3) 38 (groupA N ys).toList = some l := by
  rw [show d + 3 = (d + 2) + 1 from rfl]
  unfold Program.keyLits
  simp only [Try.underlying38]
  rw [if_pos ⟨by rw [cells38]; simpa using groupA_size N ys hl, by simp⟩]
  obtain ⟨l8, h8⟩ := lits_bytes Try.underlying35 cells35 d (ys.take 8) (by simp; omega) (byt_take hy _)
  obtain ⟨l32, h32⟩ := lits_bytes Try.underlying36 cells36 d (ys.drop 8) (by simp; omega) (byt_drop hy _)
  have e1 : ((groupA N ys).toList.drop 0).take 1 = [.int .i64 N] := by simp [groupA]
  have e2 : ((groupA N ys).toList.drop 1).take 8 = (ys.take 8).map (Value.int .u8) := by simp [groupA, List.map_take]
  have e3 : ((groupA N ys).toList.drop 9).take 32 = (ys.drop 8).map (Value.int .u8) := by
    simp [groupA, List.map_drop]
    rw [List.take_of_length_le (by simp; omega)]
  simp only [List.mapM_cons, List.mapM_nil, cells3', cells35, cells36, e1, e2, e3, lit_int (d + 1) N hN, h8, h32]
  exact ⟨_, rfl⟩

theorem eq_group (N : Int) (hN : -9223372036854775808 ≤ N ∧ N < 9223372036854775808) (ys : List Int) (hl : ys.length = 40) (hy : Num.Byt ys) (w : World) : (Op.equalIn 10000 38 (.agg (groupA N ys)) (.agg (groupA N ys))).run Try.prog w = .ok true w := by
  obtain ⟨l, h⟩ := lits_group 0 N hN ys hl hy
  have hf : (Value.agg (groupA N ys)).formed Try.prog 38 = true := by
    have := groupA_size N ys hl
    simp [Value.formed, Try.underlying38, cells38, this]
  obtain ⟨r, hr, he⟩ := run_equalIn_deep (P := Try.prog) 9997 3 38 (by kernel_rfl) w _ _ _ _ l l hf hf h h
  rw [hr, he.2 rfl]

theorem wpList_eql_wanted {P : Program} {ops : Array Oper} {rest : List Oper} {o : Oper} {a : Act} {w : World} {Q : Exit → Act → World → Prop} (hwant : Region.wanted o (yielded ops a.tmps) = true) (t : TypeId) (x y : Operand) (ho : o.op = .binOp .eql t x y t)
    (A B : Array Value) (hx : a.eval x = .agg A) (hy : a.eval y = .agg B) (hg : P.eqGuardType P.depth t = false) (r : Bool) (hr : (Op.equalIn 10000 t (.agg A) (.agg B)).run P w = .ok r w)
    (h : wpList P ops Q rest (a.put o.dst (.bool r)) w) : wpList P ops Q (o :: rest) a w :=
  wpList_step fun K hK => by
    rw [if_pos hwant]
    unfold Oper.wp
    have h1 := run_eqGuard_agg (P := P) (w := w) BinOp.eql t x y A B hg
    have h2 := run_eql_struct (P := P) (w := w) t A B
    rw [hr] at h2
    simp [execOp, ho, hx, hy, h1, h2, Result.andThen]
    exact hK _ _ h
theorem guard38 : Try.prog.eqGuardType Try.prog.depth 38 = false := by kernel_rfl
end Go.Proofs.Ytkmijjipnepnoaa
