/- TreeWrites: a number modulo another; the bytes that are wanted. -/
import Derived.Test.YtfchclpglcogoaaC11
import Derived.Deep.CutBlock
import Derived.Deep.DeepCutAuto
namespace Go.Proofs.Ytfchclpglcogoaa
open Go.RowKit Go.Maps
set_option linter.unusedVariables false
set_option maxRecDepth 100000

theorem u64_rangeT (b : Int) : 0 ≤ IntKind.u64.wrap b ∧ IntKind.u64.wrap b < 18446744073709551616 := by rw [IntKind.wrap_u64]; omega
def mq (K : Nat) (b : Int) : Nat := ((IntKind.u64.wrap b).tmod (K : Int)).toNat
theorem mq_lt {K : Nat} (hK : 1 ≤ K) (b : Int) : mq K b < K := by
  have h := u64_rangeT b
  unfold mq
  generalize IntKind.u64.wrap b = u at *
  have h1 := Int.tmod_lt_of_pos u (show (0 : Int) < (K : Int) by omega)
  have h2 := Int.tmod_nonneg (K : Int) h.1
  omega
theorem mq_eq {K : Nat} (hK : 1 ≤ K) (b : Int) : (IntKind.u64.wrap b).tmod (K : Int) = (mq K b : Int) := by
  have h := u64_rangeT b
  unfold mq
  generalize IntKind.u64.wrap b = u at *
  have h2 := Int.tmod_nonneg (K : Int) h.1
  omega
theorem mq_wrap {K : Nat} (hK : 1 ≤ K) (hK2 : K ≤ 4611686018427387904) (b : Int) : wrap64 ((IntKind.u64.wrap b).tmod (K : Int)) = (mq K b : Int) := by
  have h1 := mq_lt hK b
  rw [mq_eq hK]
  unfold wrap64
  omega
theorem mq_wrapI {K : Nat} (hK : 1 ≤ K) (hK2 : K ≤ 4611686018427387904) (b : Int) : IntKind.i64.wrap ((IntKind.u64.wrap b).tmod (K : Int)) = (mq K b : Int) := by
  have h1 := mq_lt hK b
  rw [mq_eq hK]
  exact IntWalk.i64_in _ (by omega)

theorem w64_in {x : Int} (h : -9223372036854775808 ≤ x ∧ x ≤ 9223372036854775807) : wrap64 x = x := by unfold wrap64; omega
theorem sum_in {o n : Nat} (h : o ≤ 5000) (k : n ≤ 140737488355328) : IntKind.i64.wrap ((o : Int) + (n : Int)) = (o : Int) + (n : Int) ∧ wrap64 ((o : Int) + (n : Int)) = (o : Int) + (n : Int) := ⟨IntWalk.i64_in _ (by omega), w64_in (by omega)⟩
theorem mq_le (b : Int) : mq 5000 b ≤ 5000 := by have := mq_lt (K := 5000) (by omega) b; omega
theorem mq_w5 (b : Int) {k : Nat} (h : mq 5000 b = k) : wrap64 ((IntKind.u64.wrap b).tmod 5000) = (k : Int) ∧ IntKind.i64.wrap ((IntKind.u64.wrap b).tmod 5000) = (k : Int) := by
  have h1 := mq_wrap (K := 5000) (by omega) (by omega) b
  have h2 := mq_wrapI (K := 5000) (by omega) (by omega) b
  rw [h] at h1 h2
  exact ⟨h1, h2⟩
theorem max_in {o n p m : Nat} : max ((o : Int) + (n : Int)) ((p : Int) + (m : Int)) = ((max (o + n) (p + m) : Nat) : Int) := by omega
theorem max_le {o n p m : Nat} (h : o ≤ 5000) (k : n ≤ 140737488355328) (h' : p ≤ 5000) (k' : m ≤ 140737488355328) : max (o + n) (p + m) ≤ 140737488370000 := by omega

theorem sums_ok {off nb n1 nc M : Nat} (h1 : off ≤ 5000) (h2 : n1 ≤ 5000) (h3 : nb ≤ 140737488355328) (h4 : nc ≤ 140737488355328) (hM : M = max (off + nb) (n1 + nc)) :
    ∃ t1 t2 : Nat, Hid (t1 = off + nb ∧ t2 = n1 + nc) ∧ (off : Int) + (nb : Int) = (t1 : Int) ∧ (n1 : Int) + (nc : Int) = (t2 : Int) ∧ IntKind.i64.wrap (t1 : Int) = (t1 : Int) ∧ IntKind.i64.wrap (t2 : Int) = (t2 : Int) ∧ wrap64 (t1 : Int) = (t1 : Int) ∧ wrap64 (t2 : Int) = (t2 : Int) ∧ (t1 : Int) ≤ (M : Int) ∧ (t2 : Int) ≤ (M : Int) ∧ (0 : Int) ≤ (t1 : Int) ∧ (0 : Int) ≤ (t2 : Int) :=
  ⟨off + nb, n1 + nc, ⟨rfl, rfl⟩, by omega, by omega, IntWalk.i64_in _ (by omega), IntWalk.i64_in _ (by omega), w64_in (by omega), w64_in (by omega), by omega, by omega, by omega, by omega⟩
/-- How long the file is behind both writes. -/
def lenW (off n lb lc : Nat) : Nat := if lb = 0 then (if lc = 0 then 0 else n + lc) else if lc = 0 then off + lb else max (off + lb) (n + lc)
theorem lenW_cases (off n1 nb nc : Nat) : (nb = 0 → nc = 0 → lenW off n1 nb nc = 0) ∧ (nb = 0 → nc ≠ 0 → lenW off n1 nb nc = n1 + nc ∧ 0 < n1 + nc) ∧ (nb ≠ 0 → nc = 0 → lenW off n1 nb nc = off + nb ∧ 0 < off + nb) ∧ (nb ≠ 0 → nc ≠ 0 → lenW off n1 nb nc = max (off + nb) (n1 + nc) ∧ 0 < max (off + nb) (n1 + nc)) := by
  unfold lenW
  refine ⟨fun a b => by rw [if_pos a, if_pos b], fun a b => ?_, fun a b => ?_, fun a b => ?_⟩
  · rw [if_pos a, if_neg b]; omega
  · rw [if_neg a, if_pos b]; omega
  · rw [if_neg a, if_neg b]; omega
theorem lenW_eq (off n : Nat) (b c : List Int) : (wrt (wrt [] off b) n c).length = lenW off n b.length c.length := by
  have e : ∀ l : List Int, (l = []) = (l.length = 0) := fun l => propext List.length_eq_zero_iff.symm
  rw [wrt_len, wrt_len]
  unfold lenW
  simp only [e, List.length_nil]
  by_cases h1 : b.length = 0 <;> by_cases h2 : c.length = 0 <;> simp only [h1, h2, if_true, if_false] <;> omega
theorem rep_byt (n : Nat) : Num.Byt (List.replicate n 0) := fun i => by rw [List.getD_eq_getElem?_getD, List.getElem?_replicate]; split <;> simp
/-- The bytes that are wanted, as they are written beside the tree, in block G. -/
structure Wn (wr : World) (G : Nat) (wv : Value) (L : Nat) (zs : List Int) : Prop where
  len : zs.length = L
  val : ∃ gp C, wv = .slice gp L C ∧ L ≤ C ∧ C ≤ 140737488370000 ∧ (L = 0 → gp = none) ∧ (0 < L → gp = some ⟨G, 0, none⟩ ∧ ∃ R, zs.length + R.length = C ∧ wr.heap[G]? = some (.cells (aP (zs ++ R)) 5 (0, 0)))
  byt : Num.Byt zs
section
variable {w wr w' : World} {G L : Nat} {wv : Value} {zs : List Int}
theorem Wn.kept (h : Wn wr G wv L zs) (hb : w'.heap[G]? = wr.heap[G]?) : Wn w' G wv L zs := by
  obtain ⟨gp, C, e, h1, h2, h3, h4⟩ := h.val
  refine ⟨h.len, ⟨gp, C, e, h1, h2, h3, fun hp => ?_⟩, h.byt⟩
  obtain ⟨e2, R, hR, hrow⟩ := h4 hp
  exact ⟨e2, R, hR, hb.trans hrow⟩
theorem Wn.zeros {K M : Nat} (hr : wr.heap[G]? = some (.cells (aP (List.replicate M 0)) 5 (0, 0))) (hM : M ≤ 140737488370000) (hK : K ≤ M) (hp : 0 < K) : Wn wr G (.slice (some ⟨G, 0, none⟩) K M) K (List.replicate K 0) :=
  ⟨by simp, ⟨_, M, rfl, hK, hM, fun e => by omega, fun _ => ⟨rfl, List.replicate (M - K) 0, by simp; omega, by rw [hr, List.replicate_append_replicate, Nat.add_sub_cancel' hK]⟩⟩, rep_byt _⟩
theorem Wn.bi (h : Wn wr G wv L zs) (hL : L ≤ 140737488355328) : ∃ gp C, wv = .slice gp L C ∧ BI wr gp L zs := by
  obtain ⟨gp, C, e, h1, h2, h3, h4⟩ := h.val
  refine ⟨gp, C, e, h.len, hL, h.byt, fun hp => ?_⟩
  obtain ⟨e2, R, hR, hrow⟩ := h4 hp
  refine ⟨G, 0, e2, fun i hi => ?_⟩
  have hl := h.len
  exact range_row hrow i (.int .u8 (zs.getD i 0)) (by
    rw [List.getElem?_map, List.getElem?_append_left (by omega), List.getD_eq_getElem?_getD, List.getElem?_eq_getElem (by omega)]
    rfl)
end
def preW (off n : Nat) (b c : List Int) : Nat → List Int
  | 0 => []
  | 1 => wrt [] off b
  | _ => wrt (wrt [] off b) n c
end Go.Proofs.Ytfchclpglcogoaa
