/- dirs: texts cut at a slash. -/
import Derived.Test.YtfchclpglcogoaaD17
import Derived.Lib.Bytealg
import Derived.Lib.IndexLaws
import Derived.Lib.UnsafeStr
import Derived.Lib.BufferWrite
namespace Go.Proofs.Ytfchclpglcogoaa
open Go.RowKit
set_option linter.unusedVariables false

theorem str_none {s : ByteArray} (h : s.size = 0) : s = ⟨#[]⟩ := by
  cases s with
  | mk a =>
    have : a.size = 0 := h
    rw [Array.eq_empty_of_size_eq_zero this]


/-- The first slash of a text, or minus one. -/
def ixS (s : ByteArray) : Int := Lib.indexByte s.data.toList 47

set_option maxHeartbeats 1000000 in
set_option maxRecDepth 100000 in
theorem indexByte_ok (s : ByteArray) (w : World) : Calls Try.prog 91 #[.string s, .int .u8 47] w fun e w' => e = .returned (.int .i64 (ixS s)) ∧ w' = w := by
  go_enter Try.func91, Try.ntmps91
  go_wp2
  rw [run_callFunc_extern Try.func96 (by kernel_rfl) (by kernel_rfl) (by kernel_rfl) (e := Extern.BytealgIndexByte.indexByte) (by kernel_rfl), Lib.run_indexByteString]
  simp only [Result.andThen]
  rw [Oper.upon_value]
  go_wp2
  go_ret
  exact ⟨rfl, rfl⟩

set_option maxHeartbeats 1000000 in
set_option maxRecDepth 100000 in
theorem index_ok (s : ByteArray) (w : World) : Calls Try.prog 84 #[.string s, .string ⟨#[47]⟩] w fun e w' => e = .returned (.int .i64 (ixS s)) ∧ w' = w := by
  have h := indexByte_ok s w
  cases hq : ([47] == s.toList) with
  | true =>
    have hs : ixS s = 0 := by
      rw [beq_iff_eq, Lib.toList_data] at hq
      unfold ixS
      rw [← hq]
      rfl
    have HS : Hid _ := hs
    clear hs
    go_enter Try.func84, Try.ntmps84
    go_wp2_with fail
    go_ret
    exact ⟨by rw [HS.out]; rfl, rfl⟩
  | false =>
    go_enter Try.func84, Try.ntmps84
    go_wp2_with fail
    refine same_at h ?_
    dsimp only
    go_wp2_with fail
    go_ret
    exact ⟨rfl, rfl⟩

/-- A text's part. -/
theorem ixS_ge (s : ByteArray) : -1 ≤ ixS s := Lib.indexByte_ge _ _

set_option maxHeartbeats 1000000 in
set_option maxRecDepth 100000 in
theorem cutlite_none (s : ByteArray) (w : World) (h : ixS s = -1) : Calls Try.prog 67 #[.string s, .string ⟨#[47]⟩] w fun e w' => e = .returned (.tuple #[.string s, .string ⟨#[]⟩, .bool false]) ∧ w' = w := by
  have hi := index_ok s w
  rw [h] at hi
  clear h
  go_enter Try.func67, Try.ntmps67
  go_wp2_with fail
  refine same_at hi ?_
  dsimp only
  go_wp2_with fail
  go_ret3
  exact ⟨rfl, rfl⟩

set_option maxHeartbeats 1000000 in
set_option maxRecDepth 100000 in
theorem cutlite_some (s : ByteArray) (w : World) (i : Nat) (h : ixS s = (i : Int)) (hi : i < s.size) (hs : s.size ≤ 140737488355328) : Calls Try.prog 67 #[.string s, .string ⟨#[47]⟩] w fun e w' => e = .returned (.tuple #[.string (s.extract 0 i), .string (s.extract (i + 1) s.size), .bool true]) ∧ Below w.heap.size w w' := by
  have hix := index_ok s w
  rw [h] at hix
  clear h
  have h1 : (i : Int) ≤ (s.size : Int) := by omega
  have h2 : (i : Int) + 1 ≤ (s.size : Int) := by omega
  have h0 : (0 : Int) ≤ (i : Int) := by omega
  go_enter Try.func67, Try.ntmps67
  go_wp2_with fail
  refine same_at hix ?_
  dsimp only
  go_wp2_with fail
  go_quiet (fail)
  go_wp2_with fail
  go_ret3
  exact ⟨rfl, below_drewN (Below.refl _ _) _⟩

/-- A text up to its first slash, what is behind that, and whether there is one. -/
def cutA (s : ByteArray) : ByteArray := if ixS s = -1 then s else s.extract 0 (ixS s).toNat
def cutB (s : ByteArray) : ByteArray := if ixS s = -1 then ⟨#[]⟩ else s.extract ((ixS s).toNat + 1) s.size
def cutC (s : ByteArray) : Bool := decide (ixS s ≠ -1)
theorem ixS_lt {s : ByteArray} (h : ixS s ≠ -1) : ∃ i : Nat, ixS s = (i : Int) ∧ i < s.size := by
  have h0 := ixS_ge s
  refine ⟨(ixS s).toNat, by omega, ?_⟩
  have h1 := Lib.indexByte_some (l := s.data.toList) (c := 47) (o := (ixS s).toNat) (by show ixS s = _; omega)
  have h2 := (List.getElem?_eq_some_iff.1 h1.1).1
  rw [Array.length_toList] at h2
  exact h2

set_option maxHeartbeats 1000000 in
set_option maxRecDepth 100000 in
theorem cut_ok (s : ByteArray) (w : World) (hs : s.size ≤ 140737488355328) : Calls Try.prog 60 #[.string s, .string ⟨#[47]⟩] w fun e w' => e = .returned (.tuple #[.string (cutA s), .string (cutB s), .bool (cutC s)]) ∧ Below w.heap.size w w' := by
  have hc : Calls Try.prog 67 #[.string s, .string ⟨#[47]⟩] w fun e w' => e = .returned (.tuple #[.string (cutA s), .string (cutB s), .bool (cutC s)]) ∧ Below w.heap.size w w' := by
    by_cases h : ixS s = -1
    · refine (cutlite_none s w h).mono ?_
      rintro e w' ⟨rfl, rfl⟩
      refine ⟨?_, Below.refl _ _⟩
      unfold cutA cutB cutC
      rw [if_pos h, if_pos h, decide_eq_false (by simpa using h)]
    · obtain ⟨i, hi, hlt⟩ := ixS_lt h
      refine (cutlite_some s w i hi hlt hs).mono ?_
      rintro e w' ⟨rfl, hb⟩
      refine ⟨?_, hb⟩
      unfold cutA cutB cutC
      rw [if_neg h, if_neg h, decide_eq_true h, hi, Int.toNat_natCast]
  generalize cutA s = A at *
  generalize cutB s = B at *
  generalize cutC s = C at *
  go_enter Try.func60, Try.ntmps60
  go_wp2_with fail
  refine grew_at hc ?_
  intro w1 hb1
  clear hc
  dsimp only
  go_wp2_with fail
  go_ret3
  exact ⟨rfl, hb1⟩

/-- Whether a text begins with a slash. -/
def slB (s : ByteArray) : Bool := (s.extract 0 1).toList == [47]

set_option maxHeartbeats 1000000 in
set_option maxRecDepth 100000 in
theorem hasPrefix_ok (s : ByteArray) (w : World) (hs : s.size ≤ 140737488355328) : Calls Try.prog 83 #[.string s, .string ⟨#[47]⟩] w fun e w' => e = .returned (.bool (slB s)) ∧ w' = w := by
  by_cases h : 1 ≤ s.size
  · have h1 : (1 : Int) ≤ (s.size : Int) := by omega
    go_enter Try.func83, Try.ntmps83
    go_wp2_with fail
    go_ret
    exact ⟨rfl, rfl⟩
  · have h1 : ¬ (1 : Int) ≤ (s.size : Int) := by omega
    have hsl : slB s = false := by
      have : s = ⟨#[]⟩ := str_none (by omega)
      subst this
      decide +kernel
    have HS : Hid _ := hsl
    clear hsl
    go_enter Try.func83, Try.ntmps83
    go_wp2_with fail
    go_ret
    exact ⟨by rw [HS.out]; rfl, rfl⟩
theorem slB_size {s : ByteArray} (h : slB s = true) : 1 ≤ s.size := by
  by_cases h0 : 1 ≤ s.size
  · exact h0
  · have : s = ⟨#[]⟩ := str_none (by omega)
    subst this
    have h2 : slB ⟨#[]⟩ = false := by decide +kernel
    rw [h2] at h
    cases h

set_option maxHeartbeats 1000000 in
set_option maxRecDepth 100000 in
theorem cutPrefix_ok (s : ByteArray) (w : World) (hs : s.size ≤ 140737488355328) : Calls Try.prog 59 #[.string s, .string ⟨#[47]⟩] w fun e w' => e = .returned (.tuple #[.string (if slB s then s.extract 1 s.size else s), .bool (slB s)]) ∧ w' = w := by
  have hc : Calls Try.prog 66 #[.string s, .string ⟨#[47]⟩] w fun e w' => e = .returned (.tuple #[.string (if slB s then s.extract 1 s.size else s), .bool (slB s)]) ∧ w' = w := by
    have hp := hasPrefix_ok s w hs
    cases h : slB s with
    | true =>
      rw [h] at hp
      have h1 : (1 : Int) ≤ (s.size : Int) := by have := slB_size h; omega
      clear h
      go_enter Try.func66, Try.ntmps66
      go_wp2_with fail
      refine same_at hp ?_
      dsimp only
      go_wp2_with fail
      go_ret2
      exact ⟨rfl, rfl⟩
    | false =>
      rw [h] at hp
      clear h
      go_enter Try.func66, Try.ntmps66
      go_wp2_with fail
      refine same_at hp ?_
      dsimp only
      go_wp2_with fail
      go_ret2
      exact ⟨rfl, rfl⟩
  generalize (if slB s then s.extract 1 s.size else s) = A at *
  generalize slB s = B at *
  go_enter Try.func59, Try.ntmps59
  go_wp2_with fail
  refine same_at hc ?_
  dsimp only
  go_wp2_with fail
  go_ret2
  exact ⟨rfl, rfl⟩

set_option maxHeartbeats 2000000 in
set_option maxRecDepth 100000 in
/-- A text's copy is the text. -/
theorem sclone_ok (s : ByteArray) (w : World) (h1 : 1 ≤ s.size) (h13 : s.size ≤ 13) : Calls Try.prog 62 #[.string s] w fun e w' => e = .returned (.string s) ∧ Below w.heap.size w w' := by
  have hc : Calls Try.prog 71 #[.string s] w fun e w' => e = .returned (.string s) ∧ Below w.heap.size w w' := by
    obtain ⟨i0, hi, hz0, hz1, hz2⟩ := info_parts info5
    obtain ⟨Z, hZ⟩ : ∃ Z, Z = madeCells (Value.int .u8 0).cells (((s.size : Nat) : Int).toNat * i0.size) := ⟨_, rfl⟩
    have hZs : Z.size = s.size := by rw [hZ, size_madeCells, hz1]; simp
    have hmk : ∀ W : World, (Instr.makeSlice 22 (.int .i64 (s.size : Int)) (.int .i64 (s.size : Int))).run Try.prog W = .ok (.slice (some ⟨W.heap.size, 0, none⟩) s.size s.size) (W.alloc (.cells Z 5)) := fun W => by
      have h := run_make (P := Try.prog) W 22 5 i0 (.int .u8 0) Try.underlying22 hi hz0 .i64 .i64 (s.size : Int) (s.size : Int) (by omega) (by omega) (by rw [hz2]; omega) (by omega)
      rw [← hZ] at h
      simpa using h
    clear hZ
    have hcp := Lib.run_copy_row_string (P := Try.prog) (w.alloc (.cells Z 5)) 22 9 3 5 w.heap.size 0 s.size s.size s Z 5 Try.underlying22 size5 (heap_new w _) (Nat.le_refl _) (by omega)
    obtain ⟨Y, hY⟩ : ∃ Y, Y = (Z.toList.take 0 ++ Lib.byteCells s.data.toList ++ Z.toList.drop (0 + s.size)).toArray := ⟨_, rfl⟩
    rw [← hY] at hcp
    have hYl : Y.toList = Lib.byteCells s.data.toList := by rw [hY]; simp [hZs]
    have hgY : ((w.alloc (.cells Z 5)).setRow w.heap.size Y).heap[w.heap.size]? = some (.cells Y 5 (0, 0)) := setRow_heap _ _ Z _ 5 (0, 0) (heap_new w _)
    have hYs : Y.size = s.size := by rw [← Array.length_toList, hYl, Lib.byteCells_length, ← Lib.size_eq]
    have hne : s.data.toList ≠ [] := fun e => by have h2 : s.size = s.data.toList.length := Lib.size_eq s; rw [e] at h2; have h3 : s.size = 0 := h2; omega
    have hus := Lib.run_unsafeString_row (P := Try.prog) ((w.alloc (.cells Z 5)).setRow w.heap.size Y) 125 3 9 5 Try.underlying125 (by kernel_rfl) w.heap.size Y.size (by unfold World.shape?; rw [hgY]) s.data.toList hne (by rw [← Lib.size_eq]; omega) (by rw [← Lib.size_eq]; omega)
      (fun j x hx => Lib.cells_of_row hgY Y.size j _ (by rw [List.take_of_length_le (by rw [Array.length_toList]; exact Nat.le_refl _), hYl]; simp [Lib.byteCells, hx]))
    rw [← Lib.size_eq] at hus
    have hnz : ¬ s.size = 0 := by omega
    have hbf : Below w.heap.size w ((w.alloc (.cells Z 5)).setRow w.heap.size Y) := below_setRow (grew_alloc _ _) (Nat.le_refl _) _
    have HB : Hid _ := hbf
    clear hY hYl hgY hbf
    go_enter Try.func71, Try.ntmps71
    go_wp2
    go_ret
    exact ⟨rfl, Lib.below_freeze HB.out (p := ⟨w.heap.size, 0, none⟩) (Nat.le_refl _) _⟩
  go_enter Try.func62, Try.ntmps62
  go_wp2_with fail
  refine grew_at hc ?_
  intro w1 hb1
  dsimp only
  go_wp2_with fail
  go_ret
  exact ⟨rfl, hb1⟩
end Go.Proofs.Ytfchclpglcogoaa
