/- A cache in memory, and what only reads it. -/
import Derived.Test.YtliljdencaocaaaSort
namespace Go.Proofs.Ytliljdencaocaaa
open Go.RowKit Go.Maps
set_option linter.unusedVariables false

/-- A buffer: its block, when it was used last, its pins, where it lies, its bytes. -/
structure Bf where
  b : Nat
  u : Nat
  p : Nat
  g : Nat
  xs : List Int
/-- What a cache has: how many it may hold, hits, misses, its buffers, the one that was used longest ago first. -/
structure Ch where
  bd : Nat
  hi : Nat
  mi : Nat
  L : List Bf
def bufL (f : Bf) : List Value := f.xs.map (Value.int .u8) ++ [.int .i64 (f.u : Int), .int .i64 (f.p : Int)]
def bufA (f : Bf) : Array Value := (bufL f).toArray
def bg (f : Bf) : Nat × Nat := (f.b, f.g)

structure CW (B : Nat) (w : World) (c mb d N : Nat) (C : Ch) : Prop where
  row : w.heap[c]? = some (.cells #[.pointer (some ⟨d, 0, none⟩), .int .i64 (C.bd : Int), .map (some mb), .int .i64 (C.hi : Int), .int .i64 (C.mi : Int)] 56 (0, 0))
  map : Bm w mb (C.L.map bg)
  buf : ∀ f ∈ C.L, w.heap[f.g]? = some (.cells (bufA f) 90 (0, 0))
  sec : ∀ f ∈ C.L, Sect f.xs
  gs : (C.L.map (·.g)).Nodup
  ps : ∀ f ∈ C.L, f.p ≤ 100
  bs : ∀ f ∈ C.L, f.b < N
  N12 : N ≤ 12
  bd : 1 ≤ C.bd ∧ C.bd ≤ 64
  len : C.L.length ≤ C.bd
  lo : B ≤ c ∧ B ≤ mb ∧ ∀ f ∈ C.L, B ≤ f.g
  cnt : C.hi + C.mi ≤ 4611686018427387904

/-- A cache: its buffers stand in the order of their use. -/
structure CI (B : Nat) (w : World) (c mb d N : Nat) (C : Ch) : Prop extends CW B w c mb d N C where
  ord : C.L.Pairwise (fun f h => f.u < h.u)
  us : ∀ f ∈ C.L, f.u ≤ C.hi + C.mi

/-- A cache's own blocks. -/
def cfoot (c mb : Nat) (C : Ch) (k : Nat) : Prop := k = c ∨ k = mb ∨ ∃ f ∈ C.L, k = f.g

section
variable {B : Nat} {w w' : World} {c mb d N : Nat} {C : Ch}
theorem CW.in (h : CW B w c mb d N C) : ∀ k, cfoot c mb C k → B ≤ k ∧ k < w.heap.size := by
  rintro k (rfl | rfl | ⟨f, hf, rfl⟩)
  · exact ⟨h.lo.1, (Array.getElem?_eq_some_iff.1 h.row).1⟩
  · exact ⟨h.lo.2.1, h.map.lt⟩
  · exact ⟨h.lo.2.2 f hf, (Array.getElem?_eq_some_iff.1 (h.buf f hf)).1⟩
theorem CW.kept (h : CW B w c mb d N C) (hb : ∀ k, cfoot c mb C k → w'.heap[k]? = w.heap[k]?) : CW B w' c mb d N C :=
  { h with row := (hb c (.inl rfl)).trans h.row, map := h.map.kept (hb mb (.inr (.inl rfl))), buf := fun f hf => (hb f.g (.inr (.inr ⟨f, hf, rfl⟩))).trans (h.buf f hf) }
theorem CW.later (h : CW B w c mb d N C) (hb : Below w.heap.size w w') : CW B w' c mb d N C :=
  h.kept fun k hk => hb.block k (h.in k hk).2
theorem CI.kept (h : CI B w c mb d N C) (hb : ∀ k, cfoot c mb C k → w'.heap[k]? = w.heap[k]?) : CI B w' c mb d N C := { CW.kept h.toCW hb with ord := h.ord, us := h.us }
theorem CI.later (h : CI B w c mb d N C) (hb : Below w.heap.size w w') : CI B w' c mb d N C := { CW.later h.toCW hb with ord := h.ord, us := h.us }
theorem CW.c0 (h : CW B w c mb d N C) : w.cell? ⟨c, 0, none⟩ = some (.pointer (some ⟨d, 0, none⟩)) := cell_of_row _ _ 0 _ 56 _ h.row
theorem CW.c1 (h : CW B w c mb d N C) : w.cell? ⟨c, 1, none⟩ = some (.int .i64 (C.bd : Int)) := cell_of_row _ _ 1 _ 56 _ h.row
theorem CW.c2 (h : CW B w c mb d N C) : w.cell? ⟨c, 2, none⟩ = some (.map (some mb)) := cell_of_row _ _ 2 _ 56 _ h.row
theorem CW.c3 (h : CW B w c mb d N C) : w.cell? ⟨c, 3, none⟩ = some (.int .i64 (C.hi : Int)) := cell_of_row _ _ 3 _ 56 _ h.row
theorem CW.c4 (h : CW B w c mb d N C) : w.cell? ⟨c, 4, none⟩ = some (.int .i64 (C.mi : Int)) := cell_of_row _ _ 4 _ 56 _ h.row
theorem CW.used (h : CW B w c mb d N C) {f : Bf} (hf : f ∈ C.L) : w.cell? ⟨f.g, 128, none⟩ = some (.int .i64 (f.u : Int)) := by
  have hl := (h.sec f hf).1
  have e : (bufA f)[128]? = some (.int .i64 (f.u : Int)) := by
    unfold bufA bufL
    simp [hl]
  simp [World.cell?, h.buf f hf, e]
theorem CW.pins (h : CW B w c mb d N C) {f : Bf} (hf : f ∈ C.L) : w.cell? ⟨f.g, 129, none⟩ = some (.int .i64 (f.p : Int)) := by
  have hl := (h.sec f hf).1
  have e : (bufA f)[129]? = some (.int .i64 (f.p : Int)) := by
    unfold bufA bufL
    simp [hl]
  simp [World.cell?, h.buf f hf, e]
theorem CW.hit (h : CW B w c mb d N C) {f : Bf} (hf : f ∈ C.L) : (Instr.lookup 54 (.map (some mb)) (.int .i64 (f.b : Int)) false).run Try.prog w = .ok (.pointer (some ⟨f.g, 0, none⟩)) w :=
  h.map.hit (bg f) (List.mem_map.2 ⟨f, hf, rfl⟩) (by have := h.bs f hf; have := h.N12; show f.b < _; omega)
theorem CW.miss (h : CW B w c mb d N C) {b : Nat} (hb : b < N) (hn : ∀ f ∈ C.L, ¬ f.b = b) : (Instr.lookup 54 (.map (some mb)) (.int .i64 (b : Int)) false).run Try.prog w = .ok (.pointer none) w :=
  h.map.miss b (by
    intro p hp
    obtain ⟨f, hf, rfl⟩ := List.mem_map.1 hp
    exact hn f hf) (by have := h.N12; omega)

set_option maxHeartbeats 400000 in
theorem cmade_ok (h : CW B w c mb d N C) : Calls Try.prog 46 #[.pointer (some ⟨c, 0, none⟩)] w fun e w' => e = .returned (.bool true) ∧ w' = w := by
  have hc := h.c0
  go_enter Try.func46, Try.ntmps46
  go_wp2
  go_ret
  exact ⟨rfl, rfl⟩

set_option maxHeartbeats 400000 in
theorem refusal_arg (h : CW B w c mb d N C) (hd : Calls Try.prog 21 #[.pointer (some ⟨d, 0, none⟩)] w fun e w' => e = .returned (.int .i64 (N : Int)) ∧ w' = w) (b : Int) (hb : b < 0 ∨ (N : Int) ≤ b) : Calls Try.prog 51 #[.pointer (some ⟨c, 0, none⟩), .int .i64 b] w fun e w' => e = .returned (.int .i64 1) ∧ w' = w := by
  have hc := h.c0
  have hm := cmade_ok h
  by_cases h0 : b < 0
  · clear hb
    go_enter Try.func51, Try.ntmps51
    go_wp2_with (first | (go_at_call 46; refine same_at hm ?_) | (go_at_call 21; refine same_at hd ?_))
    go_ret
    exact ⟨rfl, rfl⟩
  · have h1 : (N : Int) ≤ b := by omega
    have h0 : 0 ≤ b := by omega
    clear hb
    go_enter Try.func51, Try.ntmps51
    go_wp2_with (first | (go_at_call 46; refine same_at hm ?_) | (go_at_call 21; refine same_at hd ?_))
    go_ret
    exact ⟨rfl, rfl⟩
set_option maxHeartbeats 400000 in
theorem refusal_ok (h : CW B w c mb d N C) (hd : Calls Try.prog 21 #[.pointer (some ⟨d, 0, none⟩)] w fun e w' => e = .returned (.int .i64 (N : Int)) ∧ w' = w) (b : Nat) (hb : b < N) : Calls Try.prog 51 #[.pointer (some ⟨c, 0, none⟩), .int .i64 (b : Int)] w fun e w' => e = .returned (.int .i64 0) ∧ w' = w := by
  have hc := h.c0
  have hm := cmade_ok h
  have h0 : (0 : Int) ≤ (b : Int) := by omega
  have h1 : (b : Int) < (N : Int) := by omega
  go_enter Try.func51, Try.ntmps51
  go_wp2_with (first | (go_at_call 46; refine same_at hm ?_) | (go_at_call 21; refine same_at hd ?_))
  go_ret
  exact ⟨rfl, rfl⟩

set_option maxHeartbeats 400000 in
theorem pinned_hit (h : CW B w c mb d N C) {f : Bf} (hf : f ∈ C.L) : Calls Try.prog 54 #[.pointer (some ⟨c, 0, none⟩), .int .i64 (f.b : Int)] w fun e w' => e = .returned (.bool (decide (0 < f.p))) ∧ w' = w := by
  have hc := h.c2
  have hl := h.hit hf
  have hp := h.pins hf
  go_enter Try.func54, Try.ntmps54
  go_wp2
  go_ret
  exact ⟨ret_bool (by simp), rfl⟩
set_option maxHeartbeats 400000 in
theorem pinned_miss (h : CW B w c mb d N C) {b : Nat} (hb : b < N) (hn : ∀ f ∈ C.L, ¬ f.b = b) : Calls Try.prog 54 #[.pointer (some ⟨c, 0, none⟩), .int .i64 (b : Int)] w fun e w' => e = .returned (.bool false) ∧ w' = w := by
  have hc := h.c2
  have hl := h.miss hb hn
  go_enter Try.func54, Try.ntmps54
  go_wp2
  go_ret
  exact ⟨rfl, rfl⟩

set_option maxRecDepth 100000 in
set_option maxHeartbeats 1000000 in
theorem held1_ok (h : CW B w c mb d N C) (cb : Nat) (hcb : w.cell? ⟨cb, 0, none⟩ = some (.pointer (some ⟨c, 0, none⟩))) {f k : Bf} (hf : f ∈ C.L) (hk : k ∈ C.L) :
    Calls Try.prog 49 #[.int .i64 (f.b : Int), .int .i64 (k.b : Int), .pointer (some ⟨cb, 0, none⟩)] w fun e w' => e = .returned (.int .i64 (cpr (f.u : Int) (k.u : Int))) ∧ ∃ q, w' = w.drewN q := by
  have hc := h.c2
  have h1 := h.used hf
  have h2 := h.used hk
  have l1 : ∀ q, (Instr.lookup 54 (.map (some mb)) (.int .i64 (f.b : Int)) false).run Try.prog (w.drewN q) = .ok (.pointer (some ⟨f.g, 0, none⟩)) (w.drewN q) := fun q => (h.later (below_drewN (Below.refl _ _) q)).hit hf
  have l2 : ∀ q, (Instr.lookup 54 (.map (some mb)) (.int .i64 (k.b : Int)) false).run Try.prog (w.drewN q) = .ok (.pointer (some ⟨k.g, 0, none⟩)) (w.drewN q) := fun q => (h.later (below_drewN (Below.refl _ _) q)).hit hk
  clear h hf hk
  generalize f.b = fb at *
  generalize k.b = kb at *
  generalize f.g = fg at *
  generalize k.g = kg at *
  generalize f.u = fu at *
  generalize k.u = ku at *
  go_enter Try.func49, Try.ntmps49
  go_wp2_with fail
  go_quiet (first | (go_at_call 50; exact Calls.quiet_of_same (compare_ok _ _ _)))
  go_wp2
  go_ret
  exact ⟨rfl, _, rfl⟩
end
end Go.Proofs.Ytliljdencaocaaa
