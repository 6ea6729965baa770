/- Collect Len Sort Cache Held Use -/
import Derived.Test.YthdlpeejmmobmaaGreatAn07
import Derived.Shelf.SlIterI.Stops
import Derived.RangeFuncNested
import Derived.RangeFuncBound
import Derived.RangeFuncCalls
import Derived.RangeFuncLeaves
import Derived.RangeFuncBox
import Derived.Shelf.Abstract
import Derived.Shelf.RegionOpen
import Derived.OwnWalkIn
import Derived.TacticsInMore
import Derived.LoopNIn
import Derived.LoopIn
import Derived.Sort.WalkA
import Derived.Sort.LotA
import Derived.BigQuiet
import Derived.Deep.QuietTactic

/- A map's keys as a list of their own. -/
namespace Go.Proofs.YthdlpeejmmobmaaGreat
open Go.RowKit Go.Shelf Go.Maps Go.Sort
set_option maxRecDepth 100000
set_option linter.unusedVariables false
attribute [local go_sem] Oper.semAt_some

theorem info3n : (Tryz.prog.info? 3).map (fun i => (i.zero, i.size, i.bytes)) = some (some (.int .i64 0), 1, 8) := by kernel_rfl

/-- The call's own row of numbers: v is what stands for zs. -/
def Nums (B : Nat) (w : World) (v : Value) (zs : List Int) : Prop := w.ownsRow B 3 1 v zs.length (zs.map (Value.int .i64))

theorem Nums.kept {B : Nat} {w w' : World} {v : Value} {zs : List Int} (h : Nums B w v zs) (hb : Below w.heap.size w w') : Nums B w' v zs := by
  refine ⟨h.1, ?_⟩
  rcases h.2 with h' | ⟨g', cap', cur, h', hbg, hg, rest⟩
  · exact .inl h'
  · have hlt : g' < w.heap.size := (Array.getElem?_eq_some_iff.1 hg).1
    exact .inr ⟨g', cap', cur, h', hbg, by rw [hb.block g' hlt]; exact hg, rest⟩
theorem Nums.base {B B' : Nat} {w : World} {v : Value} {zs : List Int} (h : Nums B w v zs) (hB : B' ≤ B) : Nums B' w v zs := by
  refine ⟨h.1, ?_⟩
  rcases h.2 with h' | ⟨g', cap', cur, h', hbg, rest⟩
  · exact .inl h'
  · exact .inr ⟨g', cap', cur, h', by omega, rest⟩
theorem Nums.nil (B : Nat) (w : World) : Nums B w (.slice none 0 0) [] := World.ownsRow_nil _ _ _ _

end Go.Proofs.YthdlpeejmmobmaaGreat

/- How many bits a small number takes: the library's bits.Len answers. -/
namespace Go.Proofs.YthdlpeejmmobmaaGreat
open Go.RowKit Go.Maps
set_option maxRecDepth 100000
set_option linter.unusedVariables false

set_option maxRecDepth 100000 in
set_option maxHeartbeats 1000000 in
theorem len64_small (n : Nat) (h : n ≤ 12) (w : World) : Calls Tryz.prog 303 #[.int .u64 (n : Int)] w fun e w' => (∃ k : Int, e = .returned (.int .i64 k)) ∧ w' = w := by
  rcases (by omega : n = 0 ∨ n = 1 ∨ n = 2 ∨ n = 3 ∨ n = 4 ∨ n = 5 ∨ n = 6 ∨ n = 7 ∨ n = 8 ∨ n = 9 ∨ n = 10 ∨ n = 11 ∨ n = 12) with rfl | rfl | rfl | rfl | rfl | rfl | rfl | rfl | rfl | rfl | rfl | rfl | rfl
  all_goals
    go_enter Tryz.func303, Tryz.ntmps303
    go_wp2
    go_ret
    exact ⟨⟨_, rfl⟩, rfl⟩

set_option maxHeartbeats 400000 in
theorem len_small (n : Nat) (h : n ≤ 12) (w : World) : Calls Tryz.prog 271 #[.int .u64 (n : Int)] w fun e w' => (∃ k : Int, e = .returned (.int .i64 k)) ∧ w' = w := by
  have hk := len64_small n h w
  go_enter Tryz.func271, Tryz.ntmps271
  go_wp2_with (first | (go_at_call 303; refine Calls.mono hk ?_; rintro e w' ⟨⟨k, rfl⟩, rfl⟩))
  go_ret
  exact ⟨⟨k, rfl⟩, rfl⟩
end Go.Proofs.YthdlpeejmmobmaaGreat

/- The library's sort by a comparison, of twelve numbers at most. -/
namespace Go.Proofs.YthdlpeejmmobmaaGreat
open Go.RowKit Go.Maps
set_option maxRecDepth 100000
set_option linter.unusedVariables false

/-- How cmp.Compare tells two numbers apart. -/
def cpr (x y : Int) : Int := if x < y then -1 else if y < x then 1 else 0

set_option maxHeartbeats 400000 in
theorem nan_ok (x : Int) (w : World) : Calls Tryz.prog 315 #[.int .i64 x] w fun e w' => e = .returned (.bool false) ∧ w' = w := by
  go_enter Tryz.func315, Tryz.ntmps315
  go_wp2
  go_ret
  exact ⟨rfl, rfl⟩
/-- The row of numbers at g is d. -/
def Ar (w : World) (g n cap : Nat) (d : Array Int) : Prop := w.ownsRow g 3 1 (.slice (some ⟨g, 0, none⟩) n cap) n (d.toList.map (Value.int .i64))
theorem Ar.len {w : World} {g n cap : Nat} {d : Array Int} (h : Ar w g n cap d) : d.size = n := by
  have := h.1
  simpa using this
theorem Ar.cell {w : World} {g n cap : Nat} {d : Array Int} (h : Ar w g n cap d) (j : Nat) (hj : j < n) : w.cell? ⟨g, j, none⟩ = some (.int .i64 d[j]!) := by
  have h1 := World.ownsRow.cellAt h j (by omega)
  have hl := h.len
  rw [h1, List.getElem?_map, Array.getElem?_toList, Array.getElem?_eq_getElem (by omega)]
  simp [getElem!_pos, show j < d.size by omega]
theorem Ar.set {w : World} {g n cap : Nat} {d : Array Int} (h : Ar w g n cap d) (j : Nat) (y : Int) : Ar (w.setCell ⟨g, j, none⟩ (.int .i64 y)) g n cap (d.setIfInBounds j y) := by
  have := (World.ownsRow.stored h j (.int .i64 y)).1
  unfold Ar
  rw [Array.toList_setIfInBounds, List.map_set]
  exact this
theorem Ar.kept {w w' : World} {g n cap : Nat} {d : Array Int} (h : Ar w g n cap d) (hb : w'.heap[g]? = w.heap[g]?) : Ar w' g n cap d := by
  refine ⟨h.1, ?_⟩
  rcases h.2 with ⟨h', _⟩ | ⟨g', cap', cur, h', hbg, hg, rest⟩
  · simp at h'
  · have e : g = g' := by simpa using (Value.slice.inj h').1
    subst e
    exact .inr ⟨g, cap', cur, h', hbg, hb.trans hg, rest⟩

/-- What a comparison answers, of numbers of the row, wherever only the row has turned. -/
def Cmp (w0 : World) (g fid cb : Nat) (u : Int → Int) (P : Int → Prop) : Prop :=
  ∀ x y, P x → P y → ∀ w', Frame (fun k => k = g) w0 w' → Calls Tryz.prog fid #[.int .i64 x, .int .i64 y, .pointer (some ⟨cb, 0, none⟩)] w' fun e w'' => e = .returned (.int .i64 (cpr (u x) (u y))) ∧ ∃ k, w'' = w'.drewN k

theorem frame_drewN {X : Nat → Prop} {w w' : World} (h : Frame X w w') (k : Nat) : Frame X w (w'.drewN k) := h.trans (frame_of_below (below_drewN (Below.refl _ _) k))
theorem cpr_lt (x y : Int) : decide (cpr x y < 0) = decide (x < y) := by
  unfold cpr
  by_cases h : x < y
  · simp [h]
  · rw [if_neg h]
    split <;> simp [h]

def ult (u : Int → Int) (x y : Int) : Bool := decide (u x < u y)
theorem ult_swo (u : Int → Int) : Sort.SWO (ult u) :=
  ⟨fun x => by simp [ult], fun x y z h k => by simp [ult] at *; omega, fun x y z h k => by simp [ult] at *; omega⟩

end Go.Proofs.YthdlpeejmmobmaaGreat

/- A cache in memory, and what only reads it. -/
namespace Go.Proofs.YthdlpeejmmobmaaGreat
open Go.RowKit Go.Maps
set_option maxRecDepth 100000
set_option linter.unusedVariables false

/-- A buffer: its block, when it was used last, its pins, where it lies, its bytes. -/
structure Bf where
  b : Nat
  u : Nat
  p : Nat
  g : Nat
  xs : List Int
/-- What a cache has: how many it may hold, hits, misses, its buffers, the one that was used longest ago first. -/
structure Ch where
  bd : Nat
  hi : Nat
  mi : Nat
  L : List Bf
def bufL (f : Bf) : List Value := f.xs.map (Value.int .u8) ++ [.int .i64 (f.u : Int), .int .i64 (f.p : Int)]
def bufA (f : Bf) : Array Value := (bufL f).toArray
def bg (f : Bf) : Nat × Nat := (f.b, f.g)

structure CW (B : Nat) (w : World) (c mb d N : Nat) (C : Ch) : Prop where
  row : w.heap[c]? = some (.cells #[.pointer (some ⟨d, 0, none⟩), .int .i64 (C.bd : Int), .map (some mb), .int .i64 (C.hi : Int), .int .i64 (C.mi : Int)] 323 (0, 0))
  map : Bm w mb (C.L.map bg)
  buf : ∀ f ∈ C.L, w.heap[f.g]? = some (.cells (bufA f) 379 (0, 0))
  sec : ∀ f ∈ C.L, Sect f.xs
  gs : (C.L.map (·.g)).Nodup
  ps : ∀ f ∈ C.L, f.p ≤ 100
  bs : ∀ f ∈ C.L, f.b < N
  N12 : N ≤ 2048
  bd : 1 ≤ C.bd ∧ C.bd ≤ 64
  len : C.L.length ≤ C.bd
  lo : B ≤ c ∧ B ≤ mb ∧ ∀ f ∈ C.L, B ≤ f.g
  cnt : C.hi + C.mi ≤ 4611686018427387904

/-- A cache: its buffers stand in the order of their use. -/
structure CI (B : Nat) (w : World) (c mb d N : Nat) (C : Ch) : Prop extends CW B w c mb d N C where
  ord : C.L.Pairwise (fun f h => f.u < h.u)
  us : ∀ f ∈ C.L, f.u ≤ C.hi + C.mi

/-- A cache's own blocks. -/
def cfoot (c mb : Nat) (C : Ch) (k : Nat) : Prop := k = c ∨ k = mb ∨ ∃ f ∈ C.L, k = f.g

section
variable {B : Nat} {w w' : World} {c mb d N : Nat} {C : Ch}
theorem CW.in (h : CW B w c mb d N C) : ∀ k, cfoot c mb C k → B ≤ k ∧ k < w.heap.size := by
  rintro k (rfl | rfl | ⟨f, hf, rfl⟩)
  · exact ⟨h.lo.1, (Array.getElem?_eq_some_iff.1 h.row).1⟩
  · exact ⟨h.lo.2.1, h.map.lt⟩
  · exact ⟨h.lo.2.2 f hf, (Array.getElem?_eq_some_iff.1 (h.buf f hf)).1⟩
theorem CW.kept (h : CW B w c mb d N C) (hb : ∀ k, cfoot c mb C k → w'.heap[k]? = w.heap[k]?) : CW B w' c mb d N C :=
  { h with row := (hb c (.inl rfl)).trans h.row, map := h.map.kept (hb mb (.inr (.inl rfl))), buf := fun f hf => (hb f.g (.inr (.inr ⟨f, hf, rfl⟩))).trans (h.buf f hf) }
theorem CW.later (h : CW B w c mb d N C) (hb : Below w.heap.size w w') : CW B w' c mb d N C :=
  h.kept fun k hk => hb.block k (h.in k hk).2
theorem CI.kept (h : CI B w c mb d N C) (hb : ∀ k, cfoot c mb C k → w'.heap[k]? = w.heap[k]?) : CI B w' c mb d N C := { CW.kept h.toCW hb with ord := h.ord, us := h.us }
theorem CI.later (h : CI B w c mb d N C) (hb : Below w.heap.size w w') : CI B w' c mb d N C := { CW.later h.toCW hb with ord := h.ord, us := h.us }
theorem CW.c0 (h : CW B w c mb d N C) : w.cell? ⟨c, 0, none⟩ = some (.pointer (some ⟨d, 0, none⟩)) := cell_of_row _ _ 0 _ 323 _ h.row
theorem CW.c1 (h : CW B w c mb d N C) : w.cell? ⟨c, 1, none⟩ = some (.int .i64 (C.bd : Int)) := cell_of_row _ _ 1 _ 323 _ h.row
theorem CW.c2 (h : CW B w c mb d N C) : w.cell? ⟨c, 2, none⟩ = some (.map (some mb)) := cell_of_row _ _ 2 _ 323 _ h.row
theorem CW.c3 (h : CW B w c mb d N C) : w.cell? ⟨c, 3, none⟩ = some (.int .i64 (C.hi : Int)) := cell_of_row _ _ 3 _ 323 _ h.row
theorem CW.c4 (h : CW B w c mb d N C) : w.cell? ⟨c, 4, none⟩ = some (.int .i64 (C.mi : Int)) := cell_of_row _ _ 4 _ 323 _ h.row
theorem CW.used (h : CW B w c mb d N C) {f : Bf} (hf : f ∈ C.L) : w.cell? ⟨f.g, 128, none⟩ = some (.int .i64 (f.u : Int)) := by
  have hl := (h.sec f hf).1
  have e : (bufA f)[128]? = some (.int .i64 (f.u : Int)) := by
    unfold bufA bufL
    simp [hl]
  simp [World.cell?, h.buf f hf, e]
theorem CW.pins (h : CW B w c mb d N C) {f : Bf} (hf : f ∈ C.L) : w.cell? ⟨f.g, 129, none⟩ = some (.int .i64 (f.p : Int)) := by
  have hl := (h.sec f hf).1
  have e : (bufA f)[129]? = some (.int .i64 (f.p : Int)) := by
    unfold bufA bufL
    simp [hl]
  simp [World.cell?, h.buf f hf, e]
theorem CW.hit (h : CW B w c mb d N C) {f : Bf} (hf : f ∈ C.L) : (Instr.lookup 321 (.map (some mb)) (.int .i64 (f.b : Int)) false).run Tryz.prog w = .ok (.pointer (some ⟨f.g, 0, none⟩)) w :=
  h.map.hit (bg f) (List.mem_map.2 ⟨f, hf, rfl⟩) (by have := h.bs f hf; have := h.N12; show f.b < _; omega)
theorem CW.miss (h : CW B w c mb d N C) {b : Nat} (hb : b < N) (hn : ∀ f ∈ C.L, ¬ f.b = b) : (Instr.lookup 321 (.map (some mb)) (.int .i64 (b : Int)) false).run Tryz.prog w = .ok (.pointer none) w :=
  h.map.miss b (by
    intro p hp
    obtain ⟨f, hf, rfl⟩ := List.mem_map.1 hp
    exact hn f hf) (by have := h.N12; omega)

set_option maxHeartbeats 400000 in
theorem cmade_ok (h : CW B w c mb d N C) : Calls Tryz.prog 267 #[.pointer (some ⟨c, 0, none⟩)] w fun e w' => e = .returned (.bool true) ∧ w' = w := by
  have hc := h.c0
  go_enter Tryz.func267, Tryz.ntmps267
  go_wp2
  go_ret
  exact ⟨rfl, rfl⟩

set_option maxHeartbeats 400000 in
theorem refusal_arg (h : CW B w c mb d N C) (hd : Calls Tryz.prog 47 #[.pointer (some ⟨d, 0, none⟩)] w fun e w' => e = .returned (.int .i64 (N : Int)) ∧ w' = w) (b : Int) (hb : b < 0 ∨ (N : Int) ≤ b) : Calls Tryz.prog 204 #[.pointer (some ⟨c, 0, none⟩), .int .i64 b] w fun e w' => e = .returned (.int .i64 1) ∧ w' = w := by
  have hc := h.c0
  have hm := cmade_ok h
  by_cases h0 : b < 0
  · clear hb
    go_enter Tryz.func204, Tryz.ntmps204
    go_wp2_with (first | (go_at_call 267; refine same_at hm ?_) | (go_at_call 47; refine same_at hd ?_))
    go_ret
    exact ⟨rfl, rfl⟩
  · have h1 : (N : Int) ≤ b := by omega
    have h0 : 0 ≤ b := by omega
    clear hb
    go_enter Tryz.func204, Tryz.ntmps204
    go_wp2_with (first | (go_at_call 267; refine same_at hm ?_) | (go_at_call 47; refine same_at hd ?_))
    go_ret
    exact ⟨rfl, rfl⟩
set_option maxHeartbeats 400000 in
theorem refusal_ok (h : CW B w c mb d N C) (hd : Calls Tryz.prog 47 #[.pointer (some ⟨d, 0, none⟩)] w fun e w' => e = .returned (.int .i64 (N : Int)) ∧ w' = w) (b : Nat) (hb : b < N) : Calls Tryz.prog 204 #[.pointer (some ⟨c, 0, none⟩), .int .i64 (b : Int)] w fun e w' => e = .returned (.int .i64 0) ∧ w' = w := by
  have hc := h.c0
  have hm := cmade_ok h
  have h0 : (0 : Int) ≤ (b : Int) := by omega
  have h1 : (b : Int) < (N : Int) := by omega
  go_enter Tryz.func204, Tryz.ntmps204
  go_wp2_with (first | (go_at_call 267; refine same_at hm ?_) | (go_at_call 47; refine same_at hd ?_))
  go_ret
  exact ⟨rfl, rfl⟩

end
end Go.Proofs.YthdlpeejmmobmaaGreat

/- Held: the blocks that have buffers, the one that was used longest ago first. -/
namespace Go.Proofs.YthdlpeejmmobmaaGreat
open Go.RowKit Go.Maps
set_option maxRecDepth 100000
set_option linter.unusedVariables false

def blks (L : List Bf) : List Int := L.map (fun f => (f.b : Int))
/-- When a block was used last. -/
def uf (L : List Bf) (x : Int) : Int := match L.find? (fun f => (f.b : Int) == x) with | some f => (f.u : Int) | none => 0

theorem uf_at {L : List Bf} (hd : (L.map (·.b)).Nodup) {f : Bf} (hf : f ∈ L) : uf L (f.b : Int) = (f.u : Int) := by
  unfold uf
  induction L with
  | nil => cases hf
  | cons k L ih =>
    rw [List.map_cons, List.nodup_cons] at hd
    by_cases e : k.b = f.b
    · have : k = f := by
        rcases List.mem_cons.1 hf with h | h
        · exact h.symm
        · exact absurd (List.mem_map.2 ⟨f, h, e.symm⟩) hd.1
      subst this
      simp
    · have hf' : f ∈ L := by
        rcases List.mem_cons.1 hf with h | h
        · subst h; exact absurd rfl e
        · exact h
      have hne : ((k.b : Int) == (f.b : Int)) = false := by
        rw [beq_eq_false_iff_ne]; omega
      rw [List.find?_cons, hne]
      exact ih hd.2 hf'

theorem get_bang (d : Array Int) (i : Nat) (h : i < d.toList.length) : d[i]! = d.toList[i] := by
  have h' : i < d.size := by simpa using h
  simp [getElem!_pos, h']

/-- Sorted by when they were used, the blocks are the cache's own order. -/
theorem sorted_blks {L : List Bf} (hd : (L.map (·.b)).Nodup) (ho : L.Pairwise (fun f h => f.u < h.u)) {ss : List Int} (hn : ss.Nodup) (hm : ∀ x, x ∈ ss ↔ x ∈ blks L) :
    (Go.Sort.insertionSort (ult (uf L)) ss.toArray 0 ss.length).toList = blks L := by
  have hnb : (blks L).Nodup := by
    have e : blks L = (L.map (·.b)).map (fun n : Nat => (n : Int)) := by simp [blks]
    rw [e]
    exact List.Pairwise.map _ (fun a b h e => h (by omega)) hd
  have hp0 : ss.Perm (blks L) := (List.perm_ext_iff_of_nodup hn hnb).2 hm
  obtain ⟨hP, hS⟩ := Go.Sort.insertionSort_holds (ult_swo (uf L)) ss.toArray 0 ss.length (Nat.zero_le _) (by simp)
  generalize hdd : Go.Sort.insertionSort (ult (uf L)) ss.toArray 0 ss.length = D at *
  have hsz : D.size = ss.length := by have := hP.1; simpa using this
  have hp1 : D.toList.Perm ss := by
    have h3 := hP.2.2
    rw [show D.extract 0 ss.length = D by rw [← hsz]; simp, show ss.toArray.extract 0 ss.length = ss.toArray by simp] at h3
    simpa using h3
  have hp : D.toList.Perm (blks L) := hp1.trans hp0
  refine List.Perm.eq_of_pairwise (le := fun x y => ¬ uf L y < uf L x) ?_ ?_ ?_ hp
  · intro a b ha hb h1 h2
    rw [hp.mem_iff] at ha
    obtain ⟨f, hf, rfl⟩ := List.mem_map.1 ha
    obtain ⟨k, hk, rfl⟩ := List.mem_map.1 hb
    rw [uf_at hd hf, uf_at hd hk] at h1 h2
    have hu : f.u = k.u := by omega
    have : f = k := by
      clear hp hp1 hp0 hP hS hdd hsz ha hb h1 h2 hnb hm hn
      induction L with
      | nil => cases hf
      | cons m L ih =>
        rw [List.pairwise_cons] at ho
        rw [List.map_cons, List.nodup_cons] at hd
        rcases List.mem_cons.1 hf with h | h
        · rcases List.mem_cons.1 hk with h' | h'
          · rw [h, h']
          · have := ho.1 k h'; rw [h] at hu; omega
        · rcases List.mem_cons.1 hk with h' | h'
          · have := ho.1 f h; rw [h'] at hu; omega
          · exact ih hd.2 ho.2 h h'
    rw [this]
  · rw [List.pairwise_iff_getElem]
    intro i j hi hj hij
    have := hS i j (Nat.zero_le _) hij (by simpa [hsz] using hj)
    rw [get_bang D i hi, get_bang D j hj] at this
    simpa [ult] using this
  · unfold blks
    rw [List.pairwise_map]
    refine List.Pairwise.imp_of_mem ?_ ho
    intro f k hf hk h
    rw [uf_at hd hf, uf_at hd hk]
    omega

section
variable {B : Nat} {w w' : World} {c mb d N : Nat} {C : Ch}

theorem CW.bnd (h : CW B w c mb d N C) : (C.L.map (·.b)).Nodup := by
  have := h.map.nd
  rw [List.map_map] at this
  exact this
theorem CW.twelve (h : CW B w c mb d N C) : C.L.length ≤ N := by
  have h1 := List.Nodup.length_le_of_subset h.bnd (l₂ := List.range N) (by
    intro x hx
    obtain ⟨f, hf, rfl⟩ := List.mem_map.1 hx
    exact List.mem_range.2 (h.bs f hf))
  simpa using h1

theorem nums_ar {H : Nat} {v : Value} {zs : List Int} (h : Nums H w v zs) (hv : v ≠ .slice none 0 0) : ∃ g cap, v = .slice (some ⟨g, 0, none⟩) zs.length cap ∧ H ≤ g ∧ Ar w g zs.length cap zs.toArray := by
  rcases h.2 with ⟨h', _⟩ | ⟨g, cap, cur, h', hbg, hg, rest⟩
  · exact absurd h' hv
  · exact ⟨g, cap, h', hbg, ⟨by simp, .inr ⟨g, cap, cur, rfl, Nat.le_refl _, hg, by simpa using rest⟩⟩⟩
theorem ar_nums {H g n cap : Nat} {D : Array Int} (h : Ar w g n cap D) (hH : H ≤ g) : Nums H w (.slice (some ⟨g, 0, none⟩) n cap) D.toList := by
  have hl := h.len
  refine ⟨by simp, ?_⟩
  rcases h.2 with ⟨h', _⟩ | ⟨g', cap', cur, h', hbg, hg, rest⟩
  · simp at h'
  · have e := Value.slice.inj h'
    obtain ⟨e1, _, e3⟩ := e
    have e1 : g = g' := by simpa using e1
    subst e1
    refine .inr ⟨g, cap', cur, by rw [e3]; simp [hl], hH, hg, ?_⟩
    have : D.toList.length = n := by simpa using hl
    rw [this]
    exact rest

theorem shape_case {H : Nat} {v : Value} {zs : List Int} (h : Nums H w v zs) : (v = .slice none 0 0 ∧ zs = []) ∨ ∃ g cap, v = .slice (some ⟨g, 0, none⟩) zs.length cap ∧ H ≤ g ∧ Ar w g zs.length cap zs.toArray := by
  rcases h.2 with ⟨h', h0⟩ | h'
  · exact .inl ⟨h', List.eq_nil_of_length_eq_zero h0⟩
  · exact .inr (nums_ar h (by obtain ⟨g, cap, cur, e, _⟩ := h'; rw [e]; simp))

end
end Go.Proofs.YthdlpeejmmobmaaGreat

/- The buffer that goes first; a buffer that is used. -/
namespace Go.Proofs.YthdlpeejmmobmaaGreat
open Go.RowKit Go.Maps
set_option maxRecDepth 100000
set_option linter.unusedVariables false

/-- The one that goes: the first that is not pinned. -/
def vic (L : List Bf) : Option Bf := L.find? (fun f => f.p == 0)
def vicV (L : List Bf) : Value := match vic L with | some f => .tuple #[.int .i64 (f.b : Int), .bool true] | none => .tuple #[.int .i64 0, .bool false]

theorem Nums.shape {H : Nat} {w : World} {v : Value} {zs : List Int} (h : Nums H w v zs) : ∃ p cp, v = .slice p zs.length cp ∧ (0 < zs.length → ∃ g, p = some ⟨g, 0, none⟩ ∧ ∀ i, i < zs.length → w.cell? ⟨g, i, none⟩ = some (.int .i64 (zs.getD i 0))) := by
  rcases h.2 with ⟨e, e0⟩ | ⟨g, cap, cur, e, k⟩
  · rw [e0]
    exact ⟨_, _, e, fun h => by omega⟩
  · refine ⟨_, _, e, fun h0 => ⟨g, rfl, fun i hi => ?_⟩⟩
    have h' : w.ownsRow H 3 1 (.slice (some ⟨g, 0, none⟩) zs.length cap) zs.length (zs.map (Value.int .i64)) := by rw [← e]; exact h
    rw [h'.cellAt i (by omega), List.getElem?_map, List.getD_eq_getElem?_getD, List.getElem?_eq_getElem (by omega)]
    rfl

theorem ukey_ne {a b : Nat} (h : ¬ a = b) : key a ≠ key b := fun e => h (key_inj e)
theorem usk_key (a b : Nat) : (key a).sameKey (key b) = decide (a = b) := by
  by_cases h : a = b
  · subst h
    rw [WideAt.sameKey_self (key_is a)]; simp
  · rw [sameKey_ne (ukey_ne h)]; simp [h]

/-- What is known of the buffers that were gone through: the oldest of those that are not pinned. -/
def OI (L : List Bf) (left : Lit → Bool) (a b : Value) : Prop :=
  (a = .int .i64 0 ∧ b = .bool false ∧ ∀ f ∈ L, left (key f.b) = false → ¬ f.p = 0) ∨
  ∃ f ∈ L, a = .int .i64 (f.b : Int) ∧ b = .bool true ∧ f.p = 0 ∧ ∀ k ∈ L, left (key k.b) = false → k.p = 0 → f.u ≤ k.u

theorem uvic_none {L : List Bf} (h : ∀ f ∈ L, ¬ f.p = 0) : vic L = none := by
  unfold vic
  rw [List.find?_eq_none]
  intro f hf
  simpa using h f hf
theorem vic_min : ∀ {L : List Bf}, L.Pairwise (fun f h => f.u < h.u) → ∀ {f : Bf}, f ∈ L → f.p = 0 → (∀ k ∈ L, k.p = 0 → f.u ≤ k.u) → vic L = some f
  | [], _, f, hf, _, _ => by cases hf
  | x :: L, ho, f, hf, h0, hm => by
    unfold vic
    rw [List.find?_cons]
    rcases List.mem_cons.1 hf with rfl | hf'
    · simp [h0]
    · by_cases hx : x.p = 0
      · have h1 := hm x (by simp) hx
        have h2 := (List.pairwise_cons.1 ho).1 f hf'
        omega
      · have e : (x.p == 0) = false := by simpa using hx
        rw [e]
        exact vic_min (List.pairwise_cons.1 ho).2 hf' h0 (fun k hk => hm k (by simp [hk]))

theorem usame_of_b {L : List Bf} (hd : (L.map (·.b)).Nodup) {f k : Bf} (hf : f ∈ L) (hk : k ∈ L) (e : k.b = f.b) : k = f := by
  induction L with
  | nil => cases hf
  | cons m L ih =>
    rw [List.map_cons, List.nodup_cons] at hd
    rcases List.mem_cons.1 hf with h | h
    · rcases List.mem_cons.1 hk with h' | h'
      · rw [h, h']
      · exact absurd (List.mem_map.2 ⟨k, h', by rw [e, h]⟩) hd.1
    · rcases List.mem_cons.1 hk with h' | h'
      · exact absurd (List.mem_map.2 ⟨f, h, by rw [← e, h']⟩) hd.1
      · exact ih hd.2 h h'

theorem left_step {left : Lit → Bool} {f k : Bf} (h : (left (key k.b) && !(key k.b).sameKey (key f.b)) = false) : left (key k.b) = false ∨ k.b = f.b := by
  rw [usk_key] at h
  cases e : left (key k.b) with
  | false => exact .inl rfl
  | true =>
    rw [e] at h
    right
    simpa using h
section
variable {L : List Bf} {left : Lit → Bool} {a b : Value} {f : Bf}
theorem OI.skip (h : OI L left a b) (hd : (L.map (·.b)).Nodup) (hf : f ∈ L) (hp : ¬ f.p = 0) : OI L (fun z => left z && !z.sameKey (key f.b)) a b := by
  rcases h with ⟨e1, e2, hn⟩ | ⟨g, hg, e1, e2, h0, hm⟩
  · refine .inl ⟨e1, e2, fun k hk hl => ?_⟩
    rcases left_step (left := left) (f := f) (k := k) hl with h1 | h1
    · exact hn k hk h1
    · rw [usame_of_b hd hf hk h1]; exact hp
  · refine .inr ⟨g, hg, e1, e2, h0, fun k hk hl hk0 => ?_⟩
    rcases left_step (left := left) (f := f) (k := k) hl with h1 | h1
    · exact hm k hk h1 hk0
    · rw [usame_of_b hd hf hk h1] at hk0; exact absurd hk0 hp
theorem OI.first (hn : ∀ k ∈ L, left (key k.b) = false → ¬ k.p = 0) (hd : (L.map (·.b)).Nodup) (hf : f ∈ L) (hp : f.p = 0) : OI L (fun z => left z && !z.sameKey (key f.b)) (.int .i64 (f.b : Int)) (.bool true) := by
  refine .inr ⟨f, hf, rfl, rfl, hp, fun k hk hl hk0 => ?_⟩
  rcases left_step (left := left) (f := f) (k := k) hl with h1 | h1
  · exact absurd hk0 (hn k hk h1)
  · rw [usame_of_b hd hf hk h1]; exact Nat.le_refl _
theorem OI.less {g : Bf} (hm : ∀ k ∈ L, left (key k.b) = false → k.p = 0 → g.u ≤ k.u) (hd : (L.map (·.b)).Nodup) (hf : f ∈ L) (hp : f.p = 0) (hu : f.u < g.u) : OI L (fun z => left z && !z.sameKey (key f.b)) (.int .i64 (f.b : Int)) (.bool true) := by
  refine .inr ⟨f, hf, rfl, rfl, hp, fun k hk hl hk0 => ?_⟩
  rcases left_step (left := left) (f := f) (k := k) hl with h1 | h1
  · have := hm k hk h1 hk0; omega
  · rw [usame_of_b hd hf hk h1]; exact Nat.le_refl _
theorem OI.more {g : Bf} (hm : ∀ k ∈ L, left (key k.b) = false → k.p = 0 → g.u ≤ k.u) (hd : (L.map (·.b)).Nodup) (hf : f ∈ L) (hg : g ∈ L) (hg0 : g.p = 0) (hu : ¬ f.u < g.u) : OI L (fun z => left z && !z.sameKey (key f.b)) (.int .i64 (g.b : Int)) (.bool true) := by
  refine .inr ⟨g, hg, rfl, rfl, hg0, fun k hk hl hk0 => ?_⟩
  rcases left_step (left := left) (f := f) (k := k) hl with h1 | h1
  · exact hm k hk h1 hk0
  · rw [usame_of_b hd hf hk h1]; omega
end
theorem ranges_dN {w : World} {r mb n : Nat} {D : DataW Unit} {left : Lit → Bool} {cnt : Nat} (h : w.ranges Tryz.prog 3 ptrR mb r n D left cnt) (q : Nat) : (w.drewN q).ranges Tryz.prog 3 ptrR mb r n D left cnt := by
  have hg : w.grownBy (w.drewN q) none := ⟨rfl, rfl, rfl, Nat.le_refl _, fun _ _ _ => rfl⟩
  exact h.kept hg (by simp) (by simp)

section
variable {B : Nat} {w : World} {c mb d N : Nat} {C : Ch}
set_option maxHeartbeats 4000000 in
theorem oldest_ok (h : CI B w c mb d N C) : Calls Tryz.prog 268 #[.pointer (some ⟨c, 0, none⟩)] w fun e w' => e = .returned (vicV C.L) ∧ Below w.heap.size w w' := by
  obtain ⟨D, ho, hs, hk, hat⟩ := h.map.ex
  have c2 := h.c2
  have HI : Hid (CI B w c mb d N C) := h
  have HK : Hid ((∀ x, has D x = true → ∃ p ∈ C.L.map bg, x = key p.1) ∧ ∀ p ∈ C.L.map bg, has D (key p.1) = true ∧ D.atKey (key p.1) nilD = adr p.2) := ⟨hk, hat⟩
  clear h hs hk hat
  go_enter Tryz.func268, Tryz.ntmps268
  go_wp2_with (at_range; refine wpList_range_own w rfl (.tmp 11) 321 rfl 3 320 keyed3 Tryz.underlying321 ptrR mb (size D) D rfl ho ?_; intro w1 hr1 hg1 hs1)
  have hb1 : Below w.heap.size w w1 := (Below.refl _ w).grown hg1 (Nat.le_refl _) (fun k hk => by cases hk)
  have HB : Hid (Below w.heap.size w w1) := hb1
  clear hg1 hs1 ho hb1
  go_frame
  go_loopw [4, 5] (fun a b wr => ∃ (left : Lit → Bool) (cnt : Nat), wr.ranges Tryz.prog 3 ptrR mb w.heap.size (size D) D left cnt ∧ OI C.L left a b ∧ Below w.heap.size w wr) (fun _ _ wr => wr.rangeLeft mb w.heap.size)
  case atStart =>
    refine ⟨_, _, hr1, .inl ⟨rfl, rfl, fun f hf hl => ?_⟩, HB.out⟩
    have := (HK.out.2 (bg f) (List.mem_map.2 ⟨f, hf, rfl⟩)).1
    rw [show key (bg f).1 = key f.b from rfl, hl] at this
    cases this
  case round =>
    clear hr1 HB
    obtain ⟨left, cnt, hrg, hoi, hbz⟩ := hrel
    have HO : Hid (OI C.L left u4 u5) := hoi
    clear hoi
    go_wp2_with (first
      | (at_next; refine wpList_next_ranges (β := Value) _ rfl _ rfl 3 keyed3 ptrR (Value.int .i64) id (fun key kl hk => by obtain ⟨x, hx, _⟩ := Maps.keyOf_int_inv Tryz.underlying3 hk; exact ⟨x, hx⟩) (fun v _ _ => ⟨v, rfl⟩) mb w.heap.size (size D) D left cnt rfl hrg ?_ ?_))
    · intro hc0 hl0
      go_wp2_with fail
      go_ret2
      refine ⟨?_, hbz⟩
      rcases HO.out with ⟨e1, e2, hn⟩ | ⟨f, hf, e1, e2, h0, hm⟩
      · have hv := uvic_none (L := C.L) (fun f hf => hn f hf (hl0 _))
        unfold vicV
        rw [hv, e1, e2]
        rfl
      · have hv := vic_min HI.out.ord hf h0 (fun k hk => hm k hk (hl0 _))
        unfold vicV
        rw [hv, e1, e2]
        rfl
    · intro xk vk kl yd yp w5 cnt5 hkey hlk hv hat2 hrg5 hlt5 hg5 hs5 hen
      obtain ⟨p, hp, rfl⟩ := HK.out.1 kl (Maps.has_true_of_atKey hat2)
      obtain ⟨f, hf, rfl⟩ := List.mem_map.1 hp
      obtain ⟨x', ex, ekl, _⟩ := Maps.keyOf_int_inv Tryz.underlying3 hkey
      obtain rfl : xk = (f.b : Int) := by cases ex; simp [key, bg] at ekl; omega
      have hvk : vk = .pointer (some ⟨f.g, 0, none⟩) := by
        have h1 := (HK.out.2 (bg f) hp).2
        have h2 := hat2 nilD
        have hv' : ptrR vk = some (yd, yp) := hv
        have e : yd = adr f.g := h2.symm.trans h1 |>.trans rfl
        rw [e] at hv'
        exact ptrR_inv hv'
      subst hvk
      have hb5 : Below w.heap.size w w5 := hbz.grown hg5 hbz.size (fun k hk => by cases hk; exact Nat.le_refl _)
      have hI5 := HI.out.later hb5
      have H5 : Hid (CI B w5 c mb d N C ∧ w5.ranges Tryz.prog 3 ptrR mb w.heap.size (size D) D (fun z => left z && !z.sameKey (key f.b)) cnt5 ∧ cnt5 < cnt ∧ Below w.heap.size w w5 ∧ w.heap.size ≤ w.heap.size) := ⟨hI5, hrg5, hlt5, hb5, Nat.le_refl _⟩
      have c25 := hI5.c2
      have k1 := hI5.toCW.pins hf
      have k2 := hI5.toCW.used hf
      have HRG : Hid (wr.ranges Tryz.prog 3 ptrR mb w.heap.size (size D) D left cnt) := hrg
      clear hv ex ekl hat2 hrg5 hlt5 hg5 hs5 hI5 hb5 hkey hlk hrg hbz hp
      have HD : Hid ((C.L.map (·.b)).Nodup) := HI.out.toCW.bnd
      by_cases hp0 : f.p = 0
      · have k1' : w5.cell? ⟨f.g, 129, none⟩ = some (.int .i64 0) := by rw [k1, hp0]; rfl
        clear k1
        rcases HO.out with ⟨rfl, rfl, hn⟩ | ⟨g, hg, rfl, rfl, hg0, hm⟩
        · have HNW : Hid (OI C.L (fun z => left z && !z.sameKey (key f.b)) (.int .i64 (f.b : Int)) (.bool true)) := OI.first hn HD.out hf hp0
          clear hn HO
          go_wp2_with fail
          go_quiet (fail)
          go_wp2_with fail
          go_roundw
          case rel => exact ⟨_, cnt5, ranges_dN H5.out.2.1 _, HNW.out, ⟨H5.out.2.2.2.1.os, H5.out.2.2.2.1.tape, H5.out.2.2.2.1.output, H5.out.2.2.2.1.size, H5.out.2.2.2.1.block⟩⟩
          case measure => rw [(ranges_dN H5.out.2.1 _).left_eq, HRG.out.left_eq]; exact H5.out.2.2.1
        · have hlk : ∀ q, (Instr.lookup 321 (.map (some mb)) (.int .i64 (g.b : Int)) false).run Tryz.prog (w5.drewN q) = .ok (.pointer (some ⟨g.g, 0, none⟩)) (w5.drewN q) := fun q => (H5.out.1.later (w' := w5.drewN q) ⟨rfl, rfl, rfl, Nat.le_refl _, fun _ _ => rfl⟩).toCW.hit hg
          have k3 := H5.out.1.toCW.used hg
          by_cases hu : f.u < g.u
          · have hd1 : decide ((f.u : Int) < (g.u : Int)) = true := decide_eq_true (by omega)
            have hd2 : decide (f.u < g.u) = true := decide_eq_true hu
            have HNW : Hid (OI C.L (fun z => left z && !z.sameKey (key f.b)) (.int .i64 (f.b : Int)) (.bool true)) := OI.less hm HD.out hf hp0 hu
            clear hm HO
            go_wp2_with fail
            go_quiet (fail)
            go_wp2_with fail
            go_roundw
            case rel => exact ⟨_, cnt5, ranges_dN H5.out.2.1 _, HNW.out, ⟨H5.out.2.2.2.1.os, H5.out.2.2.2.1.tape, H5.out.2.2.2.1.output, H5.out.2.2.2.1.size, H5.out.2.2.2.1.block⟩⟩
            case measure => rw [(ranges_dN H5.out.2.1 _).left_eq, HRG.out.left_eq]; exact H5.out.2.2.1
          · have hd1 : decide ((f.u : Int) < (g.u : Int)) = false := decide_eq_false (by omega)
            have hd2 : decide (f.u < g.u) = false := decide_eq_false hu
            have HNW : Hid (OI C.L (fun z => left z && !z.sameKey (key f.b)) (.int .i64 (g.b : Int)) (.bool true)) := OI.more hm HD.out hf hg hg0 hu
            clear hm HO
            go_wp2_with fail
            go_quiet (fail)
            go_wp2_with fail
            go_roundw
            case rel => exact ⟨_, cnt5, ranges_dN H5.out.2.1 _, HNW.out, ⟨H5.out.2.2.2.1.os, H5.out.2.2.2.1.tape, H5.out.2.2.2.1.output, H5.out.2.2.2.1.size, H5.out.2.2.2.1.block⟩⟩
            case measure => rw [(ranges_dN H5.out.2.1 _).left_eq, HRG.out.left_eq]; exact H5.out.2.2.1
      · have hpb : ((f.p : Int) == 0) = false := by rw [beq_eq_false_iff_ne]; omega
        have hpb2 : ¬ (f.p : Int) = 0 := by omega
        have HNW : Hid (OI C.L (fun z => left z && !z.sameKey (key f.b)) u4 u5) := HO.out.skip HD.out hf hp0
        clear HO
        go_wp2_with fail
        go_quiet (fail)
        go_wp2_with fail
        go_roundw
        case rel => exact ⟨_, cnt5, ranges_dN H5.out.2.1 _, HNW.out, ⟨H5.out.2.2.2.1.os, H5.out.2.2.2.1.tape, H5.out.2.2.2.1.output, H5.out.2.2.2.1.size, H5.out.2.2.2.1.block⟩⟩
        case measure => rw [(ranges_dN H5.out.2.1 _).left_eq, HRG.out.left_eq]; exact H5.out.2.2.1
end

section
variable {B : Nat} {w w' : World} {c mb d N : Nat} {C : Ch}

end

set_option maxHeartbeats 400000 in
theorem sclone_some (a : Addr) (n c : Nat) (xs : List Int) (w : World) (h : BI w (some a) n xs) :
    Calls Tryz.prog 124 #[.slice (some a) n c] w fun e w' => ∃ g cap, e = .returned (.slice (some ⟨g, 0, none⟩) n cap) ∧ Own w.heap.size w' g n cap xs ∧ Below w.heap.size w w' := by
  obtain ⟨i0, hi, hz0, hz1, hz2⟩ := info_parts info5
  have hbig := h.big
  have hlen := h.len
  have q22 := eqlNil
  have hb0 := (Below.refl w.heap.size w).alloc (Nat.le_refl _) (Obj.cells #[] 5)
  go_enter Tryz.func124, Tryz.ntmps124
  go_wp2_with (at_builtin; refine wpList_append_own _ rfl _ _ 42 rfl w.heap.size 5 i0 (.int .u8 0) 1 1 Tryz.underlying42 hi hz0 hz1 hz2 rfl (by decide) _ _ _ rfl (World.ownsRow_made w #[] 0 (Nat.le_refl _) (Nat.zero_le _) rfl) a n c (xs.map (Value.int .u8)) rfl ?c1 ?c2 ?c3 ?c4 ?c5 ?c6 ?_)
  case c1 => simp [hlen]
  case c2 => exact (h.kept hb0).src'
  case c3 => exact one_cells xs
  case c4 => unfold maxLen; omega
  case c5 => omega
  case c6 => simp
  intro v' w1 hown hgrow hnil
  obtain ⟨g, cap, hv, ho⟩ := own_shape hown (by first | exact hnil | (intro e; exact absurd (hnil.1 e).1 (by simp)))
  rw [hv]
  clear hown hnil
  have hb1 := hb0.grown hgrow (by simp) (by intro k hk; simp [Value.ownBlock] at hk; omega)
  go_wp2
  go_ret
  exact ⟨g, cap, rfl, ho, hb1⟩

theorem bufA_used {f : Bf} (h : Sect f.xs) (u : Nat) : (bufA f).setIfInBounds 128 (.int .i64 (u : Int)) = bufA { f with u := u } := by
  have hl := h.1
  apply Array.ext'
  simp only [bufA, bufL, Array.toList_setIfInBounds]
  rw [List.set_append_right _ _ (by simp [hl])]
  simp [hl]
theorem bufA_pins {f : Bf} (h : Sect f.xs) (p : Nat) : (bufA f).setIfInBounds 129 (.int .i64 (p : Int)) = bufA { f with p := p } := by
  have hl := h.1
  apply Array.ext'
  simp only [bufA, bufL, Array.toList_setIfInBounds]
  rw [List.set_append_right _ _ (by simp [hl])]
  simp [hl]

section
variable {B : Nat} {w w' : World} {c mb d N : Nat} {C : Ch}
theorem buf_bi {w : World} {f : Bf} (h : w.heap[f.g]? = some (.cells (bufA f) 379 (0, 0))) (hs : Sect f.xs) : BI w (some ⟨f.g, 0, none⟩) 128 f.xs := by
  refine ⟨hs.1, by omega, hs.2, fun _ => ⟨f.g, 0, rfl, fun i hi => ?_⟩⟩
  have hl := hs.1
  have e : (bufA f)[i]? = some (.int .u8 (f.xs.getD i 0)) := by
    unfold bufA bufL
    rw [List.getElem?_toArray, List.getElem?_append_left (by simp [hl]; omega), List.getElem?_map, List.getD_eq_getElem?_getD, List.getElem?_eq_getElem (by omega)]
    rfl
  simp [World.cell?, h, e]
/-- One buffer turned, in its place. -/
def rep (L : List Bf) (f : Bf) : List Bf := L.map (fun k => if k.b = f.b then f else k)
theorem mem_rep {L : List Bf} {f k : Bf} (h : k ∈ rep L f) : k = f ∨ (k ∈ L ∧ ¬ k.b = f.b) := by
  obtain ⟨m, hm, e⟩ := List.mem_map.1 h
  by_cases hb : m.b = f.b
  · rw [if_pos hb] at e; exact .inl e.symm
  · rw [if_neg hb] at e; subst e; exact .inr ⟨hm, hb⟩
theorem same_of_b {L : List Bf} (hd : (L.map (·.b)).Nodup) {f k : Bf} (hf : f ∈ L) (hk : k ∈ L) (e : k.b = f.b) : k = f := by
  induction L with
  | nil => cases hf
  | cons m L ih =>
    rw [List.map_cons, List.nodup_cons] at hd
    rcases List.mem_cons.1 hf with h | h
    · rcases List.mem_cons.1 hk with h' | h'
      · rw [h, h']
      · exact absurd (List.mem_map.2 ⟨k, h', by rw [e, h]⟩) hd.1
    · rcases List.mem_cons.1 hk with h' | h'
      · exact absurd (List.mem_map.2 ⟨f, h, by rw [← e, h']⟩) hd.1
      · exact ih hd.2 h h'
theorem ne_of_g {L : List Bf} (hd : (L.map (·.g)).Nodup) {f k : Bf} (hf : f ∈ L) (hk : k ∈ L) (e : ¬ k = f) : ¬ k.g = f.g := by
  intro e'
  induction L with
  | nil => cases hf
  | cons m L ih =>
    rw [List.map_cons, List.nodup_cons] at hd
    rcases List.mem_cons.1 hf with h | h
    · rcases List.mem_cons.1 hk with h' | h'
      · exact e (by rw [h, h'])
      · exact absurd (List.mem_map.2 ⟨k, h', by rw [e', h]⟩) hd.1
    · rcases List.mem_cons.1 hk with h' | h'
      · exact absurd (List.mem_map.2 ⟨f, h, by rw [← e', h']⟩) hd.1
      · exact ih hd.2 h h'
theorem rep_map {β : Type} {L : List Bf} (hd : (L.map (·.b)).Nodup) {f f' : Bf} (hf : f ∈ L) (hb : f'.b = f.b) (φ : Bf → β) (hφ : φ f' = φ f) : (rep L f').map φ = L.map φ := by
  unfold rep
  rw [List.map_map]
  apply List.map_congr_left
  intro k hk
  simp only [Function.comp]
  by_cases e : k.b = f'.b
  · rw [if_pos e, hφ, same_of_b hd hf hk (by rw [e, hb])]
  · rw [if_neg e]

/-- A cache with one buffer turned in its place. -/
theorem CW.rep (h : CW B w c mb d N C) {f f' : Bf} (hf : f ∈ C.L) (hb : f'.b = f.b) (hg : f'.g = f.g) (hs : Sect f'.xs) (hp : f'.p ≤ 100) (hc : w'.heap[c]? = w.heap[c]?) (hm : w'.heap[mb]? = w.heap[mb]?)
    (ho : ∀ k ∈ C.L, ¬ k.g = f.g → w'.heap[k.g]? = w.heap[k.g]?) (hn : w'.heap[f.g]? = some (.cells (bufA f') 379 (0, 0))) : CW B w' c mb d N { C with L := YthdlpeejmmobmaaGreat.rep C.L f' } := by
  have hd := h.bnd
  refine { row := hc.trans h.row, map := ?_, buf := ?_, sec := ?_, gs := ?_, ps := ?_, bs := ?_, N12 := h.N12, bd := h.bd, len := ?_, lo := ⟨h.lo.1, h.lo.2.1, ?_⟩, cnt := h.cnt }
  · show Bm w' mb ((YthdlpeejmmobmaaGreat.rep C.L f').map bg)
    rw [rep_map hd hf hb bg (by simp [bg, hb, hg])]
    exact h.map.kept hm
  · intro k hk
    rcases mem_rep hk with rfl | ⟨hk, hne⟩
    · rw [hg]; exact hn
    · rw [ho k hk (ne_of_g h.gs hf hk (fun e => hne (by rw [e, hb])))]
      exact h.buf k hk
  · intro k hk
    rcases mem_rep hk with rfl | ⟨hk, hne⟩
    · exact hs
    · exact h.sec k hk
  · show ((YthdlpeejmmobmaaGreat.rep C.L f').map (·.g)).Nodup
    rw [rep_map hd hf hb (·.g) hg]
    exact h.gs
  · intro k hk
    rcases mem_rep hk with rfl | ⟨hk, hne⟩
    · exact hp
    · exact h.ps k hk
  · intro k hk
    rcases mem_rep hk with rfl | ⟨hk, hne⟩
    · rw [hb]; exact h.bs f hf
    · exact h.bs k hk
  · show (YthdlpeejmmobmaaGreat.rep C.L f').length ≤ C.bd
    simp only [YthdlpeejmmobmaaGreat.rep, List.length_map]
    exact h.len
  · intro k hk
    rcases mem_rep hk with rfl | ⟨hk, hne⟩
    · rw [hg]; exact h.lo.2.2 f hf
    · exact h.lo.2.2 k hk
theorem CI.rep (h : CI B w c mb d N C) {f f' : Bf} (hf : f ∈ C.L) (hb : f'.b = f.b) (hg : f'.g = f.g) (hu : f'.u = f.u) (hs : Sect f'.xs) (hp : f'.p ≤ 100) (hc : w'.heap[c]? = w.heap[c]?) (hm : w'.heap[mb]? = w.heap[mb]?)
    (ho : ∀ k ∈ C.L, ¬ k.g = f.g → w'.heap[k.g]? = w.heap[k.g]?) (hn : w'.heap[f.g]? = some (.cells (bufA f') 379 (0, 0))) : CI B w' c mb d N { C with L := YthdlpeejmmobmaaGreat.rep C.L f' } := by
  refine { CW.rep h.toCW hf hb hg hs hp hc hm ho hn with ord := ?_, us := ?_ }
  · have e := rep_map h.bnd hf hb (·.u) hu
    have h1 : (C.L.map (·.u)).Pairwise (· < ·) := List.pairwise_map.2 h.ord
    rw [← e] at h1
    exact List.pairwise_map.1 h1
  · intro k hk
    rcases mem_rep hk with rfl | ⟨hk, hne⟩
    · rw [hu]; exact h.us f hf
    · exact h.us k hk
end
end Go.Proofs.YthdlpeejmmobmaaGreat
