/- Bmap Collect Len Sort Cache Held -/
import Derived.Test.YtinigfidofgaiaaGreatGr05
import Derived.Shelf.SlIterI.Stops
import Derived.RangeFuncNested
import Derived.RangeFuncBound
import Derived.RangeFuncCalls
import Derived.RangeFuncLeaves
import Derived.RangeFuncBox
import Derived.Shelf.Abstract
import Derived.Shelf.RegionOpen
import Derived.OwnWalkIn
import Derived.TacticsInMore
import Derived.LoopNIn
import Derived.LoopIn
import Derived.Sort.WalkA
import Derived.Sort.LotA

/- The map of a cache's buffers: which blocks have one, and where it lies. -/
namespace Go.Proofs.YtinigfidofgaiaaGreat
open Go.RowKit Go.Maps
set_option maxRecDepth 100000
set_option linter.unusedVariables false

def adr (g : Nat) : DataW Unit := .lit (.int .i64 (g : Int))
def nilD : DataW Unit := .lit (.bool false)
def ptrR : Value → Option (DataW Unit × List MemPlace)
  | .pointer none => some (nilD, [])
  | .pointer (some ⟨g, 0, none⟩) => some (adr g, [])
  | _ => none
theorem ptrR_nil : ptrR (.pointer none) = some (nilD, []) := rfl
theorem ptrR_mk (g : Nat) : ptrR (.pointer (some ⟨g, 0, none⟩)) = some (adr g, []) := rfl
theorem ptrR_inv {v : Value} {g : Nat} {ps : List MemPlace} (h : ptrR v = some (adr g, ps)) : v = .pointer (some ⟨g, 0, none⟩) := by
  unfold ptrR at h
  split at h
  · simp [nilD, adr] at h
  · rename_i g'
    simp [adr] at h
    obtain rfl : g' = g := by omega
    rfl
  · cases h
theorem ptrR_inv0 {v : Value} {ps : List MemPlace} (h : ptrR v = some (nilD, ps)) : v = .pointer none := by
  unfold ptrR at h
  split at h
  · rfl
  · simp [nilD, adr] at h
  · cases h
theorem zero86p (w : World) : (zeroValue 156).run Tryz.prog w = .ok (.pointer none) w := by kernel_rfl

/-- Block mb is a map that leads from the blocks of M to where their buffers lie. -/
structure Bm (w : World) (mb : Nat) (M : List (Nat × Nat)) : Prop where
  ex : ∃ D, w.ownsMap Tryz.prog 3 ptrR mb (size D) D ∧ size D = M.length ∧ (∀ x, has D x = true → ∃ p ∈ M, x = key p.1) ∧ ∀ p ∈ M, has D (key p.1) = true ∧ D.atKey (key p.1) nilD = adr p.2
  nd : (M.map (·.1)).Nodup
  sm : M.length ≤ 2048

theorem bm_made (w : World) : Bm (w.alloc (.map #[] 0)) w.heap.size [] :=
  ⟨⟨.map [], w.ownsMap_made _ _ _, rfl, fun x h => by simp [has] at h, fun p hp => by cases hp⟩, List.nodup_nil, by simp⟩

theorem Bm.lt {w : World} {mb : Nat} {M : List (Nat × Nat)} (h : Bm w mb M) : mb < w.heap.size := by
  obtain ⟨D, ho, _⟩ := h.ex
  exact ho.lt
theorem Bm.kept {w w' : World} {mb : Nat} {M : List (Nat × Nat)} (h : Bm w mb M) (hb : w'.heap[mb]? = w.heap[mb]?) : Bm w' mb M := by
  obtain ⟨D, ⟨es, c, ho, r⟩, k⟩ := h.ex
  exact ⟨⟨D, ⟨es, c, hb.trans ho, r⟩, k⟩, h.nd, h.sm⟩

theorem Bm.hit {w : World} {mb : Nat} {M : List (Nat × Nat)} (h : Bm w mb M) (p : Nat × Nat) (hp : p ∈ M) (hb : p.1 < 9223372036854775808) :
    (Instr.lookup 138 (.map (some mb)) (.int .i64 (p.1 : Int)) false).run Tryz.prog w = .ok (.pointer (some ⟨p.2, 0, none⟩)) w := by
  obtain ⟨D, ho, _, _, hat⟩ := h.ex
  obtain ⟨v, ps, hr, hv⟩ := ho.lookup keyed3 Tryz.underlying138 (zero86p w) ptrR_nil (key_of (b := p.1) hb)
  rw [(hat p hp).2] at hv
  rw [hr, ptrR_inv hv]

theorem Bm.miss {w : World} {mb : Nat} {M : List (Nat × Nat)} (h : Bm w mb M) (b : Nat) (hp : ∀ p ∈ M, ¬ p.1 = b) (hb : b < 9223372036854775808) :
    (Instr.lookup 138 (.map (some mb)) (.int .i64 (b : Int)) false).run Tryz.prog w = .ok (.pointer none) w := by
  obtain ⟨D, ho, _, hk, hat⟩ := h.ex
  obtain ⟨v, ps, hr, hv⟩ := ho.lookup keyed3 Tryz.underlying138 (zero86p w) ptrR_nil (key_of (b := b) hb)
  have hn : has D (key b) = false := by
    cases e : has D (key b) with
    | false => rfl
    | true =>
      obtain ⟨p, hm, e'⟩ := hk _ e
      exact absurd (key_inj e').symm (hp p hm)
  rw [atKey_of_not_has hn] at hv
  rw [hr, ptrR_inv0 hv]

theorem Bm.update {w : World} {mb : Nat} {M : List (Nat × Nat)} (h : Bm w mb M) (b g : Nat) (hp : ∀ p ∈ M, ¬ p.1 = b) (hb : b < 9223372036854775808) (hl : M.length < 2048) :
    ∃ w', (Instr.mapUpdate 138 (.map (some mb)) (.int .i64 (b : Int)) (.pointer (some ⟨g, 0, none⟩))).run Tryz.prog w = .ok () w' ∧ Bm w' mb (M ++ [(b, g)]) ∧ w.grownBy w' (some mb) := by
  obtain ⟨D, ho, hs, hk, hat⟩ := h.ex
  obtain ⟨w', hr, ho', hg⟩ := ho.update keyed3 Tryz.underlying138 (show size D < maxLen by unfold maxLen; omega) (key_of (b := b) hb) (ptrR_mk g)
  have hn : has D (key b) = false := by
    cases e : has D (key b) with
    | false => rfl
    | true =>
      obtain ⟨p, hm, e'⟩ := hk _ e
      exact absurd (key_inj e').symm (hp p hm)
  refine ⟨w', hr, ⟨⟨_, tight ho', ?_, ?_, ?_⟩, ?_, ?_⟩, hg⟩
  · rw [size_put (ho.tidy keyed3), hn]; simp; omega
  · intro x hx
    by_cases e : x = key b
    · exact ⟨(b, g), by simp, e⟩
    · rw [has_put_other e] at hx
      obtain ⟨p, hm, e'⟩ := hk x hx
      exact ⟨p, by simp [hm], e'⟩
  · intro p hm
    rcases List.mem_append.1 hm with hm | hm
    · have e : key p.1 ≠ key b := fun e => hp p hm (key_inj e)
      rw [has_put_other e, atKey_put_other e]
      exact hat p hm
    · simp at hm
      subst hm
      exact ⟨has_put_same ho.isMap (key_is b) _, atKey_put_same ho.isMap (key_is b) _ _⟩
  · rw [List.map_append, List.nodup_append]
    refine ⟨h.nd, by simp, ?_⟩
    intro a ha c hc e
    simp at hc
    obtain ⟨p, hm, rfl⟩ := List.mem_map.1 ha
    exact hp p hm (by omega)
  · simp; omega

theorem filter_miss {M : List (Nat × Nat)} {b : Nat} (h : ∀ p ∈ M, ¬ p.1 = b) : M.filter (fun p => !(p.1 == b)) = M := by
  rw [List.filter_eq_self]
  intro p hp
  simpa using h p hp
theorem filter_hit {M : List (Nat × Nat)} (hd : (M.map (·.1)).Nodup) {p : Nat × Nat} (hp : p ∈ M) : (M.filter (fun q => !(q.1 == p.1))).length + 1 = M.length := by
  induction M with
  | nil => cases hp
  | cons q M ih =>
    rw [List.map_cons, List.nodup_cons] at hd
    by_cases e : q.1 = p.1
    · have hno : ∀ r ∈ M, ¬ r.1 = p.1 := fun r hm e2 => hd.1 (List.mem_map.2 ⟨r, hm, by rw [e2, e]⟩)
      rw [List.filter_cons, filter_miss hno]
      simp [e]
    · have hp' : p ∈ M := by
        rcases List.mem_cons.1 hp with h | h
        · subst h; exact absurd rfl e
        · exact h
      have ih := ih hd.2 hp'
      rw [List.filter_cons]
      have hb : (!(q.1 == p.1)) = true := by simpa using e
      rw [if_pos hb, List.length_cons, List.length_cons]
      omega

open Classical in
theorem Bm.delete {w : World} {mb : Nat} {M : List (Nat × Nat)} (h : Bm w mb M) (b : Nat) (hb : b < 9223372036854775808) (ty : TypeId) :
    ∃ w', (Builtin.delete_ #[138, 3] ty #[.map (some mb), .int .i64 (b : Int)]).run Tryz.prog w = .ok (.tuple #[]) w' ∧ Bm w' mb (M.filter (fun p => !(p.1 == b))) ∧ w.grownBy w' (some mb) := by
  obtain ⟨D, ho, hs, hk, hat⟩ := h.ex
  obtain ⟨w', hr, ho', hg⟩ := ho.drop keyed3 Tryz.underlying138 (key_of (b := b) hb) ty
  refine ⟨w', hr, ⟨⟨_, tight ho', ?_, ?_, ?_⟩, ?_, ?_⟩, hg.grown⟩
  · have hsz := size_del (k := key b) (ho.tidy keyed3)
    by_cases e : ∃ p ∈ M, p.1 = b
    · obtain ⟨p, hm, rfl⟩ := e
      rw [if_pos (hat p hm).1] at hsz
      have hfl := filter_hit h.nd hm
      omega
    · have hn : ¬ has D (key b) = true := fun hh => by
        obtain ⟨p, hm, e'⟩ := hk _ hh
        exact e ⟨p, hm, (key_inj e').symm⟩
      rw [if_neg hn] at hsz
      rw [filter_miss (fun p hm e2 => e ⟨p, hm, e2⟩)]
      omega
  · intro x hx
    by_cases e : x = key b
    · subst e
      rw [has_del_same] at hx
      cases hx
    · rw [has_del_other e] at hx
      obtain ⟨p, hm, e'⟩ := hk x hx
      refine ⟨p, List.mem_filter.2 ⟨hm, ?_⟩, e'⟩
      have : ¬ p.1 = b := fun e2 => e (by rw [e', e2])
      simpa using this
  · intro p hm
    obtain ⟨hm, hne⟩ := List.mem_filter.1 hm
    have e : key p.1 ≠ key b := fun e => by
      have := key_inj e
      simp [this] at hne
    rw [has_del_other e, atKey_del_other e]
    exact hat p hm
  · exact List.Nodup.sublist ((List.filter_sublist).map _) h.nd
  · have := List.length_filter_le (fun p : Nat × Nat => !(p.1 == b)) M
    have := h.sm
    omega
end Go.Proofs.YtinigfidofgaiaaGreat

/- A map's keys as a list of their own. -/
namespace Go.Proofs.YtinigfidofgaiaaGreat
open Go.RowKit Go.Shelf Go.Maps Go.Sort
set_option maxRecDepth 100000
set_option linter.unusedVariables false
attribute [local go_sem] Oper.semAt_some

theorem info3n : (Tryz.prog.info? 3).map (fun i => (i.zero, i.size, i.bytes)) = some (some (.int .i64 0), 1, 8) := by kernel_rfl

/-- The call's own row of numbers: v is what stands for zs. -/
def Nums (B : Nat) (w : World) (v : Value) (zs : List Int) : Prop := w.ownsRow B 3 1 v zs.length (zs.map (Value.int .i64))

theorem Nums.kept {B : Nat} {w w' : World} {v : Value} {zs : List Int} (h : Nums B w v zs) (hb : Below w.heap.size w w') : Nums B w' v zs := by
  refine ⟨h.1, ?_⟩
  rcases h.2 with h' | ⟨g', cap', cur, h', hbg, hg, rest⟩
  · exact .inl h'
  · have hlt : g' < w.heap.size := (Array.getElem?_eq_some_iff.1 hg).1
    exact .inr ⟨g', cap', cur, h', hbg, by rw [hb.block g' hlt]; exact hg, rest⟩
theorem Nums.base {B B' : Nat} {w : World} {v : Value} {zs : List Int} (h : Nums B w v zs) (hB : B' ≤ B) : Nums B' w v zs := by
  refine ⟨h.1, ?_⟩
  rcases h.2 with h' | ⟨g', cap', cur, h', hbg, rest⟩
  · exact .inl h'
  · exact .inr ⟨g', cap', cur, h', by omega, rest⟩
theorem Nums.nil (B : Nat) (w : World) : Nums B w (.slice none 0 0) [] := World.ownsRow_nil _ _ _ _

end Go.Proofs.YtinigfidofgaiaaGreat

/- How many bits a small number takes: the library's bits.Len answers. -/
namespace Go.Proofs.YtinigfidofgaiaaGreat
open Go.RowKit Go.Maps
set_option maxRecDepth 100000
set_option linter.unusedVariables false

set_option maxRecDepth 100000 in
set_option maxHeartbeats 1000000 in
theorem len64_small (n : Nat) (h : n ≤ 12) (w : World) : Calls Tryz.prog 169 #[.int .u64 (n : Int)] w fun e w' => (∃ k : Int, e = .returned (.int .i64 k)) ∧ w' = w := by
  rcases (by omega : n = 0 ∨ n = 1 ∨ n = 2 ∨ n = 3 ∨ n = 4 ∨ n = 5 ∨ n = 6 ∨ n = 7 ∨ n = 8 ∨ n = 9 ∨ n = 10 ∨ n = 11 ∨ n = 12) with rfl | rfl | rfl | rfl | rfl | rfl | rfl | rfl | rfl | rfl | rfl | rfl | rfl
  all_goals
    go_enter Tryz.func169, Tryz.ntmps169
    go_wp2
    go_ret
    exact ⟨⟨_, rfl⟩, rfl⟩

set_option maxHeartbeats 400000 in
theorem len_small (n : Nat) (h : n ≤ 12) (w : World) : Calls Tryz.prog 149 #[.int .u64 (n : Int)] w fun e w' => (∃ k : Int, e = .returned (.int .i64 k)) ∧ w' = w := by
  have hk := len64_small n h w
  go_enter Tryz.func149, Tryz.ntmps149
  go_wp2_with (first | (go_at_call 169; refine Calls.mono hk ?_; rintro e w' ⟨⟨k, rfl⟩, rfl⟩))
  go_ret
  exact ⟨⟨k, rfl⟩, rfl⟩
end Go.Proofs.YtinigfidofgaiaaGreat

/- The library's sort by a comparison, of twelve numbers at most. -/
namespace Go.Proofs.YtinigfidofgaiaaGreat
open Go.RowKit Go.Maps
set_option maxRecDepth 100000
set_option linter.unusedVariables false

/-- How cmp.Compare tells two numbers apart. -/
def cpr (x y : Int) : Int := if x < y then -1 else if y < x then 1 else 0

set_option maxHeartbeats 400000 in
theorem nan_ok (x : Int) (w : World) : Calls Tryz.prog 170 #[.int .i64 x] w fun e w' => e = .returned (.bool false) ∧ w' = w := by
  go_enter Tryz.func170, Tryz.ntmps170
  go_wp2
  go_ret
  exact ⟨rfl, rfl⟩
/-- The row of numbers at g is d. -/
def Ar (w : World) (g n cap : Nat) (d : Array Int) : Prop := w.ownsRow g 3 1 (.slice (some ⟨g, 0, none⟩) n cap) n (d.toList.map (Value.int .i64))
theorem Ar.len {w : World} {g n cap : Nat} {d : Array Int} (h : Ar w g n cap d) : d.size = n := by
  have := h.1
  simpa using this
theorem Ar.cell {w : World} {g n cap : Nat} {d : Array Int} (h : Ar w g n cap d) (j : Nat) (hj : j < n) : w.cell? ⟨g, j, none⟩ = some (.int .i64 d[j]!) := by
  have h1 := World.ownsRow.cellAt h j (by omega)
  have hl := h.len
  rw [h1, List.getElem?_map, Array.getElem?_toList, Array.getElem?_eq_getElem (by omega)]
  simp [getElem!_pos, show j < d.size by omega]
theorem Ar.set {w : World} {g n cap : Nat} {d : Array Int} (h : Ar w g n cap d) (j : Nat) (y : Int) : Ar (w.setCell ⟨g, j, none⟩ (.int .i64 y)) g n cap (d.setIfInBounds j y) := by
  have := (World.ownsRow.stored h j (.int .i64 y)).1
  unfold Ar
  rw [Array.toList_setIfInBounds, List.map_set]
  exact this
theorem Ar.kept {w w' : World} {g n cap : Nat} {d : Array Int} (h : Ar w g n cap d) (hb : w'.heap[g]? = w.heap[g]?) : Ar w' g n cap d := by
  refine ⟨h.1, ?_⟩
  rcases h.2 with ⟨h', _⟩ | ⟨g', cap', cur, h', hbg, hg, rest⟩
  · simp at h'
  · have e : g = g' := by simpa using (Value.slice.inj h').1
    subst e
    exact .inr ⟨g, cap', cur, h', hbg, hb.trans hg, rest⟩

/-- What a comparison answers, of numbers of the row, wherever only the row has turned. -/
def Cmp (w0 : World) (g fid cb : Nat) (u : Int → Int) (P : Int → Prop) : Prop :=
  ∀ x y, P x → P y → ∀ w', Frame (fun k => k = g) w0 w' → Calls Tryz.prog fid #[.int .i64 x, .int .i64 y, .pointer (some ⟨cb, 0, none⟩)] w' fun e w'' => e = .returned (.int .i64 (cpr (u x) (u y))) ∧ ∃ k, w'' = w'.drewN k

theorem frame_drewN {X : Nat → Prop} {w w' : World} (h : Frame X w w') (k : Nat) : Frame X w (w'.drewN k) := h.trans (frame_of_below (below_drewN (Below.refl _ _) k))
theorem cpr_lt (x y : Int) : decide (cpr x y < 0) = decide (x < y) := by
  unfold cpr
  by_cases h : x < y
  · simp [h]
  · rw [if_neg h]
    split <;> simp [h]

def ult (u : Int → Int) (x y : Int) : Bool := decide (u x < u y)
theorem ult_swo (u : Int → Int) : Sort.SWO (ult u) :=
  ⟨fun x => by simp [ult], fun x y z h k => by simp [ult] at *; omega, fun x y z h k => by simp [ult] at *; omega⟩

end Go.Proofs.YtinigfidofgaiaaGreat

/- A cache in memory, and what only reads it. -/
namespace Go.Proofs.YtinigfidofgaiaaGreat
open Go.RowKit Go.Maps
set_option maxRecDepth 100000
set_option linter.unusedVariables false

/-- A buffer: its block, when it was used last, its pins, where it lies, its bytes. -/
structure Bf where
  b : Nat
  u : Nat
  p : Nat
  g : Nat
  xs : List Int
/-- What a cache has: how many it may hold, hits, misses, its buffers, the one that was used longest ago first. -/
structure Ch where
  bd : Nat
  hi : Nat
  mi : Nat
  L : List Bf
def bufL (f : Bf) : List Value := f.xs.map (Value.int .u8) ++ [.int .i64 (f.u : Int), .int .i64 (f.p : Int)]
def bufA (f : Bf) : Array Value := (bufL f).toArray
def bg (f : Bf) : Nat × Nat := (f.b, f.g)

structure CW (B : Nat) (w : World) (c mb d N : Nat) (C : Ch) : Prop where
  row : w.heap[c]? = some (.cells #[.pointer (some ⟨d, 0, none⟩), .int .i64 (C.bd : Int), .map (some mb), .int .i64 (C.hi : Int), .int .i64 (C.mi : Int)] 140 (0, 0))
  map : Bm w mb (C.L.map bg)
  buf : ∀ f ∈ C.L, w.heap[f.g]? = some (.cells (bufA f) 158 (0, 0))
  sec : ∀ f ∈ C.L, Sect f.xs
  gs : (C.L.map (·.g)).Nodup
  ps : ∀ f ∈ C.L, f.p ≤ 100
  bs : ∀ f ∈ C.L, f.b < N
  N12 : N ≤ 12
  bd : 1 ≤ C.bd ∧ C.bd ≤ 64
  len : C.L.length ≤ C.bd
  lo : B ≤ c ∧ B ≤ mb ∧ ∀ f ∈ C.L, B ≤ f.g
  cnt : C.hi + C.mi ≤ 4611686018427387904

/-- A cache: its buffers stand in the order of their use. -/
structure CI (B : Nat) (w : World) (c mb d N : Nat) (C : Ch) : Prop extends CW B w c mb d N C where
  ord : C.L.Pairwise (fun f h => f.u < h.u)
  us : ∀ f ∈ C.L, f.u ≤ C.hi + C.mi

/-- A cache's own blocks. -/
def cfoot (c mb : Nat) (C : Ch) (k : Nat) : Prop := k = c ∨ k = mb ∨ ∃ f ∈ C.L, k = f.g

section
variable {B : Nat} {w w' : World} {c mb d N : Nat} {C : Ch}
theorem CW.in (h : CW B w c mb d N C) : ∀ k, cfoot c mb C k → B ≤ k ∧ k < w.heap.size := by
  rintro k (rfl | rfl | ⟨f, hf, rfl⟩)
  · exact ⟨h.lo.1, (Array.getElem?_eq_some_iff.1 h.row).1⟩
  · exact ⟨h.lo.2.1, h.map.lt⟩
  · exact ⟨h.lo.2.2 f hf, (Array.getElem?_eq_some_iff.1 (h.buf f hf)).1⟩
theorem CW.kept (h : CW B w c mb d N C) (hb : ∀ k, cfoot c mb C k → w'.heap[k]? = w.heap[k]?) : CW B w' c mb d N C :=
  { h with row := (hb c (.inl rfl)).trans h.row, map := h.map.kept (hb mb (.inr (.inl rfl))), buf := fun f hf => (hb f.g (.inr (.inr ⟨f, hf, rfl⟩))).trans (h.buf f hf) }
theorem CW.later (h : CW B w c mb d N C) (hb : Below w.heap.size w w') : CW B w' c mb d N C :=
  h.kept fun k hk => hb.block k (h.in k hk).2
theorem CI.kept (h : CI B w c mb d N C) (hb : ∀ k, cfoot c mb C k → w'.heap[k]? = w.heap[k]?) : CI B w' c mb d N C := { CW.kept h.toCW hb with ord := h.ord, us := h.us }
theorem CI.later (h : CI B w c mb d N C) (hb : Below w.heap.size w w') : CI B w' c mb d N C := { CW.later h.toCW hb with ord := h.ord, us := h.us }
theorem CW.c0 (h : CW B w c mb d N C) : w.cell? ⟨c, 0, none⟩ = some (.pointer (some ⟨d, 0, none⟩)) := cell_of_row _ _ 0 _ 140 _ h.row
theorem CW.c1 (h : CW B w c mb d N C) : w.cell? ⟨c, 1, none⟩ = some (.int .i64 (C.bd : Int)) := cell_of_row _ _ 1 _ 140 _ h.row
theorem CW.c2 (h : CW B w c mb d N C) : w.cell? ⟨c, 2, none⟩ = some (.map (some mb)) := cell_of_row _ _ 2 _ 140 _ h.row
theorem CW.c3 (h : CW B w c mb d N C) : w.cell? ⟨c, 3, none⟩ = some (.int .i64 (C.hi : Int)) := cell_of_row _ _ 3 _ 140 _ h.row
theorem CW.c4 (h : CW B w c mb d N C) : w.cell? ⟨c, 4, none⟩ = some (.int .i64 (C.mi : Int)) := cell_of_row _ _ 4 _ 140 _ h.row
theorem CW.used (h : CW B w c mb d N C) {f : Bf} (hf : f ∈ C.L) : w.cell? ⟨f.g, 128, none⟩ = some (.int .i64 (f.u : Int)) := by
  have hl := (h.sec f hf).1
  have e : (bufA f)[128]? = some (.int .i64 (f.u : Int)) := by
    unfold bufA bufL
    simp [hl]
  simp [World.cell?, h.buf f hf, e]
theorem CW.pins (h : CW B w c mb d N C) {f : Bf} (hf : f ∈ C.L) : w.cell? ⟨f.g, 129, none⟩ = some (.int .i64 (f.p : Int)) := by
  have hl := (h.sec f hf).1
  have e : (bufA f)[129]? = some (.int .i64 (f.p : Int)) := by
    unfold bufA bufL
    simp [hl]
  simp [World.cell?, h.buf f hf, e]
theorem CW.hit (h : CW B w c mb d N C) {f : Bf} (hf : f ∈ C.L) : (Instr.lookup 138 (.map (some mb)) (.int .i64 (f.b : Int)) false).run Tryz.prog w = .ok (.pointer (some ⟨f.g, 0, none⟩)) w :=
  h.map.hit (bg f) (List.mem_map.2 ⟨f, hf, rfl⟩) (by have := h.bs f hf; have := h.N12; show f.b < _; omega)
theorem CW.miss (h : CW B w c mb d N C) {b : Nat} (hb : b < N) (hn : ∀ f ∈ C.L, ¬ f.b = b) : (Instr.lookup 138 (.map (some mb)) (.int .i64 (b : Int)) false).run Tryz.prog w = .ok (.pointer none) w :=
  h.map.miss b (by
    intro p hp
    obtain ⟨f, hf, rfl⟩ := List.mem_map.1 hp
    exact hn f hf) (by have := h.N12; omega)

set_option maxHeartbeats 400000 in
theorem cmade_ok (h : CW B w c mb d N C) : Calls Tryz.prog 153 #[.pointer (some ⟨c, 0, none⟩)] w fun e w' => e = .returned (.bool true) ∧ w' = w := by
  have hc := h.c0
  go_enter Tryz.func153, Tryz.ntmps153
  go_wp2
  go_ret
  exact ⟨rfl, rfl⟩

set_option maxHeartbeats 400000 in
theorem refusal_arg (h : CW B w c mb d N C) (hd : Calls Tryz.prog 56 #[.pointer (some ⟨d, 0, none⟩)] w fun e w' => e = .returned (.int .i64 (N : Int)) ∧ w' = w) (b : Int) (hb : b < 0 ∨ (N : Int) ≤ b) : Calls Tryz.prog 124 #[.pointer (some ⟨c, 0, none⟩), .int .i64 b] w fun e w' => e = .returned (.int .i64 1) ∧ w' = w := by
  have hc := h.c0
  have hm := cmade_ok h
  by_cases h0 : b < 0
  · clear hb
    go_enter Tryz.func124, Tryz.ntmps124
    go_wp2_with (first | (go_at_call 153; refine same_at hm ?_) | (go_at_call 56; refine same_at hd ?_))
    go_ret
    exact ⟨rfl, rfl⟩
  · have h1 : (N : Int) ≤ b := by omega
    have h0 : 0 ≤ b := by omega
    clear hb
    go_enter Tryz.func124, Tryz.ntmps124
    go_wp2_with (first | (go_at_call 153; refine same_at hm ?_) | (go_at_call 56; refine same_at hd ?_))
    go_ret
    exact ⟨rfl, rfl⟩
set_option maxHeartbeats 400000 in
theorem refusal_ok (h : CW B w c mb d N C) (hd : Calls Tryz.prog 56 #[.pointer (some ⟨d, 0, none⟩)] w fun e w' => e = .returned (.int .i64 (N : Int)) ∧ w' = w) (b : Nat) (hb : b < N) : Calls Tryz.prog 124 #[.pointer (some ⟨c, 0, none⟩), .int .i64 (b : Int)] w fun e w' => e = .returned (.int .i64 0) ∧ w' = w := by
  have hc := h.c0
  have hm := cmade_ok h
  have h0 : (0 : Int) ≤ (b : Int) := by omega
  have h1 : (b : Int) < (N : Int) := by omega
  go_enter Tryz.func124, Tryz.ntmps124
  go_wp2_with (first | (go_at_call 153; refine same_at hm ?_) | (go_at_call 56; refine same_at hd ?_))
  go_ret
  exact ⟨rfl, rfl⟩

end
end Go.Proofs.YtinigfidofgaiaaGreat

/- Held: the blocks that have buffers, the one that was used longest ago first. -/
namespace Go.Proofs.YtinigfidofgaiaaGreat
open Go.RowKit Go.Maps
set_option maxRecDepth 100000
set_option linter.unusedVariables false

def blks (L : List Bf) : List Int := L.map (fun f => (f.b : Int))
/-- When a block was used last. -/
def uf (L : List Bf) (x : Int) : Int := match L.find? (fun f => (f.b : Int) == x) with | some f => (f.u : Int) | none => 0

theorem uf_at {L : List Bf} (hd : (L.map (·.b)).Nodup) {f : Bf} (hf : f ∈ L) : uf L (f.b : Int) = (f.u : Int) := by
  unfold uf
  induction L with
  | nil => cases hf
  | cons k L ih =>
    rw [List.map_cons, List.nodup_cons] at hd
    by_cases e : k.b = f.b
    · have : k = f := by
        rcases List.mem_cons.1 hf with h | h
        · exact h.symm
        · exact absurd (List.mem_map.2 ⟨f, h, e.symm⟩) hd.1
      subst this
      simp
    · have hf' : f ∈ L := by
        rcases List.mem_cons.1 hf with h | h
        · subst h; exact absurd rfl e
        · exact h
      have hne : ((k.b : Int) == (f.b : Int)) = false := by
        rw [beq_eq_false_iff_ne]; omega
      rw [List.find?_cons, hne]
      exact ih hd.2 hf'

theorem get_bang (d : Array Int) (i : Nat) (h : i < d.toList.length) : d[i]! = d.toList[i] := by
  have h' : i < d.size := by simpa using h
  simp [getElem!_pos, h']

/-- Sorted by when they were used, the blocks are the cache's own order. -/
theorem sorted_blks {L : List Bf} (hd : (L.map (·.b)).Nodup) (ho : L.Pairwise (fun f h => f.u < h.u)) {ss : List Int} (hn : ss.Nodup) (hm : ∀ x, x ∈ ss ↔ x ∈ blks L) :
    (Go.Sort.insertionSort (ult (uf L)) ss.toArray 0 ss.length).toList = blks L := by
  have hnb : (blks L).Nodup := by
    have e : blks L = (L.map (·.b)).map (fun n : Nat => (n : Int)) := by simp [blks]
    rw [e]
    exact List.Pairwise.map _ (fun a b h e => h (by omega)) hd
  have hp0 : ss.Perm (blks L) := (List.perm_ext_iff_of_nodup hn hnb).2 hm
  obtain ⟨hP, hS⟩ := Go.Sort.insertionSort_holds (ult_swo (uf L)) ss.toArray 0 ss.length (Nat.zero_le _) (by simp)
  generalize hdd : Go.Sort.insertionSort (ult (uf L)) ss.toArray 0 ss.length = D at *
  have hsz : D.size = ss.length := by have := hP.1; simpa using this
  have hp1 : D.toList.Perm ss := by
    have h3 := hP.2.2
    rw [show D.extract 0 ss.length = D by rw [← hsz]; simp, show ss.toArray.extract 0 ss.length = ss.toArray by simp] at h3
    simpa using h3
  have hp : D.toList.Perm (blks L) := hp1.trans hp0
  refine List.Perm.eq_of_pairwise (le := fun x y => ¬ uf L y < uf L x) ?_ ?_ ?_ hp
  · intro a b ha hb h1 h2
    rw [hp.mem_iff] at ha
    obtain ⟨f, hf, rfl⟩ := List.mem_map.1 ha
    obtain ⟨k, hk, rfl⟩ := List.mem_map.1 hb
    rw [uf_at hd hf, uf_at hd hk] at h1 h2
    have hu : f.u = k.u := by omega
    have : f = k := by
      clear hp hp1 hp0 hP hS hdd hsz ha hb h1 h2 hnb hm hn
      induction L with
      | nil => cases hf
      | cons m L ih =>
        rw [List.pairwise_cons] at ho
        rw [List.map_cons, List.nodup_cons] at hd
        rcases List.mem_cons.1 hf with h | h
        · rcases List.mem_cons.1 hk with h' | h'
          · rw [h, h']
          · have := ho.1 k h'; rw [h] at hu; omega
        · rcases List.mem_cons.1 hk with h' | h'
          · have := ho.1 f h; rw [h'] at hu; omega
          · exact ih hd.2 ho.2 h h'
    rw [this]
  · rw [List.pairwise_iff_getElem]
    intro i j hi hj hij
    have := hS i j (Nat.zero_le _) hij (by simpa [hsz] using hj)
    rw [get_bang D i hi, get_bang D j hj] at this
    simpa [ult] using this
  · unfold blks
    rw [List.pairwise_map]
    refine List.Pairwise.imp_of_mem ?_ ho
    intro f k hf hk h
    rw [uf_at hd hf, uf_at hd hk]
    omega

section
variable {B : Nat} {w w' : World} {c mb d N : Nat} {C : Ch}

theorem CW.bnd (h : CW B w c mb d N C) : (C.L.map (·.b)).Nodup := by
  have := h.map.nd
  rw [List.map_map] at this
  exact this
theorem CW.twelve (h : CW B w c mb d N C) : C.L.length ≤ N := by
  have h1 := List.Nodup.length_le_of_subset h.bnd (l₂ := List.range N) (by
    intro x hx
    obtain ⟨f, hf, rfl⟩ := List.mem_map.1 hx
    exact List.mem_range.2 (h.bs f hf))
  simpa using h1

theorem nums_ar {H : Nat} {v : Value} {zs : List Int} (h : Nums H w v zs) (hv : v ≠ .slice none 0 0) : ∃ g cap, v = .slice (some ⟨g, 0, none⟩) zs.length cap ∧ H ≤ g ∧ Ar w g zs.length cap zs.toArray := by
  rcases h.2 with ⟨h', _⟩ | ⟨g, cap, cur, h', hbg, hg, rest⟩
  · exact absurd h' hv
  · exact ⟨g, cap, h', hbg, ⟨by simp, .inr ⟨g, cap, cur, rfl, Nat.le_refl _, hg, by simpa using rest⟩⟩⟩
theorem ar_nums {H g n cap : Nat} {D : Array Int} (h : Ar w g n cap D) (hH : H ≤ g) : Nums H w (.slice (some ⟨g, 0, none⟩) n cap) D.toList := by
  have hl := h.len
  refine ⟨by simp, ?_⟩
  rcases h.2 with ⟨h', _⟩ | ⟨g', cap', cur, h', hbg, hg, rest⟩
  · simp at h'
  · have e := Value.slice.inj h'
    obtain ⟨e1, _, e3⟩ := e
    have e1 : g = g' := by simpa using e1
    subst e1
    refine .inr ⟨g, cap', cur, by rw [e3]; simp [hl], hH, hg, ?_⟩
    have : D.toList.length = n := by simpa using hl
    rw [this]
    exact rest

theorem shape_case {H : Nat} {v : Value} {zs : List Int} (h : Nums H w v zs) : (v = .slice none 0 0 ∧ zs = []) ∨ ∃ g cap, v = .slice (some ⟨g, 0, none⟩) zs.length cap ∧ H ≤ g ∧ Ar w g zs.length cap zs.toArray := by
  rcases h.2 with ⟨h', h0⟩ | h'
  · exact .inl ⟨h', List.eq_nil_of_length_eq_zero h0⟩
  · exact .inr (nums_ar h (by obtain ⟨g, cap, cur, e, _⟩ := h'; rw [e]; simp))

end
end Go.Proofs.YtinigfidofgaiaaGreat
