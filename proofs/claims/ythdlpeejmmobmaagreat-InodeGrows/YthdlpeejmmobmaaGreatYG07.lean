/- Fetch2 Get Rest Put PMem -/
import Derived.Test.YthdlpeejmmobmaaGreatYG06
import Derived.Deep.DeepCutAuto
import Derived.Test.YthdlpeejmmobmaaGreatProg
import Derived.WalkKit
import Derived.WalkSpells
import Derived.WalkLawsBesides
import Derived.BigQuiet
import Derived.Deep.QuietTactic
import Derived.Laws.CopyOwn
import Derived.Laws.EntriesVeiled
import Derived.Lib.Bytes
import Derived.Deep.MidRow
import Derived.Deep.WholeRow
import Derived.Maps.OwnSet
import Derived.Maps.Views
import Derived.Maps.OwnOps
import Derived.Maps.AppendAt
import Derived.RangeFuncRecord

namespace Go.Proofs.YthdlpeejmmobmaaGreat
open Go.RowKit Go.Maps
set_option maxRecDepth 100000
set_option linter.unusedVariables false
def room (C : Ch) : List Bf := if C.bd ≤ C.L.length then (match vic C.L with | some f => outb C.L f.b | none => C.L) else C.L
section
variable {B : Nat} {w w' : World} {c mb d dm df N : Nat} {dq : Value} {C : Ch} {S : St}
theorem outb_map (L : List Bf) (b : Nat) : (outb L b).map bg = (L.map bg).filter (fun p => !(p.1 == b)) := by
 unfold outb
 rw [List.filter_map]
 rfl
theorem sub_outb (L : List Bf) (b : Nat) : (outb L b).Sublist L := List.filter_sublist
theorem CW.out (h : CW B w c mb d N C) (b : Nat) (hb : b < N) (ty : TypeId) : ∃ w', (Builtin.delete_ #[321, 3] ty #[.map (some mb), .int .i64 (b : Int)]).run Tryz.prog w = .ok (.tuple #[]) w' ∧ CW B w' c mb d N { C with L := outb C.L b } ∧ w.grownBy w' (some mb) := by
 obtain ⟨w', hr, hm, hg⟩ := h.map.delete b (by have := h.N12; omega) ty
 have hk : ∀ k, k < w.heap.size → k ≠ mb → w'.heap[k]? = w.heap[k]? := fun k hk hne => hg.block k hk (by simpa using hne)
 refine ⟨w', hr, ?_, hg⟩
 have hsub := sub_outb C.L b
 exact { row := (hk c (Array.getElem?_eq_some_iff.1 h.row).1 (h.map_ne h.row)).trans h.row
         map := by show Bm w' mb ((outb C.L b).map bg); rw [outb_map]; exact hm
         buf := fun f hf => (hk f.g (Array.getElem?_eq_some_iff.1 (h.buf f (hsub.subset hf))).1 (h.map_ne (h.buf f (hsub.subset hf)))).trans (h.buf f (hsub.subset hf))
         sec := fun f hf => h.sec f (hsub.subset hf)
         gs := List.Nodup.sublist (hsub.map _) h.gs
         ps := fun f hf => h.ps f (hsub.subset hf)
         bs := fun f hf => h.bs f (hsub.subset hf)
         N12 := h.N12, bd := h.bd, len := Nat.le_trans hsub.length_le h.len, lo := ⟨h.lo.1, h.lo.2.1, fun f hf => h.lo.2.2 f (hsub.subset hf)⟩, cnt := h.cnt }
theorem CW.add (h : CW B w c mb d N C) {f : Bf} (hfb : f.b < N) (hno : ∀ k ∈ C.L, ¬ k.b = f.b) (hl : C.L.length < C.bd) (hs : Sect f.xs) (hp : f.p ≤ 100) (hB : B ≤ f.g) (hgn : ∀ k ∈ C.L, ¬ k.g = f.g)
  (hc : w'.heap[c]? = w.heap[c]?) (hm : Bm w' mb (C.L.map bg ++ [(f.b, f.g)])) (ho : ∀ k ∈ C.L, w'.heap[k.g]? = w.heap[k.g]?) (hn : w'.heap[f.g]? = some (.cells (bufA f) 379 (0, 0))) : CW B w' c mb d N { C with L := C.L ++ [f] } := by
 have key : ∀ {P : Bf → Prop}, (∀ k ∈ C.L, P k) → P f → ∀ k ∈ C.L ++ [f], P k := fun h1 h2 k hk => by
  rcases List.mem_append.1 hk with hk | hk
  ·exact h1 k hk
  ·simp at hk; subst hk; exact h2
 refine { row := hc.trans h.row, map := ?_, buf := key (fun k hk => (ho k hk).trans (h.buf k hk)) hn, sec := key h.sec hs, gs := ?_, ps := key h.ps hp, bs := key h.bs hfb, N12 := h.N12, bd := h.bd, len := ?_, lo := ⟨h.lo.1, h.lo.2.1, key h.lo.2.2 hB⟩, cnt := h.cnt }
 ·show Bm w' mb ((C.L ++ [f]).map bg)
  rw [List.map_append]
  exact hm
 ·show ((C.L ++ [f]).map (·.g)).Nodup
  rw [List.map_append, List.nodup_append]
  refine ⟨h.gs, by simp, ?_⟩
  intro a ha x hx e
  simp at hx
  obtain ⟨k, hk, rfl⟩ := List.mem_map.1 ha
  exact hgn k hk (by omega)
 ·show (C.L ++ [f]).length ≤ C.bd
  simp
  omega
theorem room_sub (C : Ch) : (room C).Sublist C.L := by
 unfold room
 split
 ·split
  ·exact sub_outb _ _
  ·exact List.Sublist.refl _
 ·exact List.Sublist.refl _
theorem room_len (h : CW B w c mb d N C) (hg : canGo C) : (room C).length < C.bd := by
 unfold room
 have hbd := h.bd
 have hl := h.len
 split
 ·rename_i hf
  obtain ⟨f, hv⟩ := hg hf
  rw [hv]
  have hm : f ∈ C.L := List.mem_of_find?_eq_some hv
  have := (outb_perm h.bnd hm).length_eq
  simp at this
  show (outb C.L f.b).length < C.bd
  omega
 ·omega
theorem zero90 : Tryz.zeroCells379 = (bufL (zbuf 0)).toArray := by kernel_rfl
theorem zbuf_splice (xs : List Int) (hs : Sect xs) (g b : Nat) : splice (bufL (zbuf 0)) 0 (xs.map (Value.int .u8)) = bufL ⟨b, 0, 0, g, xs⟩ := by
 have hl := hs.1
 unfold splice bufL zbuf
 simp [hl, zer_len]
set_option maxRecDepth 100000 in
set_option maxHeartbeats 2000000 in
theorem fetch_ok (h : CD B w c mb d dm df dq C S) (hS : Ok S) (b : Nat) (hb : b < S.N) (hno : ∀ k ∈ C.L, ¬ k.b = b) (hg : canGo C) (h0 : S.fl b = 0) :
  Calls Tryz.prog 206 #[.pointer (some ⟨c, 0, none⟩), .int .i64 (b : Int)] w fun e w' => ∃ g, e = .returned (.int .i64 0) ∧ w.heap.size ≤ g ∧ CW B w' c mb d S.N { C with L := room C ++ [⟨b, 0, 0, g, S.f b⟩] } ∧ Frame (fun k => k = mb) w w' := by
 have c2 := h.ci.c2
 have c1 := h.ci.c1
 have hlen : ∀ q, (Builtin.len_ #[321] 3 #[.map (some mb)]).run Tryz.prog (w.drewN q) = .ok (.int .i64 (C.L.length : Int)) (w.drewN q) := fun q => len54 (h.ci.later (below_drewN (Below.refl _ _) q)).toCW 3
 have hold := fun q => oldest_ok (h.ci.later (below_drewN (Below.refl _ _) q))
 obtain ⟨vx, vy, eV, hvy, hvx⟩ := @vicV_ok C.L
 rw [eV] at hold
 have hread := fun w1 (hb1 : Below w.heap.size w w1) => read_ok (h.later hb1).di b hb h0
 have H := (show Hid _ from h)
 have HO := (show Hid _ from hold)
 have HR := (show Hid _ from hread)
 have HG := (show Hid _ from hg)
 have hrl := room_len h.ci.toCW hg
 have hvN := h.ci.N12
 have hbd64 := h.ci.bd
 clear hold h hread eV hg
 have hdel : C.bd ≤ C.L.length → vy = true ∧ ∃ f, vic C.L = some f ∧ vx = (f.b : Int) ∧ f ∈ C.L := by
  intro hf
  obtain ⟨f, hv⟩ := HG.out hf
  exact ⟨by rw [hvy, hv]; rfl, f, hv, hvx f hv, List.mem_of_find?_eq_some hv⟩
 clear hvy hvx
 go_enter Tryz.func206, Tryz.ntmps206
 by_cases hfull : C.bd ≤ C.L.length
 ·have hfI : (C.bd : Int) ≤ (C.L.length : Int) := by omega
  obtain ⟨rfl, f, hv, rfl, hfm⟩ := hdel hfull
  clear hdel
  have hfb := H.out.ci.bs f hfm
  go_wp2_with fail
  go_quiet (fail)
  go_upto_region 10 with (first
   | (go_at_call 268; refine Calls.mono (HO.out _) ?_; rintro e w1 ⟨rfl, hb1⟩; have hb1 := (below_drewN (Below.refl w.heap.size w) nq).trans (hb1.mono (Nat.le_refl _)); have c0 := (H.out.later hb1).ci.c0)
   | (go_at_call 269; refine Calls.mono (HR.out _ hb1) ?_; rintro e w2 ⟨gx, rfl, hown, hb2⟩; have hb2 := hb1.trans (hb2.mono hb1.size); have c2 := (H.out.later hb2).ci.c2; obtain ⟨w3, hr3, hcw3, hg3⟩ := CW.out (H.out.later hb2).ci.toCW f.b hfb 0))
  have hfr3 : Frame (fun k => k = mb) w w3 := (frame_of_below hb2).trans (frame_of_grown hg3 (fun k hk => by cases hk; rfl))
  have hx3 : BI w3 (some ⟨gx, 0, none⟩) 128 (S.f b) := by
   have ho3 : Own w1.heap.size w3 gx 128 128 (S.f b) := by
    refine ownsRow_kept hown (fun k hk => hg3.block k (hown.lt k hk).2 ?_)
    intro e
    obtain ⟨cs, hc⟩ := own_ty hown hk
    exact (H.out.later hb2).ci.map_ne hc (by simpa using e)
   exact ho3.bi (by omega) (hS.sec b).2
  have eR : room C = outb C.L f.b := by unfold room; rw [if_pos hfull, hv]
  have hsubR := sub_outb C.L f.b
  rw [eR] at hrl
  have HE := (show Hid _ from eR)
  clear eR
  clear hr3 hown hb1 hg3
  have hz90 := zero90
  have hrow4 : (w3.alloc (.cells Tryz.zeroCells379 379)).heap[w3.heap.size]? = some (.cells (bufL (zbuf 0)).toArray 379 (0, 0)) := by
   rw [hz90]; exact World.alloc_heap_new w3 _
  have hb4 : Below w3.heap.size w3 (w3.alloc (.cells Tryz.zeroCells379 379)) := (Below.refl _ _).alloc (Nat.le_refl _) _
  have hsx := hS.sec b
  clear hlen c0 c1 c2 HO HR hz90
  go_wp2_with (first
   | (refine wpList_copy_splice rfl _ _ 42 42 rfl 5 Tryz.underlying42 size5 _ _ _ _ _ _ rfl rfl w3.heap.size 0 _ 379 hrow4 ((S.f b).map (Value.int .u8)) ?c1 ?c2 ?c3 ?c4 w3.heap.size w3 hb4 (Nat.le_refl _) ?_))
  case c1 => simp [hsx.1]
  case c2 =>
   intro hp j a hj
   obtain ⟨b', o', e, hcc⟩ := (hx3.kept hb4).cells (by omega)
   cases e
   have hjl := (List.getElem?_eq_some_iff.1 hj).1
   have := hcc j (by rw [← hsx.1]; exact hjl)
   rw [Nat.zero_add, List.getD_eq_getElem?_getD, hj] at this
   exact this
  case c3 => simp [bufL, zbuf, zer_len, hsx.1]
  case c4 => exact one_cells _
  intro w5 hg5 hb5
  have hrow5 := hg5.out
  rw [zbuf_splice (S.f b) hsx w3.heap.size b] at hrow5
  have hcw5 := hcw3.later hb5
  obtain ⟨w6, hr6, hm6, hg6⟩ := hcw5.map.update b w3.heap.size (by
   intro p hp
   obtain ⟨k, hk, rfl⟩ := List.mem_map.1 hp
   exact hno k (hsubR.subset hk)) (by omega) (by simp only [List.length_map]; omega)
  have hk6 : ∀ k, k < w5.heap.size → k ≠ mb → w6.heap[k]? = w5.heap[k]? := fun k hk hne => hg6.block k hk (by simpa using hne)
  have hlt5 := (Array.getElem?_eq_some_iff.1 hrow5).1
  have hadd := CW.add (f := ⟨b, 0, 0, w3.heap.size, S.f b⟩) hcw5 hb (fun k hk => hno k (hsubR.subset hk)) hrl hsx (by show 0 ≤ 100; omega) (Nat.le_trans hcw3.lo.1 (Nat.le_of_lt (Array.getElem?_eq_some_iff.1 hcw3.row).1))
   (fun k hk => by have := (Array.getElem?_eq_some_iff.1 (hcw3.buf k hk)).1; show ¬ k.g = w3.heap.size; omega) (hk6 c (Array.getElem?_eq_some_iff.1 hcw5.row).1 (hcw5.map_ne hcw5.row)) hm6 (fun k hk => hk6 k.g (Array.getElem?_eq_some_iff.1 (hcw5.buf k hk)).1 (hcw5.map_ne (hcw5.buf k hk)))
   ((hk6 w3.heap.size hlt5 (hcw5.map_ne hrow5)).trans hrow5)
  have c2 := hcw5.c2
  have HA := (show Hid _ from hadd)
  have hfin := (hfr3.trans (frame_of_below hb5)).trans (frame_of_grown (X := fun k => k = mb) hg6 (fun k hk => by cases hk; rfl))
  clear hadd hm6 hcw5 hcw3 hrow5 hrow4 hg5
  go_wp2_with fail
  go_ret
  first
   | exact ⟨rfl, w3.heap.size, by have := hfr3.size; omega, by rw [HE.out]; exact HA.out, hfin⟩
   | exact ⟨w3.heap.size, rfl, by have := hfr3.size; omega, by rw [HE.out]; exact HA.out, hfin⟩
 ·have hfI : ¬ (C.bd : Int) ≤ (C.L.length : Int) := by omega
  have hfd : decide ((C.bd : Int) ≤ (C.L.length : Int)) = false := decide_eq_false hfI
  have hfJ : (C.L.length : Int) < (C.bd : Int) := by omega
  have hfK : decide (C.bd ≤ C.L.length) = false := decide_eq_false hfull
  clear hdel
  go_wp2_with fail
  go_quiet (fail)
  go_upto_region 10 with (first
   | (go_at_call 268; refine Calls.mono (HO.out _) ?_; rintro e w1 ⟨rfl, hb1⟩; have hb1 := (below_drewN (Below.refl w.heap.size w) nq).trans (hb1.mono (Nat.le_refl _)); have c0 := (H.out.later hb1).ci.c0)
   | (go_at_call 269; refine Calls.mono (HR.out _ hb1) ?_; rintro e w3 ⟨gx, rfl, hown, hb2⟩; have hb2 := hb1.trans (hb2.mono hb1.size)))
  have hcw3 := (H.out.later hb2).ci.toCW
  have hfr3 : Frame (fun k => k = mb) w w3 := frame_of_below hb2
  have hx3 : BI w3 (some ⟨gx, 0, none⟩) 128 (S.f b) := hown.bi (by omega) (hS.sec b).2
  have eR : room C = C.L := by unfold room; rw [if_neg hfull]
  have hsubR := List.Sublist.refl C.L
  rw [eR] at hrl
  have HE := (show Hid _ from eR)
  clear eR
  clear hown hb1
  have hz90 := zero90
  have hrow4 : (w3.alloc (.cells Tryz.zeroCells379 379)).heap[w3.heap.size]? = some (.cells (bufL (zbuf 0)).toArray 379 (0, 0)) := by
   rw [hz90]; exact World.alloc_heap_new w3 _
  have hb4 : Below w3.heap.size w3 (w3.alloc (.cells Tryz.zeroCells379 379)) := (Below.refl _ _).alloc (Nat.le_refl _) _
  have hsx := hS.sec b
  clear hlen c0 c1 c2 HO HR hz90
  go_wp2_with (first
   | (refine wpList_copy_splice rfl _ _ 42 42 rfl 5 Tryz.underlying42 size5 _ _ _ _ _ _ rfl rfl w3.heap.size 0 _ 379 hrow4 ((S.f b).map (Value.int .u8)) ?c1 ?c2 ?c3 ?c4 w3.heap.size w3 hb4 (Nat.le_refl _) ?_))
  case c1 => simp [hsx.1]
  case c2 =>
   intro hp j a hj
   obtain ⟨b', o', e, hcc⟩ := (hx3.kept hb4).cells (by omega)
   cases e
   have hjl := (List.getElem?_eq_some_iff.1 hj).1
   have := hcc j (by rw [← hsx.1]; exact hjl)
   rw [Nat.zero_add, List.getD_eq_getElem?_getD, hj] at this
   exact this
  case c3 => simp [bufL, zbuf, zer_len, hsx.1]
  case c4 => exact one_cells _
  intro w5 hg5 hb5
  have hrow5 := hg5.out
  rw [zbuf_splice (S.f b) hsx w3.heap.size b] at hrow5
  have hcw5 := hcw3.later hb5
  obtain ⟨w6, hr6, hm6, hg6⟩ := hcw5.map.update b w3.heap.size (by
   intro p hp
   obtain ⟨k, hk, rfl⟩ := List.mem_map.1 hp
   exact hno k (hsubR.subset hk)) (by omega) (by simp only [List.length_map]; omega)
  have hk6 : ∀ k, k < w5.heap.size → k ≠ mb → w6.heap[k]? = w5.heap[k]? := fun k hk hne => hg6.block k hk (by simpa using hne)
  have hlt5 := (Array.getElem?_eq_some_iff.1 hrow5).1
  have hadd := CW.add (f := ⟨b, 0, 0, w3.heap.size, S.f b⟩) hcw5 hb (fun k hk => hno k (hsubR.subset hk)) hrl hsx (by show 0 ≤ 100; omega) (Nat.le_trans hcw3.lo.1 (Nat.le_of_lt (Array.getElem?_eq_some_iff.1 hcw3.row).1))
   (fun k hk => by have := (Array.getElem?_eq_some_iff.1 (hcw3.buf k hk)).1; show ¬ k.g = w3.heap.size; omega) (hk6 c (Array.getElem?_eq_some_iff.1 hcw5.row).1 (hcw5.map_ne hcw5.row)) hm6 (fun k hk => hk6 k.g (Array.getElem?_eq_some_iff.1 (hcw5.buf k hk)).1 (hcw5.map_ne (hcw5.buf k hk)))
   ((hk6 w3.heap.size hlt5 (hcw5.map_ne hrow5)).trans hrow5)
  have c2 := hcw5.c2
  have HA := (show Hid _ from hadd)
  have hfin := (hfr3.trans (frame_of_below hb5)).trans (frame_of_grown (X := fun k => k = mb) hg6 (fun k hk => by cases hk; rfl))
  clear hadd hm6 hcw5 hcw3 hrow5 hrow4 hg5
  go_wp2_with fail
  go_ret
  first
   | exact ⟨rfl, w3.heap.size, by have := hfr3.size; omega, by rw [HE.out]; exact HA.out, hfin⟩
   | exact ⟨w3.heap.size, rfl, by have := hfr3.size; omega, by rw [HE.out]; exact HA.out, hfin⟩
end
end Go.Proofs.YthdlpeejmmobmaaGreat

namespace Go.Proofs.YthdlpeejmmobmaaGreat
open Go.RowKit Go.Maps
set_option maxRecDepth 100000
set_option linter.unusedVariables false
section
variable {B : Nat} {w w' : World} {c mb d dm df N : Nat} {dq : Value} {C : Ch} {S : St}
theorem CW.bump (h : CW B w c mb d N C) (j : Nat) (v : Value) {hi mi : Nat} (hr : (w.setCell ⟨c, j, none⟩ v).heap[c]? = some (.cells #[.pointer (some ⟨d, 0, none⟩), .int .i64 (C.bd : Int), .map (some mb), .int .i64 (hi : Int), .int .i64 (mi : Int)] 323 (0, 0)))
  (hc : hi + mi ≤ 4611686018427387904) : CW B (w.setCell ⟨c, j, none⟩ v) c mb d N { C with hi := hi, mi := mi } :=
 { row := hr, map := h.map.kept (heap_setCell_other _ _ _ _ (h.map_ne h.row).symm), buf := fun f hf => (heap_setCell_other _ _ _ _ (h.row_ne hf).symm).trans (h.buf f hf), sec := h.sec, gs := h.gs, ps := h.ps, bs := h.bs, N12 := h.N12, bd := h.bd, len := h.len, lo := h.lo, cnt := hc }
theorem CW.hits (h : CW B w c mb d N C) (hc : C.hi + C.mi < 4611686018427387904) : CW B (w.setCell ⟨c, 3, none⟩ (.int .i64 ((C.hi : Int) + 1))) c mb d N { C with hi := C.hi + 1 } := by
 have := h.bump 3 (.int .i64 ((C.hi : Int) + 1)) (hi := C.hi + 1) (mi := C.mi) (by
  rw [heap_setCell_same w c 3 _ 323 _ h.row]
  simp) (by omega)
 exact this
theorem CW.misses (h : CW B w c mb d N C) (hc : C.hi + C.mi < 4611686018427387904) : CW B (w.setCell ⟨c, 4, none⟩ (.int .i64 ((C.mi : Int) + 1))) c mb d N { C with mi := C.mi + 1 } := by
 have := h.bump 4 (.int .i64 ((C.mi : Int) + 1)) (hi := C.hi) (mi := C.mi + 1) (by
  rw [heap_setCell_same w c 4 _ 323 _ h.row]
  simp) (by omega)
 exact this
theorem CD.missed (h : CD B w c mb d dm df dq C S) (hc : C.hi + C.mi < 4611686018427387904) : CD B (w.setCell ⟨c, 4, none⟩ (.int .i64 ((C.mi : Int) + 1))) c mb d dm df dq { C with mi := C.mi + 1 } S :=
 ⟨{ CW.misses h.ci.toCW hc with ord := h.ci.ord, us := fun f hf => by have := h.ci.us f hf; show f.u ≤ C.hi + (C.mi + 1); omega },
  h.di.kept (fun k hk => heap_setCell_other _ _ _ _ (by rintro rfl; exact h.apart _ (.inl rfl) hk)), h.ne⟩
set_option maxHeartbeats 1000000 in
theorem get_hit (h : CD B w c mb d dm df dq C S) {f : Bf} (hf : f ∈ C.L) (hc : C.hi + C.mi < 4611686018427387904) :
  Calls Tryz.prog 120 #[.pointer (some ⟨c, 0, none⟩), .int .i64 (f.b : Int)] w fun e w' => ∃ g cap, e = .returned (.tuple #[.slice (some ⟨g, 0, none⟩) 128 cap, .int .i64 0]) ∧ Own w.heap.size w' g 128 cap f.xs ∧
   CD B w' c mb d dm df dq { C with hi := C.hi + 1, L := outb C.L f.b ++ [{ f with u := C.hi + 1 + C.mi }] } S ∧ Frame (cfoot c mb C) w w' := by
 have hfb := h.ci.bs f hf
 have hr := refusal_ok h.ci.toCW (blocks_ok h.di) f.b hfb
 have c2 := h.ci.c2
 have c3 := h.ci.c3
 have hl := h.ci.hit hf
 have hfz := row_frozC h.ci.toCW 3
 have hcw := CW.hits h.ci.toCW hc
 have hu := use_ok hcw (f := f) hf (fun k hk hne => by have := h.ci.us k hk; show k.u < C.hi + 1 + C.mi; omega) (List.Pairwise.sublist (sub_outb C.L f.b) h.ci.ord)
 have H := (show Hid _ from h)
 have hhi : (C.hi : Int) + 1 ≤ 4611686018427387904 := by omega
 have hh0 : (0 : Int) ≤ (C.hi : Int) := by omega
 clear h hcw hfb
 go_enter Tryz.func120, Tryz.ntmps120
 go_wp2_with (first
  | (go_at_call 204; refine same_at hr ?_)
  | (go_at_call 205; refine Calls.mono hu ?_; rintro e w2 ⟨g, cap, rfl, hown, hci2, hf2⟩))
 go_ret2
 have hfr : Frame (cfoot c mb C) w w2 := (Frame.setCell w (p := ⟨c, 3, none⟩) _ (.inl rfl)).trans (hf2.mono (fun k _ e => by rw [e]; exact .inr (.inr ⟨f, hf, rfl⟩)))
 exact ⟨g, cap, rfl, hown.base (by simp), ⟨hci2, H.out.di.kept (fun k hk => hfr.block k (H.out.di.in k hk).2 (fun e => H.out.apart k e hk)), H.out.ne⟩, hfr⟩
set_option maxHeartbeats 1000000 in
theorem get_pinned (h : CD B w c mb d dm df dq C S) (b : Nat) (hb : b < S.N) (hno : ∀ k ∈ C.L, ¬ k.b = b) (hc : C.hi + C.mi < 4611686018427387904) (hfull : C.bd ≤ C.L.length) (hv : vic C.L = none) :
  Calls Tryz.prog 120 #[.pointer (some ⟨c, 0, none⟩), .int .i64 (b : Int)] w fun e w' => e = .returned (.tuple #[.slice none 0 0, .int .i64 60]) ∧ CD B w' c mb d dm df dq { C with mi := C.mi + 1 } S ∧ Frame (cfoot c mb C) w w' := by
 have hr := refusal_ok h.ci.toCW (blocks_ok h.di) b hb
 have c2 := h.ci.c2
 have c4 := h.ci.c4
 have hl := h.ci.miss hb hno
 have hfz := row_frozC h.ci.toCW 4
 have hcd := h.missed hc
 have hu := fetch_pinned hcd b hb hfull hv
 have H := (show Hid _ from hcd)
 have hhi : (C.mi : Int) + 1 ≤ 4611686018427387904 := by omega
 have hh0 : (0 : Int) ≤ (C.mi : Int) := by omega
 clear h hcd hv hno
 go_enter Tryz.func120, Tryz.ntmps120
 go_wp2_with (first
  | (go_at_call 204; refine same_at hr ?_)
  | (go_at_call 206; refine Calls.mono hu ?_; rintro e w2 ⟨rfl, hb2⟩))
 go_ret2
 exact ⟨rfl, H.out.later hb2, (Frame.setCell w (p := ⟨c, 4, none⟩) _ (.inl rfl)).trans (frame_of_below hb2)⟩
theorem outb_snoc {L : List Bf} {f : Bf} (h : ∀ k ∈ L, ¬ k.b = f.b) : outb (L ++ [f]) f.b = L := by
 unfold outb
 rw [List.filter_append]
 have e1 : L.filter (fun k => !(k.b == f.b)) = L := by
  rw [List.filter_eq_self]
  intro k hk
  simpa using h k hk
 rw [e1]
 simp
set_option maxHeartbeats 1000000 in
theorem get_new (h : CD B w c mb d dm df dq C S) (hS : Ok S) (b : Nat) (hb : b < S.N) (hno : ∀ k ∈ C.L, ¬ k.b = b) (hc : C.hi + C.mi < 4611686018427387904) (hg : canGo C) (h0 : S.fl b = 0) :
  Calls Tryz.prog 120 #[.pointer (some ⟨c, 0, none⟩), .int .i64 (b : Int)] w fun e w' => ∃ g cap gn, e = .returned (.tuple #[.slice (some ⟨g, 0, none⟩) 128 cap, .int .i64 0]) ∧ Own w.heap.size w' g 128 cap (S.f b) ∧ w.heap.size ≤ gn ∧
   CD B w' c mb d dm df dq { C with mi := C.mi + 1, L := room C ++ [⟨b, C.hi + (C.mi + 1), 0, gn, S.f b⟩] } S ∧ Frame (cfoot c mb C) w w' := by
 have hr := refusal_ok h.ci.toCW (blocks_ok h.di) b hb
 have c2 := h.ci.c2
 have c4 := h.ci.c4
 have hl := h.ci.miss hb hno
 have hfz := row_frozC h.ci.toCW 4
 have hcd := h.missed hc
 have hsub := room_sub C
 have hu := fetch_ok hcd hS b hb hno hg h0
 have hux : ∀ w2 g, CW B w2 c mb d S.N { C with mi := C.mi + 1, L := room C ++ [⟨b, 0, 0, g, S.f b⟩] } → _ := fun w2 g hcw =>
  use_ok (f := ⟨b, 0, 0, g, S.f b⟩) hcw (by simp) (fun k hk hne => by
   rcases List.mem_append.1 hk with hk | hk
   ·have := h.ci.us k (hsub.subset hk); show k.u < C.hi + (C.mi + 1); omega
   ·simp at hk; subst hk; exact absurd rfl hne) (by
   show (outb (room C ++ [⟨b, 0, 0, g, S.f b⟩]) b).Pairwise _
   rw [outb_snoc (f := ⟨b, 0, 0, g, S.f b⟩) (fun k hk => hno k (hsub.subset hk))]
   exact List.Pairwise.sublist hsub h.ci.ord)
 have HU := (show Hid _ from hux)
 have H := (show Hid _ from h)
 have HO : Hid (∀ g, outb (room C ++ [⟨b, 0, 0, g, S.f b⟩]) b = room C) := fun g => outb_snoc (f := ⟨b, 0, 0, g, S.f b⟩) (fun k hk => hno k (hsub.subset hk))
 have hhi : (C.mi : Int) + 1 ≤ 4611686018427387904 := by omega
 have hh0 : (0 : Int) ≤ (C.mi : Int) := by omega
 clear h hcd hno hg hux hsub
 go_enter Tryz.func120, Tryz.ntmps120
 go_wp2_with (first
  | (go_at_call 204; refine same_at hr ?_)
  | (go_at_call 206; refine Calls.mono hu ?_; rintro e w2 ⟨gn, rfl, hgn, hcw2, hf2⟩)
  | (go_at_call 205; refine Calls.mono (HU.out w2 gn hcw2) ?_; rintro e w3 ⟨g, cap, rfl, hown, hci3, hf3⟩))
 go_ret2
 have hsz : (w.setCell ⟨c, 4, none⟩ (.int .i64 ((C.mi : Int) + 1))).heap.size = w.heap.size := by simp
 have hf1 : Frame (cfoot c mb C) w (w.setCell ⟨c, 4, none⟩ (.int .i64 ((C.mi : Int) + 1))) := Frame.setCell w (p := ⟨c, 4, none⟩) (.int .i64 ((C.mi : Int) + 1)) (.inl rfl)
 have hf12 : Frame (cfoot c mb C) w w2 := hf1.trans (hf2.mono (fun k _ e => by rw [e]; exact .inr (.inl rfl)))
 have hgn' : w.heap.size ≤ gn := by rw [hsz] at hgn; exact hgn
 have hs2 := hf12.size
 have hfr : Frame (cfoot c mb C) w w3 := ⟨hf3.os.trans hf12.os, hf3.tape.trans hf12.tape, hf3.output.trans hf12.output, Nat.le_trans hs2 hf3.size, fun k hk hn => (hf3.block k (by omega) (by show ¬ k = gn; omega)).trans (hf12.block k hk hn)⟩
 refine ⟨g, cap, gn, rfl, hown.base (by omega), hgn', ⟨?_, H.out.di.kept (fun k hk => hfr.block k (H.out.di.in k hk).2 (fun e => H.out.apart k e hk)), H.out.ne⟩, hfr⟩
 have hci4 := hci3
 rw [HO.out gn] at hci4
 exact hci4
end
end Go.Proofs.YthdlpeejmmobmaaGreat

namespace Go.Proofs.YthdlpeejmmobmaaGreat
open Go.RowKit Go.Maps
set_option maxRecDepth 100000
set_option linter.unusedVariables false
section
variable {B : Nat} {w w' : World} {c mb d dm df N : Nat} {dq : Value} {C : Ch} {S : St}
theorem CD.turn (h : CD B w c mb d dm df dq C S) {C' : Ch} (hci : CI B w' c mb d S.N C') (hf : Frame (cfoot c mb C) w w') : CD B w' c mb d dm df dq C' S :=
 ⟨hci, h.di.kept (fun k hk => hf.block k (h.di.in k hk).2 (fun e => h.apart k e hk)), h.ne⟩
end
end Go.Proofs.YthdlpeejmmobmaaGreat

namespace Go.Proofs.YthdlpeejmmobmaaGreat
open Go.RowKit Go.Maps
set_option maxRecDepth 100000
set_option linter.unusedVariables false
section
variable {B : Nat} {w w' : World} {c mb d dm df N : Nat} {dq : Value} {C : Ch} {S : St}
set_option maxHeartbeats 400000 in
theorem cnew_ok (h : DI B w d dm df dq S) (hB : B ≤ w.heap.size) (bd : Nat) (hb : 1 ≤ bd ∧ bd ≤ 64) (hN12 : S.N ≤ 2048) : Calls Tryz.prog 192 #[.pointer (some ⟨d, 0, none⟩), .int .i64 (bd : Int)] w fun e w' => ∃ c mb, e = .returned (.tuple #[.pointer (some ⟨c, 0, none⟩), .int .i64 0]) ∧ w.heap.size ≤ c ∧ w.heap.size ≤ mb ∧ CD B w' c mb d dm df dq ⟨bd, 0, 0, []⟩ S ∧ Below w.heap.size w w' := by
 have hd := blocks_ok h
 have hN := h.N1
 have hN2 : ((S.N : Int) == 0) = false := by rw [beq_eq_false_iff_ne]; omega
 have hN3 : ¬ (S.N : Int) = 0 := by omega
 have h1 : (1 : Int) ≤ (bd : Int) := by omega
 have h2 : (bd : Int) ≤ 64 := by omega
 have hmm := @run_makeMap Tryz.prog
 go_enter Tryz.func192, Tryz.ntmps192
 go_wp2_with (first | (go_at_call 47; refine same_at hd ?_))
 go_ret2
 have hb0 : Below w.heap.size w (w.alloc (.map #[] 0)) := (Below.refl _ w).alloc (Nat.le_refl _) _
 have hb1 := hb0.alloc (show w.heap.size ≤ (w.alloc (.map #[] 0)).heap.size by simp) (.cells #[.pointer (some ⟨d, 0, none⟩), .int .i64 (bd : Int), .map (some w.heap.size), .int .i64 0, .int .i64 0] 323)
 have hlt : ∀ k, foot d dm df dq k → k < w.heap.size := fun k hk => (h.in k hk).2
 refine ⟨w.heap.size + 1, w.heap.size, rfl, by omega, Nat.le_refl _, ⟨?_, h.later hb1, ⟨?_, ?_⟩⟩, hb1⟩
 ·have hrow := World.alloc_heap_new (w.alloc (.map #[] 0)) (.cells #[.pointer (some ⟨d, 0, none⟩), .int .i64 (bd : Int), .map (some w.heap.size), .int .i64 0, .int .i64 0] 323)
  rw [World.size_alloc] at hrow
  exact { row := hrow
          map := (bm_made w).kept (Below.heap_alloc _ _ _ (by simp))
          buf := fun f hf => by cases hf
          sec := fun f hf => by cases hf
          gs := List.nodup_nil
          ps := fun f hf => by cases hf
          bs := fun f hf => by cases hf
          N12 := hN12, bd := hb, len := Nat.zero_le _, lo := ⟨by omega, hB, fun f hf => by cases hf⟩, cnt := by show 0 + 0 ≤ _; omega
          ord := List.Pairwise.nil, us := fun f hf => by cases hf }
 ·have := hlt dm (.inr (.inl rfl)); omega
 ·have := hlt df (.inr (.inr (.inl rfl))); omega
end
end Go.Proofs.YthdlpeejmmobmaaGreat

namespace Go.Proofs.YthdlpeejmmobmaaGreat.Pt
open Go.RowKit Go.Maps
set_option maxRecDepth 100000
set_option linter.unusedVariables false
theorem same_at {P : Program} {f : FuncId} {args : Array Value} {w : World} {v : Value} {Q : Ending → World → Prop} (h : Calls P f args w fun e w' => e = .returned v ∧ w' = w) (hq : Q (.returned v) w) : Calls P f args w Q :=
 h.mono (by rintro e w' ⟨rfl, rfl⟩; exact hq)
theorem at_old {w : World} {k : Nat} {o u : Obj} (h : w.heap[k]? = some u) : (w.alloc o).heap[k]? = some u := by
 rw [Below.heap_alloc _ _ _ (Array.getElem?_eq_some_iff.1 h).1]; exact h
theorem at_new {w : World} {k : Nat} {o : Obj} (h : k = w.heap.size) : (w.alloc o).heap[k]? = some o := by
 subst h; exact heap_alloc_new w o
theorem info5 : (Tryz.prog.info? 5).map (fun i => (i.zero, i.size, i.bytes)) = some (some (.int .u8 0), 1, 1) := by kernel_rfl
namespace Num
def Byt (xs : List Int) : Prop := ∀ i, 0 ≤ xs.getD i 0 ∧ xs.getD i 0 < 256
end Num
structure BI (w : World) (p : Option Addr) (n : Nat) (xs : List Int) : Prop where
 len : xs.length = n
 big : n ≤ 140737488355328
 byt : Num.Byt xs
 cells : 0 < n → ∃ b o, p = some ⟨b, o, none⟩ ∧ ∀ i, i < n → w.cell? ⟨b, o + i, none⟩ = some (.int .u8 (xs.getD i 0))
theorem lt_of_cell {w : World} {b o : Nat} {v : Value} (h : w.cell? ⟨b, o, none⟩ = some v) : b < w.heap.size := by
 by_cases hb : b < w.heap.size
 ·exact hb
 ·have : w.heap[b]? = none := Array.getElem?_eq_none (by omega)
  simp [World.cell?, this] at h
theorem BI.kept {w w' : World} {p : Option Addr} {n : Nat} {xs : List Int} (h : BI w p n xs) (hb : Below w.heap.size w w') : BI w' p n xs := by
 refine ⟨h.len, h.big, h.byt, fun hn => ?_⟩
 obtain ⟨b, o, rfl, hc⟩ := h.cells hn
 refine ⟨b, o, rfl, fun i hi => ?_⟩
 have hlt := lt_of_cell (hc i hi)
 rw [hb.cell (p := ⟨b, o + i, none⟩) hlt]
 exact hc i hi
def Own (B : Nat) (w : World) (g n cap : Nat) (xs : List Int) : Prop :=
 w.ownsRow B 5 1 (.slice (some ⟨g, 0, none⟩) n cap) n (xs.map (Value.int .u8))
theorem Own.len {B : Nat} {w : World} {g n cap : Nat} {xs : List Int} (h : Own B w g n cap xs) : xs.length = n := by
 have := h.1
 simpa using this
theorem Own.spot {B : Nat} {w : World} {g n cap : Nat} {xs : List Int} (h : Own B w g n cap xs) : B ≤ g ∧ g < w.heap.size := World.ownsRow.lt h g rfl
theorem Own.cell {B : Nat} {w : World} {g n cap : Nat} {xs : List Int} (h : Own B w g n cap xs) (j : Nat) (hj : j < n) : w.cell? ⟨g, j, none⟩ = some (.int .u8 (xs.getD j 0)) := by
 have h1 := World.ownsRow.cellAt h j (by omega)
 rw [h1, List.getElem?_map, List.getD_eq_getElem?_getD, List.getElem?_eq_getElem (show j < xs.length by rw [h.len]; exact hj)]
 rfl
theorem Own.bi {B : Nat} {w : World} {g n cap : Nat} {xs : List Int} (h : Own B w g n cap xs) (hb : n ≤ 140737488355328) (hx : Num.Byt xs) : BI w (some ⟨g, 0, none⟩) n xs :=
 ⟨h.len, hb, hx, fun _ => ⟨g, 0, rfl, fun i hi => by rw [Nat.zero_add]; exact h.cell i hi⟩⟩
theorem Own.kept {B : Nat} {w w' : World} {g n cap : Nat} {xs : List Int} (h : Own B w g n cap xs) (hb : Below w.heap.size w w') : Own B w' g n cap xs := by
 refine ⟨h.1, ?_⟩
 rcases h.2 with ⟨h', _⟩ | ⟨g', cap', cur, h', hbg, hg, rest⟩
 ·simp at h'
 ·have hlt : g' < w.heap.size := (Array.getElem?_eq_some_iff.1 hg).1
  exact .inr ⟨g', cap', cur, h', hbg, by rw [hb.block g' hlt]; exact hg, rest⟩
theorem Own.base {B B' : Nat} {w : World} {g n cap : Nat} {xs : List Int} (h : Own B w g n cap xs) (hB : B' ≤ B) : Own B' w g n cap xs := by
 refine ⟨h.1, ?_⟩
 rcases h.2 with ⟨h', _⟩ | ⟨g', cap', cur, h', hbg, rest⟩
 ·simp at h'
 ·exact .inr ⟨g', cap', cur, h', by omega, rest⟩
theorem size5 : (Tryz.prog.info? 5).map (·.size) = some 1 := by kernel_rfl
theorem one_cells (xs : List Int) : ∀ u ∈ xs.map (Value.int .u8), u.oneCell' = true := by
 intro u hu; obtain ⟨x, _, rfl⟩ := List.mem_map.1 hu; rfl
theorem BI.src {w : World} {p : Option Addr} {n : Nat} {xs : List Int} (h : BI w p n xs) : 0 < n → ∃ ad, p = some ad ∧ ∀ j v, (xs.map (Value.int .u8))[j]? = some v → w.cell? (ad.add j) = some v := by
 intro hn
 obtain ⟨b, o, rfl, hc⟩ := h.cells hn
 refine ⟨_, rfl, fun j v hj => ?_⟩
 have hjl : j < xs.length := by
  have := (List.getElem?_eq_some_iff.1 hj).1
  simpa using this
 have e : (⟨b, o, none⟩ : Addr).add j = ⟨b, o + j, none⟩ := by unfold Addr.add; split <;> simp_all
 rw [e, hc j (by rw [← h.len]; exact hjl), ← hj, List.getElem?_map, List.getD_eq_getElem?_getD, List.getElem?_eq_getElem hjl]
 rfl
theorem splice_all (L cs : List Value) (h : L.length = cs.length) : splice L 0 cs = cs := by
 simp [splice, ← h]
theorem BI.src' {w : World} {a : Addr} {n : Nat} {xs : List Int} (h : BI w (some a) n xs) : ∀ j v, (xs.map (Value.int .u8))[j]? = some v → w.cell? (a.add j) = some v := by
 intro j v hj
 have hjl : j < xs.length := by
  have := (List.getElem?_eq_some_iff.1 hj).1
  simpa using this
 obtain ⟨ad, e, hc⟩ := h.src (by rw [← h.len]; omega)
 cases e
 exact hc j v hj
theorem eqlNil (w : World) (a : Option Addr) (n c n' c' : Nat) : (binOp .eql 42 (.slice a n c) (.slice none n' c')).run Tryz.prog w = .ok (.bool a.isNone) w := Lib.run_eql_slice_nil w _ _ a n c n' c' Tryz.underlying42
theorem own_shape {w : World} {B n : Nat} {v : Value} {xs : List Int} (h : w.ownsRow B 5 1 v n (xs.map (Value.int .u8))) (hv : v ≠ .slice none 0 0) : ∃ g cap, v = .slice (some ⟨g, 0, none⟩) n cap ∧ Own B w g n cap xs := by
 rcases h.2 with ⟨h', _⟩ | ⟨g', cap', cur, h', r⟩
 ·exact absurd h' hv
 ·exact ⟨g', cap', h', by subst h'; exact h⟩
theorem Own.room {B : Nat} {w : World} {g n cap : Nat} {xs : List Int} (h : Own B w g n cap xs) : n ≤ cap ∧ cap ≤ 9223372036854775807 := by
 rcases h.2 with ⟨h', _⟩ | ⟨g', cap', cur, h', _, _, h1, h2, _⟩
 ·simp at h'
 ·simp only [Value.slice.injEq, Option.some.injEq, Addr.mk.injEq, and_true, true_and] at h'
  obtain ⟨rfl, rfl⟩ := h'
  unfold maxLen at h2
  exact ⟨h1, h2⟩
theorem getD_take (xs : List Int) (m i : Nat) (h : i < m) : (xs.take m).getD i 0 = xs.getD i 0 := by
 simp [List.getD_eq_getElem?_getD, h]
theorem getD_drop' (xs : List Int) (m i : Nat) : (xs.drop m).getD i 0 = xs.getD (m + i) 0 := by
 simp [List.getD_eq_getElem?_getD, List.getElem?_drop]
theorem byt_take {xs : List Int} (h : Num.Byt xs) (m : Nat) : Num.Byt (xs.take m) := by
 intro i
 by_cases hi : i < m
 ·rw [getD_take xs m i hi]; exact h i
 ·rw [List.getD_eq_getElem?_getD, List.getElem?_eq_none (by simp; omega)]; simp
theorem byt_drop {xs : List Int} (h : Num.Byt xs) (m : Nat) : Num.Byt (xs.drop m) := by
 intro i
 rw [getD_drop']; exact h _
theorem BI.take {w : World} {p : Option Addr} {n : Nat} {xs : List Int} (h : BI w p n xs) (m : Nat) (hm : m ≤ n) : BI w p m (xs.take m) := by
 refine ⟨by rw [List.length_take, h.len]; omega, by have := h.big; omega, byt_take h.byt m, fun h0 => ?_⟩
 obtain ⟨b, o, rfl, hc⟩ := h.cells (by omega)
 exact ⟨b, o, rfl, fun i hi => by rw [getD_take xs m i hi]; exact hc i (by omega)⟩
theorem BI.drop {w : World} {b o : Nat} {n : Nat} {xs : List Int} (h : BI w (some ⟨b, o, none⟩) n xs) (m : Nat) (hm : m ≤ n) : BI w (some ⟨b, o + m, none⟩) (n - m) (xs.drop m) := by
 refine ⟨by rw [List.length_drop, h.len], by have := h.big; omega, byt_drop h.byt m, fun h0 => ?_⟩
 obtain ⟨b', o', e, hc⟩ := h.cells (by omega)
 cases e
 exact ⟨b, o + m, rfl, fun i hi => by rw [getD_drop', Nat.add_assoc]; exact hc _ (by omega)⟩
structure Frame (X : Nat → Prop) (w w' : World) : Prop where
 os : w'.os = w.os
 tape : w'.tape = w.tape
 output : w'.output = w.output
 size : w.heap.size ≤ w'.heap.size
 block : ∀ k, k < w.heap.size → ¬ X k → w'.heap[k]? = w.heap[k]?
theorem Frame.refl (X : Nat → Prop) (w : World) : Frame X w w := ⟨rfl, rfl, rfl, Nat.le_refl _, fun _ _ _ => rfl⟩
theorem Frame.trans {X : Nat → Prop} {a b c : World} (h : Frame X a b) (k : Frame X b c) : Frame X a c :=
 ⟨k.os.trans h.os, k.tape.trans h.tape, k.output.trans h.output, Nat.le_trans h.size k.size, fun i hi hx => (k.block i (Nat.lt_of_lt_of_le hi h.size) hx).trans (h.block i hi hx)⟩
theorem Frame.mono {X Y : Nat → Prop} {a b : World} (h : Frame X a b) (hxy : ∀ k, k < a.heap.size → X k → Y k) : Frame Y a b :=
 ⟨h.os, h.tape, h.output, h.size, fun i hi hx => h.block i hi (fun x => hx (hxy i hi x))⟩
theorem Frame.below {X : Nat → Prop} {B : Nat} {a b : World} (h : Frame X a b) (hB : B ≤ a.heap.size) (hx : ∀ k, X k → B ≤ k) : Below B a b :=
 ⟨h.os, h.tape, h.output, h.size, fun i hi => h.block i (Nat.lt_of_lt_of_le hi hB) (fun x => by have := hx i x; omega)⟩
theorem frame_of_below {X : Nat → Prop} {a b : World} (h : Below a.heap.size a b) : Frame X a b := ⟨h.os, h.tape, h.output, h.size, fun i hi _ => h.block i hi⟩
theorem frame_of_grown {X : Nat → Prop} {a b : World} {row : Option Nat} (h : a.grownBy b row) (hx : ∀ k, row = some k → X k) : Frame X a b := ⟨h.os, h.tape, h.output, h.size, fun i hi hn => h.block i hi (fun e => hn (hx i e.symm))⟩
theorem Frame.setCell {X : Nat → Prop} (w : World) {p : Addr} (u : Value) (hx : X p.block) : Frame X w (w.setCell p u) :=
 ⟨rfl, rfl, rfl, by simp, fun i _ hn => Below.heap_setCell w p u i (fun e => hn (e ▸ hx))⟩
end Go.Proofs.YthdlpeejmmobmaaGreat.Pt
