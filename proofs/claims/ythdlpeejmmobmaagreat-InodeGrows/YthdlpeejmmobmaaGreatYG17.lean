/- V1 V2 V3 V4 V5 VB VC WA WB WC -/
import Derived.Test.YthdlpeejmmobmaaGreatYG05
import Derived.Test.YthdlpeejmmobmaaGreatYG07
import Derived.Test.YthdlpeejmmobmaaGreatYG06
import Derived.Test.YthdlpeejmmobmaaGreatYG14
import Derived.Shelf.SlIterI.Stops
import Derived.RangeFuncNested
import Derived.RangeFuncBound
import Derived.RangeFuncCalls
import Derived.RangeFuncLeaves
import Derived.RangeFuncBox
import Derived.Shelf.Abstract
import Derived.Shelf.RegionOpen
import Derived.OwnWalkIn
import Derived.TacticsInMore
import Derived.LoopNIn
import Derived.LoopIn
import Derived.Test.YthdlpeejmmobmaaGreatYG16
import Derived.Test.YthdlpeejmmobmaaGreatYG13
import Derived.Test.YthdlpeejmmobmaaGreatYG10
import Derived.Laws.IdiomRangeMap

namespace Go.Proofs.YthdlpeejmmobmaaGreat
open Go.RowKit Go.Maps
set_option linter.unusedVariables false
set_option maxRecDepth 100000
structure Sy (C : Ch) (S : St) : Prop where
 xs : ∀ f ∈ C.L, f.xs = S.f f.b
 pin : ∀ f ∈ C.L, f.p = 0
 fl : ∀ b, S.fl b = 0
 ok : Ok S
theorem vic_some {L : List Bf} (h : ∀ f ∈ L, f.p = 0) (hl : 1 ≤ L.length) : ∃ f, vic L = some f := by
 cases L with
 | nil => simp at hl
 | cons f r => exact ⟨f, by unfold vic; simp [h f (by simp)]⟩
theorem BI.pt {w : World} {p : Option Addr} {n : Nat} {xs : List Int} (h : BI w p n xs) : Pt.BI w p n xs := ⟨h.len, h.big, h.byt, h.cells⟩
section
variable {B : Nat} {w w' : World} {c mb d dm df : Nat} {dq : Value} {C : Ch} {S : St}
theorem getc (h : CD B w c mb d dm df dq C S) (hy : Sy C S) (b : Nat) (hb : b < S.N) (hc : C.hi + C.mi < 4611686018427387904) (hB : B ≤ w.heap.size) :
  Calls Tryz.prog 120 #[.pointer (some ⟨c, 0, none⟩), .int .i64 (b : Int)] w fun e w' => ∃ g cap C', e = .returned (.tuple #[.slice (some ⟨g, 0, none⟩) 128 cap, .int .i64 0]) ∧ Own w.heap.size w' g 128 cap (S.f b) ∧
   CD B w' c mb d dm df dq C' S ∧ Sy C' S ∧ C'.hi + C'.mi = C.hi + C.mi + 1 ∧ C'.bd = C.bd ∧ Frame (cfoot c mb C) w w' ∧ (∀ k, cfoot c mb C' k → cfoot c mb C k ∨ w.heap.size ≤ k) := by
 by_cases hin : ∃ f ∈ C.L, f.b = b
 ·obtain ⟨f, hf, rfl⟩ := hin
  refine (get_hit h hf hc).mono ?_
  rintro e w' ⟨g, cap, rfl, hO, hcd, hfr⟩
  have hmem : ∀ k ∈ outb C.L f.b ++ [{ f with u := C.hi + 1 + C.mi }], (k ∈ C.L) ∨ (k.b = f.b ∧ k.xs = f.xs ∧ k.p = f.p ∧ k.g = f.g) := by
   intro k hk
   rcases List.mem_append.1 hk with hk | hk
   ·exact .inl (mem_outb.1 hk).1
   ·simp at hk; subst hk; exact .inr ⟨rfl, rfl, rfl, rfl⟩
  refine ⟨g, cap, _, rfl, by rw [← hy.xs f hf]; exact hO, hcd, ⟨?_, ?_, hy.fl, hy.ok⟩, by simp only; omega, rfl, hfr, ?_⟩
  ·intro k hk
   rcases hmem k hk with h1 | ⟨h1, h2, _, _⟩
   ·exact hy.xs k h1
   ·rw [h1, h2]; exact hy.xs f hf
  ·intro k hk
   rcases hmem k hk with h1 | ⟨_, _, h3, _⟩
   ·exact hy.pin k h1
   ·rw [h3]; exact hy.pin f hf
  ·rintro k (rfl | rfl | ⟨f', hf', rfl⟩)
   ·exact .inl (.inl rfl)
   ·exact .inl (.inr (.inl rfl))
   ·rcases hmem f' hf' with h1 | ⟨_, _, _, h4⟩
    ·exact .inl (.inr (.inr ⟨f', h1, rfl⟩))
    ·exact .inl (.inr (.inr ⟨f, hf, h4⟩))
 ·have hno : ∀ k ∈ C.L, ¬ k.b = b := fun k hk e => hin ⟨k, hk, e⟩
  have hg : canGo C := fun hl => vic_some hy.pin (by have := h.ci.bd; omega)
  refine (get_new h hy.ok b hb hno hc hg (hy.fl b)).mono ?_
  rintro e w' ⟨g, cap, gn, rfl, hO, hgn, hcd, hfr⟩
  have hroom : ∀ k ∈ room C, k ∈ C.L := by
   intro k hk
   unfold room at hk
   split at hk
   ·split at hk
    ·exact (mem_outb.1 hk).1
    ·exact hk
   ·exact hk
  have hmem : ∀ k ∈ room C ++ [(⟨b, C.hi + (C.mi + 1), 0, gn, S.f b⟩ : Bf)], k ∈ C.L ∨ (k.b = b ∧ k.xs = S.f b ∧ k.p = 0 ∧ k.g = gn) := by
   intro k hk
   rcases List.mem_append.1 hk with hk | hk
   ·exact .inl (hroom k hk)
   ·simp at hk; subst hk; exact .inr ⟨rfl, rfl, rfl, rfl⟩
  refine ⟨g, cap, _, rfl, hO, hcd, ⟨?_, ?_, hy.fl, hy.ok⟩, by simp only; omega, rfl, hfr, ?_⟩
  ·intro k hk
   rcases hmem k hk with h1 | ⟨h1, h2, _, _⟩
   ·exact hy.xs k h1
   ·rw [h1, h2]
  ·intro k hk
   rcases hmem k hk with h1 | ⟨_, _, h3, _⟩
   ·exact hy.pin k h1
   ·exact h3
  ·rintro k (rfl | rfl | ⟨f', hf', rfl⟩)
   ·exact .inl (.inl rfl)
   ·exact .inl (.inr (.inl rfl))
   ·rcases hmem f' hf' with h1 | ⟨_, _, _, h4⟩
    ·exact .inl (.inr (.inr ⟨f', h1, rfl⟩))
    ·exact .inr (by rw [h4]; exact hgn)
end
end Go.Proofs.YthdlpeejmmobmaaGreat

namespace Go.Proofs.YthdlpeejmmobmaaGreat
open Go.RowKit Go.Maps
set_option linter.unusedVariables false
set_option maxRecDepth 100000
structure Sn where
 id : Int
 p : Option Addr
 c : Nat
 zs : List Int
def Sn.v (s : Sn) : Value := .agg #[.int .i64 s.id, .slice s.p s.zs.length s.c]
structure At where
 v : Nat
 d : Nat
 c : Nat
 s : Nat
 m : Nat
 cm : Nat
 dm : Nat
 df : Nat
 mp : Nat
 mb : Nat
structure Vs where
 C : Ch
 S : St
 dq : Value
 last : Nat
 P : List Pt.Pv
 K : Int → Option Value
 Y : Int → Option Sn
 NW : Nat
 x : Option Addr
def wfoot (A : At) (T : Vs) (k : Nat) : Prop := k = A.m ∨ ∃ b s, T.Y b = some s ∧ Pt.blkOf s.p = some k
def dfoot (A : At) (T : Vs) (k : Nat) : Prop := foot A.d A.dm A.df T.dq k ∨ cfoot A.c A.cm T.C k
def pfoot (A : At) (T : Vs) (k : Nat) : Prop := Pt.dm A.s A.mp A.mb T.P T.K k
def fp (A : At) (T : Vs) (k : Nat) : Prop := k = A.v ∨ wfoot A T k ∨ dfoot A T k ∨ pfoot A T k
structure VI (g : Int) (B : Nat) (w : World) (A : At) (T : Vs) : Prop where
 row : w.heap[A.v]? = some (.cells #[.int .i32 g, .int .u32 0, .pointer (some ⟨A.d, 0, none⟩), .pointer (some ⟨A.c, 0, none⟩), .pointer (some ⟨A.s, 0, none⟩), .map (some A.m), .pointer T.x] 98 (0, 0))
 cd : CD B w A.c A.cm A.d A.dm A.df T.dq T.C T.S
 sy : Sy T.C T.S
 ps : Pt.PS B w A.s A.mp A.mb T.last T.P T.K
 wy : Pt.Mf w A.m T.NW (fun b => (T.Y b).map Sn.v)
 wr : ∀ b s, T.Y b = some s → Pt.II w s.p s.zs.length s.zs ∧ Pt.Plain s.p
 wl : ∀ k, wfoot A T k → k < w.heap.size
 nm : ∀ b s, T.Y b = some s → Pt.blkOf s.p ≠ some A.m
 nv : ∀ k, (wfoot A T k ∨ dfoot A T k ∨ pfoot A T k) → k ≠ A.v
 nw : ∀ k, wfoot A T k → ¬ dfoot A T k ∧ ¬ pfoot A T k
 nd : ∀ k, dfoot A T k → ¬ pfoot A T k
 lo : B ≤ A.v ∧ B ≤ w.heap.size
theorem Frame.pt {X Y : Nat → Prop} {w w' : World} (h : Frame X w w') (hxy : ∀ k, X k → Y k) : Pt.Frame Y w w' := ⟨h.os, h.tape, h.output, h.size, fun i hi hn => h.block i hi (fun hx => hn (hxy i hx))⟩
theorem Pt.Frame.out {X Y : Nat → Prop} {w w' : World} (h : Pt.Frame X w w') (hxy : ∀ k, X k → Y k) : Frame Y w w' := ⟨h.os, h.tape, h.output, h.size, fun i hi hn => h.block i hi (fun hx => hn (hxy i hx))⟩
section
variable {g : Int} {B : Nat} {w w' : World} {A : At} {T : Vs}
theorem VI.lt (h : VI g B w A T) : ∀ k, fp A T k → k < w.heap.size := by
 rintro k (rfl | hk | (hk | hk) | hk)
 ·exact (Array.getElem?_eq_some_iff.1 h.row).1
 ·exact h.wl k hk
 ·exact (h.cd.di.in k hk).2
 ·exact (h.cd.ci.toCW.in k hk).2
 ·exact h.ps.dm_lt hk
theorem VI.else (h : VI g B w A T) (hs : w.heap.size ≤ w'.heap.size) (hb : ∀ k, fp A T k → w'.heap[k]? = w.heap[k]?) : VI g B w' A T where
 row := (hb _ (.inl rfl)).trans h.row
 cd := ⟨⟨h.cd.ci.toCW.kept (fun k hk => hb k (.inr (.inr (.inl (.inr hk))))), h.cd.ci.ord, h.cd.ci.us⟩, h.cd.di.kept (fun k hk => hb k (.inr (.inr (.inl (.inl hk))))), h.cd.ne⟩
 sy := h.sy
 ps := h.ps.else hs (fun k hk _ => hb k (.inr (.inr (.inr hk))))
 wy := h.wy.kept (hb _ (.inr (.inl (.inl rfl))))
 wr := fun b s hs' => ⟨(h.wr b s hs').1.keptIf (fun k hk _ => hb k (.inr (.inl (.inr ⟨b, s, hs', hk⟩)))), (h.wr b s hs').2⟩
 wl := fun k hk => Nat.lt_of_lt_of_le (h.wl k hk) hs
 nm := h.nm
 nv := h.nv
 nw := h.nw
 nd := h.nd
 lo := ⟨h.lo.1, Nat.le_trans h.lo.2 hs⟩
theorem VI.later (h : VI g B w A T) (hb : Below w.heap.size w w') : VI g B w' A T := h.else hb.size (fun k hk => hb.block k (h.lt k hk))
theorem VI.guard (h : VI g B w A T) (g' : Int) : VI g' B (w.setCell ⟨A.v, 0, none⟩ (.int .i32 g')) A T := by
 have ho : ∀ k, (wfoot A T k ∨ dfoot A T k ∨ pfoot A T k) → (w.setCell ⟨A.v, 0, none⟩ (.int .i32 g')).heap[k]? = w.heap[k]? := fun k hk => (Frame.setCell (X := fun i => i = A.v) w (p := ⟨A.v, 0, none⟩) (.int .i32 g') rfl).block k (h.lt k (.inr hk)) (h.nv k hk)
 have hs : (w.setCell ⟨A.v, 0, none⟩ (.int .i32 g')).heap.size = w.heap.size := by simp
 exact {
  row := heap_setCell_same w A.v 0 _ 98 _ h.row
  cd := ⟨⟨h.cd.ci.toCW.kept (fun k hk => ho k (.inr (.inl (.inr hk)))), h.cd.ci.ord, h.cd.ci.us⟩, h.cd.di.kept (fun k hk => ho k (.inr (.inl (.inl hk)))), h.cd.ne⟩
  sy := h.sy
  ps := h.ps.else (by omega) (fun k hk _ => ho k (.inr (.inr hk)))
  wy := h.wy.kept (ho _ (.inl (.inl rfl)))
  wr := fun b s hs' => ⟨(h.wr b s hs').1.keptIf (fun k hk _ => ho k (.inl (.inr ⟨b, s, hs', hk⟩))), (h.wr b s hs').2⟩
  wl := fun k hk => by rw [hs]; exact h.wl k hk
  nm := h.nm
  nv := h.nv
  nw := h.nw
  nd := h.nd
  lo := ⟨h.lo.1, by rw [hs]; exact h.lo.2⟩ }
theorem VI.cache (h : VI g B w A T) {C' : Ch} (hcd : CD B w' A.c A.cm A.d A.dm A.df T.dq C' T.S) (hy : Sy C' T.S) (hf : Frame (cfoot A.c A.cm T.C) w w') (hn : ∀ k, cfoot A.c A.cm C' k → cfoot A.c A.cm T.C k ∨ w.heap.size ≤ k) :
  VI g B w' A { T with C := C' } ∧ Pt.Stp (fp A T) (fp A { T with C := C' }) w w' := by
 have hlt := h.lt
 have ho : ∀ k, fp A T k → ¬ cfoot A.c A.cm T.C k → w'.heap[k]? = w.heap[k]? := fun k hk hn => hf.block k (hlt k hk) hn
 have nvc : ¬ cfoot A.c A.cm T.C A.v := fun hc => h.nv A.v (.inr (.inl (.inr hc))) rfl
 have hd : ∀ k, dfoot A { T with C := C' } k → dfoot A T k ∨ w.heap.size ≤ k := by
  rintro k (hk | hk)
  ·exact .inl (.inl hk)
  ·rcases hn k hk with h1 | h1
   ·exact .inl (.inr h1)
   ·exact .inr h1
 have nwc : ∀ k, wfoot A T k → ¬ cfoot A.c A.cm T.C k := fun k hk hc => (h.nw k hk).1 (.inr hc)
 refine ⟨⟨(ho _ (.inl rfl) nvc).trans h.row, hcd, hy, ?_, h.wy.kept (ho _ (.inr (.inl (.inl rfl))) (nwc _ (.inl rfl))), fun b s hs' => ⟨(h.wr b s hs').1.keptIf (fun k hk _ => ho k (.inr (.inl (.inr ⟨b, s, hs', hk⟩))) (nwc k (.inr ⟨b, s, hs', hk⟩))), (h.wr b s hs').2⟩, fun k hk => Nat.lt_of_lt_of_le (h.wl k hk) hf.size, h.nm, ?_, ?_, ?_, h.lo.1, Nat.le_trans h.lo.2 hf.size⟩, ⟨hf.pt fun k hk => .inr (.inr (.inl (.inr hk))), ?_⟩⟩
 ·exact h.ps.else hf.size (fun k hk _ => ho k (.inr (.inr (.inr hk))) (fun hc => h.nd k (.inr hc) hk))
 ·rintro k (hk | hk | hk)
  ·exact h.nv k (.inl hk)
  ·rcases hd k hk with h1 | h1
   ·exact h.nv k (.inr (.inl h1))
   ·have := hlt A.v (.inl rfl); omega
  ·exact h.nv k (.inr (.inr hk))
 ·intro k hk
  refine ⟨fun hk' => ?_, (h.nw k hk).2⟩
  rcases hd k hk' with h1 | h1
  ·exact (h.nw k hk).1 h1
  ·have := h.wl k hk; omega
 ·intro k hk hp
  rcases hd k hk with h1 | h1
  ·exact h.nd k h1 hp
  ·have := hlt k (.inr (.inr (.inr hp))); omega
 ·rintro k (hk | hk | hk | hk)
  ·exact .inl (.inl hk)
  ·exact .inl (.inr (.inl hk))
  ·rcases hd k hk with h1 | h1
   ·exact .inl (.inr (.inr (.inl h1)))
   ·exact .inr h1
  ·exact .inl (.inr (.inr (.inr hk)))
end
end Go.Proofs.YthdlpeejmmobmaaGreat

namespace Go.Proofs.YthdlpeejmmobmaaGreat
open Go.RowKit Go.Maps
set_option linter.unusedVariables false
set_option maxRecDepth 100000
section
variable {g : Int} {B : Nat} {w w' : World} {A : At} {T : Vs}
theorem VI.c2 (h : VI g B w A T) : w.cell? ⟨A.v, 2, none⟩ = some (.pointer (some ⟨A.d, 0, none⟩)) := cell_of_row w A.v 2 _ 98 _ h.row
theorem VI.c3 (h : VI g B w A T) : w.cell? ⟨A.v, 3, none⟩ = some (.pointer (some ⟨A.c, 0, none⟩)) := cell_of_row w A.v 3 _ 98 _ h.row
theorem VI.c4 (h : VI g B w A T) : w.cell? ⟨A.v, 4, none⟩ = some (.pointer (some ⟨A.s, 0, none⟩)) := cell_of_row w A.v 4 _ 98 _ h.row
theorem VI.c5 (h : VI g B w A T) : w.cell? ⟨A.v, 5, none⟩ = some (.map (some A.m)) := cell_of_row w A.v 5 _ 98 _ h.row
theorem VI.c6 (h : VI g B w A T) : w.cell? ⟨A.v, 6, none⟩ = some (.pointer T.x) := cell_of_row w A.v 6 _ 98 _ h.row
set_option maxHeartbeats 400000 in
theorem vhas_ok (h : VI g B w A T) (b : Nat) (hb : b < T.S.N) : Calls Tryz.prog 56 #[.pointer (some ⟨A.v, 0, none⟩), .int .i64 (b : Int)] w fun e w' => e = .returned (.bool true) ∧ w' = w := by
 have c2 := h.c2
 have hbl := blocks_some w A.d _ h.cd.di.c0
 have h1 : (0 : Int) ≤ (b : Int) := by omega
 have h2 : (b : Int) < (T.S.N : Int) := by omega
 clear h
 go_enter Tryz.func56, Tryz.ntmps56
 go_wp2_with (first | (go_at_call 47; refine same_at hbl ?_))
 go_ret
 exact ⟨rfl, rfl⟩
def nowOf (T : Vs) (b : Nat) : List Int := Pt.ovrs (Pt.ofB T.P (b : Int)) (T.S.f b)
set_option maxHeartbeats 1000000 in
theorem vrd_ok (h : VI g B w A T) (b : Nat) (hb : b < T.S.N) (hc : T.C.hi + T.C.mi < 4611686018427387904) :
  Calls Tryz.prog 58 #[.pointer (some ⟨A.v, 0, none⟩), .int .i64 (b : Int)] w fun e w' => ∃ q cap C', e = .returned (.tuple #[.slice (some ⟨q, 0, none⟩) 128 cap, .int .i64 0]) ∧ Own w.heap.size w' q 128 cap (nowOf T b) ∧ ¬ fp A { T with C := C' } q ∧
   VI g B w' A { T with C := C' } ∧ Pt.Stp (fp A T) (fp A { T with C := C' }) w w' ∧ C'.hi + C'.mi = T.C.hi + T.C.mi + 1 := by
 have hh := vhas_ok h b hb
 have c3 := h.c3
 have hget := getc h.cd h.sy b hb hc h.lo.2
 have hN := h.cd.ci.N12
 go_enter Tryz.func58, Tryz.ntmps58
 go_wp2_with fail
 refine same_at hh ?_
 dsimp only
 go_wp2_with fail
 refine Calls.mono hget ?_
 rintro e w1 ⟨q, cap, C', rfl, hO, hcd, hy, hcnt, hbd, hfr, hnew⟩
 obtain ⟨hv1, hst⟩ := h.cache hcd hy hfr hnew
 have c4 := hv1.c4
 have hS := h.sy.ok.sec b
 have hnow := Pt.now_ok hv1.ps (b : Int) ⟨by omega, by omega⟩ (some ⟨q, 0, none⟩) cap (T.S.f b) (hO.bi (by omega) hS.2).pt
 clear hget hh c3
 dsimp only
 go_wp2_with fail
 refine Calls.mono hnow ?_
 rintro e w2 ⟨q2, cap2, rfl, hO2, hb2⟩
 dsimp only
 go_wp2_with fail
 go_ret2
 have hsp := hO2.spot
 refine ⟨q2, cap2, C', rfl, Own.base hO2 hst.fr.size, fun hf => ?_, hv1.later hb2, ⟨⟨hb2.os.trans hst.fr.os, hb2.tape.trans hst.fr.tape, hb2.output.trans hst.fr.output, Nat.le_trans hst.fr.size hb2.size, fun k hk hn => (hb2.block k (Nat.lt_of_lt_of_le hk hst.fr.size)).trans (hst.fr.block k hk hn)⟩, hst.new⟩, hcnt⟩
 have := hv1.lt q2 hf
 omega
end
end Go.Proofs.YthdlpeejmmobmaaGreat

namespace Go.Proofs.YthdlpeejmmobmaaGreat
open Go.RowKit Go.Maps
set_option linter.unusedVariables false
set_option maxRecDepth 100000
section
variable {g : Int} {B : Nat} {w w' : World} {A : At} {T : Vs}
theorem VI.vrow (h : VI 0 B w A T) : VRow w A.v A.d A.c A.s A.m T.x := h.row
theorem VI.vheld (h : VI 1 B w A T) : VHeld w A.v A.d A.c A.s A.m T.x := h.row
theorem stp_below {D D' : Nat → Prop} {w w1 w2 : World} (h : Pt.Stp D D' w w1) (hb : Below w1.heap.size w1 w2) : Pt.Stp D D' w w2 :=
 ⟨⟨hb.os.trans h.fr.os, hb.tape.trans h.fr.tape, hb.output.trans h.fr.output, Nat.le_trans h.fr.size hb.size, fun k hk hn => (hb.block k (Nat.lt_of_lt_of_le hk h.fr.size)).trans (h.fr.block k hk hn)⟩, h.new⟩
theorem below_stp {D : Nat → Prop} {w w1 : World} (hb : Below w.heap.size w w1) : Pt.Stp D D w w1 := stp_below (Pt.Stp.refl D w) hb
theorem unguard {T' : Vs} {w1 : World} (hst : Pt.Stp (fp A T) (fp A T') (w.setCell ⟨A.v, 0, none⟩ (.int .i32 1)) w1) (h1 : VI 1 B w1 A T') :
  VI 0 B (w1.setCell ⟨A.v, 0, none⟩ (.int .i32 0)) A T' ∧ Pt.Stp (fp A T) (fp A T') w (w1.setCell ⟨A.v, 0, none⟩ (.int .i32 0)) := by
 refine ⟨h1.guard 0, ⟨?_, fun k hk => ?_⟩⟩
 ·have f1 : Pt.Frame (fp A T) w (w.setCell ⟨A.v, 0, none⟩ (.int .i32 1)) := (Frame.setCell (X := fp A T) w (p := ⟨A.v, 0, none⟩) _ (.inl rfl)).pt fun _ h => h
  have f2 : Pt.Frame (fp A T) w1 (w1.setCell ⟨A.v, 0, none⟩ (.int .i32 0)) := (Frame.setCell (X := fp A T) w1 (p := ⟨A.v, 0, none⟩) _ (.inl rfl)).pt fun _ h => h
  refine ⟨f2.os.trans (hst.fr.os.trans f1.os), f2.tape.trans (hst.fr.tape.trans f1.tape), f2.output.trans (hst.fr.output.trans f1.output), Nat.le_trans f1.size (Nat.le_trans hst.fr.size f2.size), fun k hk hn => ?_⟩
  have hk1 : k < (w.setCell ⟨A.v, 0, none⟩ (.int .i32 1)).heap.size := Nat.lt_of_lt_of_le hk f1.size
  exact (f2.block k (Nat.lt_of_lt_of_le hk1 hst.fr.size) hn).trans ((hst.fr.block k hk1 hn).trans (f1.block k hk hn))
 ·have := hst.new k hk
  simpa using this
theorem own_set {q n cap : Nat} {xs : List Int} {b : Nat} {w1 : World} {u : Value} {k : Nat} (h : Own b w1 q n cap xs) (hq : q ≠ k) : Own b (w1.setCell ⟨k, 0, none⟩ u) q n cap xs := by
 refine ownsRow_kept h ?_
 intro j hj
 simp only [Value.ownBlock, Option.some.injEq] at hj
 subst hj
 exact (Frame.setCell (X := fun i => i = k) w1 (p := ⟨k, 0, none⟩) u rfl).block q h.spot.2 hq
set_option maxHeartbeats 1000000 in
theorem vRead_ok (h : VI 0 B w A T) (b : Nat) (hb : b < T.S.N) (hc : T.C.hi + T.C.mi < 4611686018427387904) :
  Calls Tryz.prog 19 #[.pointer (some ⟨A.v, 0, none⟩), .int .i64 (b : Int)] w fun e w' => ∃ q cap C', e = .returned (.tuple #[.slice (some ⟨q, 0, none⟩) 128 cap, .int .i64 0]) ∧ Own w.heap.size w' q 128 cap (nowOf T b) ∧ ¬ fp A { T with C := C' } q ∧
   VI 0 B w' A { T with C := C' } ∧ Pt.Stp (fp A T) (fp A { T with C := C' }) w w' ∧ C'.hi + C'.mi = T.C.hi + T.C.mi + 1 := by
 have hin := vrd_ok (h.guard 1) b hb hc
 have hsz : (w.setCell ⟨A.v, 0, none⟩ (.int .i32 1)).heap.size = w.heap.size := by simp
 refine (vread_of h.vrow (b : Int) (R := fun r q w1 => ∃ q2 cap C', r = .slice (some ⟨q2, 0, none⟩) 128 cap ∧ q = .int .i64 0 ∧ Own w.heap.size w1 q2 128 cap (nowOf T b) ∧ ¬ fp A { T with C := C' } q2 ∧ VI 1 B w1 A { T with C := C' } ∧ Pt.Stp (fp A T) (fp A { T with C := C' }) (w.setCell ⟨A.v, 0, none⟩ (.int .i32 1)) w1 ∧ C'.hi + C'.mi = T.C.hi + T.C.mi + 1) (hin.mono ?_)).mono ?_
 ·rintro e w1 ⟨q2, cap, C', rfl, hO, hnf, hv, hst, hcn⟩
  rw [hsz] at hO
  exact ⟨_, _, _, rfl, hv.vheld, q2, cap, C', rfl, rfl, hO, hnf, hv, hst, hcn⟩
 ·rintro e w2 ⟨r, q, y, w1, rfl, _, ⟨q2, cap, C', rfl, rfl, hO, hnf, hv, hst, hcn⟩, rfl⟩
  obtain ⟨hv0, hs0⟩ := unguard hst hv
  exact ⟨q2, cap, C', rfl, own_set hO (fun e => hnf (.inl e)), hnf, hv0, hs0, hcn⟩
theorem vLast_ok (h : VI 0 B w A T) : Calls Tryz.prog 81 #[.pointer (some ⟨A.v, 0, none⟩)] w fun e w' => e = .returned (.int .i64 (T.last : Int)) ∧ w' = w := by
 refine (vlast_of h.vrow (R := fun r w1 => r = .int .i64 (T.last : Int) ∧ w1 = w.setCell ⟨A.v, 0, none⟩ (.int .i32 1)) ((Pt.last_ok (h.guard 1).ps).mono ?_)).mono ?_
 ·rintro e w1 ⟨rfl, rfl⟩
  exact ⟨_, _, rfl, (h.guard 1).vheld, rfl, rfl⟩
 ·rintro e w2 ⟨r, y, w1, rfl, _, ⟨rfl, rfl⟩, rfl⟩
  exact ⟨rfl, h.vrow.back⟩
theorem vBlocks_ok (h : VI 0 B w A T) : Calls Tryz.prog 13 #[.pointer (some ⟨A.v, 0, none⟩)] w fun e w' => e = .returned (.int .i64 (T.S.N : Int)) ∧ w' = w := vblocks_ok h.c2 h.cd.di.c0
end
end Go.Proofs.YthdlpeejmmobmaaGreat

namespace Go.Proofs.YthdlpeejmmobmaaGreat
open Go.RowKit Go.Maps
set_option linter.unusedVariables false
set_option maxRecDepth 100000
section
variable {g : Int} {B : Nat} {w w' : World} {A : At} {T : Vs}
theorem VI.pats (h : VI g B w A T) {last' : Nat} {P' : List Pt.Pv} {K' : Int → Option Value} (hps : Pt.PS B w' A.s A.mp A.mb last' P' K') (hst : Pt.Stp (Pt.dm A.s A.mp A.mb T.P T.K) (Pt.dm A.s A.mp A.mb P' K') w w') :
  VI g B w' A { T with last := last', P := P', K := K' } ∧ Pt.Stp (fp A T) (fp A { T with last := last', P := P', K := K' }) w w' := by
 have hlt := h.lt
 have hf := hst.fr
 have ho : ∀ k, k < w.heap.size → ¬ pfoot A T k → w'.heap[k]? = w.heap[k]? := fun k hk hn => hf.block k hk hn
 have nvp : ¬ pfoot A T A.v := fun hc => h.nv A.v (.inr (.inr hc)) rfl
 refine ⟨⟨(ho _ (hlt _ (.inl rfl)) nvp).trans h.row, ⟨⟨h.cd.ci.toCW.kept (fun k hk => ho k (hlt k (.inr (.inr (.inl (.inr hk))))) (h.nd k (.inr hk))), h.cd.ci.ord, h.cd.ci.us⟩, h.cd.di.kept (fun k hk => ho k (hlt k (.inr (.inr (.inl (.inl hk))))) (h.nd k (.inl hk))), h.cd.ne⟩, h.sy, hps, h.wy.kept (ho _ (h.wl _ (.inl rfl)) (h.nw _ (.inl rfl)).2), fun b s hs' => ⟨(h.wr b s hs').1.keptIf (fun k hk hkl => ho k hkl (h.nw k (.inr ⟨b, s, hs', hk⟩)).2), (h.wr b s hs').2⟩, fun k hk => Nat.lt_of_lt_of_le (h.wl k hk) hf.size, h.nm, ?_, ?_, ?_, h.lo.1, Nat.le_trans h.lo.2 hf.size⟩, ⟨⟨hf.os, hf.tape, hf.output, hf.size, fun k hk hn => ho k hk (fun hc => hn (.inr (.inr (.inr hc))))⟩, ?_⟩⟩
 ·rintro k (hk | hk | hk)
  ·exact h.nv k (.inl hk)
  ·exact h.nv k (.inr (.inl hk))
  ·rcases hst.new k hk with h1 | h1
   ·exact h.nv k (.inr (.inr h1))
   ·have := hlt A.v (.inl rfl); omega
 ·intro k hk
  refine ⟨(h.nw k hk).1, fun hp => ?_⟩
  rcases hst.new k hp with h1 | h1
  ·exact (h.nw k hk).2 h1
  ·have := h.wl k hk; omega
 ·intro k hk hp
  rcases hst.new k hp with h1 | h1
  ·exact h.nd k hk h1
  ·have := hlt k (.inr (.inr (.inl hk))); omega
 ·rintro k (hk | hk | hk | hk)
  ·exact .inl (.inl hk)
  ·exact .inl (.inr (.inl hk))
  ·exact .inl (.inr (.inr (.inl hk)))
  ·rcases hst.new k hk with h1 | h1
   ·exact .inl (.inr (.inr (.inr h1)))
   ·exact .inr h1
end
theorem ok_of {B : Nat} {w : World} {a mb fb : Nat} {qv : Value} {S : St} (h : DI B w a mb fb qv S) (hs : ∀ b, Sect (S.f b)) (hf : ∀ b, S.fl b = 0) : Ok S := ⟨h.N1, h.N2, h.q64, h.qok, h.lok, hs, fun b => by rw [hf b]; omega⟩
theorem stp_trans {D D' D'' : Nat → Prop} {w w1 w2 : World} (h : Pt.Stp D D' w w1) (k : Pt.Stp D' D'' w1 w2) : Pt.Stp D D'' w w2 := h.trans k
theorem ovrs_sect : ∀ (l : List Pt.Pv) (xs : List Int), (∀ p ∈ l, Pt.Num.Byt p.bs ∧ p.off + p.bs.length ≤ 128) → Sect xs → Sect (Pt.ovrs l xs)
 | [], _, _, h => h
 | p :: l, xs, hP, h => by
  have hp := hP p (by simp)
  exact ovrs_sect l _ (fun q hq => hP q (by simp [hq])) ⟨by rw [Pt.ovr_len (by rw [h.1]; exact hp.2)]; exact h.1, Pt.ovr_byt h.2 hp.1⟩
end Go.Proofs.YthdlpeejmmobmaaGreat

namespace Go.Proofs.YthdlpeejmmobmaaGreat
open Go.RowKit Go.Maps
set_option linter.unusedVariables false
set_option maxRecDepth 100000
section
variable {g : Int} {B : Nat} {w w' : World} {A : At} {T : Vs}
set_option maxHeartbeats 400000 in
theorem whole_none (w : World) : Calls Tryz.prog 119 #[.pointer none] w fun e w' => e = .returned (.bool false) ∧ w' = w := by
 go_enter Tryz.func119, Tryz.ntmps119
 go_wp2
 go_ret
 exact ⟨rfl, rfl⟩
set_option maxHeartbeats 400000 in
theorem lacks_none (w : World) (b : Int) : Calls Tryz.prog 57 #[.pointer none, .int .i64 b] w fun e w' => e = .returned (.bool false) ∧ w' = w := by
 have hw := whole_none w
 go_enter Tryz.func57, Tryz.ntmps57
 go_wp2_with (first | (go_at_call 119; refine same_at hw ?_))
 go_ret
 exact ⟨rfl, rfl⟩
structure Changed (T T' : Vs) (b o : Nat) (xs zs : List Int) : Prop where
 ex : ∃ pn : Pt.Pv, pn.id = T.last + 1 ∧ pn.blk = b ∧ pn.off = o ∧ pn.bs = xs ∧ pn.nd = Pt.rs (Pt.still T.P zs ++ Pt.uppL T.P pn) ∧ T'.P = T.P ++ [pn]
 last : T'.last = T.last + 1
 S : T'.S = T.S
 C : T'.C = T.C
 Y : T'.Y = T.Y
 x : T'.x = T.x
 N : T'.NW = T.NW
set_option maxHeartbeats 2000000 in
theorem vChange_ok (h : VI 0 B w A T) (hx : T.x = none) (hsm : T.last + 1 ≤ 10000) (b o : Nat) (hb : b < T.S.N) (p : Option Addr) (n c : Nat) (xs : List Int) (hbi : BI w p n xs) (hp : ∀ k, Pt.blkOf p = some k → k ≠ A.v) (hmay : Pt.mayAt (b : Int) (o : Int) n) (q : Option Addr) (m d : Nat) (zs : List Int) (hz : Pt.II w q m zs) (hqv : ∀ k, Pt.blkOf q = some k → k ≠ A.v) (hk : zs.all (Pt.kn T.last) = true) (hm8 : (m + T.P.length) * 8 ≤ 140737488355328) :
  Calls Tryz.prog 17 #[.pointer (some ⟨A.v, 0, none⟩), .int .i64 (b : Int), .int .i64 (o : Int), .slice p n c, .slice q m d] w fun e w' => e = .returned (.tuple #[.int .i64 ((T.last + 1 : Nat) : Int), .int .i64 0]) ∧ ∃ T', VI 0 B w' A T' ∧ Pt.Stp (fp A T) (fp A T') w w' ∧ Changed T T' b o xs zs := by
 have hg := h.guard 1
 have hN12 := h.cd.ci.N12
 have hm := vmade_ok h.vrow.made
 have hlk := h.vrow.lock
 have hh := vhas_ok hg b hb
 have c6 := hg.c6
 rw [hx] at c6
 have c4 := hg.c4
 obtain ⟨WL, hWL⟩ : ∃ WL, w.setCell ⟨A.v, 0, none⟩ (.int .i32 1) = WL := ⟨_, rfl⟩
 have hoth : ∀ k, k < w.heap.size → k ≠ A.v → WL.heap[k]? = w.heap[k]? := fun k hk hn => by rw [← hWL]; exact (Frame.setCell (X := fun i => i = A.v) w (p := ⟨A.v, 0, none⟩) (.int .i32 1) rfl).block k hk hn
 have hbiL : Pt.BI WL p n xs := hbi.pt.keptIf (fun k hk hl => hoth k hl (hp k hk))
 have hzL : Pt.II WL q m zs := hz.keptIf (fun k hk hl => hoth k hl (hqv k hk))
 rw [hWL] at hg hlk hh c6 c4
 have hadd := Pt.sadd_ok hg.ps hsm b o (by omega) p n c xs hbiL hmay q m d zs hzL hk hm8
 have hla := lacks_none WL (b : Int)
 go_enter_defers Tryz.func17, Tryz.ntmps17
 go_wp2_with (first
  | (go_at_call 46; refine same_at hm ?_)
  | (go_at_call 52; refine Calls.mono hlk ?_; rintro e w' ⟨rfl, hw'⟩; subst w')
  | (go_at_call 56; refine same_at hh ?_)
  | (go_at_call 57; refine same_at hla ?_)
  | (go_at_call 59; refine Calls.mono hadd ?_; rintro e w1 ⟨rfl, pn, K', e1, e2, e3, e4, e5, hps, hst⟩; obtain ⟨h1, hs1⟩ := hg.pats hps hst))
 refine leaves_cons (f := 53) (args := #[.pointer (some ⟨A.v, 0, none⟩)]) (by simp) (by simp [go_sem]) ?_
 refine (h1.vheld.unlock .returning).mono ?_
 rintro e u' w'' ⟨rfl, rfl, rfl⟩
 rw [← hWL] at hs1
 obtain ⟨hv0, hs0⟩ := unguard hs1 h1
 exact ⟨_, results_tmp2 rfl _ _ _, by simp, _, hv0, hs0, ⟨⟨pn, e1, e2, e3, e4, e5, rfl⟩, rfl, rfl, rfl, rfl, rfl, rfl⟩⟩
end
end Go.Proofs.YthdlpeejmmobmaaGreat

namespace Go.Proofs.YthdlpeejmmobmaaGreat
open Go.RowKit Go.Maps
set_option linter.unusedVariables false
set_option maxRecDepth 100000
def new0 (S : St) (dq : Value) (bd : Nat) : Vs := ⟨⟨bd, 0, 0, []⟩, S, dq, 0, [], fun _ => none, fun _ => none, 0, none⟩
section
variable {B : Nat} {w w' : World}
theorem ownsRow_base {W : World} {base base' : Nat} {e : TypeId} {size : Nat} {v : Value} {k : Nat} {xs : List Value} (h : W.ownsRow base e size v k xs) (hb : base' ≤ base) : W.ownsRow base' e size v k xs := by
 refine ⟨h.1, ?_⟩
 rcases h.2 with h' | ⟨g', cap', cur, h', hbg, rest⟩
 ·exact .inl h'
 ·exact .inr ⟨g', cap', cur, h', Nat.le_trans hb hbg, rest⟩
theorem ps_base {B B' : Nat} {w : World} {a mp mb last : Nat} {P : List Pt.Pv} {K : Int → Option Value} (h : Pt.PS B w a mp mb last P K) (hB : B' ≤ B) : Pt.PS B' w a mp mb last P K :=
 ⟨h.row, h.pm, h.bm, h.byt, h.nee, fun b v hv => ⟨(h.rows b v hv).1, ownsRow_base (h.rows b v hv).2.1 hB, (h.rows b v hv).2.2⟩, h.away, h.two, h.apart, h.ids, h.srt, h.low, h.sml, ⟨⟨Nat.le_trans hB h.base.1.1, Nat.le_trans hB h.base.1.2.1, Nat.le_trans hB h.base.1.2.2⟩, h.base.2⟩⟩
set_option maxHeartbeats 1000000 in
theorem vOpen_ok {d dm df : Nat} {dq : Value} {S : St} (h : DI B w d dm df dq S) (hB : B ≤ w.heap.size) (hN : S.N ≤ 2048) (hf : ∀ b, S.fl b = 0) (hS : ∀ b, Sect (S.f b)) (bd : Nat) (hbd : 1 ≤ bd ∧ bd ≤ 64) :
  Calls Tryz.prog 110 #[.pointer (some ⟨d, 0, none⟩), .int .i64 (bd : Int)] w fun e w' => ∃ A : At, e = .returned (.tuple #[.pointer (some ⟨A.v, 0, none⟩), .int .i64 0]) ∧ A.d = d ∧ A.dm = dm ∧ A.df = df ∧ VI 0 B w' A (new0 S dq bd) ∧ Below w.heap.size w w' ∧ ∀ k, fp A (new0 S dq bd) k → foot d dm df dq k ∨ w.heap.size ≤ k := by
 have hcn := cnew_ok h hB bd hbd hN
 have hmm := @run_makeMap Tryz.prog
 go_enter Tryz.func110, Tryz.ntmps110
 go_wp2_with (first
  | (go_at_call 192; refine Calls.mono hcn ?_; rintro e w1 ⟨c, cm, rfl, hc1, hm1, hcd, hb1⟩)
  | (go_at_call 193; refine Calls.mono (Pt.new_ok _) ?_; rintro e w2 ⟨s, mp, mb, rfl, hps, hb2⟩))
 go_ret2
 obtain ⟨W, hW⟩ : ∃ W, (w2.alloc (.map #[] 0)).alloc (.cells #[.int .i32 0, .int .u32 0, .pointer (some ⟨d, 0, none⟩), .pointer (some ⟨c, 0, none⟩), .pointer (some ⟨s, 0, none⟩), .map (some w2.heap.size), .pointer none] 98) = W := ⟨_, rfl⟩
 have hbW : Below w2.heap.size w2 W := by rw [← hW]; exact ((Below.refl _ _).alloc (Nat.le_refl _) _).alloc (by simp) _
 have hrow : W.heap[w2.heap.size + 1]? = some (.cells #[.int .i32 0, .int .u32 0, .pointer (some ⟨d, 0, none⟩), .pointer (some ⟨c, 0, none⟩), .pointer (some ⟨s, 0, none⟩), .map (some w2.heap.size), .pointer none] 98 (0, 0)) := by rw [← hW]; exact at_new (by simp)
 have hmap : Pt.Mf W w2.heap.size 0 (fun _ => none) := by rw [← hW]; exact (Pt.mf_made w2 0).kept ((at_old (at_new rfl)).trans (at_new (w := w2) rfl).symm)
 have hs1 := hb1.size
 have hs2 := hb2.size
 have hb12 : Below w.heap.size w w2 := hb1.trans (hb2.mono hb1.size)
 have hb1W : Below w1.heap.size w1 W := hb2.trans (hbW.mono hb2.size)
 have hcdW := hcd.later hb1W
 have hpsW := (ps_base hps (Nat.le_trans hB hs1)).kept hbW
 have hfl : ∀ k, foot d dm df dq k → k < w.heap.size := fun k hk => (h.in k hk).2
 have hcl : ∀ k, cfoot c cm ⟨bd, 0, 0, []⟩ k → w.heap.size ≤ k ∧ k < w1.heap.size := by
  rintro k (rfl | rfl | ⟨f, hf, _⟩)
  ·exact ⟨hc1, (hcd.ci.toCW.in _ (.inl rfl)).2⟩
  ·exact ⟨hm1, (hcd.ci.toCW.in _ (.inr (.inl rfl))).2⟩
  ·cases hf
 have hpl : ∀ k, Pt.dm s mp mb [] (fun _ => none) k → w1.heap.size ≤ k ∧ k < w2.heap.size := by
  intro k hk
  refine ⟨?_, hps.dm_lt hk⟩
  rcases hk with rfl | rfl | rfl | ⟨b, v, hv, _⟩ | ⟨p, hp, _⟩
  ·exact hps.base.1.1
  ·exact hps.base.1.2.1
  ·exact hps.base.1.2.2
  ·cases hv
  ·cases hp
 have hwl : ∀ k, wfoot ⟨w2.heap.size + 1, d, c, s, w2.heap.size, cm, dm, df, mp, mb⟩ (new0 S dq bd) k → k = w2.heap.size := by
  rintro k (hk | ⟨b, s', hs', _⟩)
  ·exact hk
  ·cases hs'
 have hdl : ∀ k, dfoot ⟨w2.heap.size + 1, d, c, s, w2.heap.size, cm, dm, df, mp, mb⟩ (new0 S dq bd) k → k < w1.heap.size := by
  rintro k (hk | hk)
  ·exact Nat.lt_of_lt_of_le (hfl k hk) hs1
  ·exact (hcl k hk).2
 have hvi : VI 0 B W ⟨w2.heap.size + 1, d, c, s, w2.heap.size, cm, dm, df, mp, mb⟩ (new0 S dq bd) := by
  refine ⟨hrow, hcdW, ⟨fun f hf => (by cases hf), fun f hf => (by cases hf), hf, ok_of h hS hf⟩, hpsW, hmap, fun b s' hs' => (by cases hs'), fun k hk => (by have h1 := hwl k hk; have := (Array.getElem?_eq_some_iff.1 hrow).1; omega), fun b s' hs' => (by cases hs'), ?_, ?_, ?_, ?_, ?_⟩
  ·rintro k (hk | hk | hk) e
   ·have := hwl k hk; have e' : k = w2.heap.size + 1 := e; omega
   ·have := hdl k hk; have e' : k = w2.heap.size + 1 := e; omega
   ·have := hpl k hk; have e' : k = w2.heap.size + 1 := e; omega
  ·intro k hk
   have := hwl k hk
   exact ⟨fun hd => by have := hdl k hd; omega, fun hp => by have := hpl k hp; omega⟩
  ·intro k hk hp
   have := hdl k hk
   have := hpl k hp
   omega
  ·show B ≤ w2.heap.size + 1
   omega
  ·have := hbW.size; omega
 rw [hW]
 refine ⟨⟨w2.heap.size + 1, d, c, s, w2.heap.size, cm, dm, df, mp, mb⟩, rfl, rfl, rfl, rfl, hvi, hb12.trans (hbW.mono hb12.size), ?_⟩
 rintro k (hk | hk | (hk | hk) | hk)
 ·have e' : k = w2.heap.size + 1 := hk; right; omega
 ·have := hwl k hk; right; omega
 ·exact .inl hk
 ·exact .inr (hcl k hk).1
 ·have := hpl k hk; right; omega
end
end Go.Proofs.YthdlpeejmmobmaaGreat

namespace Go.Proofs.YthdlpeejmmobmaaGreat
open Go.RowKit Go.Maps
set_option linter.unusedVariables false
set_option maxRecDepth 100000
structure Kp where
 g : Nat
 c : Nat
 xs : List Int
def Kp.v (k : Kp) : Value := .slice (some ⟨k.g, 0, none⟩) 128 k.c
structure Vw where
 x : Nat
 m : Nat
 room : Nat
 K : Int → Option Kp
def vf (V : Vw) (k : Nat) : Prop := k = V.x ∨ k = V.m ∨ ∃ b s, V.K b = some s ∧ s.g = k
structure VW (w : World) (A : At) (T : Vs) (V : Vw) : Prop where
 tx : T.x = some ⟨V.x, 0, none⟩
 row : w.heap[V.x]? = some (.cells #[.int .i64 (V.room : Int), .map (some V.m), .bool false] 207 (0, 0))
 mf : Pt.Mf w V.m V.room (fun b => (V.K b).map Kp.v)
 bi : ∀ b s, V.K b = some s → Pt.BI w (some ⟨s.g, 0, none⟩) 128 s.xs
 lt : ∀ k, vf V k → k < w.heap.size
 out : ∀ k, vf V k → ¬ fp A T k
 ne : V.m ≠ V.x ∧ ∀ b s, V.K b = some s → s.g ≠ V.m ∧ s.g ≠ V.x
 rm : V.room ≤ 65536
section
variable {g : Int} {B : Nat} {w w' : World} {A : At} {T T' : Vs} {V : Vw}
theorem VW.c1 (h : VW w A T V) : w.cell? ⟨V.x, 1, none⟩ = some (.map (some V.m)) := cell_of_row w V.x 1 _ 207 _ h.row
theorem VW.c2 (h : VW w A T V) : w.cell? ⟨V.x, 2, none⟩ = some (.bool false) := cell_of_row w V.x 2 _ 207 _ h.row
theorem mf_len {mb N : Nat} {f : Int → Option Value} (h : Pt.Mf w mb N f) : ∃ es c, w.heap[mb]? = some (.map es c) ∧ es.size ≤ N := by
 obtain ⟨D, ⟨es, clock, hb, F, hs, rfl⟩, hN, _⟩ := h
 refine ⟨es, clock, hb, ?_⟩
 rw [size_eq, length_sorted] at hN
 simpa using hN
end
end Go.Proofs.YthdlpeejmmobmaaGreat

namespace Go.Proofs.YthdlpeejmmobmaaGreat
open Go.RowKit Go.Maps
set_option linter.unusedVariables false
set_option maxRecDepth 100000
section
variable {g : Int} {B : Nat} {w w' : World} {A : At} {T T' : Vs} {V : Vw}
theorem next_empty (w : World) (ty : TypeId) (bm clock : Nat) (hb : w.heap[bm]? = some (.map #[] clock)) :
  (Instr.next (.pointer (some ⟨w.heap.size, 0, none⟩)) false ty).run Tryz.prog (w.alloc (.mapIter (some bm) clock #[] clock)) = .ok (.tuple #[.bool false]) (w.alloc (.mapIter (some bm) clock #[] clock)) := by
 rcases run_next_map (P := Tryz.prog) w ty bm clock clock #[] #[] clock hb (by simp) (Nat.le_refl _) with ⟨_, h⟩ | ⟨e, he, _⟩
 ·exact h
 ·simp [leftOf] at he
set_option maxHeartbeats 2000000 in
theorem vUndo_ok (h : VI 0 B w A T) (hY : T.Y = fun _ => none) (l : Nat) (hl : l ≤ T.last) (hall : ∀ k : Int, (l : Int) < k → k ≤ (T.last : Int) → (Pt.fP T.P k).isSome = true) :
  Calls Tryz.prog 84 #[.pointer (some ⟨A.v, 0, none⟩), .int .i64 (l : Int)] w fun e w' => e = .returned (.int .i64 0) ∧ ∃ K', VI 0 B w' A { T with P := Pt.upP T.P l, last := l, K := K' } ∧ Pt.Stp (fp A T) (fp A { T with P := Pt.upP T.P l, last := l, K := K' }) w w' := by
 have hg := h.guard 1
 have hm := vmade_ok h.vrow.made
 have hlk := h.vrow.lock
 have c4 := hg.c4
 have hun := Pt.undo_ok hg.ps l hl
 obtain ⟨WL, hWL⟩ : ∃ WL, w.setCell ⟨A.v, 0, none⟩ (.int .i32 1) = WL := ⟨_, rfl⟩
 rw [hWL] at hg hlk c4 hun
 go_enter_defers Tryz.func84, Tryz.ntmps84
 go_wp2_with (first
  | (go_at_call 46; refine same_at hm ?_)
  | (go_at_call 52; refine Calls.mono hlk ?_; rintro e w' ⟨rfl, hw'⟩; subst w'))
 refine Calls.mono hun ?_
 rintro e w1 (⟨⟨hno, _⟩, _⟩ | ⟨⟨_, rfl⟩, K', hPS, hSt⟩)
 ·exact absurd hall hno
 obtain ⟨h1, hs1⟩ := hg.pats hPS hSt
 have c5 := h1.c5
 have hwy : Pt.Mf w1 A.m T.NW (fun b => (T.Y b).map Sn.v) := h1.wy
 obtain ⟨es, cl, hmb, hes⟩ := mf_len (hwy.count [] (fun k _ hn => by rw [hY] at hn; exact absurd rfl hn))
 obtain rfl : es = #[] := Array.eq_empty_of_size_eq_zero (Nat.le_zero.1 hes)
 have hr := run_range_map (P := Tryz.prog) w1 95 3 247 A.m #[] cl Tryz.underlying95 hmb
 have hne := fun ty => next_empty w1 ty A.m cl hmb
 have hb2 : Below w1.heap.size w1 (w1.alloc (.mapIter (some A.m) cl #[] cl)) := (Below.refl _ _).alloc (Nat.le_refl _) _
 have h2 := h1.later hb2
 have HWL : Hid (w.setCell ⟨A.v, 0, none⟩ (.int .i32 1) = WL) := hWL
 clear hun hlk hm hWL hmb hwy hes hall hY
 dsimp only
 go_wp2_with fail
 go_loopw [] (fun wr => wr = w1.alloc (.mapIter (some A.m) cl #[] cl)) (fun _ => 0)
 case atStart => rfl
 case round =>
  have hwr := hrel
  subst hwr
  go_wp2_with fail
  refine leaves_cons (f := 53) (args := #[.pointer (some ⟨A.v, 0, none⟩)]) (by simp) (by simp [go_sem]) ?_
  refine (h2.vheld.unlock .returning).mono ?_
  rintro e u' w'' ⟨rfl, rfl, rfl⟩
  have hst' := stp_below hs1 hb2
  rw [← HWL.out] at hst'
  obtain ⟨hv0, hs0⟩ := unguard hst' h2
  exact ⟨_, results_tmp rfl _ _ _, rfl, K', hv0, hs0⟩
end
end Go.Proofs.YthdlpeejmmobmaaGreat

namespace Go.Proofs.YthdlpeejmmobmaaGreat
open Go.RowKit Go.Maps
set_option linter.unusedVariables false
set_option maxRecDepth 100000
section
variable {g : Int} {B : Nat} {w w' : World} {A : At} {T T' : Vs} {V : Vw}
theorem now_sect (h : VI g B w A T) (b : Nat) : Sect (nowOf T b) := ovrs_sect _ _ (fun p hp => ⟨(h.ps.byt p (List.mem_filter.1 hp).1).1.byt, (h.ps.ids p (List.mem_filter.1 hp).1).2.2.2.2⟩) (h.sy.ok.sec b)
end
end Go.Proofs.YthdlpeejmmobmaaGreat
