/- V1 V2 V3 V4 Que V5 -/
import Derived.Test.YtinigfidofgaiaaGreatGr03
import Derived.Test.YtinigfidofgaiaaGreatGr09
import Derived.Test.YtinigfidofgaiaaGreatGr07
import Derived.Test.YtinigfidofgaiaaGreatGr18
import Derived.Test.YtinigfidofgaiaaGreatGr21
import Derived.Test.YtinigfidofgaiaaGreatGr05

/- A cache that has what its disk has; what it gives. -/
namespace Go.Proofs.YtinigfidofgaiaaGreat
open Go.RowKit Go.Maps
set_option linter.unusedVariables false
set_option maxRecDepth 100000

/-- The buffers have what the disk has; none is pinned; the disk's reads do not fail. -/
structure Sy (C : Ch) (S : St) : Prop where
  xs : ∀ f ∈ C.L, f.xs = S.f f.b
  pin : ∀ f ∈ C.L, f.p = 0
  fl : ∀ b, S.fl b = 0
  ok : Ok S

theorem vic_some {L : List Bf} (h : ∀ f ∈ L, f.p = 0) (hl : 1 ≤ L.length) : ∃ f, vic L = some f := by
  cases L with
  | nil => simp at hl
  | cons f r => exact ⟨f, by unfold vic; simp [h f (by simp)]⟩

theorem BI.pt {w : World} {p : Option Addr} {n : Nat} {xs : List Int} (h : BI w p n xs) : Pt.BI w p n xs := ⟨h.len, h.big, h.byt, h.cells⟩

section
variable {B : Nat} {w w' : World} {c mb d dm df : Nat} {dq : Value} {C : Ch} {S : St}

/-- A Get of a block that there is. -/
theorem getc (h : CD B w c mb d dm df dq C S) (hy : Sy C S) (b : Nat) (hb : b < S.N) (hc : C.hi + C.mi < 4611686018427387904) (hB : B ≤ w.heap.size) :
    Calls Tryz.prog 99 #[.pointer (some ⟨c, 0, none⟩), .int .i64 (b : Int)] w fun e w' => ∃ g cap C', e = .returned (.tuple #[.slice (some ⟨g, 0, none⟩) 128 cap, .int .i64 0]) ∧ Own w.heap.size w' g 128 cap (S.f b) ∧
      CD B w' c mb d dm df dq C' S ∧ Sy C' S ∧ C'.hi + C'.mi = C.hi + C.mi + 1 ∧ C'.bd = C.bd ∧ Frame (cfoot c mb C) w w' ∧ (∀ k, cfoot c mb C' k → cfoot c mb C k ∨ w.heap.size ≤ k) := by
  by_cases hin : ∃ f ∈ C.L, f.b = b
  · obtain ⟨f, hf, rfl⟩ := hin
    refine (get_hit h hf hc).mono ?_
    rintro e w' ⟨g, cap, rfl, hO, hcd, hfr⟩
    have hmem : ∀ k ∈ outb C.L f.b ++ [{ f with u := C.hi + 1 + C.mi }], (k ∈ C.L) ∨ (k.b = f.b ∧ k.xs = f.xs ∧ k.p = f.p ∧ k.g = f.g) := by
      intro k hk
      rcases List.mem_append.1 hk with hk | hk
      · exact .inl (mem_outb.1 hk).1
      · simp at hk; subst hk; exact .inr ⟨rfl, rfl, rfl, rfl⟩
    refine ⟨g, cap, _, rfl, by rw [← hy.xs f hf]; exact hO, hcd, ⟨?_, ?_, hy.fl, hy.ok⟩, by simp only; omega, rfl, hfr, ?_⟩
    · intro k hk
      rcases hmem k hk with h1 | ⟨h1, h2, _, _⟩
      · exact hy.xs k h1
      · rw [h1, h2]; exact hy.xs f hf
    · intro k hk
      rcases hmem k hk with h1 | ⟨_, _, h3, _⟩
      · exact hy.pin k h1
      · rw [h3]; exact hy.pin f hf
    · rintro k (rfl | rfl | ⟨f', hf', rfl⟩)
      · exact .inl (.inl rfl)
      · exact .inl (.inr (.inl rfl))
      · rcases hmem f' hf' with h1 | ⟨_, _, _, h4⟩
        · exact .inl (.inr (.inr ⟨f', h1, rfl⟩))
        · exact .inl (.inr (.inr ⟨f, hf, h4⟩))
  · have hno : ∀ k ∈ C.L, ¬ k.b = b := fun k hk e => hin ⟨k, hk, e⟩
    have hg : canGo C := fun hl => vic_some hy.pin (by have := h.ci.bd; omega)
    refine (get_new h hy.ok b hb hno hc hg (hy.fl b)).mono ?_
    rintro e w' ⟨g, cap, gn, rfl, hO, hgn, hcd, hfr⟩
    have hroom : ∀ k ∈ room C, k ∈ C.L := by
      intro k hk
      unfold room at hk
      split at hk
      · split at hk
        · exact (mem_outb.1 hk).1
        · exact hk
      · exact hk
    have hmem : ∀ k ∈ room C ++ [(⟨b, C.hi + (C.mi + 1), 0, gn, S.f b⟩ : Bf)], k ∈ C.L ∨ (k.b = b ∧ k.xs = S.f b ∧ k.p = 0 ∧ k.g = gn) := by
      intro k hk
      rcases List.mem_append.1 hk with hk | hk
      · exact .inl (hroom k hk)
      · simp at hk; subst hk; exact .inr ⟨rfl, rfl, rfl, rfl⟩
    refine ⟨g, cap, _, rfl, hO, hcd, ⟨?_, ?_, hy.fl, hy.ok⟩, by simp only; omega, rfl, hfr, ?_⟩
    · intro k hk
      rcases hmem k hk with h1 | ⟨h1, h2, _, _⟩
      · exact hy.xs k h1
      · rw [h1, h2]
    · intro k hk
      rcases hmem k hk with h1 | ⟨_, _, h3, _⟩
      · exact hy.pin k h1
      · exact h3
    · rintro k (rfl | rfl | ⟨f', hf', rfl⟩)
      · exact .inl (.inl rfl)
      · exact .inl (.inr (.inl rfl))
      · rcases hmem f' hf' with h1 | ⟨_, _, _, h4⟩
        · exact .inl (.inr (.inr ⟨f', h1, rfl⟩))
        · exact .inr (by rw [h4]; exact hgn)
end
end Go.Proofs.YtinigfidofgaiaaGreat

/- A volume in memory: its parts, and that they lie apart. -/
namespace Go.Proofs.YtinigfidofgaiaaGreat
open Go.RowKit Go.Maps
set_option linter.unusedVariables false
set_option maxRecDepth 100000

/-- A write on the way: its number, and its patches' numbers. -/
structure Sn where
  id : Int
  p : Option Addr
  c : Nat
  zs : List Int
def Sn.v (s : Sn) : Value := .agg #[.int .i64 s.id, .slice s.p s.zs.length s.c]

/-- Where a volume's parts lie. -/
structure At where
  v : Nat
  d : Nat
  c : Nat
  s : Nat
  m : Nat
  cm : Nat
  dm : Nat
  df : Nat
  mp : Nat
  mb : Nat
/-- What a volume has. -/
structure Vs where
  C : Ch
  S : St
  dq : Value
  last : Nat
  P : List Pt.Pv
  K : Int → Option Value
  Y : Int → Option Sn
  NW : Nat
  x : Option Addr

/-- The blocks of the way, of disk and cache, of the patches, of all. -/
def wfoot (A : At) (T : Vs) (k : Nat) : Prop := k = A.m ∨ ∃ b s, T.Y b = some s ∧ Pt.blkOf s.p = some k
def dfoot (A : At) (T : Vs) (k : Nat) : Prop := foot A.d A.dm A.df T.dq k ∨ cfoot A.c A.cm T.C k
def pfoot (A : At) (T : Vs) (k : Nat) : Prop := Pt.dm A.s A.mp A.mb T.P T.K k
def fp (A : At) (T : Vs) (k : Nat) : Prop := k = A.v ∨ wfoot A T k ∨ dfoot A T k ∨ pfoot A T k

/-- Block A.v is a volume that has T; its guard is g. -/
structure VI (g : Int) (B : Nat) (w : World) (A : At) (T : Vs) : Prop where
  row : w.heap[A.v]? = some (.cells #[.int .i32 g, .int .u32 0, .pointer (some ⟨A.d, 0, none⟩), .pointer (some ⟨A.c, 0, none⟩), .pointer (some ⟨A.s, 0, none⟩), .map (some A.m), .pointer T.x] 76 (0, 0))
  cd : CD B w A.c A.cm A.d A.dm A.df T.dq T.C T.S
  sy : Sy T.C T.S
  ps : Pt.PS B w A.s A.mp A.mb T.last T.P T.K
  wy : Pt.Mf w A.m T.NW (fun b => (T.Y b).map Sn.v)
  wr : ∀ b s, T.Y b = some s → Pt.II w s.p s.zs.length s.zs ∧ Pt.Plain s.p
  wl : ∀ k, wfoot A T k → k < w.heap.size
  nm : ∀ b s, T.Y b = some s → Pt.blkOf s.p ≠ some A.m
  nv : ∀ k, (wfoot A T k ∨ dfoot A T k ∨ pfoot A T k) → k ≠ A.v
  nw : ∀ k, wfoot A T k → ¬ dfoot A T k ∧ ¬ pfoot A T k
  nd : ∀ k, dfoot A T k → ¬ pfoot A T k
  lo : B ≤ A.v ∧ B ≤ w.heap.size

theorem Frame.pt {X Y : Nat → Prop} {w w' : World} (h : Frame X w w') (hxy : ∀ k, X k → Y k) : Pt.Frame Y w w' := ⟨h.os, h.tape, h.output, h.size, fun i hi hn => h.block i hi (fun hx => hn (hxy i hx))⟩
theorem Pt.Frame.out {X Y : Nat → Prop} {w w' : World} (h : Pt.Frame X w w') (hxy : ∀ k, X k → Y k) : Frame Y w w' := ⟨h.os, h.tape, h.output, h.size, fun i hi hn => h.block i hi (fun hx => hn (hxy i hx))⟩

section
variable {g : Int} {B : Nat} {w w' : World} {A : At} {T : Vs}
theorem VI.lt (h : VI g B w A T) : ∀ k, fp A T k → k < w.heap.size := by
  rintro k (rfl | hk | (hk | hk) | hk)
  · exact (Array.getElem?_eq_some_iff.1 h.row).1
  · exact h.wl k hk
  · exact (h.cd.di.in k hk).2
  · exact (h.cd.ci.toCW.in k hk).2
  · exact h.ps.dm_lt hk

/-- What turns none of its blocks leaves it. -/
theorem VI.else (h : VI g B w A T) (hs : w.heap.size ≤ w'.heap.size) (hb : ∀ k, fp A T k → w'.heap[k]? = w.heap[k]?) : VI g B w' A T where
  row := (hb _ (.inl rfl)).trans h.row
  cd := ⟨⟨h.cd.ci.toCW.kept (fun k hk => hb k (.inr (.inr (.inl (.inr hk))))), h.cd.ci.ord, h.cd.ci.us⟩, h.cd.di.kept (fun k hk => hb k (.inr (.inr (.inl (.inl hk))))), h.cd.ne⟩
  sy := h.sy
  ps := h.ps.else hs (fun k hk _ => hb k (.inr (.inr (.inr hk))))
  wy := h.wy.kept (hb _ (.inr (.inl (.inl rfl))))
  wr := fun b s hs' => ⟨(h.wr b s hs').1.keptIf (fun k hk _ => hb k (.inr (.inl (.inr ⟨b, s, hs', hk⟩)))), (h.wr b s hs').2⟩
  wl := fun k hk => Nat.lt_of_lt_of_le (h.wl k hk) hs
  nm := h.nm
  nv := h.nv
  nw := h.nw
  nd := h.nd
  lo := ⟨h.lo.1, Nat.le_trans h.lo.2 hs⟩
theorem VI.later (h : VI g B w A T) (hb : Below w.heap.size w w') : VI g B w' A T := h.else hb.size (fun k hk => hb.block k (h.lt k hk))
theorem VI.frame (h : VI g B w A T) {X : Nat → Prop} (hf : Frame X w w') (hx : ∀ k, fp A T k → ¬ X k) : VI g B w' A T := h.else hf.size (fun k hk => hf.block k (h.lt k hk) (hx k hk))

/-- The guard taken, or let go. -/
theorem VI.guard (h : VI g B w A T) (g' : Int) : VI g' B (w.setCell ⟨A.v, 0, none⟩ (.int .i32 g')) A T := by
  have ho : ∀ k, (wfoot A T k ∨ dfoot A T k ∨ pfoot A T k) → (w.setCell ⟨A.v, 0, none⟩ (.int .i32 g')).heap[k]? = w.heap[k]? := fun k hk => (Frame.setCell (X := fun i => i = A.v) w (p := ⟨A.v, 0, none⟩) (.int .i32 g') rfl).block k (h.lt k (.inr hk)) (h.nv k hk)
  have hs : (w.setCell ⟨A.v, 0, none⟩ (.int .i32 g')).heap.size = w.heap.size := by simp
  exact {
    row := heap_setCell_same w A.v 0 _ 76 _ h.row
    cd := ⟨⟨h.cd.ci.toCW.kept (fun k hk => ho k (.inr (.inl (.inr hk)))), h.cd.ci.ord, h.cd.ci.us⟩, h.cd.di.kept (fun k hk => ho k (.inr (.inl (.inl hk)))), h.cd.ne⟩
    sy := h.sy
    ps := h.ps.else (by omega) (fun k hk _ => ho k (.inr (.inr hk)))
    wy := h.wy.kept (ho _ (.inl (.inl rfl)))
    wr := fun b s hs' => ⟨(h.wr b s hs').1.keptIf (fun k hk _ => ho k (.inl (.inr ⟨b, s, hs', hk⟩))), (h.wr b s hs').2⟩
    wl := fun k hk => by rw [hs]; exact h.wl k hk
    nm := h.nm
    nv := h.nv
    nw := h.nw
    nd := h.nd
    lo := ⟨h.lo.1, by rw [hs]; exact h.lo.2⟩ }

/-- The cache has turned. -/
theorem VI.cache (h : VI g B w A T) {C' : Ch} (hcd : CD B w' A.c A.cm A.d A.dm A.df T.dq C' T.S) (hy : Sy C' T.S) (hf : Frame (cfoot A.c A.cm T.C) w w') (hn : ∀ k, cfoot A.c A.cm C' k → cfoot A.c A.cm T.C k ∨ w.heap.size ≤ k) :
    VI g B w' A { T with C := C' } ∧ Pt.Stp (fp A T) (fp A { T with C := C' }) w w' := by
  have hlt := h.lt
  have ho : ∀ k, fp A T k → ¬ cfoot A.c A.cm T.C k → w'.heap[k]? = w.heap[k]? := fun k hk hn => hf.block k (hlt k hk) hn
  have nvc : ¬ cfoot A.c A.cm T.C A.v := fun hc => h.nv A.v (.inr (.inl (.inr hc))) rfl
  have hd : ∀ k, dfoot A { T with C := C' } k → dfoot A T k ∨ w.heap.size ≤ k := by
    rintro k (hk | hk)
    · exact .inl (.inl hk)
    · rcases hn k hk with h1 | h1
      · exact .inl (.inr h1)
      · exact .inr h1
  have nwc : ∀ k, wfoot A T k → ¬ cfoot A.c A.cm T.C k := fun k hk hc => (h.nw k hk).1 (.inr hc)
  refine ⟨⟨(ho _ (.inl rfl) nvc).trans h.row, hcd, hy, ?_, h.wy.kept (ho _ (.inr (.inl (.inl rfl))) (nwc _ (.inl rfl))), fun b s hs' => ⟨(h.wr b s hs').1.keptIf (fun k hk _ => ho k (.inr (.inl (.inr ⟨b, s, hs', hk⟩))) (nwc k (.inr ⟨b, s, hs', hk⟩))), (h.wr b s hs').2⟩, fun k hk => Nat.lt_of_lt_of_le (h.wl k hk) hf.size, h.nm, ?_, ?_, ?_, h.lo.1, Nat.le_trans h.lo.2 hf.size⟩, ⟨hf.pt fun k hk => .inr (.inr (.inl (.inr hk))), ?_⟩⟩
  · exact h.ps.else hf.size (fun k hk _ => ho k (.inr (.inr (.inr hk))) (fun hc => h.nd k (.inr hc) hk))
  · rintro k (hk | hk | hk)
    · exact h.nv k (.inl hk)
    · rcases hd k hk with h1 | h1
      · exact h.nv k (.inr (.inl h1))
      · have := hlt A.v (.inl rfl); omega
    · exact h.nv k (.inr (.inr hk))
  · intro k hk
    refine ⟨fun hk' => ?_, (h.nw k hk).2⟩
    rcases hd k hk' with h1 | h1
    · exact (h.nw k hk).1 h1
    · have := h.wl k hk; omega
  · intro k hk hp
    rcases hd k hk with h1 | h1
    · exact h.nd k h1 hp
    · have := hlt k (.inr (.inr (.inr hp))); omega
  · rintro k (hk | hk | hk | hk)
    · exact .inl (.inl hk)
    · exact .inl (.inr (.inl hk))
    · rcases hd k hk with h1 | h1
      · exact .inl (.inr (.inr (.inl h1)))
      · exact .inr h1
    · exact .inl (.inr (.inr (.inr hk)))
end
end Go.Proofs.YtinigfidofgaiaaGreat

/- What a block has now: read. -/
namespace Go.Proofs.YtinigfidofgaiaaGreat
open Go.RowKit Go.Maps
set_option linter.unusedVariables false
set_option maxRecDepth 100000

section
variable {g : Int} {B : Nat} {w w' : World} {A : At} {T : Vs}
theorem VI.c2 (h : VI g B w A T) : w.cell? ⟨A.v, 2, none⟩ = some (.pointer (some ⟨A.d, 0, none⟩)) := cell_of_row w A.v 2 _ 76 _ h.row
theorem VI.c3 (h : VI g B w A T) : w.cell? ⟨A.v, 3, none⟩ = some (.pointer (some ⟨A.c, 0, none⟩)) := cell_of_row w A.v 3 _ 76 _ h.row
theorem VI.c4 (h : VI g B w A T) : w.cell? ⟨A.v, 4, none⟩ = some (.pointer (some ⟨A.s, 0, none⟩)) := cell_of_row w A.v 4 _ 76 _ h.row
theorem VI.c5 (h : VI g B w A T) : w.cell? ⟨A.v, 5, none⟩ = some (.map (some A.m)) := cell_of_row w A.v 5 _ 76 _ h.row
theorem VI.c6 (h : VI g B w A T) : w.cell? ⟨A.v, 6, none⟩ = some (.pointer T.x) := cell_of_row w A.v 6 _ 76 _ h.row

set_option maxHeartbeats 400000 in
theorem vhas_ok (h : VI g B w A T) (b : Nat) (hb : b < T.S.N) : Calls Tryz.prog 64 #[.pointer (some ⟨A.v, 0, none⟩), .int .i64 (b : Int)] w fun e w' => e = .returned (.bool true) ∧ w' = w := by
  have c2 := h.c2
  have hbl := blocks_some w A.d _ h.cd.di.c0
  have h1 : (0 : Int) ≤ (b : Int) := by omega
  have h2 : (b : Int) < (T.S.N : Int) := by omega
  clear h
  go_enter Tryz.func64, Tryz.ntmps64
  go_wp2_with (first | (go_at_call 56; refine same_at hbl ?_))
  go_ret
  exact ⟨rfl, rfl⟩

/-- What block b has now. -/
def nowOf (T : Vs) (b : Nat) : List Int := Pt.ovrs (Pt.ofB T.P (b : Int)) (T.S.f b)

set_option maxHeartbeats 1000000 in
theorem vrd_ok (h : VI g B w A T) (b : Nat) (hb : b < T.S.N) (hc : T.C.hi + T.C.mi < 4611686018427387904) :
    Calls Tryz.prog 60 #[.pointer (some ⟨A.v, 0, none⟩), .int .i64 (b : Int)] w fun e w' => ∃ q cap C', e = .returned (.tuple #[.slice (some ⟨q, 0, none⟩) 128 cap, .int .i64 0]) ∧ Own w.heap.size w' q 128 cap (nowOf T b) ∧ ¬ fp A { T with C := C' } q ∧
      VI g B w' A { T with C := C' } ∧ Pt.Stp (fp A T) (fp A { T with C := C' }) w w' ∧ C'.hi + C'.mi = T.C.hi + T.C.mi + 1 := by
  have hh := vhas_ok h b hb
  have c3 := h.c3
  have hget := getc h.cd h.sy b hb hc h.lo.2
  have hN := h.cd.ci.N12
  go_enter Tryz.func60, Tryz.ntmps60
  go_wp2_with fail
  refine same_at hh ?_
  dsimp only
  go_wp2_with fail
  refine Calls.mono hget ?_
  rintro e w1 ⟨q, cap, C', rfl, hO, hcd, hy, hcnt, hbd, hfr, hnew⟩
  obtain ⟨hv1, hst⟩ := h.cache hcd hy hfr hnew
  have c4 := hv1.c4
  have hS := h.sy.ok.sec b
  have hnow := Pt.now_ok hv1.ps (b : Int) ⟨by omega, by omega⟩ (some ⟨q, 0, none⟩) cap (T.S.f b) (hO.bi (by omega) hS.2).pt
  clear hget hh c3
  dsimp only
  go_wp2_with fail
  refine Calls.mono hnow ?_
  rintro e w2 ⟨q2, cap2, rfl, hO2, hb2⟩
  dsimp only
  go_wp2_with fail
  go_ret2
  have hsp := hO2.spot
  refine ⟨q2, cap2, C', rfl, Own.base hO2 hst.fr.size, fun hf => ?_, hv1.later hb2, ⟨⟨hb2.os.trans hst.fr.os, hb2.tape.trans hst.fr.tape, hb2.output.trans hst.fr.output, Nat.le_trans hst.fr.size hb2.size, fun k hk hn => (hb2.block k (Nat.lt_of_lt_of_le hk hst.fr.size)).trans (hst.fr.block k hk hn)⟩, hst.new⟩, hcnt⟩
  have := hv1.lt q2 hf
  omega
end
end Go.Proofs.YtinigfidofgaiaaGreat

/- The methods that only ask, with the guard. -/
namespace Go.Proofs.YtinigfidofgaiaaGreat
open Go.RowKit Go.Maps
set_option linter.unusedVariables false
set_option maxRecDepth 100000

section
variable {g : Int} {B : Nat} {w w' : World} {A : At} {T : Vs}
theorem VI.vrow (h : VI 0 B w A T) : VRow w A.v A.d A.c A.s A.m T.x := h.row
theorem VI.vheld (h : VI 1 B w A T) : VHeld w A.v A.d A.c A.s A.m T.x := h.row
theorem stp_below {D D' : Nat → Prop} {w w1 w2 : World} (h : Pt.Stp D D' w w1) (hb : Below w1.heap.size w1 w2) : Pt.Stp D D' w w2 :=
  ⟨⟨hb.os.trans h.fr.os, hb.tape.trans h.fr.tape, hb.output.trans h.fr.output, Nat.le_trans h.fr.size hb.size, fun k hk hn => (hb.block k (Nat.lt_of_lt_of_le hk h.fr.size)).trans (h.fr.block k hk hn)⟩, h.new⟩
theorem below_stp {D : Nat → Prop} {w w1 : World} (hb : Below w.heap.size w w1) : Pt.Stp D D w w1 := stp_below (Pt.Stp.refl D w) hb

/-- The guard taken, something done, the guard let go. -/
theorem unguard {T' : Vs} {w1 : World} (hst : Pt.Stp (fp A T) (fp A T') (w.setCell ⟨A.v, 0, none⟩ (.int .i32 1)) w1) (h1 : VI 1 B w1 A T') :
    VI 0 B (w1.setCell ⟨A.v, 0, none⟩ (.int .i32 0)) A T' ∧ Pt.Stp (fp A T) (fp A T') w (w1.setCell ⟨A.v, 0, none⟩ (.int .i32 0)) := by
  refine ⟨h1.guard 0, ⟨?_, fun k hk => ?_⟩⟩
  · have f1 : Pt.Frame (fp A T) w (w.setCell ⟨A.v, 0, none⟩ (.int .i32 1)) := (Frame.setCell (X := fp A T) w (p := ⟨A.v, 0, none⟩) _ (.inl rfl)).pt fun _ h => h
    have f2 : Pt.Frame (fp A T) w1 (w1.setCell ⟨A.v, 0, none⟩ (.int .i32 0)) := (Frame.setCell (X := fp A T) w1 (p := ⟨A.v, 0, none⟩) _ (.inl rfl)).pt fun _ h => h
    refine ⟨f2.os.trans (hst.fr.os.trans f1.os), f2.tape.trans (hst.fr.tape.trans f1.tape), f2.output.trans (hst.fr.output.trans f1.output), Nat.le_trans f1.size (Nat.le_trans hst.fr.size f2.size), fun k hk hn => ?_⟩
    have hk1 : k < (w.setCell ⟨A.v, 0, none⟩ (.int .i32 1)).heap.size := Nat.lt_of_lt_of_le hk f1.size
    exact (f2.block k (Nat.lt_of_lt_of_le hk1 hst.fr.size) hn).trans ((hst.fr.block k hk1 hn).trans (f1.block k hk hn))
  · have := hst.new k hk
    simpa using this

theorem own_set {q n cap : Nat} {xs : List Int} {b : Nat} {w1 : World} {u : Value} {k : Nat} (h : Own b w1 q n cap xs) (hq : q ≠ k) : Own b (w1.setCell ⟨k, 0, none⟩ u) q n cap xs := by
  refine ownsRow_kept h ?_
  intro j hj
  simp only [Value.ownBlock, Option.some.injEq] at hj
  subst hj
  exact (Frame.setCell (X := fun i => i = k) w1 (p := ⟨k, 0, none⟩) u rfl).block q h.spot.2 hq

set_option maxHeartbeats 1000000 in
theorem vRead_ok (h : VI 0 B w A T) (b : Nat) (hb : b < T.S.N) (hc : T.C.hi + T.C.mi < 4611686018427387904) :
    Calls Tryz.prog 33 #[.pointer (some ⟨A.v, 0, none⟩), .int .i64 (b : Int)] w fun e w' => ∃ q cap C', e = .returned (.tuple #[.slice (some ⟨q, 0, none⟩) 128 cap, .int .i64 0]) ∧ Own w.heap.size w' q 128 cap (nowOf T b) ∧ ¬ fp A { T with C := C' } q ∧
      VI 0 B w' A { T with C := C' } ∧ Pt.Stp (fp A T) (fp A { T with C := C' }) w w' ∧ C'.hi + C'.mi = T.C.hi + T.C.mi + 1 := by
  have hin := vrd_ok (h.guard 1) b hb hc
  have hsz : (w.setCell ⟨A.v, 0, none⟩ (.int .i32 1)).heap.size = w.heap.size := by simp
  refine (vread_of h.vrow (b : Int) (R := fun r q w1 => ∃ q2 cap C', r = .slice (some ⟨q2, 0, none⟩) 128 cap ∧ q = .int .i64 0 ∧ Own w.heap.size w1 q2 128 cap (nowOf T b) ∧ ¬ fp A { T with C := C' } q2 ∧ VI 1 B w1 A { T with C := C' } ∧ Pt.Stp (fp A T) (fp A { T with C := C' }) (w.setCell ⟨A.v, 0, none⟩ (.int .i32 1)) w1 ∧ C'.hi + C'.mi = T.C.hi + T.C.mi + 1) (hin.mono ?_)).mono ?_
  · rintro e w1 ⟨q2, cap, C', rfl, hO, hnf, hv, hst, hcn⟩
    rw [hsz] at hO
    exact ⟨_, _, _, rfl, hv.vheld, q2, cap, C', rfl, rfl, hO, hnf, hv, hst, hcn⟩
  · rintro e w2 ⟨r, q, y, w1, rfl, _, ⟨q2, cap, C', rfl, rfl, hO, hnf, hv, hst, hcn⟩, rfl⟩
    obtain ⟨hv0, hs0⟩ := unguard hst hv
    exact ⟨q2, cap, C', rfl, own_set hO (fun e => hnf (.inl e)), hnf, hv0, hs0, hcn⟩

theorem vLast_ok (h : VI 0 B w A T) : Calls Tryz.prog 16 #[.pointer (some ⟨A.v, 0, none⟩)] w fun e w' => e = .returned (.int .i64 (T.last : Int)) ∧ w' = w := by
  refine (vlast_of h.vrow (R := fun r w1 => r = .int .i64 (T.last : Int) ∧ w1 = w.setCell ⟨A.v, 0, none⟩ (.int .i32 1)) ((Pt.last_ok (h.guard 1).ps).mono ?_)).mono ?_
  · rintro e w1 ⟨rfl, rfl⟩
    exact ⟨_, _, rfl, (h.guard 1).vheld, rfl, rfl⟩
  · rintro e w2 ⟨r, y, w1, rfl, _, ⟨rfl, rfl⟩, rfl⟩
    exact ⟨rfl, h.vrow.back⟩

theorem vBlocks_ok (h : VI 0 B w A T) : Calls Tryz.prog 21 #[.pointer (some ⟨A.v, 0, none⟩)] w fun e w' => e = .returned (.int .i64 (T.S.N : Int)) ∧ w' = w := vblocks_ok h.c2 h.cd.di.c0

theorem vDirty_ok (h : VI 0 B w A T) : Calls Tryz.prog 10 #[.pointer (some ⟨A.v, 0, none⟩)] w fun e w' => ∃ p c, e = .returned (.slice p (Pt.blks T.P).length c) ∧ VI 0 B w' A T ∧ Pt.Stp (fp A T) (fp A T) w w' := by
  have hg := h.guard 1
  refine (vdirty_of h.vrow (R := fun r w1 => ∃ p c, r = .slice p (Pt.blks T.P).length c ∧ VI 1 B w1 A T ∧ Pt.Stp (fp A T) (fp A T) (w.setCell ⟨A.v, 0, none⟩ (.int .i32 1)) w1) ((Pt.blocks_ok hg.ps).mono ?_)).mono ?_
  · rintro e w1 ⟨p, c, rfl, _, _, _, hb⟩
    exact ⟨_, _, rfl, (hg.later hb).vheld, p, c, rfl, hg.later hb, below_stp hb⟩
  · rintro e w2 ⟨r, y, w1, rfl, _, ⟨p, c, rfl, hv, hst⟩, rfl⟩
    obtain ⟨hv0, hs0⟩ := unguard hst hv
    exact ⟨p, c, rfl, hv0, hs0⟩
end
end Go.Proofs.YtinigfidofgaiaaGreat

/- Queue: what it gives. -/
namespace Go.Proofs.YtinigfidofgaiaaGreat
open Go.RowKit Go.Maps
set_option linter.unusedVariables false
set_option maxRecDepth 100000


set_option maxRecDepth 10000 in
set_option maxHeartbeats 1000000 in
theorem queue_ok {B : Nat} {w : World} {a mb fb : Nat} {qv : Value} {S : St} (h : DI B w a mb fb qv S) : Calls Tryz.prog 31 #[.pointer (some ⟨a, 0, none⟩)] w fun e w' => ∃ g gs, e = .returned (.slice (some ⟨g, 0, none⟩) S.q.length S.q.length) ∧ Sents w.heap.size w' g gs S.q ∧ Below w.heap.size w w' := by
  obtain ⟨i0, hi, hz0, hz1, hz2⟩ := info_parts info52
  have hq64 := h.q64
  obtain ⟨qp, qc, hqv, hqg⟩ : ∃ qp qc, qv = .slice qp S.q.length qc ∧ (0 < S.q.length → ∃ g, qp = some ⟨g, 0, none⟩) := by
    rcases h.qcase with ⟨e1, e2⟩ | ⟨g, cap, e⟩
    · exact ⟨none, 0, by rw [e1, e2]; rfl, by rw [e2]; simp⟩
    · exact ⟨_, _, e, fun _ => ⟨g, rfl⟩⟩
  subst hqv
  have hc := h.c2
  obtain ⟨n, hn⟩ : ∃ n, n = S.q.length := ⟨_, rfl⟩
  rw [← hn] at hq64 hqg
  go_enter Tryz.func31, Tryz.ntmps31
  go_wp2_with fail
  refine same_at (made_ok h) ?_
  go_wp2_with (first
    | (at_make; refine wpList_make_full _ rfl _ _ 59 rfl w.heap.size 62 i0 (.agg #[.int .i64 0, .int .i64 0, .slice none 0 0]) 3 Tryz.underlying59 hi hz0 hz1 .i64 .i64 _ _ n rfl rfl (by rw [hn]) (by rw [hn]) (by rw [hz2]; omega) (by unfold maxLen; omega) (Nat.le_refl _) ?_; intro w1 hown1 hgrow1; have hb1 := (Below.refl w.heap.size w).grown hgrow1 (Nat.le_refl _) (by intro k hk; cases hk); clear hgrow1; have hc1 := (h.later hb1).c2))
  have hzr : ∀ w, (zeroValue 108).run Tryz.prog w = .ok (.agg zwr.toArray) w := zero_wr'
  have hZ : zwr.toArray.size = 130 := by simp [zwr_len]
  generalize zwr.toArray = Z at hzr hZ
  go_loopw [20] (fun i wr => ∃ j gs L, j ≤ n ∧ i = .int .i64 (j : Int) ∧ List.length gs = j ∧ wr.ownsRow w.heap.size 62 3 (.slice (some ⟨w.heap.size, 0, none⟩) n n) n L ∧ L.take (j * 3) = sflat gs (S.q.take j) ∧ (∀ i x, i < j → S.q[i]? = some x → Own w.heap.size wr (gs.getD i 0) 128 128 x.bytes) ∧ Below w.heap.size w wr) (fun i _ => n - (intOf i).toNat)
  case atStart => exact ⟨0, [], _, by omega, rfl, rfl, hown1, by simp [sflat], by intro i x hi; omega, hb1⟩
  case round =>
    clear hown1 hb1 hc1 hc
    obtain ⟨j, gs, L, hj, rfl, hgs, hown, hL, hel, hb⟩ := hrel
    have hd := h.later hb
    by_cases hlt : j < n
    · obtain ⟨g, rfl⟩ := hqg (by omega)
      obtain ⟨x, hx⟩ : ∃ x, S.q[j]? = some x := ⟨S.q[j], List.getElem?_eq_getElem (by omega)⟩
      have hxs := hd.sects x (List.mem_of_getElem? hx)
      have hr := range_at hd.que rfl hd.sects hx
      have hsz : (Tryz.prog.info? 108).map (·.size) = some x.cells.length := by rw [cells_len x hxs]; exact info86
      have hAs := wrA_size x hxs
      have hjn : (j : Int) < (S.q.length : Int) := by omega
      go_wp2_with (first
        | (refine wpList_load_mid rfl 108 _ rfl g (j * 130) rfl x.cells _ hr Tryz.underlying108 rfl hsz ?_)
        | (refine wpList_store_row rfl 108 _ _ rfl wr.heap.size (wrA x) rfl rfl 108 Z (at_new rfl) (by rw [hAs]; exact info86) (by rw [hZ, hAs]) (all_oneCell_toArray (wr_one' x)) ?_))
      have hb6 : Below wr.heap.size wr ((wr.alloc (.cells Z 108)).setRow wr.heap.size (wrA x)) := below_setRow ((Below.refl _ _).alloc (Nat.le_refl _) _) (Nat.le_refl _) _
      have hr6 : ((wr.alloc (.cells Z 108)).setRow wr.heap.size (wrA x)).heap[wr.heap.size]? = some (.cells (wrA x) 108 (0, 0)) := setRow_heap _ _ Z _ 108 _ (at_new rfl)
      have hs6 : ((wr.alloc (.cells Z 108)).setRow wr.heap.size (wrA x)).heap.size = wr.heap.size + 1 := by simp
      generalize (wr.alloc (.cells Z 108)).setRow wr.heap.size (wrA x) = w6 at hb6 hr6 hs6 ⊢
      obtain ⟨T, hT⟩ : ∃ T, wr.heap.size = T := ⟨_, rfl⟩
      have hRT : w.heap.size ≠ T := by have := (hown.lt w.heap.size rfl).2; omega
      rw [hT] at hb6 hr6 hs6 ⊢
      have hu79 := Tryz.underlying106
      have hi79 : (Tryz.prog.info? 106).map (·.size) = some (x.bytes.map (Value.int .u8)).length := by rw [List.length_map, hxs.1]; exact info79
      have k0 : w6.drew.cell? ⟨T, 0, none⟩ = some (.int .i64 x.id) := by rw [cell_of_row w6.drew T 0 _ _ _ hr6]; exact wrA_0 x
      have k1 : w6.drew.cell? ⟨T, 1, none⟩ = some (.int .i64 (x.block : Int)) := by rw [cell_of_row w6.drew T 1 _ _ _ hr6]; exact wrA_1 x
      have k2 : w6.drew.rangeAt T 2 (x.bytes.map (Value.int .u8)) := by
        intro i v hv
        rw [cell_of_row w6.drew T (2 + i) _ _ _ hr6]
        simp only [wrA, Wr.cells, List.getElem?_toArray]
        rw [Nat.add_comm]
        exact hv
      have hb6d : Below T wr w6.drew := hb6.drew
      have hown6 : w6.drew.ownsRow w.heap.size 62 3 (.slice (some ⟨w.heap.size, 0, none⟩) n n) n L := ownsRow_kept hown (fun k hk => hb6d.block k (by have := (hown.lt k hk).2; omega))
      have hLl := hown.1
      clear hr6 hr hsz hAs hzr hZ hi hz0 hz1 hz2
      go_region_held3 (fun w' => w'.cell? ⟨T, 0, none⟩ = some (.int .i64 x.id) ∧ w'.cell? ⟨T, 1, none⟩ = some (.int .i64 (x.block : Int)) ∧ w'.rangeAt T 2 (x.bytes.map (Value.int .u8))) (first | (refine ⟨?_, ?_, ?_⟩ <;> assumption) | (refine ⟨?_, ?_, range_set hRT (range_set hRT (range_set hRT k2'))⟩ <;> go_keep))
        ((go_at_call 68; refine Calls.mono (list_ok x.bytes hxs.1 _) ?_; rintro e w7 ⟨g7, rfl, ho7, hb7⟩; have k0' := (hb7.cell (p := ⟨T, 0, none⟩) (lt_of_cell k0)).trans k0; have k1' := (hb7.cell (p := ⟨T, 1, none⟩) (lt_of_cell k1)).trans k1; have k2' := range_later hb7 (by show T < w6.heap.size; omega) k2; have hown7 := ownsRow_kept hown6 (fun k hk => hb7.block k (hown6.lt k hk).2); obtain ⟨v0, v1, v2, e0, e1, e2⟩ := three_cells hown7 hlt; have f0 := hown7.frozenAt (j * 3); have f1 := hown7.frozenAt (j * 3 + 1); have f2 := hown7.frozenAt (j * 3 + 2)))
      have hbw : Below w.heap.size w w7 := hb.trans ((hb6d.mono (by have := hb.size; omega)).trans (hb7.mono (by show w.heap.size ≤ w6.heap.size; have := hb.size; omega)))
      have hn7 : g7 ≠ w.heap.size := by have := ho7.spot; have h1 : w6.drew.heap.size = w6.heap.size := rfl; have := hb.size; omega
      have hbT : Below T wr w7 := hb6d.trans (hb7.mono (by show T ≤ w6.heap.size; omega))
      have r1 := (((hown7.stored (j * 3) (.int .i64 x.id)).1.stored (j * 3 + 1) (.int .i64 (x.block : Int))).1.stored (j * 3 + 2) (sl g7)).1
      have ho7' := ho7.base (B' := w.heap.size) (by show w.heap.size ≤ w6.heap.size; have := hb.size; omega)
      clear k0 k1 k2 k0' k1' k2' e0 e1 e2 f0 f1 f2
      go_wp2
      go_roundw
      case rel =>
        subst hgs
        refine ⟨gs.length + 1, gs ++ [g7], _, by omega, by go_num, by simp, r1, ?_, ?_, ?_⟩
        · rw [Nat.add_mul, Nat.one_mul, take_set3 _ _ _ _ _ (by omega), hL, take_snoc hx, sflat_snoc _ _ _ _ (by simp; omega)]
          rfl
        · intro i y hi hy
          by_cases e : i = gs.length
          · subst e
            rw [hx] at hy
            cases hy
            have e1 : (gs ++ [g7]).getD gs.length 0 = g7 := by simp
            rw [e1]
            exact ((ho7'.setOther hn7 _).setOther hn7 _).setOther hn7 _
          · have e1 : (gs ++ [g7]).getD i 0 = gs.getD i 0 := by
              simp [List.getD_eq_getElem?_getD, List.getElem?_append_left (show i < gs.length by omega)]
            rw [e1]
            have ho := hel i y (by omega) hy
            have hne := rows_ne ho hown (by decide)
            have ho' : Own w.heap.size w7 (gs.getD i 0) 128 128 y.bytes := ho.kept (by rw [hT]; exact hbT)
            exact ((ho'.setOther hne _).setOther hne _).setOther hne _
        · exact ((hbw.setCell (Nat.le_refl _) _).setCell (Nat.le_refl _) _).setCell (Nat.le_refl _) _
      case measure => simp [intOf]; omega
    · obtain rfl : j = n := by omega
      go_wp2
      go_ret
      refine ⟨_, gs, rfl, ⟨?_, by omega, fun i x hx => hel i x (by have := (List.getElem?_eq_some_iff.1 hx).1; omega) hx⟩, hb⟩
      have hl := hown.1
      rw [List.take_of_length_le (by omega), List.take_of_length_le (by omega)] at hL
      subst hL
      subst hn
      exact hown

end Go.Proofs.YtinigfidofgaiaaGreat

/- The blocks on the way. -/
namespace Go.Proofs.YtinigfidofgaiaaGreat
open Go.RowKit Go.Maps
set_option linter.unusedVariables false
set_option maxRecDepth 100000

/-- The blocks of a queue. -/
def qbs (S : St) : List Int := S.q.map fun x => (x.block : Int)
theorem info3z : (Tryz.prog.info? 3).map (fun i => (i.zero, i.size, i.bytes)) = some (some (.int .i64 0), 1, 8) := by kernel_rfl

section
variable {g : Int} {B : Nat} {w w' : World} {A : At} {T : Vs}
theorem Sents.cells {b : Nat} {q : Nat} {gs : List Nat} {L : List Wr} (h : Sents b w q gs L) (j : Nat) (x : Wr) (hx : L[j]? = some x) : w.cell? ⟨q, j * 3, none⟩ = some (.int .i64 x.id) ∧ w.cell? ⟨q, j * 3 + 1, none⟩ = some (.int .i64 (x.block : Int)) ∧ w.cell? ⟨q, j * 3 + 2, none⟩ = some (sl (gs.getD j 0)) := by
  have hj : j < L.length := (List.getElem?_eq_some_iff.1 hx).1
  have hl := h.len
  have key : ∀ (gs : List Nat) (L : List Wr) (j : Nat) (x : Wr), gs.length = L.length → L[j]? = some x → (sflat gs L)[j * 3]? = some (.int .i64 x.id) ∧ (sflat gs L)[j * 3 + 1]? = some (.int .i64 (x.block : Int)) ∧ (sflat gs L)[j * 3 + 2]? = some (sl (gs.getD j 0)) := by
    intro gs
    induction gs with
    | nil => intro L j x hl hx; cases L with
      | nil => simp at hx
      | cons y r => simp at hl
    | cons a r ih =>
      intro L j x hl hx
      cases L with
      | nil => simp at hl
      | cons y r2 =>
        cases j with
        | zero => simp at hx; subst hx; simp [sflat, sent]
        | succ j =>
          have hi := ih r2 j x (by simpa using hl) (by simpa using hx)
          have e : sflat (a :: r) (y :: r2) = sent a y ++ sflat r r2 := by simp [sflat]
          rw [e]
          have e1 : (j + 1) * 3 = j * 3 + 3 := by omega
          rw [e1]
          refine ⟨?_, ?_, ?_⟩
          · rw [List.getElem?_append_right (by simp [sent])]; simpa [sent] using hi.1
          · rw [List.getElem?_append_right (by simp [sent])]
            rw [show j * 3 + 3 + 1 - (sent a y).length = j * 3 + 1 by simp [sent]]; exact hi.2.1
          · rw [List.getElem?_append_right (by simp [sent])]
            rw [show j * 3 + 3 + 2 - (sent a y).length = j * 3 + 2 by simp [sent]]; simpa using hi.2.2
  obtain ⟨k0, k1, k2⟩ := key gs L j x hl hx
  have hr := h.row
  have h1 := hr.1
  refine ⟨?_, ?_, ?_⟩
  · rw [hr.cellAt _ (by omega), k0]
  · rw [hr.cellAt _ (by omega), k1]
  · rw [hr.cellAt _ (by omega), k2]

set_option maxHeartbeats 2000000 in
theorem onWay_ok (h : VI g B w A T) : Calls Tryz.prog 45 #[.pointer (some ⟨A.v, 0, none⟩)] w fun e w' => ∃ q c, e = .returned (.slice (some ⟨q, 0, none⟩) T.S.q.length c) ∧ Pt.II w' (some ⟨q, 0, none⟩) T.S.q.length (qbs T.S) ∧ w.heap.size ≤ q ∧ Below w.heap.size w w' := by
  obtain ⟨i0, hi, hz0, hz1, hz2⟩ := info_parts info3z
  have c2 := h.c2
  have hq := queue_ok h.cd.di
  have hq64 := h.cd.di.q64
  have hqok := h.cd.di.qok
  have HN12 := h.cd.ci.N12
  obtain ⟨n, hn⟩ : ∃ n, n = T.S.q.length := ⟨_, rfl⟩
  rw [← hn] at hq hq64
  have HN := (show Hid _ from hn)
  clear hn
  go_enter Tryz.func45, Tryz.ntmps45
  go_wp2_with (first
    | (go_at_call 31; refine Calls.mono hq ?_; rintro e w1 ⟨q1, gs, rfl, hS, hb1⟩)
    | (at_make; refine wpList_make_full _ rfl _ _ 23 rfl w.heap.size 3 i0 (.int .i64 0) 1 Tryz.underlying23 hi hz0 hz1 .i64 .i64 _ _ n rfl rfl rfl rfl (by rw [hz2]; omega) (by unfold maxLen; omega) hb1.size ?_; intro w2 hown2 hgrow2))
  rw [made_list _ _ rfl] at hown2
  have hb2 : Below w.heap.size w w2 := hb1.grown hgrow2 hb1.size (by intro k hk; cases hk)
  have hb12 : Below w1.heap.size w1 w2 := (Below.refl _ w1).grown hgrow2 (Nat.le_refl _) (by intro k hk; cases hk)
  have hS2 : Sents w.heap.size w2 q1 gs T.S.q := ⟨ownsRow_kept hS.row (fun k hk => hb12.block k (hS.row.lt k hk).2), hS.len, fun i x hx => (hS.el i x hx).kept hb12⟩
  have hq1 : q1 < w1.heap.size := (hS.row.lt q1 rfl).2
  have HS := (show Hid _ from hS2)
  have HQ := (show Hid _ from hqok)
  clear hS2 hS hgrow2 hq hqok h c2
  go_loopw [17] (fun i wr => ∃ j, j ≤ n ∧ i = .int .i64 (j : Int) ∧ wr.ownsRow w.heap.size 3 1 (.slice (some ⟨w1.heap.size, 0, none⟩) n n) n (((qbs T.S).take j).map (Value.int .i64) ++ List.replicate (n - j) (.int .i64 0)) ∧ Below w.heap.size w wr ∧ Sents w.heap.size wr q1 gs T.S.q) (fun i _ => n - (intOf i).toNat)
  case atStart => exact ⟨0, by omega, rfl, by simpa using hown2, hb2, HS.out⟩
  case round =>
    clear hown2 hb2 HS
    obtain ⟨j, hj, rfl, hrow, hbr, hSr⟩ := hrel
    by_cases hlt : j < n
    · have hI : (j : Int) < (n : Int) := by omega
      have hj0 : (0 : Int) ≤ (j : Int) := by omega
      obtain ⟨x, hx⟩ : ∃ x, T.S.q[j]? = some x := ⟨_, List.getElem?_eq_getElem (by have := HN.out; omega)⟩
      obtain ⟨k0, k1, k2⟩ := hSr.cells j x hx
      have hcw : wr.cell? ⟨w1.heap.size, j, none⟩ = some (.int .i64 0) := by
        have hl : (((qbs T.S).take j).map (Value.int .i64)).length = j := by have := HN.out; simp [qbs]; omega
        rw [hrow.cellAt j (by omega), List.getElem?_append_right (by omega), hl, List.getElem?_replicate]
        simp; omega
      have hfw := hrow.frozenAt j
      have HX := (show Hid _ from hx)
      generalize gs.getD j 0 = gj at k2
      unfold sl at k2
      obtain ⟨WA, hWA⟩ : ∃ WA, wr.alloc (Obj.cells #[.int .i64 x.id, .int .i64 (x.block : Int), .slice (some ⟨gj, 0, none⟩) 128 128] 62) = WA := ⟨_, rfl⟩
      have hbA : Below wr.heap.size wr WA := by rw [← hWA]; exact (Below.refl _ _).alloc (Nat.le_refl _) _
      have hrA := ownsRow_kept hrow (fun k hk => hbA.block k (hrow.lt k hk).2)
      have hSA : Sents w.heap.size WA q1 gs T.S.q := ⟨ownsRow_kept hSr.row (fun k hk => hbA.block k (hSr.row.lt k hk).2), hSr.len, fun i x hx => (hSr.el i x hx).kept hbA⟩
      have hst := (hrA.stored j (.int .i64 (x.block : Int))).1
      have hcA : WA.cell? ⟨w1.heap.size, j, none⟩ = some (.int .i64 0) := (hbA.cell (p := ⟨w1.heap.size, j, none⟩) (hrow.lt _ rfl).2).trans hcw
      have hfA := hrA.frozenAt j
      have hxA : WA.cell? ⟨wr.heap.size, 1, none⟩ = some (.int .i64 (x.block : Int)) := by rw [← hWA]; exact (cell_of_row _ _ 1 _ 62 _ (at_new rfl)).trans rfl
      have HE : Hid (((((qbs T.S).take j).map (Value.int .i64) ++ List.replicate (n - j) (Value.int .i64 0)).set j (Value.int .i64 (x.block : Int))) = (((qbs T.S).take (j + 1)).map (Value.int .i64) ++ List.replicate (n - (j + 1)) (Value.int .i64 0))) := by
        show _ = _
        have hl : (((qbs T.S).take j).map (Value.int .i64)).length = j := by have := HN.out; simp [qbs]; omega
        obtain ⟨m, hm⟩ : ∃ m, n - j = m + 1 := ⟨n - j - 1, by omega⟩
        have hm' : n - (j + 1) = m := by omega
        rw [hm, hm', List.set_append_right _ _ (by omega), hl, Nat.sub_self, List.take_add_one]
        have : (qbs T.S)[j]? = some (x.block : Int) := by unfold qbs; rw [List.getElem?_map, hx]; rfl
        rw [this]
        simp [List.replicate_succ]
      have hne : ∀ i y, T.S.q[i]? = some y → gs.getD i 0 ≠ w1.heap.size := fun i y hy => rows_ne (hSA.el i y hy) hrA (by decide)
      have hne1 : q1 ≠ w1.heap.size := rows_ne hSA.row hrA (by decide)
      have HT : Hid (Sents w.heap.size (WA.setCell ⟨w1.heap.size, j, none⟩ (.int .i64 (x.block : Int))) q1 gs T.S.q) := ⟨ownsRow_kept hSA.row (fun k hk => by simp only [Value.ownBlock, Option.some.injEq] at hk; subst hk; exact Below.heap_setCell WA ⟨w1.heap.size, j, none⟩ _ q1 hne1), hSA.len, fun i y hy => (hSA.el i y hy).setOther (hne i y hy) _⟩
      have HR := (show Hid _ from hst)
      have HB : Hid (Below w.heap.size w (WA.setCell ⟨w1.heap.size, j, none⟩ (.int .i64 (x.block : Int)))) := (hbr.trans (hbA.mono hbr.size)).setCell (p := ⟨w1.heap.size, j, none⟩) hb1.size _
      clear hx hne hst hSA hrA hSr hrow
      go_wp2
      go_roundw
      case rel => exact ⟨j + 1, by omega, by go_num, by rw [← HE.out]; exact HR.out, HB.out, HT.out⟩
      case measure => simp [intOf]; omega
    · have hI : ¬ (j : Int) < (n : Int) := by omega
      obtain rfl : j = n := by omega
      go_wp2
      go_ret
      have hnn := HN.out
      have hlq : (qbs T.S).length = j := by unfold qbs; rw [List.length_map]; exact hnn.symm
      refine ⟨w1.heap.size, ⟨j, by rw [← hnn]; rfl⟩, ?_, hb1.size, hbr⟩
      rw [← hnn]
      refine ⟨hlq, by omega, fun y hy => ?_, fun _ => ⟨w1.heap.size, 0, rfl, fun i hi => ?_⟩⟩
      · obtain ⟨z, hz, rfl⟩ := List.mem_map.1 hy
        have := (HQ.out z hz).1
        have := HN12
        exact ⟨by omega, by omega⟩
      · rw [Nat.zero_add, hrow.cellAt i (by omega), List.take_of_length_le (by omega), List.getElem?_append_left (by simp; omega), List.getElem?_map, List.getElem?_eq_getElem (by omega), List.getD_eq_getElem?_getD, List.getElem?_eq_getElem (by omega)]
        rfl

theorem vWay_ok (h : VI 0 B w A T) : Calls Tryz.prog 14 #[.pointer (some ⟨A.v, 0, none⟩)] w fun e w' => ∃ p c, e = .returned (.slice p T.S.q.length c) ∧ VI 0 B w' A T ∧ Pt.Stp (fp A T) (fp A T) w w' := by
  have hg := h.guard 1
  refine (vway_of h.vrow (R := fun r w1 => ∃ p c, r = .slice p T.S.q.length c ∧ VI 1 B w1 A T ∧ Pt.Stp (fp A T) (fp A T) (w.setCell ⟨A.v, 0, none⟩ (.int .i32 1)) w1) ((onWay_ok hg).mono ?_)).mono ?_
  · rintro e w1 ⟨q, c, rfl, _, _, hb⟩
    exact ⟨_, _, rfl, (hg.later hb).vheld, _, c, rfl, hg.later hb, below_stp hb⟩
  · rintro e w2 ⟨r, y, w1, rfl, _, ⟨p, c, rfl, hv, hst⟩, rfl⟩
    obtain ⟨hv0, hs0⟩ := unguard hst hv
    exact ⟨p, c, rfl, hv0, hs0⟩
end
end Go.Proofs.YtinigfidofgaiaaGreat
