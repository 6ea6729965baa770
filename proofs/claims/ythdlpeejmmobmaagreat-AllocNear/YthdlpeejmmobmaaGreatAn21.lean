/- WA WB WC -/
import Derived.Test.YthdlpeejmmobmaaGreatAn20
import Derived.Laws.IdiomRangeMap

/- A frozen view in memory, beside its volume. -/
namespace Go.Proofs.YthdlpeejmmobmaaGreat
open Go.RowKit Go.Maps
set_option linter.unusedVariables false
set_option maxRecDepth 100000

/-- What a view keeps of a block. -/
structure Kp where
  g : Nat
  c : Nat
  xs : List Int
def Kp.v (k : Kp) : Value := .slice (some ⟨k.g, 0, none⟩) 128 k.c
structure Vw where
  x : Nat
  m : Nat
  room : Nat
  K : Int → Option Kp
/-- The view's own blocks. -/
def vf (V : Vw) (k : Nat) : Prop := k = V.x ∨ k = V.m ∨ ∃ b s, V.K b = some s ∧ s.g = k
/-- A view that is whole, beside the volume. -/
structure VW (w : World) (A : At) (T : Vs) (V : Vw) : Prop where
  tx : T.x = some ⟨V.x, 0, none⟩
  row : w.heap[V.x]? = some (.cells #[.int .i64 (V.room : Int), .map (some V.m), .bool false] 207 (0, 0))
  mf : Pt.Mf w V.m V.room (fun b => (V.K b).map Kp.v)
  bi : ∀ b s, V.K b = some s → Pt.BI w (some ⟨s.g, 0, none⟩) 128 s.xs
  lt : ∀ k, vf V k → k < w.heap.size
  out : ∀ k, vf V k → ¬ fp A T k
  ne : V.m ≠ V.x ∧ ∀ b s, V.K b = some s → s.g ≠ V.m ∧ s.g ≠ V.x
  rm : V.room ≤ 65536
def fpv (A : At) (T : Vs) (V : Vw) (k : Nat) : Prop := fp A T k ∨ vf V k

section
variable {g : Int} {B : Nat} {w w' : World} {A : At} {T T' : Vs} {V : Vw}
theorem VW.stay (h : VW w A T V) (hs : w.heap.size ≤ w'.heap.size) (hb : ∀ k, vf V k → w'.heap[k]? = w.heap[k]?) (hx : T'.x = T.x) (ho : ∀ k, vf V k → ¬ fp A T' k) : VW w' A T' V where
  tx := hx.trans h.tx
  row := (hb _ (.inl rfl)).trans h.row
  mf := h.mf.kept (hb _ (.inr (.inl rfl)))
  bi := fun b s hs' => (h.bi b s hs').keptIf (fun k hk _ => hb k (.inr (.inr ⟨b, s, hs', by simpa [Pt.blkOf] using hk⟩)))
  lt := fun k hk => Nat.lt_of_lt_of_le (h.lt k hk) hs
  out := ho
  ne := h.ne
  rm := h.rm
theorem VW.stp (h : VW w A T V) (hs : Pt.Stp (fp A T) (fp A T') w w') (hx : T'.x = T.x) : VW w' A T' V :=
  h.stay hs.fr.size (fun k hk => hs.fr.block k (h.lt k hk) (h.out k hk)) hx (fun k hk hf => by
    rcases hs.new k hf with h1 | h1
    · exact h.out k hk h1
    · have := h.lt k hk; omega)
theorem VW.later (h : VW w A T V) (hb : Below w.heap.size w w') : VW w' A T V := h.stay hb.size (fun k hk => hb.block k (h.lt k hk)) rfl h.out
theorem VW.guard (h : VW w A T V) (g : Int) : VW (w.setCell ⟨A.v, 0, none⟩ (.int .i32 g)) A T V :=
  h.stay (by simp) (fun k hk => Below.heap_setCell _ _ _ _ (fun e => h.out k hk (.inl e))) rfl h.out
theorem VW.c0 (h : VW w A T V) : w.cell? ⟨V.x, 0, none⟩ = some (.int .i64 (V.room : Int)) := cell_of_row w V.x 0 _ 207 _ h.row
theorem VW.c1 (h : VW w A T V) : w.cell? ⟨V.x, 1, none⟩ = some (.map (some V.m)) := cell_of_row w V.x 1 _ 207 _ h.row
theorem VW.c2 (h : VW w A T V) : w.cell? ⟨V.x, 2, none⟩ = some (.bool false) := cell_of_row w V.x 2 _ 207 _ h.row

/-- How many keys a map has. -/
theorem mf_len {mb N : Nat} {f : Int → Option Value} (h : Pt.Mf w mb N f) : ∃ es c, w.heap[mb]? = some (.map es c) ∧ es.size ≤ N := by
  obtain ⟨D, ⟨es, clock, hb, F, hs, rfl⟩, hN, _⟩ := h
  refine ⟨es, clock, hb, ?_⟩
  rw [size_eq, length_sorted] at hN
  simpa using hN

theorem zero42 (w : World) : (zeroValue 42).run Tryz.prog w = .ok (.slice none 0 0) w := by kernel_rfl

set_option maxHeartbeats 400000 in
theorem whole_some (h : VW w A T V) : Calls Tryz.prog 119 #[.pointer (some ⟨V.x, 0, none⟩)] w fun e w' => e = .returned (.bool true) ∧ w' = w := by
  have c2 := h.c2
  clear h
  go_enter Tryz.func119, Tryz.ntmps119
  go_wp2
  go_ret
  exact ⟨rfl, rfl⟩

set_option maxHeartbeats 400000 in
theorem lacks_some (h : VW w A T V) (b : Nat) (hb : b ≤ 100000) : Calls Tryz.prog 57 #[.pointer (some ⟨V.x, 0, none⟩), .int .i64 (b : Int)] w fun e w' => e = .returned (.bool (V.K (b : Int)).isNone) ∧ w' = w := by
  have hw := whole_some h
  have c1 := h.c1
  have hl := h.mf.get (t := 205) (e := 42) Tryz.underlying205 (zero42 w) (zd := .agg [.lit (.int .i64 0), .lit (.int .i64 0)]) rfl (b : Int) ⟨by omega, by omega⟩
  have q42 := eqlNil w
  clear h
  cases hk : V.K (b : Int) with
  | none =>
    rw [hk] at hl
    have hl2 : (Instr.lookup 205 (.map (some V.m)) (.int .i64 (b : Int)) false).run Tryz.prog w = .ok (.slice none 0 0) w := hl
    clear hl hk
    go_enter Tryz.func57, Tryz.ntmps57
    go_wp2_with (first | (go_at_call 119; refine same_at hw ?_))
    go_ret
    exact ⟨rfl, rfl⟩
  | some s =>
    rw [hk] at hl
    have hl2 : (Instr.lookup 205 (.map (some V.m)) (.int .i64 (b : Int)) false).run Tryz.prog w = .ok (.slice (some ⟨s.g, 0, none⟩) 128 s.c) w := hl
    clear hl hk
    go_enter Tryz.func57, Tryz.ntmps57
    go_wp2_with (first | (go_at_call 119; refine same_at hw ?_))
    go_ret
    exact ⟨rfl, rfl⟩

/-- A block is kept that was lacking. -/
theorem keep_ok (h : VW w A T V) (b : Nat) (hb : b ≤ 100000) (hk : V.K (b : Int) = none) (L : List Int) (hL : ∀ k, Pt.I64 k → V.K k ≠ none → k ∈ L) (hLr : L.length < V.room) (q c : Nat) (xs : List Int) (hbi : Pt.BI w (some ⟨q, 0, none⟩) 128 xs) (hq : q < w.heap.size) (hqf : ¬ fpv A T V q) :
    Calls Tryz.prog 60 #[.pointer (some ⟨V.x, 0, none⟩), .int .i64 (b : Int), .slice (some ⟨q, 0, none⟩) 128 c] w fun e w' => e = .returned (.tuple #[]) ∧
      VW w' A T { V with K := Pt.fput V.K (b : Int) (some ⟨q, c, xs⟩) } ∧ w.grownBy w' (some V.m) := by
  have c0 := h.c0
  have c1 := h.c1
  have hcnt := h.mf.count L (fun k hk hn => hL k hk (fun e => hn (by rw [e]; rfl)))
  obtain ⟨es, cl, hm, hes⟩ := mf_len hcnt
  have hrm := h.rm
  have hlt : ¬ ((V.room : Int) ≤ (es.size : Int)) := by omega
  obtain ⟨w2, hrun, hM, hgd⟩ := (show Pt.Mf w.drew V.m L.length _ from hcnt.kept rfl).put (by omega) (t := 205) (e := 42) Tryz.underlying205 (b : Int) ⟨by omega, by omega⟩ (.slice (some ⟨q, 0, none⟩) 128 c) (d := .agg [.lit (.int .i64 q), .lit (.int .i64 0), .lit (.int .i64 (128 : Nat)), .lit (.int .i64 c)]) rfl
  have hg : w.grownBy w2 (some V.m) := ⟨hgd.os, hgd.tape, hgd.output, hgd.size, hgd.block⟩
  have hdec : decide ((V.room : Int) ≤ (es.size : Int)) = false := decide_eq_false hlt
  have hge : decide (V.room ≤ es.size) = false := decide_eq_false (by omega)
  have HV : Hid (VW w A T V) := h
  have HX : Hid (∀ k, k < w.heap.size → k ≠ V.m → w2.heap[k]? = w.heap[k]?) := fun k hk hn => hg.block k hk (fun e => hn (Option.some.inj e))
  have HM : Hid (Pt.Mf w2 V.m V.room (fun k => (Pt.fput V.K (b : Int) (some ⟨q, c, xs⟩) k).map Kp.v)) := by
    have h1 : Pt.Mf w2 V.m (if ((V.K (b : Int)).map Kp.v).isSome then L.length else L.length + 1) (Pt.fput (fun k => (V.K k).map Kp.v) (b : Int) (some (.slice (some ⟨q, 0, none⟩) 128 c))) := hM
    rw [hk] at h1
    have h2 : Pt.Mf w2 V.m (L.length + 1) (Pt.fput (fun k => (V.K k).map Kp.v) (b : Int) (some (.slice (some ⟨q, 0, none⟩) 128 c))) := h1
    refine (h2.mono (by omega)).congr fun k _ => ?_
    unfold Pt.fput
    by_cases e : k = (b : Int)
    · rw [if_pos e, if_pos e]; rfl
    · rw [if_neg e, if_neg e]
  clear h hM hcnt hk hL hLr hes hlt hrm
  go_enter Tryz.func60, Tryz.ntmps60
  have hlen : ∀ ty, (Builtin.len_ #[205] ty #[.map (some V.m)]).run Tryz.prog w.drew = .ok (.int .i64 (es.size : Int)) w.drew := fun ty => run_len_map (P := Tryz.prog) w.drew 205 ty V.m es cl (by kernel_rfl) hm
  have c0d : w.drew.cell? ⟨V.x, 0, none⟩ = some (.int .i64 (V.room : Int)) := c0
  have c1d : w.drew.cell? ⟨V.x, 1, none⟩ = some (.map (some V.m)) := c1
  go_wp2_with fail
  go_region_held3 (fun w' => w'.cell? ⟨V.x, 0, none⟩ = some (.int .i64 (V.room : Int)) ∧ w'.cell? ⟨V.x, 1, none⟩ = some (.map (some V.m)) ∧ ∀ ty, (Builtin.len_ #[205] ty #[.map (some V.m)]).run Tryz.prog w' = .ok (.int .i64 (es.size : Int)) w') (exact ⟨c0d, c1d, hlen⟩) (fail)
  go_wp2_with fail
  go_end0
  have h := HV.out
  have ho := HX.out
  have hqne : q ≠ V.m ∧ q ≠ V.x := ⟨fun e => hqf (.inr (.inr (.inl e))), fun e => hqf (.inr (.inl e))⟩
  have hxm := h.lt V.x (.inl rfl)
  refine ⟨rfl, ⟨h.tx, (ho _ hxm (fun e => h.ne.1 e.symm)).trans h.row, HM.out, ?_, ?_, ?_, ⟨h.ne.1, ?_⟩, h.rm⟩, hg⟩
  · intro k s hs
    have hs' : Pt.fput V.K (b : Int) (some ⟨q, c, xs⟩) k = some s := hs
    unfold Pt.fput at hs'
    split at hs'
    · cases hs'
      exact hbi.keptIf (fun j hj hl => ho j hl (by simp [Pt.blkOf] at hj; omega))
    · exact (h.bi k s hs').keptIf (fun j hj hl => ho j hl (by simp [Pt.blkOf] at hj; have := (h.ne.2 k s hs').1; omega))
  · rintro k (hk | hk | ⟨b', s, hs, hk⟩)
    · exact Nat.lt_of_lt_of_le (h.lt k (.inl hk)) hg.size
    · exact Nat.lt_of_lt_of_le (h.lt k (.inr (.inl hk))) hg.size
    · have hs' : Pt.fput V.K (b : Int) (some ⟨q, c, xs⟩) b' = some s := hs
      unfold Pt.fput at hs'
      split at hs'
      · cases hs'
        have := hg.size
        simp at hk
        omega
      · exact Nat.lt_of_lt_of_le (h.lt k (.inr (.inr ⟨b', s, hs', hk⟩))) hg.size
  · rintro k (hk | hk | ⟨b', s, hs, hk⟩)
    · exact h.out k (.inl hk)
    · exact h.out k (.inr (.inl hk))
    · have hs' : Pt.fput V.K (b : Int) (some ⟨q, c, xs⟩) b' = some s := hs
      unfold Pt.fput at hs'
      split at hs'
      · cases hs'
        simp at hk
        subst hk
        exact fun hf => hqf (.inl hf)
      · exact h.out k (.inr (.inr ⟨b', s, hs', hk⟩))
  · intro b' s hs
    have hs' : Pt.fput V.K (b : Int) (some ⟨q, c, xs⟩) b' = some s := hs
    unfold Pt.fput at hs'
    split at hs'
    · cases hs'
      exact hqne
    · exact h.ne.2 b' s hs'
end
end Go.Proofs.YthdlpeejmmobmaaGreat

/- Freeze, Old, Undo, Kept, Broken. -/
namespace Go.Proofs.YthdlpeejmmobmaaGreat
open Go.RowKit Go.Maps
set_option linter.unusedVariables false
set_option maxRecDepth 100000

section
variable {g : Int} {B : Nat} {w w' : World} {A : At} {T T' : Vs} {V : Vw}
/-- Another view. -/
theorem VI.setx (h : VI g B w A T) (x' : Option Addr) : VI g B (w.setCell ⟨A.v, 6, none⟩ (.pointer x')) A { T with x := x' } := by
  have ho : ∀ k, (wfoot A T k ∨ dfoot A T k ∨ pfoot A T k) → (w.setCell ⟨A.v, 6, none⟩ (.pointer x')).heap[k]? = w.heap[k]? := fun k hk => (Frame.setCell (X := fun i => i = A.v) w (p := ⟨A.v, 6, none⟩) (.pointer x') rfl).block k (h.lt k (.inr hk)) (h.nv k hk)
  have hs : (w.setCell ⟨A.v, 6, none⟩ (.pointer x')).heap.size = w.heap.size := by simp
  exact {
    row := heap_setCell_same w A.v 6 _ 98 _ h.row
    cd := ⟨⟨h.cd.ci.toCW.kept (fun k hk => ho k (.inr (.inl (.inr hk)))), h.cd.ci.ord, h.cd.ci.us⟩, h.cd.di.kept (fun k hk => ho k (.inr (.inl (.inl hk)))), h.cd.ne⟩
    sy := h.sy
    ps := h.ps.else (by omega) (fun k hk _ => ho k (.inr (.inr hk)))
    wy := h.wy.kept (ho _ (.inl (.inl rfl)))
    wr := fun b s hs' => ⟨(h.wr b s hs').1.keptIf (fun k hk _ => ho k (.inl (.inr ⟨b, s, hs', hk⟩))), (h.wr b s hs').2⟩
    wl := fun k hk => by rw [hs]; exact h.wl k hk
    nm := h.nm
    nv := h.nv
    nw := h.nw
    nd := h.nd
    lo := ⟨h.lo.1, by rw [hs]; exact h.lo.2⟩ }

set_option maxHeartbeats 2000000 in
theorem vFreeze_ok (h : VI 0 B w A T) (hx : T.x = none) (room : Nat) (hr : room ≤ 65536) :
    Calls Tryz.prog 50 #[.pointer (some ⟨A.v, 0, none⟩), .int .i64 (room : Int)] w fun e w' => e = .returned (.int .i64 0) ∧ ∃ V, VI 0 B w' A { T with x := some ⟨V.x, 0, none⟩ } ∧ VW w' A { T with x := some ⟨V.x, 0, none⟩ } V ∧ V.K = (fun _ => none) ∧ V.room = room ∧ w.heap.size ≤ V.x ∧ w.heap.size ≤ V.m ∧ Pt.Stp (fp A T) (fp A T) w w' := by
  have hg := h.guard 1
  have hm := vmade_ok h.vrow.made
  have hlk := h.vrow.lock
  have c6 := hg.c6
  rw [hx] at c6
  obtain ⟨WL, hWL⟩ : ∃ WL, w.setCell ⟨A.v, 0, none⟩ (.int .i32 1) = WL := ⟨_, rfl⟩
  rw [hWL] at hg hlk c6
  have hsz : WL.heap.size = w.heap.size := by rw [← hWL]; simp
  have d1 : ¬ ((room : Int) < 0) := by omega
  have d2 : ¬ ((65536 : Int) < (room : Int)) := by omega
  have d3 : decide (65536 < room) = false := decide_eq_false (by omega)
  have hfz : WL.frozen? ⟨A.v, 6, none⟩ = false := by simp [World.frozen?, hg.row]
  have hmm := @run_makeMap Tryz.prog
  obtain ⟨W2, hW2⟩ : ∃ W2, (WL.alloc (.map #[] 0)).alloc (.cells #[.int .i64 (room : Int), .map (some WL.heap.size), .bool false] 207) = W2 := ⟨_, rfl⟩
  have hb1 : Below WL.heap.size WL (WL.alloc (.map #[] 0)) := (Below.refl _ _).alloc (Nat.le_refl _) _
  have hb2 : Below WL.heap.size WL W2 := by rw [← hW2]; exact hb1.alloc hb1.size _
  have hs2 : W2.heap.size = WL.heap.size + 2 := by rw [← hW2]; simp
  have h2 := hg.later hb2
  have c62 : W2.cell? ⟨A.v, 6, none⟩ = some (.pointer none) := by have := h2.c6; rw [hx] at this; exact this
  have fz2 : W2.frozen? ⟨A.v, 6, none⟩ = false := by simp [World.frozen?, h2.row]
  have hrx : W2.heap[WL.heap.size + 1]? = some (.cells #[.int .i64 (room : Int), .map (some WL.heap.size), .bool false] 207 (0, 0)) := by rw [← hW2]; exact at_new (by simp)
  have hmx : Pt.Mf W2 WL.heap.size room (fun _ => none) := by
    refine (Pt.mf_made WL room).kept ?_
    rw [← hW2]
    exact heap_alloc_old _ _ (by simp)
  have hAv := hg.lt A.v (.inl rfl)
  have h3 := h2.setx (some ⟨WL.heap.size + 1, 0, none⟩)
  have HS : Hid (WL.heap.size = w.heap.size ∧ W2.heap.size = WL.heap.size + 2 ∧ A.v < WL.heap.size) := ⟨hsz, hs2, hAv⟩
  have HV : Hid (VW (W2.setCell ⟨A.v, 6, none⟩ (.pointer (some ⟨WL.heap.size + 1, 0, none⟩))) A { T with x := some ⟨WL.heap.size + 1, 0, none⟩ } ⟨WL.heap.size + 1, WL.heap.size, room, fun _ => none⟩) := by
    have ho : ∀ k, k ≠ A.v → (W2.setCell ⟨A.v, 6, none⟩ (.pointer (some ⟨WL.heap.size + 1, 0, none⟩))).heap[k]? = W2.heap[k]? := fun k hk => Below.heap_setCell _ _ _ _ hk
    refine ⟨rfl, (ho (WL.heap.size + 1) (by omega)).trans hrx, hmx.kept (ho WL.heap.size (by omega)), (fun b s hs => by cases hs), ?_, ?_, ⟨by show WL.heap.size ≠ WL.heap.size + 1; omega, fun b s hs => by cases hs⟩, hr⟩
    · rintro k (hk | hk | ⟨b, s, hs, _⟩)
      · have hk' : k = WL.heap.size + 1 := hk
        rw [World.size_setCell]; omega
      · have hk' : k = WL.heap.size := hk
        rw [World.size_setCell]; omega
      · cases hs
    · rintro k (hk | hk | ⟨b, s, hs, _⟩) hf
      · have hk' : k = WL.heap.size + 1 := hk
        have := hg.lt k hf; omega
      · have hk' : k = WL.heap.size := hk
        have := hg.lt k hf; omega
      · cases hs
  have HB : Hid (Below WL.heap.size WL W2) := hb2
  clear hsz hs2 hrx hmx hAv hb1 hb2 h2
  go_enter_defers Tryz.func50, Tryz.ntmps50
  go_wp2_with (first
    | (go_at_call 46; refine same_at hm ?_)
    | (go_at_call 52; refine Calls.mono hlk ?_; rintro e w' ⟨rfl, hw'⟩; subst w'))
  refine leaves_cons (f := 53) (args := #[.pointer (some ⟨A.v, 0, none⟩)]) (by simp) (by simp [go_sem]) ?_
  refine (h3.vheld.unlock .returning).mono ?_
  rintro e u' w'' ⟨rfl, rfl, rfl⟩
  refine ⟨_, results_tmp rfl _ _ _, rfl, ⟨WL.heap.size + 1, WL.heap.size, room, fun _ => none⟩, h3.guard 0, HV.out.guard 0, rfl, rfl, ?_, ?_, ?_⟩
  · show w.heap.size ≤ WL.heap.size + 1
    have := HS.out.1; omega
  · show w.heap.size ≤ WL.heap.size
    have := HS.out.1; omega
  · have f1 : Pt.Frame (fp A T) WL W2 := (frame_of_below HB.out (X := fp A T)).pt fun _ h => h
    have f2 : Pt.Frame (fp A T) W2 (W2.setCell ⟨A.v, 6, none⟩ (.pointer (some ⟨WL.heap.size + 1, 0, none⟩))) := (Frame.setCell (X := fp A T) W2 (p := ⟨A.v, 6, none⟩) _ (.inl rfl)).pt fun _ h => h
    have hst : Pt.Stp (fp A T) (fp A T) WL (W2.setCell ⟨A.v, 6, none⟩ (.pointer (some ⟨WL.heap.size + 1, 0, none⟩))) := stp_trans ⟨f1, fun k hk => .inl hk⟩ ⟨f2, fun k hk => .inl hk⟩
    exact (unguard (w := w) (T := T) (T' := { T with x := some ⟨WL.heap.size + 1, 0, none⟩ }) (B := B) (by rw [hWL]; exact hst) h3).2

set_option maxHeartbeats 2000000 in
theorem vBroken_ok (h : VI 0 B w A T) (hV : VW w A T V) :
    Calls Tryz.prog 117 #[.pointer (some ⟨A.v, 0, none⟩)] w fun e w' => e = .returned (.bool false) ∧ w' = w := by
  have hg := h.guard 1
  have hV1 := hV.guard 1
  have hm := vmade_ok h.vrow.made
  have hlk := h.vrow.lock
  have c6 := hg.c6
  rw [hV.tx] at c6
  have x2 := hV1.c2
  have hvr := h.vrow
  have hvh := hg.vheld
  go_enter_defers Tryz.func117, Tryz.ntmps117
  go_wp2_with (first
    | (go_at_call 46; refine same_at hm ?_)
    | (go_at_call 52; refine Calls.mono hlk ?_; rintro e w' ⟨rfl, rfl⟩))
  refine leaves_cons (f := 53) (args := #[.pointer (some ⟨A.v, 0, none⟩)]) (by simp) (by simp [go_sem]) ?_
  refine (hvh.unlock .returning).mono ?_
  rintro e u' w'' ⟨rfl, rfl, rfl⟩
  exact ⟨_, results_tmp rfl _ _ _, rfl, hvr.back⟩

set_option maxHeartbeats 2000000 in
theorem vKept_ok (h : VI 0 B w A T) (hV : VW w A T V) :
    Calls Tryz.prog 118 #[.pointer (some ⟨A.v, 0, none⟩)] w fun e w' => ∃ n : Nat, e = .returned (.int .i64 (n : Int)) ∧ n ≤ V.room ∧ w' = w := by
  have hg := h.guard 1
  have hV1 := hV.guard 1
  have hm := vmade_ok h.vrow.made
  have hlk := h.vrow.lock
  have c6 := hg.c6
  rw [hV.tx] at c6
  have x1 := hV1.c1
  have hvr := h.vrow
  have hvh := hg.vheld
  obtain ⟨es, cl, hmb, hes⟩ := mf_len hV1.mf
  have hlen : ∀ ty, (Builtin.len_ #[205] ty #[.map (some V.m)]).run Tryz.prog (w.setCell ⟨A.v, 0, none⟩ (.int .i32 1)) = .ok (.int .i64 (es.size : Int)) (w.setCell ⟨A.v, 0, none⟩ (.int .i32 1)) := fun ty => run_len_map (P := Tryz.prog) _ 205 ty V.m es cl (by kernel_rfl) hmb
  go_enter_defers Tryz.func118, Tryz.ntmps118
  go_wp2_with (first
    | (go_at_call 46; refine same_at hm ?_)
    | (go_at_call 52; refine Calls.mono hlk ?_; rintro e w' ⟨rfl, rfl⟩))
  refine leaves_cons (f := 53) (args := #[.pointer (some ⟨A.v, 0, none⟩)]) (by simp) (by simp [go_sem]) ?_
  refine (hvh.unlock .returning).mono ?_
  rintro e u' w'' ⟨rfl, rfl, rfl⟩
  exact ⟨_, results_tmp rfl _ _ _, es.size, rfl, hes, hvr.back⟩

/-- What block b had when it was frozen. -/
def oldOf (T : Vs) (V : Vw) (b : Nat) : List Int := match V.K (b : Int) with | some s => s.xs | none => nowOf T b

set_option maxHeartbeats 2000000 in
theorem vOld_ok (h : VI 0 B w A T) (hV : VW w A T V) (b : Nat) (hb : b < T.S.N) (hc : T.C.hi + T.C.mi < 4611686018427387904) :
    Calls Tryz.prog 128 #[.pointer (some ⟨A.v, 0, none⟩), .int .i64 (b : Int)] w fun e w' => ∃ q cap C', e = .returned (.tuple #[.slice (some ⟨q, 0, none⟩) 128 cap, .int .i64 0]) ∧ Own w.heap.size w' q 128 cap (oldOf T V b) ∧
       VI 0 B w' A { T with C := C' } ∧ Pt.Stp (fp A T) (fp A { T with C := C' }) w w' ∧ C'.hi + C'.mi = T.C.hi + T.C.mi + 1 := by
  have hg := h.guard 1
  have hV1 := hV.guard 1
  have hm := vmade_ok h.vrow.made
  have hlk := h.vrow.lock
  have c6 := hg.c6
  rw [hV.tx] at c6
  have hwh := whole_some hV1
  have hrd := vrd_ok hg b hb hc
  have hN12 := h.cd.ci.N12
  obtain ⟨WL, hWL⟩ : ∃ WL, w.setCell ⟨A.v, 0, none⟩ (.int .i32 1) = WL := ⟨_, rfl⟩
  have hsz : WL.heap.size = w.heap.size := by rw [← hWL]; simp
  rw [hWL] at hg hV1 hlk c6 hwh hrd
  go_enter_defers Tryz.func128, Tryz.ntmps128
  go_wp2_with (first
    | (go_at_call 46; refine same_at hm ?_)
    | (go_at_call 52; refine Calls.mono hlk ?_; rintro e w' ⟨rfl, hw'⟩; subst w')
    | (go_at_call 119; refine same_at hwh ?_))
  refine Calls.mono hrd ?_
  rintro e w1 ⟨q2, cap, C', rfl, hO, hnf, hv1, hst, hcn⟩
  have hVv := hV1.stp hst rfl
  have c6' := hv1.c6
  have e6 : ({ T with C := C' } : Vs).x = some ⟨V.x, 0, none⟩ := hV.tx
  rw [e6] at c6'
  have x1 := hVv.c1
  have hl := hVv.mf.get (t := 205) (e := 42) Tryz.underlying205 (zero42 w1) (zd := .agg [.lit (.int .i64 0), .lit (.int .i64 0)]) rfl (b : Int) ⟨by omega, by omega⟩
  have HS : Hid (WL.heap.size = w.heap.size) := hsz
  have HWL : Hid (w.setCell ⟨A.v, 0, none⟩ (.int .i32 1) = WL) := hWL
  clear hrd hwh hlk hm hsz hWL e6
  cases hk : V.K (b : Int) with
  | none =>
    have HO : Hid (oldOf T V b = nowOf T b) := by show _ = _; unfold oldOf; rw [hk]
    rw [hk] at hl
    have hl2 : (Instr.lookup 205 (.map (some V.m)) (.int .i64 (b : Int)) false).run Tryz.prog w1 = .ok (.slice none 0 0) w1 := hl
    clear hl hk
    dsimp only
    go_wp2_with fail
    refine leaves_cons (f := 53) (args := #[.pointer (some ⟨A.v, 0, none⟩)]) (by simp) (by simp [go_sem]) ?_
    refine (hv1.vheld.unlock .returning).mono ?_
    rintro e u' w'' ⟨rfl, rfl, rfl⟩
    have hst' := hst
    rw [← HWL.out] at hst'
    obtain ⟨hv0, hs0⟩ := unguard hst' hv1
    refine ⟨_, results_tmp2 rfl _ _ _, q2, cap, C', rfl, ?_, hv0, hs0, hcn⟩
    rw [HO.out]
    refine own_set ?_ (fun e => hnf (.inl e))
    rw [HS.out] at hO
    exact hO
  | some s =>
    have HO : Hid (oldOf T V b = s.xs) := by show _ = _; unfold oldOf; rw [hk]
    have hbi := hVv.bi _ s hk
    have hcl := Pt.bclone_ok (some ⟨s.g, 0, none⟩) 128 s.c s.xs w1 hbi (by omega)
    rw [hk] at hl
    have hl2 : (Instr.lookup 205 (.map (some V.m)) (.int .i64 (b : Int)) false).run Tryz.prog w1 = .ok (.slice (some ⟨s.g, 0, none⟩) 128 s.c) w1 := hl
    clear hl hk
    dsimp only
    go_wp2_with fail
    refine Calls.mono hcl ?_
    rintro e w2 ⟨q3, cap3, rfl, hO3, hb3⟩
    have hv2 := hv1.later hb3
    dsimp only
    go_wp2_with fail
    refine leaves_cons (f := 53) (args := #[.pointer (some ⟨A.v, 0, none⟩)]) (by simp) (by simp [go_sem]) ?_
    refine (hv2.vheld.unlock .returning).mono ?_
    rintro e u' w'' ⟨rfl, rfl, rfl⟩
    have hst' := stp_below hst hb3
    rw [← HWL.out] at hst'
    obtain ⟨hv0, hs0⟩ := unguard hst' hv2
    have hsp := hO3.spot
    refine ⟨_, results_tmp2 rfl _ _ _, q3, cap3, C', rfl, ?_, hv0, hs0, hcn⟩
    rw [HO.out]
    have hle : w.heap.size ≤ w1.heap.size := by rw [← HS.out]; exact hst.fr.size
    refine own_set (Own.base hO3 hle) (fun e => ?_)
    have := hv1.lt A.v (.inl rfl)
    omega

/-- Undo of what came last, nothing being on the way. -/
theorem next_empty (w : World) (ty : TypeId) (bm clock : Nat) (hb : w.heap[bm]? = some (.map #[] clock)) :
    (Instr.next (.pointer (some ⟨w.heap.size, 0, none⟩)) false ty).run Tryz.prog (w.alloc (.mapIter (some bm) clock #[] clock)) = .ok (.tuple #[.bool false]) (w.alloc (.mapIter (some bm) clock #[] clock)) := by
  rcases run_next_map (P := Tryz.prog) w ty bm clock clock #[] #[] clock hb (by simp) (Nat.le_refl _) with ⟨_, h⟩ | ⟨e, he, _⟩
  · exact h
  · simp [leftOf] at he

set_option maxHeartbeats 2000000 in
theorem vUndo_ok (h : VI 0 B w A T) (hY : T.Y = fun _ => none) (l : Nat) (hl : l ≤ T.last) (hall : ∀ k : Int, (l : Int) < k → k ≤ (T.last : Int) → (Pt.fP T.P k).isSome = true) :
    Calls Tryz.prog 84 #[.pointer (some ⟨A.v, 0, none⟩), .int .i64 (l : Int)] w fun e w' => e = .returned (.int .i64 0) ∧ ∃ K', VI 0 B w' A { T with P := Pt.upP T.P l, last := l, K := K' } ∧ Pt.Stp (fp A T) (fp A { T with P := Pt.upP T.P l, last := l, K := K' }) w w' := by
  have hg := h.guard 1
  have hm := vmade_ok h.vrow.made
  have hlk := h.vrow.lock
  have c4 := hg.c4
  have hun := Pt.undo_ok hg.ps l hl
  obtain ⟨WL, hWL⟩ : ∃ WL, w.setCell ⟨A.v, 0, none⟩ (.int .i32 1) = WL := ⟨_, rfl⟩
  rw [hWL] at hg hlk c4 hun
  go_enter_defers Tryz.func84, Tryz.ntmps84
  go_wp2_with (first
    | (go_at_call 46; refine same_at hm ?_)
    | (go_at_call 52; refine Calls.mono hlk ?_; rintro e w' ⟨rfl, hw'⟩; subst w'))
  refine Calls.mono hun ?_
  rintro e w1 (⟨⟨hno, _⟩, _⟩ | ⟨⟨_, rfl⟩, K', hPS, hSt⟩)
  · exact absurd hall hno
  obtain ⟨h1, hs1⟩ := hg.pats hPS hSt
  have c5 := h1.c5
  have hwy : Pt.Mf w1 A.m T.NW (fun b => (T.Y b).map Sn.v) := h1.wy
  obtain ⟨es, cl, hmb, hes⟩ := mf_len (hwy.count [] (fun k _ hn => by rw [hY] at hn; exact absurd rfl hn))
  obtain rfl : es = #[] := Array.eq_empty_of_size_eq_zero (Nat.le_zero.1 hes)
  have hr := run_range_map (P := Tryz.prog) w1 95 3 247 A.m #[] cl Tryz.underlying95 hmb
  have hne := fun ty => next_empty w1 ty A.m cl hmb
  have hb2 : Below w1.heap.size w1 (w1.alloc (.mapIter (some A.m) cl #[] cl)) := (Below.refl _ _).alloc (Nat.le_refl _) _
  have h2 := h1.later hb2
  have HWL : Hid (w.setCell ⟨A.v, 0, none⟩ (.int .i32 1) = WL) := hWL
  clear hun hlk hm hWL hmb hwy hes hall hY
  dsimp only
  go_wp2_with fail
  go_loopw [] (fun wr => wr = w1.alloc (.mapIter (some A.m) cl #[] cl)) (fun _ => 0)
  case atStart => rfl
  case round =>
    have hwr := hrel
    subst hwr
    go_wp2_with fail
    refine leaves_cons (f := 53) (args := #[.pointer (some ⟨A.v, 0, none⟩)]) (by simp) (by simp [go_sem]) ?_
    refine (h2.vheld.unlock .returning).mono ?_
    rintro e u' w'' ⟨rfl, rfl, rfl⟩
    have hst' := stp_below hs1 hb2
    rw [← HWL.out] at hst'
    obtain ⟨hv0, hs0⟩ := unguard hst' h2
    exact ⟨_, results_tmp rfl _ _ _, rfl, K', hv0, hs0⟩
end
end Go.Proofs.YthdlpeejmmobmaaGreat

/- Change, beside a frozen view. -/
namespace Go.Proofs.YthdlpeejmmobmaaGreat
open Go.RowKit Go.Maps
set_option linter.unusedVariables false
set_option maxRecDepth 100000

/-- T' is T with a patch more; a block may have been read. -/
structure ChangedV (T T' : Vs) (b o : Nat) (xs zs : List Int) : Prop where
  ex : ∃ pn : Pt.Pv, pn.id = T.last + 1 ∧ pn.blk = b ∧ pn.off = o ∧ pn.bs = xs ∧ pn.nd = Pt.rs (Pt.still T.P zs ++ Pt.uppL T.P pn) ∧ T'.P = T.P ++ [pn]
  last : T'.last = T.last + 1
  S : T'.S = T.S
  C : T'.C.hi + T'.C.mi ≤ T.C.hi + T.C.mi + 1
  Y : T'.Y = T.Y
  x : T'.x = T.x
  N : T'.NW = T.NW
/-- V' keeps block b. -/
def Keeps (T : Vs) (V V' : Vw) (b : Nat) : Prop := ((∃ s, V.K (b : Int) = some s) ∧ V' = V) ∨ (V.K (b : Int) = none ∧ ∃ q c, V' = { V with K := Pt.fput V.K (b : Int) (some ⟨q, c, nowOf T b⟩) })

section
variable {g : Int} {B : Nat} {w w' : World} {A : At} {T T' : Vs} {V : Vw}
theorem stp_v (h : Pt.Stp (fp A T) (fp A T') w w') (V : Vw) : Pt.Stp (fpv A T V) (fpv A T' V) w w' :=
  ⟨⟨h.fr.os, h.fr.tape, h.fr.output, h.fr.size, fun k hk hn => h.fr.block k hk (fun hf => hn (.inl hf))⟩, fun k hk => by
    rcases hk with hk | hk
    · exact (h.new k hk).imp .inl id
    · exact .inl (.inr hk)⟩

/-- The whole of a change that keeps a block. -/
theorem keep_stp {WL w2 w3 : World} {T2 : Vs} {b : Int} {q2 c : Nat} {xs : List Int} (hs : Pt.Stp (fp A T) (fp A T2) WL w2) (hWL : w.setCell ⟨A.v, 0, none⟩ (.int .i32 1) = WL) (hg3 : w2.grownBy w3 (some V.m)) (hq : WL.heap.size ≤ q2) :
    Pt.Stp (fpv A T V) (fpv A T2 { V with K := Pt.fput V.K b (some ⟨q2, c, xs⟩) }) w (w3.setCell ⟨A.v, 0, none⟩ (.int .i32 0)) := by
  have hsz : WL.heap.size = w.heap.size := by rw [← hWL]; simp
  have f1 : Pt.Frame (fp A T) w WL := by rw [← hWL]; exact (Frame.setCell (X := fp A T) w (p := ⟨A.v, 0, none⟩) _ (.inl rfl)).pt fun _ h => h
  have f4 : Pt.Frame (fp A T) w3 (w3.setCell ⟨A.v, 0, none⟩ (.int .i32 0)) := (Frame.setCell (X := fp A T) w3 (p := ⟨A.v, 0, none⟩) _ (.inl rfl)).pt fun _ h => h
  refine ⟨⟨f4.os.trans (hg3.os.trans (hs.fr.os.trans f1.os)), f4.tape.trans (hg3.tape.trans (hs.fr.tape.trans f1.tape)), f4.output.trans (hg3.output.trans (hs.fr.output.trans f1.output)), Nat.le_trans f1.size (Nat.le_trans hs.fr.size (Nat.le_trans hg3.size f4.size)), fun k hk hn => ?_⟩, ?_⟩
  · have hnf : ¬ fp A T k := fun h => hn (.inl h)
    have h1 : k < WL.heap.size := Nat.lt_of_lt_of_le hk f1.size
    have h2 : k < w2.heap.size := Nat.lt_of_lt_of_le h1 hs.fr.size
    have h3 : k < w3.heap.size := Nat.lt_of_lt_of_le h2 hg3.size
    exact (f4.block k h3 hnf).trans ((hg3.block k h2 (fun e => hn (.inr (.inr (.inl (Option.some.inj e)))))).trans ((hs.fr.block k h1 hnf).trans (f1.block k hk hnf)))
  · rintro k (hk | hk | hk | ⟨b', s, hs', hk⟩)
    · rcases hs.new k hk with h1 | h1
      · exact .inl (.inl h1)
      · exact .inr (by omega)
    · exact .inl (.inr (.inl hk))
    · exact .inl (.inr (.inr (.inl hk)))
    · have hs'' : Pt.fput V.K b (some ⟨q2, c, xs⟩) b' = some s := hs'
      unfold Pt.fput at hs''
      split at hs''
      · cases hs''
        simp at hk
        exact .inr (by omega)
      · exact .inl (.inr (.inr (.inr ⟨b', s, hs'', hk⟩)))

theorem now_sect (h : VI g B w A T) (b : Nat) : Sect (nowOf T b) := ovrs_sect _ _ (fun p hp => ⟨(h.ps.byt p (List.mem_filter.1 hp).1).1.byt, (h.ps.ids p (List.mem_filter.1 hp).1).2.2.2.2⟩) (h.sy.ok.sec b)

set_option maxHeartbeats 4000000 in
theorem vChangeV_ok (h : VI 0 B w A T) (hV : VW w A T V) (hc : T.C.hi + T.C.mi < 4611686018427387904) (hsm : T.last + 1 ≤ 1000) (b o : Nat) (hb : b < T.S.N) (p : Option Addr) (n c : Nat) (xs : List Int) (hbi : BI w p n xs) (hp : ∀ k, Pt.blkOf p = some k → ¬ fp A T k) (hmay : Pt.mayAt (b : Int) (o : Int) n) (q : Option Addr) (m d : Nat) (zs : List Int) (hz : Pt.II w q m zs) (hqv : ∀ k, Pt.blkOf q = some k → ¬ fp A T k) (hk : zs.all (Pt.kn T.last) = true) (hm8 : (m + T.P.length) * 8 ≤ 140737488355328)
    (hroom : V.K (b : Int) = none → ∃ L : List Int, (∀ k, Pt.I64 k → V.K k ≠ none → k ∈ L) ∧ L.length < V.room) :
    Calls Tryz.prog 17 #[.pointer (some ⟨A.v, 0, none⟩), .int .i64 (b : Int), .int .i64 (o : Int), .slice p n c, .slice q m d] w fun e w' => e = .returned (.tuple #[.int .i64 ((T.last + 1 : Nat) : Int), .int .i64 0]) ∧ ∃ T' V', VI 0 B w' A T' ∧ VW w' A T' V' ∧ Pt.Stp (fpv A T V) (fpv A T' V') w w' ∧ ChangedV T T' b o xs zs ∧ Keeps T V V' b := by
  have hg := h.guard 1
  have hVg := hV.guard 1
  have hN12 := h.cd.ci.N12
  have hm := vmade_ok h.vrow.made
  have hlk := h.vrow.lock
  have hh := vhas_ok hg b hb
  have c6 := hg.c6
  rw [hV.tx] at c6
  have hla := lacks_some hVg b (by omega)
  obtain ⟨WL, hWL⟩ : ∃ WL, w.setCell ⟨A.v, 0, none⟩ (.int .i32 1) = WL := ⟨_, rfl⟩
  have hszL : WL.heap.size = w.heap.size := by rw [← hWL]; simp
  have hoth : ∀ k, k < w.heap.size → k ≠ A.v → WL.heap[k]? = w.heap[k]? := fun k hk hn => by rw [← hWL]; exact (Frame.setCell (X := fun i => i = A.v) w (p := ⟨A.v, 0, none⟩) (.int .i32 1) rfl).block k hk hn
  have hbiL : Pt.BI WL p n xs := hbi.pt.keptIf (fun k hk hl => hoth k hl (fun e => hp k hk (.inl e)))
  have hzL : Pt.II WL q m zs := hz.keptIf (fun k hk hl => hoth k hl (fun e => hqv k hk (.inl e)))
  rw [hWL] at hg hVg hlk hh c6 hla
  cases hK : V.K (b : Int) with
  | some s =>
    rw [hK] at hla
    have hla2 : Calls Tryz.prog 57 #[.pointer (some ⟨V.x, 0, none⟩), .int .i64 (b : Int)] WL fun e w' => e = .returned (.bool false) ∧ w' = WL := hla
    have hadd := Pt.sadd_ok hg.ps hsm b o (by omega) p n c xs hbiL hmay q m d zs hzL hk hm8
    have c4 := hg.c4
    have HK : Hid (∃ s, V.K (b : Int) = some s) := ⟨s, hK⟩
    clear hroom hK hla
    go_enter_defers Tryz.func17, Tryz.ntmps17
    go_wp2_with (first
      | (go_at_call 46; refine same_at hm ?_)
      | (go_at_call 52; refine Calls.mono hlk ?_; rintro e w' ⟨rfl, hw'⟩; subst w')
      | (go_at_call 56; refine same_at hh ?_)
      | (go_at_call 57; refine same_at hla2 ?_)
      | (go_at_call 59; refine Calls.mono hadd ?_; rintro e w1 ⟨rfl, pn, K', e1, e2, e3, e4, e5, hps, hst⟩; obtain ⟨h1, hs1⟩ := hg.pats hps hst))
    refine leaves_cons (f := 53) (args := #[.pointer (some ⟨A.v, 0, none⟩)]) (by simp) (by simp [go_sem]) ?_
    refine (h1.vheld.unlock .returning).mono ?_
    rintro e u' w'' ⟨rfl, rfl, rfl⟩
    rw [← hWL] at hs1
    obtain ⟨hv0, hs0⟩ := unguard hs1 h1
    exact ⟨_, results_tmp2 rfl _ _ _, by simp, _, V, hv0, hV.stp hs0 rfl, stp_v hs0 V, ⟨⟨pn, e1, e2, e3, e4, e5, rfl⟩, rfl, rfl, Nat.le_succ _, rfl, rfl, rfl⟩, .inl ⟨HK.out, rfl⟩⟩
  | none =>
    rw [hK] at hla
    have hla2 : Calls Tryz.prog 57 #[.pointer (some ⟨V.x, 0, none⟩), .int .i64 (b : Int)] WL fun e w' => e = .returned (.bool true) ∧ w' = WL := hla
    have hrd := vrd_ok hg b hb hc
    obtain ⟨L, hL, hLr⟩ := hroom hK
    have HL : Hid ((∀ k, Pt.I64 k → V.K k ≠ none → k ∈ L) ∧ L.length < V.room ∧ V.K (b : Int) = none ∧ WL.heap.size = w.heap.size) := ⟨hL, hLr, hK, hszL⟩
    have HW : Hid (w.setCell ⟨A.v, 0, none⟩ (.int .i32 1) = WL) := hWL
    clear hroom hK hla hL hLr hszL hWL hoth
    go_enter_defers Tryz.func17, Tryz.ntmps17
    go_wp2_with (first
      | (go_at_call 46; refine same_at hm ?_)
      | (go_at_call 52; refine Calls.mono hlk ?_; rintro e w' ⟨rfl, hw'⟩; subst w')
      | (go_at_call 56; refine same_at hh ?_)
      | (go_at_call 57; refine same_at hla2 ?_))
    refine Calls.mono hrd ?_
    rintro e w1 ⟨q2, cap, C', rfl, hO, hnf, hv1, hst1, hcn⟩
    have hV1 := hVg.stp hst1 rfl
    have c4 := hv1.c4
    have hbi1 : Pt.BI w1 p n xs := hbiL.keptIf (fun k hk hl => hst1.fr.block k hl (hp k hk))
    have hz1 : Pt.II w1 q m zs := hzL.keptIf (fun k hk hl => hst1.fr.block k hl (hqv k hk))
    have hadd := Pt.sadd_ok hv1.ps hsm b o (by omega) p n c xs hbi1 hmay q m d zs hz1 hk hm8
    clear hrd hla2 hh hlk hm c6
    dsimp only
    go_wp2_with fail
    refine Calls.mono hadd ?_
    rintro e w2 ⟨rfl, pn, K', e1, e2, e3, e4, e5, hps, hst⟩
    obtain ⟨h2, hs2⟩ := hv1.pats hps hst
    have hV2 := hV1.stp hs2 rfl
    have c6 := h2.c6
    have e6 : T.x = some ⟨V.x, 0, none⟩ := hV.tx
    have hc6 : w2.cell? ⟨A.v, 6, none⟩ = some (.pointer (some ⟨V.x, 0, none⟩)) := by rw [← e6]; exact c6
    have hspq := hO.spot
    have hqlt : q2 < w2.heap.size := Nat.lt_of_lt_of_le hspq.2 hs2.fr.size
    have hqv2 : ¬ vf V q2 := fun hf => by have := hVg.lt q2 hf; omega
    have hqn : ¬ fp A { T with C := C', P := T.P ++ [pn], last := T.last + 1, K := K' } q2 := fun hf => by
      rcases hs2.new q2 hf with h3 | h3
      · exact hnf h3
      · have := hspq.2; omega
    have hbq : Pt.BI w2 (some ⟨q2, 0, none⟩) 128 (nowOf T b) := (hO.bi (by omega) (now_sect h b).2).pt.keptIf (fun k hk hl => hs2.fr.block k hl (fun hf => by simp [Pt.blkOf] at hk; subst hk; exact hnf hf))
    have hkp := keep_ok hV2 b (by omega) HL.out.2.2.1 L HL.out.1 HL.out.2.1 q2 cap (nowOf T b) hbq hqlt (fun hf => hf.elim hqn hqv2)
    clear hadd c6
    dsimp only
    go_wp2_with fail
    refine Calls.mono hkp ?_
    rintro e w3 ⟨rfl, hV3, hg3⟩
    have ho3 : ∀ k, k < w2.heap.size → k ≠ V.m → w3.heap[k]? = w2.heap[k]? := fun k hk hn => hg3.block k hk (fun e => hn (Option.some.inj e))
    have h3 := h2.else hg3.size (fun k hk => ho3 k (h2.lt k hk) (fun e => by subst e; exact hV2.out _ (.inr (.inl rfl)) hk))
    dsimp only
    go_wp2_with fail
    refine leaves_cons (f := 53) (args := #[.pointer (some ⟨A.v, 0, none⟩)]) (by simp) (by simp [go_sem]) ?_
    refine (h3.vheld.unlock .returning).mono ?_
    rintro e u' w'' ⟨rfl, rfl, rfl⟩
    have hs12 := stp_trans hst1 hs2
    exact ⟨_, results_tmp2 rfl _ _ _, by simp, _, _, h3.guard 0, hV3.guard 0, keep_stp hs12 HW.out hg3 hspq.1, ⟨⟨pn, e1, e2, e3, e4, e5, rfl⟩, rfl, rfl, by show C'.hi + C'.mi ≤ _; omega, rfl, rfl, rfl⟩, .inr ⟨HL.out.2.2.1, q2, cap, rfl⟩⟩
end
end Go.Proofs.YthdlpeejmmobmaaGreat
