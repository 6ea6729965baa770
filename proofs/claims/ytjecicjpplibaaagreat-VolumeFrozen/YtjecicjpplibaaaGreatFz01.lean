/- WR WA WB -/
import Derived.Test.YtjecicjpplibaaaGreatNw47
import Derived.Laws.IdiomRangeMap

/- A write and its end, with whatever view: what is read stays. -/
namespace Go.Proofs.YtjecicjpplibaaaGreat
open Go.RowKit Go.Maps
set_option linter.unusedVariables false
set_option maxRecDepth 100000

/-- A volume at rest, with whatever view: nothing on the way. -/
structure Rst (T : Vs) : Prop where
  gd : Pt.Gd T.P
  q : T.S.q = []
  Y : T.Y = fun _ => none
  blk : ∀ p ∈ T.P, p.blk < T.S.N
theorem Good.rst {T : Vs} (h : Good T) : Rst T := ⟨h.gd, h.q, h.Y, h.blk⟩
theorem rdy_inR {T : Vs} {x : Int} (hx : x ∈ rdy T (Pt.blks T.P)) (hg : Rst T) : ∃ b : Nat, x = (b : Int) ∧ b < T.S.N ∧ may T (b : Int) = true := by
  obtain ⟨h1, h2⟩ := List.mem_filter.1 hx
  obtain ⟨p, hp, rfl⟩ := List.mem_map.1 ((Pt.mem_rs _ _).1 h1)
  exact ⟨p.blk, rfl, hg.blk p hp, h2⟩

section
variable {g : Int} {B : Nat} {w w' : World} {A : At} {T T1 T2 : Vs} {b : Nat}
theorem chs_lenR (h : VI g B w A T) (b : Nat) (hg : Rst T) : (chs T.P (b : Int)).length ≤ 1000 := by
  have hn : (chs T.P (b : Int)).Nodup := Pt.pst_nodup T.P _ _ (by simp) (hg.gd.srt.sublist List.filter_sublist) (by simp)
  have hs : ∀ x ∈ chs T.P (b : Int), x ∈ (T.P.map fun p => (p.id : Int)) := fun x hx => by
    obtain ⟨p, hp, _, e⟩ := chs_mem hx
    exact List.mem_map.2 ⟨p, hp, e.symm⟩
  have h1 : (chs T.P (b : Int)).length ≤ (T.P.map fun p => (p.id : Int)).length := List.Nodup.length_le_of_subset hn hs
  rw [List.length_map] at h1
  have h2 := h.ps.sml
  have h3 : T.P.length ≤ T.last := h.ps.len
  omega

theorem wrote_qR (hg : Rst T) (hw : Wrote T T1 b) : T1.S.q = [⟨T.S.last + 1, b, outOf T b⟩] := by
  rw [hw.S]
  show T.S.q ++ _ = _
  rw [hg.q]
  rfl

theorem wrote_sR (h : VI g B w A T) (hg : Rst T) (hw : Wrote T T1 b) : ∃ s : Sn, s.zs = chs T.P (b : Int) ∧ T1.Y (b : Int) = some s ∧ s.id = T.S.last + 1 ∧ s.zs.all (Pt.kn T1.last) = true ∧ (Pt.still T1.P s.zs).any (Pt.bad T1.P s.zs) = false ∧ s.zs.length ≤ 1000 ∧ T1.Y = Pt.fput T.Y (b : Int) (some s) := by
  obtain ⟨s, e1, e2, e3⟩ := hw.Y
  refine ⟨s, e2, by rw [e3]; unfold Pt.fput; simp, e1, ?_, ?_, by rw [e2]; exact chs_lenR h b hg, e3⟩
  · rw [List.all_eq_true, e2, hw.last]
    intro x hx
    obtain ⟨p, hp, _, rfl⟩ := chs_mem hx
    have := h.ps.ids p hp
    exact Pt.kn_true.2 (by omega)
  · rw [e2, hw.P]
    exact Pt.bad_none hg.gd (hg.gd.planned (b : Int) []).1

theorem ended_allR (h : VI g B w A T) (hg : Rst T) (hw : Wrote T T1 b) (hm : may T (b : Int) = true) {T1' : Vs} (e1 : T1'.S = T1.S) (e2 : T1'.P = T1.P) (e3 : T1'.Y = T1.Y) (e4 : T1'.x = T1.x) (e5 : T1'.NW = T1.NW) {s : Sn} (hs : s.zs = chs T.P (b : Int)) (hY : T1.Y = Pt.fput T.Y (b : Int) (some s)) {ok : Bool} (he : Ended T1' T2 0 ⟨T.S.last + 1, b, outOf T b⟩ s ok) :
    Rst T2 ∧ allOf T2 = allOf T ∧ T2.P.length ≤ T.P.length ∧ (ok = true → T2.P.length < T.P.length) ∧ T2.S.last = T.S.last + 1 ∧ T2.NW ≤ T.NW + 1 ∧ T2.S.N = T.S.N := by
  have eS : T2.S = (T.S.put b (outOf T b)).done 0 ⟨T.S.last + 1, b, outOf T b⟩ ok := by rw [he.S, e1, hw.S]
  have eP : T2.P = if ok then Pt.kpP T.P (chs T.P (b : Int)) else T.P := by rw [he.P, e2, hw.P, hs]
  have hbad : (Pt.still T.P (chs T.P (b : Int))).any (Pt.bad T.P (chs T.P (b : Int))) = false := Pt.bad_none hg.gd (hg.gd.planned (b : Int) []).1
  have eYY : T2.Y = fun _ => none := by
    rw [he.Y, e3, hY, hg.Y]
    funext k
    unfold Pt.fput
    by_cases hk : k = (b : Int) <;> simp [hk]
  have hq : T2.S.q = [] := by
    rw [eS]
    show (T.S.q ++ [_]).eraseIdx 0 = []
    rw [hg.q]
    rfl
  refine ⟨⟨?_, hq, eYY, ?_⟩, ?_, ?_, ?_, by rw [eS]; rfl, by rw [he.N, e5]; exact hw.N, by rw [eS]; rfl⟩
  · rw [eP]
    cases ok
    · exact hg.gd
    · exact hg.gd.kp hbad
  · intro p hp
    have hN : T2.S.N = T.S.N := by rw [eS]; rfl
    rw [hN]
    rw [eP] at hp
    cases ok
    · exact hg.blk p hp
    · exact hg.blk p (Pt.mem_kpP.1 hp).1
  · unfold allOf
    have hN : T2.S.N = T.S.N := by rw [eS]; rfl
    rw [hN]
    refine List.map_congr_left fun b' _ => ?_
    unfold nowOf
    rw [eS, eP]
    cases ok
    · rfl
    · exact now_same hg.gd (fun p hp => (h.ps.ids p hp).2.2.2.2) T.S.f (fun b => (h.sy.ok.sec b).1) b b'
  · rw [eP]
    cases ok
    · exact Nat.le_refl _
    · exact List.length_filter_le _ _
  · rintro rfl
    rw [eP]
    unfold may at hm
    have hc : chs T.P (b : Int) ≠ [] := by
      intro e
      rw [e] at hm
      simp at hm
    obtain ⟨x, hx⟩ := List.exists_mem_of_ne_nil _ hc
    obtain ⟨p, hp, _, rfl⟩ := chs_mem hx
    show (T.P.filter _).length < _
    rw [List.length_filter_lt_length_iff_exists]
    exact ⟨p, hp, by simp [hx]⟩
end
end Go.Proofs.YtjecicjpplibaaaGreat

/- A frozen view in memory, beside its volume. -/
namespace Go.Proofs.YtjecicjpplibaaaGreat
open Go.RowKit Go.Maps
set_option linter.unusedVariables false
set_option maxRecDepth 100000

/-- What a view keeps of a block. -/
structure Kp where
  g : Nat
  c : Nat
  xs : List Int
def Kp.v (k : Kp) : Value := .slice (some ⟨k.g, 0, none⟩) 128 k.c
structure Vw where
  x : Nat
  m : Nat
  room : Nat
  K : Int → Option Kp
/-- The view's own blocks. -/
def vf (V : Vw) (k : Nat) : Prop := k = V.x ∨ k = V.m ∨ ∃ b s, V.K b = some s ∧ s.g = k
/-- A view that is whole, beside the volume. -/
structure VW (w : World) (A : At) (T : Vs) (V : Vw) : Prop where
  tx : T.x = some ⟨V.x, 0, none⟩
  row : w.heap[V.x]? = some (.cells #[.int .i64 (V.room : Int), .map (some V.m), .bool false] 96 (0, 0))
  mf : Pt.Mf w V.m V.room (fun b => (V.K b).map Kp.v)
  bi : ∀ b s, V.K b = some s → Pt.BI w (some ⟨s.g, 0, none⟩) 128 s.xs
  lt : ∀ k, vf V k → k < w.heap.size
  out : ∀ k, vf V k → ¬ fp A T k
  ne : V.m ≠ V.x ∧ ∀ b s, V.K b = some s → s.g ≠ V.m ∧ s.g ≠ V.x
  rm : V.room ≤ 65536
def fpv (A : At) (T : Vs) (V : Vw) (k : Nat) : Prop := fp A T k ∨ vf V k

section
variable {g : Int} {B : Nat} {w w' : World} {A : At} {T T' : Vs} {V : Vw}
theorem VW.stay (h : VW w A T V) (hs : w.heap.size ≤ w'.heap.size) (hb : ∀ k, vf V k → w'.heap[k]? = w.heap[k]?) (hx : T'.x = T.x) (ho : ∀ k, vf V k → ¬ fp A T' k) : VW w' A T' V where
  tx := hx.trans h.tx
  row := (hb _ (.inl rfl)).trans h.row
  mf := h.mf.kept (hb _ (.inr (.inl rfl)))
  bi := fun b s hs' => (h.bi b s hs').keptIf (fun k hk _ => hb k (.inr (.inr ⟨b, s, hs', by simpa [Pt.blkOf] using hk⟩)))
  lt := fun k hk => Nat.lt_of_lt_of_le (h.lt k hk) hs
  out := ho
  ne := h.ne
  rm := h.rm
theorem VW.stp (h : VW w A T V) (hs : Pt.Stp (fp A T) (fp A T') w w') (hx : T'.x = T.x) : VW w' A T' V :=
  h.stay hs.fr.size (fun k hk => hs.fr.block k (h.lt k hk) (h.out k hk)) hx (fun k hk hf => by
    rcases hs.new k hf with h1 | h1
    · exact h.out k hk h1
    · have := h.lt k hk; omega)
theorem VW.later (h : VW w A T V) (hb : Below w.heap.size w w') : VW w' A T V := h.stay hb.size (fun k hk => hb.block k (h.lt k hk)) rfl h.out
theorem VW.guard (h : VW w A T V) (g : Int) : VW (w.setCell ⟨A.v, 0, none⟩ (.int .i32 g)) A T V :=
  h.stay (by simp) (fun k hk => Below.heap_setCell _ _ _ _ (fun e => h.out k hk (.inl e))) rfl h.out
theorem VW.c0 (h : VW w A T V) : w.cell? ⟨V.x, 0, none⟩ = some (.int .i64 (V.room : Int)) := cell_of_row w V.x 0 _ 96 _ h.row
theorem VW.c1 (h : VW w A T V) : w.cell? ⟨V.x, 1, none⟩ = some (.map (some V.m)) := cell_of_row w V.x 1 _ 96 _ h.row
theorem VW.c2 (h : VW w A T V) : w.cell? ⟨V.x, 2, none⟩ = some (.bool false) := cell_of_row w V.x 2 _ 96 _ h.row

/-- How many keys a map has. -/
theorem mf_len {mb N : Nat} {f : Int → Option Value} (h : Pt.Mf w mb N f) : ∃ es c, w.heap[mb]? = some (.map es c) ∧ es.size ≤ N := by
  obtain ⟨D, ⟨es, clock, hb, F, hs, rfl⟩, hN, _⟩ := h
  refine ⟨es, clock, hb, ?_⟩
  rw [size_eq, length_sorted] at hN
  simpa using hN

theorem zero42 (w : World) : (zeroValue 42).run Tryz.prog w = .ok (.slice none 0 0) w := by kernel_rfl

set_option maxHeartbeats 400000 in
theorem whole_some (h : VW w A T V) : Calls Tryz.prog 59 #[.pointer (some ⟨V.x, 0, none⟩)] w fun e w' => e = .returned (.bool true) ∧ w' = w := by
  have c2 := h.c2
  clear h
  go_enter Tryz.func59, Tryz.ntmps59
  go_wp2
  go_ret
  exact ⟨rfl, rfl⟩

set_option maxHeartbeats 400000 in
theorem lacks_some (h : VW w A T V) (b : Nat) (hb : b ≤ 1000) : Calls Tryz.prog 65 #[.pointer (some ⟨V.x, 0, none⟩), .int .i64 (b : Int)] w fun e w' => e = .returned (.bool (V.K (b : Int)).isNone) ∧ w' = w := by
  have hw := whole_some h
  have c1 := h.c1
  have hl := h.mf.get (t := 94) (e := 42) Tryz.underlying94 (zero42 w) (zd := .agg [.lit (.int .i64 0), .lit (.int .i64 0)]) rfl (b : Int) ⟨by omega, by omega⟩
  have q42 := eqlNil w
  clear h
  cases hk : V.K (b : Int) with
  | none =>
    rw [hk] at hl
    have hl2 : (Instr.lookup 94 (.map (some V.m)) (.int .i64 (b : Int)) false).run Tryz.prog w = .ok (.slice none 0 0) w := hl
    clear hl hk
    go_enter Tryz.func65, Tryz.ntmps65
    go_wp2_with (first | (go_at_call 59; refine same_at hw ?_))
    go_ret
    exact ⟨rfl, rfl⟩
  | some s =>
    rw [hk] at hl
    have hl2 : (Instr.lookup 94 (.map (some V.m)) (.int .i64 (b : Int)) false).run Tryz.prog w = .ok (.slice (some ⟨s.g, 0, none⟩) 128 s.c) w := hl
    clear hl hk
    go_enter Tryz.func65, Tryz.ntmps65
    go_wp2_with (first | (go_at_call 59; refine same_at hw ?_))
    go_ret
    exact ⟨rfl, rfl⟩

/-- A block is kept that was lacking. -/
theorem keep_ok (h : VW w A T V) (b : Nat) (hb : b ≤ 1000) (hk : V.K (b : Int) = none) (L : List Int) (hL : ∀ k, Pt.I64 k → V.K k ≠ none → k ∈ L) (hLr : L.length < V.room) (q c : Nat) (xs : List Int) (hbi : Pt.BI w (some ⟨q, 0, none⟩) 128 xs) (hq : q < w.heap.size) (hqf : ¬ fpv A T V q) :
    Calls Tryz.prog 67 #[.pointer (some ⟨V.x, 0, none⟩), .int .i64 (b : Int), .slice (some ⟨q, 0, none⟩) 128 c] w fun e w' => e = .returned (.tuple #[]) ∧
      VW w' A T { V with K := Pt.fput V.K (b : Int) (some ⟨q, c, xs⟩) } ∧ w.grownBy w' (some V.m) := by
  have c0 := h.c0
  have c1 := h.c1
  have hcnt := h.mf.count L (fun k hk hn => hL k hk (fun e => hn (by rw [e]; rfl)))
  obtain ⟨es, cl, hm, hes⟩ := mf_len hcnt
  have hrm := h.rm
  have hlt : ¬ ((V.room : Int) ≤ (es.size : Int)) := by omega
  obtain ⟨w2, hrun, hM, hgd⟩ := (show Pt.Mf w.drew V.m L.length _ from hcnt.kept rfl).put (by omega) (t := 94) (e := 42) Tryz.underlying94 (b : Int) ⟨by omega, by omega⟩ (.slice (some ⟨q, 0, none⟩) 128 c) (d := .agg [.lit (.int .i64 q), .lit (.int .i64 0), .lit (.int .i64 (128 : Nat)), .lit (.int .i64 c)]) rfl
  have hg : w.grownBy w2 (some V.m) := ⟨hgd.os, hgd.tape, hgd.output, hgd.size, hgd.block⟩
  have hdec : decide ((V.room : Int) ≤ (es.size : Int)) = false := decide_eq_false hlt
  have hge : decide (V.room ≤ es.size) = false := decide_eq_false (by omega)
  have HV : Hid (VW w A T V) := h
  have HX : Hid (∀ k, k < w.heap.size → k ≠ V.m → w2.heap[k]? = w.heap[k]?) := fun k hk hn => hg.block k hk (fun e => hn (Option.some.inj e))
  have HM : Hid (Pt.Mf w2 V.m V.room (fun k => (Pt.fput V.K (b : Int) (some ⟨q, c, xs⟩) k).map Kp.v)) := by
    have h1 : Pt.Mf w2 V.m (if ((V.K (b : Int)).map Kp.v).isSome then L.length else L.length + 1) (Pt.fput (fun k => (V.K k).map Kp.v) (b : Int) (some (.slice (some ⟨q, 0, none⟩) 128 c))) := hM
    rw [hk] at h1
    have h2 : Pt.Mf w2 V.m (L.length + 1) (Pt.fput (fun k => (V.K k).map Kp.v) (b : Int) (some (.slice (some ⟨q, 0, none⟩) 128 c))) := h1
    refine (h2.mono (by omega)).congr fun k _ => ?_
    unfold Pt.fput
    by_cases e : k = (b : Int)
    · rw [if_pos e, if_pos e]; rfl
    · rw [if_neg e, if_neg e]
  clear h hM hcnt hk hL hLr hes hlt hrm
  go_enter Tryz.func67, Tryz.ntmps67
  have hlen : ∀ ty, (Builtin.len_ #[94] ty #[.map (some V.m)]).run Tryz.prog w.drew = .ok (.int .i64 (es.size : Int)) w.drew := fun ty => run_len_map (P := Tryz.prog) w.drew 94 ty V.m es cl (by kernel_rfl) hm
  have c0d : w.drew.cell? ⟨V.x, 0, none⟩ = some (.int .i64 (V.room : Int)) := c0
  have c1d : w.drew.cell? ⟨V.x, 1, none⟩ = some (.map (some V.m)) := c1
  go_wp2_with fail
  go_region_held3 (fun w' => w'.cell? ⟨V.x, 0, none⟩ = some (.int .i64 (V.room : Int)) ∧ w'.cell? ⟨V.x, 1, none⟩ = some (.map (some V.m)) ∧ ∀ ty, (Builtin.len_ #[94] ty #[.map (some V.m)]).run Tryz.prog w' = .ok (.int .i64 (es.size : Int)) w') (exact ⟨c0d, c1d, hlen⟩) (fail)
  go_wp2_with fail
  go_end0
  have h := HV.out
  have ho := HX.out
  have hqne : q ≠ V.m ∧ q ≠ V.x := ⟨fun e => hqf (.inr (.inr (.inl e))), fun e => hqf (.inr (.inl e))⟩
  have hxm := h.lt V.x (.inl rfl)
  refine ⟨rfl, ⟨h.tx, (ho _ hxm (fun e => h.ne.1 e.symm)).trans h.row, HM.out, ?_, ?_, ?_, ⟨h.ne.1, ?_⟩, h.rm⟩, hg⟩
  · intro k s hs
    have hs' : Pt.fput V.K (b : Int) (some ⟨q, c, xs⟩) k = some s := hs
    unfold Pt.fput at hs'
    split at hs'
    · cases hs'
      exact hbi.keptIf (fun j hj hl => ho j hl (by simp [Pt.blkOf] at hj; omega))
    · exact (h.bi k s hs').keptIf (fun j hj hl => ho j hl (by simp [Pt.blkOf] at hj; have := (h.ne.2 k s hs').1; omega))
  · rintro k (hk | hk | ⟨b', s, hs, hk⟩)
    · exact Nat.lt_of_lt_of_le (h.lt k (.inl hk)) hg.size
    · exact Nat.lt_of_lt_of_le (h.lt k (.inr (.inl hk))) hg.size
    · have hs' : Pt.fput V.K (b : Int) (some ⟨q, c, xs⟩) b' = some s := hs
      unfold Pt.fput at hs'
      split at hs'
      · cases hs'
        have := hg.size
        simp at hk
        omega
      · exact Nat.lt_of_lt_of_le (h.lt k (.inr (.inr ⟨b', s, hs', hk⟩))) hg.size
  · rintro k (hk | hk | ⟨b', s, hs, hk⟩)
    · exact h.out k (.inl hk)
    · exact h.out k (.inr (.inl hk))
    · have hs' : Pt.fput V.K (b : Int) (some ⟨q, c, xs⟩) b' = some s := hs
      unfold Pt.fput at hs'
      split at hs'
      · cases hs'
        simp at hk
        subst hk
        exact fun hf => hqf (.inl hf)
      · exact h.out k (.inr (.inr ⟨b', s, hs', hk⟩))
  · intro b' s hs
    have hs' : Pt.fput V.K (b : Int) (some ⟨q, c, xs⟩) b' = some s := hs
    unfold Pt.fput at hs'
    split at hs'
    · cases hs'
      exact hqne
    · exact h.ne.2 b' s hs'
end
end Go.Proofs.YtjecicjpplibaaaGreat

/- Freeze, Old, Undo, Kept, Broken. -/
namespace Go.Proofs.YtjecicjpplibaaaGreat
open Go.RowKit Go.Maps
set_option linter.unusedVariables false
set_option maxRecDepth 100000

section
variable {g : Int} {B : Nat} {w w' : World} {A : At} {T T' : Vs} {V : Vw}
/-- Another view. -/
theorem VI.setx (h : VI g B w A T) (x' : Option Addr) : VI g B (w.setCell ⟨A.v, 6, none⟩ (.pointer x')) A { T with x := x' } := by
  have ho : ∀ k, (wfoot A T k ∨ dfoot A T k ∨ pfoot A T k) → (w.setCell ⟨A.v, 6, none⟩ (.pointer x')).heap[k]? = w.heap[k]? := fun k hk => (Frame.setCell (X := fun i => i = A.v) w (p := ⟨A.v, 6, none⟩) (.pointer x') rfl).block k (h.lt k (.inr hk)) (h.nv k hk)
  have hs : (w.setCell ⟨A.v, 6, none⟩ (.pointer x')).heap.size = w.heap.size := by simp
  exact {
    row := heap_setCell_same w A.v 6 _ 76 _ h.row
    cd := ⟨⟨h.cd.ci.toCW.kept (fun k hk => ho k (.inr (.inl (.inr hk)))), h.cd.ci.ord, h.cd.ci.us⟩, h.cd.di.kept (fun k hk => ho k (.inr (.inl (.inl hk)))), h.cd.ne⟩
    sy := h.sy
    ps := h.ps.else (by omega) (fun k hk _ => ho k (.inr (.inr hk)))
    wy := h.wy.kept (ho _ (.inl (.inl rfl)))
    wr := fun b s hs' => ⟨(h.wr b s hs').1.keptIf (fun k hk _ => ho k (.inl (.inr ⟨b, s, hs', hk⟩))), (h.wr b s hs').2⟩
    wl := fun k hk => by rw [hs]; exact h.wl k hk
    nm := h.nm
    nv := h.nv
    nw := h.nw
    nd := h.nd
    lo := ⟨h.lo.1, by rw [hs]; exact h.lo.2⟩ }

set_option maxHeartbeats 2000000 in
theorem vFreeze_ok (h : VI 0 B w A T) (hx : T.x = none) (room : Nat) (hr : room ≤ 65536) :
    Calls Tryz.prog 20 #[.pointer (some ⟨A.v, 0, none⟩), .int .i64 (room : Int)] w fun e w' => e = .returned (.int .i64 0) ∧ ∃ V, VI 0 B w' A { T with x := some ⟨V.x, 0, none⟩ } ∧ VW w' A { T with x := some ⟨V.x, 0, none⟩ } V ∧ V.K = (fun _ => none) ∧ V.room = room ∧ w.heap.size ≤ V.x ∧ w.heap.size ≤ V.m ∧ Pt.Stp (fp A T) (fp A T) w w' := by
  have hg := h.guard 1
  have hm := vmade_ok h.vrow.made
  have hlk := h.vrow.lock
  have c6 := hg.c6
  rw [hx] at c6
  obtain ⟨WL, hWL⟩ : ∃ WL, w.setCell ⟨A.v, 0, none⟩ (.int .i32 1) = WL := ⟨_, rfl⟩
  rw [hWL] at hg hlk c6
  have hsz : WL.heap.size = w.heap.size := by rw [← hWL]; simp
  have d1 : ¬ ((room : Int) < 0) := by omega
  have d2 : ¬ ((65536 : Int) < (room : Int)) := by omega
  have d3 : decide (65536 < room) = false := decide_eq_false (by omega)
  have hfz : WL.frozen? ⟨A.v, 6, none⟩ = false := by simp [World.frozen?, hg.row]
  have hmm := @run_makeMap Tryz.prog
  obtain ⟨W2, hW2⟩ : ∃ W2, (WL.alloc (.map #[] 0)).alloc (.cells #[.int .i64 (room : Int), .map (some WL.heap.size), .bool false] 96) = W2 := ⟨_, rfl⟩
  have hb1 : Below WL.heap.size WL (WL.alloc (.map #[] 0)) := (Below.refl _ _).alloc (Nat.le_refl _) _
  have hb2 : Below WL.heap.size WL W2 := by rw [← hW2]; exact hb1.alloc hb1.size _
  have hs2 : W2.heap.size = WL.heap.size + 2 := by rw [← hW2]; simp
  have h2 := hg.later hb2
  have c62 : W2.cell? ⟨A.v, 6, none⟩ = some (.pointer none) := by have := h2.c6; rw [hx] at this; exact this
  have fz2 : W2.frozen? ⟨A.v, 6, none⟩ = false := by simp [World.frozen?, h2.row]
  have hrx : W2.heap[WL.heap.size + 1]? = some (.cells #[.int .i64 (room : Int), .map (some WL.heap.size), .bool false] 96 (0, 0)) := by rw [← hW2]; exact at_new (by simp)
  have hmx : Pt.Mf W2 WL.heap.size room (fun _ => none) := by
    refine (Pt.mf_made WL room).kept ?_
    rw [← hW2]
    exact heap_alloc_old _ _ (by simp)
  have hAv := hg.lt A.v (.inl rfl)
  have h3 := h2.setx (some ⟨WL.heap.size + 1, 0, none⟩)
  have HS : Hid (WL.heap.size = w.heap.size ∧ W2.heap.size = WL.heap.size + 2 ∧ A.v < WL.heap.size) := ⟨hsz, hs2, hAv⟩
  have HV : Hid (VW (W2.setCell ⟨A.v, 6, none⟩ (.pointer (some ⟨WL.heap.size + 1, 0, none⟩))) A { T with x := some ⟨WL.heap.size + 1, 0, none⟩ } ⟨WL.heap.size + 1, WL.heap.size, room, fun _ => none⟩) := by
    have ho : ∀ k, k ≠ A.v → (W2.setCell ⟨A.v, 6, none⟩ (.pointer (some ⟨WL.heap.size + 1, 0, none⟩))).heap[k]? = W2.heap[k]? := fun k hk => Below.heap_setCell _ _ _ _ hk
    refine ⟨rfl, (ho (WL.heap.size + 1) (by omega)).trans hrx, hmx.kept (ho WL.heap.size (by omega)), (fun b s hs => by cases hs), ?_, ?_, ⟨by show WL.heap.size ≠ WL.heap.size + 1; omega, fun b s hs => by cases hs⟩, hr⟩
    · rintro k (hk | hk | ⟨b, s, hs, _⟩)
      · have hk' : k = WL.heap.size + 1 := hk
        rw [World.size_setCell]; omega
      · have hk' : k = WL.heap.size := hk
        rw [World.size_setCell]; omega
      · cases hs
    · rintro k (hk | hk | ⟨b, s, hs, _⟩) hf
      · have hk' : k = WL.heap.size + 1 := hk
        have := hg.lt k hf; omega
      · have hk' : k = WL.heap.size := hk
        have := hg.lt k hf; omega
      · cases hs
  have HB : Hid (Below WL.heap.size WL W2) := hb2
  clear hsz hs2 hrx hmx hAv hb1 hb2 h2
  go_enter_defers Tryz.func20, Tryz.ntmps20
  go_wp2_with (first
    | (go_at_call 38; refine same_at hm ?_)
    | (go_at_call 39; refine Calls.mono hlk ?_; rintro e w' ⟨rfl, hw'⟩; subst w'))
  refine leaves_cons (f := 40) (args := #[.pointer (some ⟨A.v, 0, none⟩)]) (by simp) (by simp [go_sem]) ?_
  refine (h3.vheld.unlock .returning).mono ?_
  rintro e u' w'' ⟨rfl, rfl, rfl⟩
  refine ⟨_, results_tmp rfl _ _ _, rfl, ⟨WL.heap.size + 1, WL.heap.size, room, fun _ => none⟩, h3.guard 0, HV.out.guard 0, rfl, rfl, ?_, ?_, ?_⟩
  · show w.heap.size ≤ WL.heap.size + 1
    have := HS.out.1; omega
  · show w.heap.size ≤ WL.heap.size
    have := HS.out.1; omega
  · have f1 : Pt.Frame (fp A T) WL W2 := (frame_of_below HB.out (X := fp A T)).pt fun _ h => h
    have f2 : Pt.Frame (fp A T) W2 (W2.setCell ⟨A.v, 6, none⟩ (.pointer (some ⟨WL.heap.size + 1, 0, none⟩))) := (Frame.setCell (X := fp A T) W2 (p := ⟨A.v, 6, none⟩) _ (.inl rfl)).pt fun _ h => h
    have hst : Pt.Stp (fp A T) (fp A T) WL (W2.setCell ⟨A.v, 6, none⟩ (.pointer (some ⟨WL.heap.size + 1, 0, none⟩))) := stp_trans ⟨f1, fun k hk => .inl hk⟩ ⟨f2, fun k hk => .inl hk⟩
    exact (unguard (w := w) (T := T) (T' := { T with x := some ⟨WL.heap.size + 1, 0, none⟩ }) (B := B) (by rw [hWL]; exact hst) h3).2

set_option maxHeartbeats 2000000 in
theorem vBroken_ok (h : VI 0 B w A T) (hV : VW w A T V) :
    Calls Tryz.prog 26 #[.pointer (some ⟨A.v, 0, none⟩)] w fun e w' => e = .returned (.bool false) ∧ w' = w := by
  have hg := h.guard 1
  have hV1 := hV.guard 1
  have hm := vmade_ok h.vrow.made
  have hlk := h.vrow.lock
  have c6 := hg.c6
  rw [hV.tx] at c6
  have x2 := hV1.c2
  have hvr := h.vrow
  have hvh := hg.vheld
  go_enter_defers Tryz.func26, Tryz.ntmps26
  go_wp2_with (first
    | (go_at_call 38; refine same_at hm ?_)
    | (go_at_call 39; refine Calls.mono hlk ?_; rintro e w' ⟨rfl, rfl⟩))
  refine leaves_cons (f := 40) (args := #[.pointer (some ⟨A.v, 0, none⟩)]) (by simp) (by simp [go_sem]) ?_
  refine (hvh.unlock .returning).mono ?_
  rintro e u' w'' ⟨rfl, rfl, rfl⟩
  exact ⟨_, results_tmp rfl _ _ _, rfl, hvr.back⟩

set_option maxHeartbeats 2000000 in
theorem vKept_ok (h : VI 0 B w A T) (hV : VW w A T V) :
    Calls Tryz.prog 27 #[.pointer (some ⟨A.v, 0, none⟩)] w fun e w' => ∃ n : Nat, e = .returned (.int .i64 (n : Int)) ∧ n ≤ V.room ∧ w' = w := by
  have hg := h.guard 1
  have hV1 := hV.guard 1
  have hm := vmade_ok h.vrow.made
  have hlk := h.vrow.lock
  have c6 := hg.c6
  rw [hV.tx] at c6
  have x1 := hV1.c1
  have hvr := h.vrow
  have hvh := hg.vheld
  obtain ⟨es, cl, hmb, hes⟩ := mf_len hV1.mf
  have hlen : ∀ ty, (Builtin.len_ #[94] ty #[.map (some V.m)]).run Tryz.prog (w.setCell ⟨A.v, 0, none⟩ (.int .i32 1)) = .ok (.int .i64 (es.size : Int)) (w.setCell ⟨A.v, 0, none⟩ (.int .i32 1)) := fun ty => run_len_map (P := Tryz.prog) _ 94 ty V.m es cl (by kernel_rfl) hmb
  go_enter_defers Tryz.func27, Tryz.ntmps27
  go_wp2_with (first
    | (go_at_call 38; refine same_at hm ?_)
    | (go_at_call 39; refine Calls.mono hlk ?_; rintro e w' ⟨rfl, rfl⟩))
  refine leaves_cons (f := 40) (args := #[.pointer (some ⟨A.v, 0, none⟩)]) (by simp) (by simp [go_sem]) ?_
  refine (hvh.unlock .returning).mono ?_
  rintro e u' w'' ⟨rfl, rfl, rfl⟩
  exact ⟨_, results_tmp rfl _ _ _, es.size, rfl, hes, hvr.back⟩

/-- What block b had when it was frozen. -/
def oldOf (T : Vs) (V : Vw) (b : Nat) : List Int := match V.K (b : Int) with | some s => s.xs | none => nowOf T b

set_option maxHeartbeats 2000000 in
theorem vOld_ok (h : VI 0 B w A T) (hV : VW w A T V) (b : Nat) (hb : b < T.S.N) (hc : T.C.hi + T.C.mi < 4611686018427387904) :
    Calls Tryz.prog 24 #[.pointer (some ⟨A.v, 0, none⟩), .int .i64 (b : Int)] w fun e w' => ∃ q cap C', e = .returned (.tuple #[.slice (some ⟨q, 0, none⟩) 128 cap, .int .i64 0]) ∧ Own w.heap.size w' q 128 cap (oldOf T V b) ∧
       VI 0 B w' A { T with C := C' } ∧ Pt.Stp (fp A T) (fp A { T with C := C' }) w w' ∧ C'.hi + C'.mi = T.C.hi + T.C.mi + 1 := by
  have hg := h.guard 1
  have hV1 := hV.guard 1
  have hm := vmade_ok h.vrow.made
  have hlk := h.vrow.lock
  have c6 := hg.c6
  rw [hV.tx] at c6
  have hwh := whole_some hV1
  have hrd := vrd_ok hg b hb hc
  have hN12 := h.cd.ci.N12
  obtain ⟨WL, hWL⟩ : ∃ WL, w.setCell ⟨A.v, 0, none⟩ (.int .i32 1) = WL := ⟨_, rfl⟩
  have hsz : WL.heap.size = w.heap.size := by rw [← hWL]; simp
  rw [hWL] at hg hV1 hlk c6 hwh hrd
  go_enter_defers Tryz.func24, Tryz.ntmps24
  go_wp2_with (first
    | (go_at_call 38; refine same_at hm ?_)
    | (go_at_call 39; refine Calls.mono hlk ?_; rintro e w' ⟨rfl, hw'⟩; subst w')
    | (go_at_call 59; refine same_at hwh ?_))
  refine Calls.mono hrd ?_
  rintro e w1 ⟨q2, cap, C', rfl, hO, hnf, hv1, hst, hcn⟩
  have hVv := hV1.stp hst rfl
  have c6' := hv1.c6
  have e6 : ({ T with C := C' } : Vs).x = some ⟨V.x, 0, none⟩ := hV.tx
  rw [e6] at c6'
  have x1 := hVv.c1
  have hl := hVv.mf.get (t := 94) (e := 42) Tryz.underlying94 (zero42 w1) (zd := .agg [.lit (.int .i64 0), .lit (.int .i64 0)]) rfl (b : Int) ⟨by omega, by omega⟩
  have HS : Hid (WL.heap.size = w.heap.size) := hsz
  have HWL : Hid (w.setCell ⟨A.v, 0, none⟩ (.int .i32 1) = WL) := hWL
  clear hrd hwh hlk hm hsz hWL e6
  cases hk : V.K (b : Int) with
  | none =>
    have HO : Hid (oldOf T V b = nowOf T b) := by show _ = _; unfold oldOf; rw [hk]
    rw [hk] at hl
    have hl2 : (Instr.lookup 94 (.map (some V.m)) (.int .i64 (b : Int)) false).run Tryz.prog w1 = .ok (.slice none 0 0) w1 := hl
    clear hl hk
    dsimp only
    go_wp2_with fail
    refine leaves_cons (f := 40) (args := #[.pointer (some ⟨A.v, 0, none⟩)]) (by simp) (by simp [go_sem]) ?_
    refine (hv1.vheld.unlock .returning).mono ?_
    rintro e u' w'' ⟨rfl, rfl, rfl⟩
    have hst' := hst
    rw [← HWL.out] at hst'
    obtain ⟨hv0, hs0⟩ := unguard hst' hv1
    refine ⟨_, results_tmp2 rfl _ _ _, q2, cap, C', rfl, ?_, hv0, hs0, hcn⟩
    rw [HO.out]
    refine own_set ?_ (fun e => hnf (.inl e))
    rw [HS.out] at hO
    exact hO
  | some s =>
    have HO : Hid (oldOf T V b = s.xs) := by show _ = _; unfold oldOf; rw [hk]
    have hbi := hVv.bi _ s hk
    have hcl := Pt.bclone_ok (some ⟨s.g, 0, none⟩) 128 s.c s.xs w1 hbi (by omega)
    rw [hk] at hl
    have hl2 : (Instr.lookup 94 (.map (some V.m)) (.int .i64 (b : Int)) false).run Tryz.prog w1 = .ok (.slice (some ⟨s.g, 0, none⟩) 128 s.c) w1 := hl
    clear hl hk
    dsimp only
    go_wp2_with fail
    refine Calls.mono hcl ?_
    rintro e w2 ⟨q3, cap3, rfl, hO3, hb3⟩
    have hv2 := hv1.later hb3
    dsimp only
    go_wp2_with fail
    refine leaves_cons (f := 40) (args := #[.pointer (some ⟨A.v, 0, none⟩)]) (by simp) (by simp [go_sem]) ?_
    refine (hv2.vheld.unlock .returning).mono ?_
    rintro e u' w'' ⟨rfl, rfl, rfl⟩
    have hst' := stp_below hst hb3
    rw [← HWL.out] at hst'
    obtain ⟨hv0, hs0⟩ := unguard hst' hv2
    have hsp := hO3.spot
    refine ⟨_, results_tmp2 rfl _ _ _, q3, cap3, C', rfl, ?_, hv0, hs0, hcn⟩
    rw [HO.out]
    have hle : w.heap.size ≤ w1.heap.size := by rw [← HS.out]; exact hst.fr.size
    refine own_set (Own.base hO3 hle) (fun e => ?_)
    have := hv1.lt A.v (.inl rfl)
    omega

/-- Undo of what came last, nothing being on the way. -/
theorem next_empty (w : World) (ty : TypeId) (bm clock : Nat) (hb : w.heap[bm]? = some (.map #[] clock)) :
    (Instr.next (.pointer (some ⟨w.heap.size, 0, none⟩)) false ty).run Tryz.prog (w.alloc (.mapIter (some bm) clock #[] clock)) = .ok (.tuple #[.bool false]) (w.alloc (.mapIter (some bm) clock #[] clock)) := by
  rcases run_next_map (P := Tryz.prog) w ty bm clock clock #[] #[] clock hb (by simp) (Nat.le_refl _) with ⟨_, h⟩ | ⟨e, he, _⟩
  · exact h
  · simp [leftOf] at he

set_option maxHeartbeats 2000000 in
theorem vUndo_ok (h : VI 0 B w A T) (hY : T.Y = fun _ => none) (l : Nat) (hl : l ≤ T.last) (hall : ∀ k : Int, (l : Int) < k → k ≤ (T.last : Int) → (Pt.fP T.P k).isSome = true) :
    Calls Tryz.prog 23 #[.pointer (some ⟨A.v, 0, none⟩), .int .i64 (l : Int)] w fun e w' => e = .returned (.int .i64 0) ∧ ∃ K', VI 0 B w' A { T with P := Pt.upP T.P l, last := l, K := K' } ∧ Pt.Stp (fp A T) (fp A { T with P := Pt.upP T.P l, last := l, K := K' }) w w' := by
  have hg := h.guard 1
  have hm := vmade_ok h.vrow.made
  have hlk := h.vrow.lock
  have c4 := hg.c4
  have hun := Pt.undo_ok hg.ps l hl
  obtain ⟨WL, hWL⟩ : ∃ WL, w.setCell ⟨A.v, 0, none⟩ (.int .i32 1) = WL := ⟨_, rfl⟩
  rw [hWL] at hg hlk c4 hun
  go_enter_defers Tryz.func23, Tryz.ntmps23
  go_wp2_with (first
    | (go_at_call 38; refine same_at hm ?_)
    | (go_at_call 39; refine Calls.mono hlk ?_; rintro e w' ⟨rfl, hw'⟩; subst w'))
  refine Calls.mono hun ?_
  rintro e w1 (⟨⟨hno, _⟩, _⟩ | ⟨⟨_, rfl⟩, K', hPS, hSt⟩)
  · exact absurd hall hno
  obtain ⟨h1, hs1⟩ := hg.pats hPS hSt
  have c5 := h1.c5
  have hwy : Pt.Mf w1 A.m T.NW (fun b => (T.Y b).map Sn.v) := h1.wy
  obtain ⟨es, cl, hmb, hes⟩ := mf_len (hwy.count [] (fun k _ hn => by rw [hY] at hn; exact absurd rfl hn))
  obtain rfl : es = #[] := Array.eq_empty_of_size_eq_zero (Nat.le_zero.1 hes)
  have hr := run_range_map (P := Tryz.prog) w1 73 3 98 A.m #[] cl Tryz.underlying73 hmb
  have hne := fun ty => next_empty w1 ty A.m cl hmb
  have hb2 : Below w1.heap.size w1 (w1.alloc (.mapIter (some A.m) cl #[] cl)) := (Below.refl _ _).alloc (Nat.le_refl _) _
  have h2 := h1.later hb2
  have HWL : Hid (w.setCell ⟨A.v, 0, none⟩ (.int .i32 1) = WL) := hWL
  clear hun hlk hm hWL hmb hwy hes hall hY
  dsimp only
  go_wp2_with fail
  go_loopw [] (fun wr => wr = w1.alloc (.mapIter (some A.m) cl #[] cl)) (fun _ => 0)
  case atStart => rfl
  case round =>
    have hwr := hrel
    subst hwr
    go_wp2_with fail
    refine leaves_cons (f := 40) (args := #[.pointer (some ⟨A.v, 0, none⟩)]) (by simp) (by simp [go_sem]) ?_
    refine (h2.vheld.unlock .returning).mono ?_
    rintro e u' w'' ⟨rfl, rfl, rfl⟩
    have hst' := stp_below hs1 hb2
    rw [← HWL.out] at hst'
    obtain ⟨hv0, hs0⟩ := unguard hst' h2
    exact ⟨_, results_tmp rfl _ _ _, rfl, K', hv0, hs0⟩
end
end Go.Proofs.YtjecicjpplibaaaGreat
