/- V8 V9 -/
import Derived.Test.YtjecicjpplibaaaGreatNw38

/- The disk has turned; the way has turned; write. -/
namespace Go.Proofs.YtjecicjpplibaaaGreat
open Go.RowKit Go.Maps
set_option linter.unusedVariables false
set_option maxRecDepth 100000

section
variable {g : Int} {B : Nat} {w w' : World} {A : At} {T : Vs}
/-- The disk has turned. -/
theorem VI.disk (h : VI g B w A T) {dq' : Value} {S' : St} (hdi : DI B w' A.d A.dm A.df dq' S') (hN : S'.N = T.S.N) (hy : Sy T.C S') (hf : Frame (foot A.d A.dm A.df T.dq) w w') (hn : ∀ k, foot A.d A.dm A.df dq' k → foot A.d A.dm A.df T.dq k ∨ w.heap.size ≤ k) :
    VI g B w' A { T with S := S', dq := dq' } ∧ Pt.Stp (fp A T) (fp A { T with S := S', dq := dq' }) w w' := by
  have hlt := h.lt
  have ho : ∀ k, fp A T k → ¬ foot A.d A.dm A.df T.dq k → w'.heap[k]? = w.heap[k]? := fun k hk hn => hf.block k (hlt k hk) hn
  have nvc : ¬ foot A.d A.dm A.df T.dq A.v := fun hc => h.nv A.v (.inr (.inl (.inl hc))) rfl
  have hd : ∀ k, dfoot A { T with S := S', dq := dq' } k → dfoot A T k ∨ w.heap.size ≤ k := by
    rintro k (hk | hk)
    · rcases hn k hk with h1 | h1
      · exact .inl (.inl h1)
      · exact .inr h1
    · exact .inl (.inr hk)
  have nwc : ∀ k, wfoot A T k → ¬ foot A.d A.dm A.df T.dq k := fun k hk hc => (h.nw k hk).1 (.inl hc)
  have hci : CI B w' A.c A.cm A.d S'.N T.C := by
    rw [hN]
    exact ⟨h.cd.ci.toCW.kept (fun k hk => ho k (.inr (.inr (.inl (.inr hk)))) (h.cd.apart k hk)), h.cd.ci.ord, h.cd.ci.us⟩
  refine ⟨⟨(ho _ (.inl rfl) nvc).trans h.row, ⟨hci, hdi, h.cd.ne⟩, hy, ?_, h.wy.kept (ho _ (.inr (.inl (.inl rfl))) (nwc _ (.inl rfl))), fun b s hs' => ⟨(h.wr b s hs').1.keptIf (fun k hk _ => ho k (.inr (.inl (.inr ⟨b, s, hs', hk⟩))) (nwc k (.inr ⟨b, s, hs', hk⟩))), (h.wr b s hs').2⟩, fun k hk => Nat.lt_of_lt_of_le (h.wl k hk) hf.size, h.nm, ?_, ?_, ?_, h.lo.1, Nat.le_trans h.lo.2 hf.size⟩, ⟨hf.pt fun k hk => .inr (.inr (.inl (.inl hk))), ?_⟩⟩
  · exact h.ps.else hf.size (fun k hk _ => ho k (.inr (.inr (.inr hk))) (fun hc => h.nd k (.inl hc) hk))
  · rintro k (hk | hk | hk)
    · exact h.nv k (.inl hk)
    · rcases hd k hk with h1 | h1
      · exact h.nv k (.inr (.inl h1))
      · have := hlt A.v (.inl rfl); omega
    · exact h.nv k (.inr (.inr hk))
  · intro k hk
    refine ⟨fun hk' => ?_, (h.nw k hk).2⟩
    rcases hd k hk' with h1 | h1
    · exact (h.nw k hk).1 h1
    · have := h.wl k hk; omega
  · intro k hk hp
    rcases hd k hk with h1 | h1
    · exact h.nd k h1 hp
    · have := hlt k (.inr (.inr (.inr hp))); omega
  · rintro k (hk | hk | hk | hk)
    · exact .inl (.inl hk)
    · exact .inl (.inr (.inl hk))
    · rcases hd k hk with h1 | h1
      · exact .inl (.inr (.inr (.inl h1)))
      · exact .inr h1
    · exact .inl (.inr (.inr (.inr hk)))

/-- The way has turned: its map alone. -/
theorem VI.way (h : VI g B w A T) {Y' : Int → Option Sn} {N' : Nat} (hM : Pt.Mf w' A.m N' (fun b => (Y' b).map Sn.v)) (hg : w.grownBy w' (some A.m))
    (hY : ∀ b s, Y' b = some s → T.Y b = some s ∨ (Pt.II w s.p s.zs.length s.zs ∧ Pt.Plain s.p ∧ ∀ k, Pt.blkOf s.p = some k → k < w.heap.size ∧ ¬ fp A T k)) :
    VI g B w' A { T with Y := Y', NW := N' } ∧ Frame (fp A T) w w' := by
  have hlt := h.lt
  have ho : ∀ k, k < w.heap.size → k ≠ A.m → w'.heap[k]? = w.heap[k]? := fun k hk hn => hg.block k hk (by intro e; exact hn (Option.some.inj e))
  have nm : ∀ k, (k = A.v ∨ dfoot A T k ∨ pfoot A T k) → k ≠ A.m := by
    rintro k (rfl | hk | hk) e
    · exact h.nv A.m (.inl (.inl rfl)) e.symm
    · subst e; exact (h.nw _ (.inl rfl)).1 hk
    · subst e; exact (h.nw _ (.inl rfl)).2 hk
  have hfo : ∀ k, (k = A.v ∨ dfoot A T k ∨ pfoot A T k) → w'.heap[k]? = w.heap[k]? := by
    intro k hk
    refine ho k (hlt k ?_) (nm k hk)
    rcases hk with hk | hk | hk
    · exact .inl hk
    · exact .inr (.inr (.inl hk))
    · exact .inr (.inr (.inr hk))
  have hw : ∀ k, wfoot A { T with Y := Y', NW := N' } k → wfoot A T k ∨ (k < w.heap.size ∧ ¬ fp A T k) := by
    rintro k (rfl | ⟨b, s, hs, hk⟩)
    · exact .inl (.inl rfl)
    · rcases hY b s hs with h1 | ⟨_, _, h3⟩
      · exact .inl (.inr ⟨b, s, h1, hk⟩)
      · exact .inr (h3 k hk)
  refine ⟨⟨(hfo _ (.inl rfl)).trans h.row, ⟨⟨h.cd.ci.toCW.kept (fun k hk => hfo k (.inr (.inl (.inr hk)))), h.cd.ci.ord, h.cd.ci.us⟩, h.cd.di.kept (fun k hk => hfo k (.inr (.inl (.inl hk)))), h.cd.ne⟩, h.sy, h.ps.else hg.size (fun k hk _ => hfo k (.inr (.inr hk))), hM, ?_, ?_, ?_, ?_, ?_, h.nd, h.lo.1, Nat.le_trans h.lo.2 hg.size⟩, ⟨hg.os, hg.tape, hg.output, hg.size, fun k hk hn => ho k hk (fun e => hn (.inr (.inl (.inl e))))⟩⟩
  · intro b s hs
    have nrow : ∀ k, Pt.blkOf s.p = some k → k < w.heap.size → w'.heap[k]? = w.heap[k]? := by
      intro k hk hkl
      refine ho k hkl (fun e => ?_)
      subst e
      rcases hY b s hs with h1 | ⟨_, _, h3⟩
      · exact h.nm b s h1 hk
      · exact (h3 _ hk).2 (.inr (.inl (.inl rfl)))
    rcases hY b s hs with h1 | ⟨h1, h2, _⟩
    · exact ⟨(h.wr b s h1).1.keptIf nrow, (h.wr b s h1).2⟩
    · exact ⟨h1.keptIf nrow, h2⟩
  · intro k hk
    rcases hw k hk with h1 | ⟨h1, _⟩
    · exact Nat.lt_of_lt_of_le (h.wl k h1) hg.size
    · exact Nat.lt_of_lt_of_le h1 hg.size
  · intro b s hs hk
    rcases hY b s hs with h1 | ⟨_, _, h3⟩
    · exact h.nm b s h1 hk
    · exact (h3 _ hk).2 (.inr (.inl (.inl rfl)))
  · rintro k (hk | hk | hk)
    · rcases hw k hk with h1 | ⟨_, h2⟩
      · exact h.nv k (.inl h1)
      · exact fun e => h2 (.inl e)
    · exact h.nv k (.inr (.inl hk))
    · exact h.nv k (.inr (.inr hk))
  · intro k hk
    rcases hw k hk with h1 | ⟨_, h2⟩
    · exact h.nw k h1
    · exact ⟨fun hd => h2 (.inr (.inr (.inl hd))), fun hp => h2 (.inr (.inr (.inr hp)))⟩

/-- T' is T behind a write of block b. -/
structure Wrote (T T' : Vs) (b : Nat) : Prop where
  S : T'.S = T.S.put b (outOf T b)
  P : T'.P = T.P
  last : T'.last = T.last
  x : T'.x = T.x
  Y : ∃ s : Sn, s.id = T.S.last + 1 ∧ s.zs = chs T.P (b : Int) ∧ T'.Y = Pt.fput T.Y (b : Int) (some s)
  C : T'.C.hi + T'.C.mi = T.C.hi + T.C.mi + 1
  N : T'.NW ≤ T.NW + 1

theorem ok_of {a mb fb : Nat} {qv : Value} {S : St} (h : DI B w a mb fb qv S) (hs : ∀ b, Sect (S.f b)) (hf : ∀ b, S.fl b = 0) : Ok S := ⟨h.N1, h.N2, h.q64, h.qok, h.lok, hs, fun b => by rw [hf b]; omega⟩

theorem map_fput (Y : Int → Option Sn) (b : Int) (s : Option Sn) : (fun k => (Pt.fput Y b s k).map Sn.v) = Pt.fput (fun k => (Y k).map Sn.v) b (s.map Sn.v) := by
  funext k
  unfold Pt.fput
  split <;> rfl

theorem sn_vR {s : Sn} (h : Pt.Plain s.p) : ∃ d, Pt.vR s.v = some (d, []) := by
  obtain ⟨id, p, c, zs⟩ := s
  rcases h with h | ⟨b, o, h⟩
  · dsimp only at h; subst h; exact ⟨_, rfl⟩
  · dsimp only at h; subst h; exact ⟨_, rfl⟩

theorem pst_mem (P : List Pt.Pv) : ∀ (l : List Pt.Pv) (c xs : List Int) (x : Int), x ∈ (Pt.pst P l (c, xs)).1 → x ∈ c ∨ ∃ p ∈ l, x = (p.id : Int)
  | [], _, _, _, h => .inl h
  | p :: l, c, xs, x, h => by
    unfold Pt.pst at h
    rcases pst_mem P l _ _ x h with h1 | ⟨q, hq, e⟩
    · unfold Pt.nextC at h1
      split at h1
      · exact .inl h1
      · rcases List.mem_append.1 h1 with h2 | h2
        · exact .inl h2
        · simp at h2; exact .inr ⟨p, by simp, h2⟩
    · exact .inr ⟨q, by simp [hq], e⟩
theorem chs_mem {P : List Pt.Pv} {b x : Int} (h : x ∈ chs P b) : ∃ p ∈ P, p ∈ Pt.ofB P b ∧ x = (p.id : Int) := by
  rcases pst_mem P _ _ _ x h with h1 | ⟨p, hp, e⟩
  · cases h1
  · exact ⟨p, (List.mem_filter.1 hp).1, hp, e⟩

theorem stp_trans {D D' D'' : Nat → Prop} {w w1 w2 : World} (h : Pt.Stp D D' w w1) (k : Pt.Stp D' D'' w1 w2) : Pt.Stp D D'' w w2 := h.trans k

set_option maxHeartbeats 2000000 in
theorem vwr_ok (h : VI g B w A T) (b : Nat) (hb : b < T.S.N) (hm : may T (b : Int) = true) (hc : T.C.hi + T.C.mi < 4611686018427387904) (hq : T.S.q.length < 64) (hl : T.S.last < 9223372036854775807) (hNW : T.NW < 100000) :
    Calls Tryz.prog 43 #[.pointer (some ⟨A.v, 0, none⟩), .int .i64 (b : Int)] w fun e w' => e = .returned (.int .i64 0) ∧ ∃ T', VI g B w' A T' ∧ Pt.Stp (fp A T) (fp A T') w w' ∧ Wrote T T' b := by
  have hN := h.cd.ci.N12
  have hI : Pt.I64 (b : Int) := ⟨by omega, by omega⟩
  have hh := vhas_ok h b hb
  have how := onWay_ok h
  unfold may at hm
  rw [Bool.and_eq_true] at hm
  obtain ⟨hm1, hm2⟩ := hm
  have hct : (qbs T.S).contains (b : Int) = false := by simpa using hm1
  have hch : (chs T.P (b : Int)).isEmpty = false := by simpa using hm2
  have hany : (T.S.q.any fun x => (x.block : Int) == (b : Int)) = false := by
    rw [Bool.eq_false_iff]
    intro ha
    obtain ⟨x, hx, hxe⟩ := List.any_eq_true.1 ha
    have : (qbs T.S).contains (b : Int) = true := by
      rw [List.contains_iff_mem]
      exact List.mem_map.2 ⟨x, hx, by simpa using hxe⟩
    rw [hct] at this
    cases this
  clear hm1 hm2
  go_enter Tryz.func43, Tryz.ntmps43
  go_wp2_with fail
  refine same_at hh ?_
  dsimp only
  go_wp2_with fail
  refine Calls.mono how ?_
  rintro e w1 ⟨q, c, rfl, hII, hq1, hb1⟩
  have hcc := contains_ii (c := c) hII (b : Int)
  rw [hct] at hcc
  have h1 := h.later hb1
  have hpl := vplan_ok h1 b hb hch hc
  clear hh how
  dsimp only
  go_wp2_with fail
  refine same_at hcc ?_
  dsimp only
  go_wp2_with fail
  refine Calls.mono hpl ?_
  rintro e w2 ⟨q2, cap2, iv, C', rfl, hO, hNu, hf1, hf2, h2, hst2, hcn⟩
  obtain ⟨ip, ic, rfl, hii, hpla⟩ := hNu.ii (by have := Pt.pst_len T.P (Pt.ofB T.P (b : Int)) ([], []); have := h.ps.len; have := h.ps.sml; have : (Pt.ofB T.P (b : Int)).length ≤ T.P.length := List.length_filter_le _ _; unfold chs; simp at *; omega) (fun x hx => by obtain ⟨p, hp, _, rfl⟩ := chs_mem hx; have := h.ps.ids p hp; have := h.ps.sml; exact ⟨by omega, by omega⟩)
  have c2 := h2.c2
  have hS := h.sect b
  have hbi : BI w2 (some ⟨q2, 0, none⟩) 128 (outOf T b) := hO.bi (by omega) hS.2
  have hdw := write_new h2.cd.di h2.lo.2 b (some ⟨q2, 0, none⟩) cap2 (outOf T b) hbi hb hany hq hl
  clear hpl hcc
  dsimp only
  go_wp2_with fail
  refine Calls.mono hdw ?_
  rintro e w3 ⟨dq', rfl, hdi, hfr, hown⟩
  have hnew : ∀ k, foot A.d A.dm A.df dq' k → foot A.d A.dm A.df T.dq k ∨ w2.heap.size ≤ k := by
    rintro k (rfl | rfl | rfl | hk)
    · exact .inl (.inl rfl)
    · exact .inl (.inr (.inl rfl))
    · exact .inl (.inr (.inr (.inl rfl)))
    · rcases hown with h1 | ⟨k', h1, h2⟩
      · exact .inl (.inr (.inr (.inr (h1 ▸ hk))))
      · rw [h1] at hk; cases hk; exact .inr h2
  have hokP : Ok (T.S.put b (outOf T b)) := ok_of hdi (fun b => h.sy.ok.sec b) h.sy.fl
  obtain ⟨h3, hst3⟩ := h2.disk hdi rfl ⟨h2.sy.xs, h2.sy.pin, h2.sy.fl, hokP⟩ hfr hnew
  have c5 := h3.c5
  have hpn : ∀ k, Pt.blkOf ip = some k → w2.heap.size > k ∧ ¬ fp A { T with C := C' } k := fun k hk => by
    have hk' : (Value.slice ip (chs T.P (b : Int)).length ic).ownBlock = some k := by
      cases ip with
      | none => cases hk
      | some a => simpa [Pt.blkOf, Value.ownBlock] using hk
    exact ⟨(World.ownsRow.lt hNu k hk').2, hf2 k hk'⟩
  have hpn3 : ∀ k, Pt.blkOf ip = some k → k < w3.heap.size ∧ ¬ fp A { T with C := C', S := T.S.put b (outOf T b), dq := dq' } k := fun k hk => by
    obtain ⟨h1, h2'⟩ := hpn k hk
    refine ⟨Nat.lt_of_lt_of_le h1 hfr.size, fun hf => ?_⟩
    rcases hst3.new k hf with h4 | h4
    · exact h2' h4
    · omega
  obtain ⟨s, hs⟩ : ∃ s : Sn, s = ⟨T.S.last + 1, ip, ic, chs T.P (b : Int)⟩ := ⟨_, rfl⟩
  obtain ⟨dd, hdd⟩ := sn_vR (s := s) (by rw [hs]; exact hpla)
  obtain ⟨w4, hrun, hM4, hg4⟩ := h3.wy.put hNW (t := 73) (e := 98) Tryz.underlying73 (b : Int) hI s.v hdd
  rw [show s.v = .agg #[.int .i64 (T.S.last + 1), .slice ip (chs T.P (b : Int)).length ic] from by rw [hs]; rfl] at hrun
  clear hdw
  dsimp only
  go_wp2_with fail
  go_ret
  have hM' : Pt.Mf w4 A.m (if ((T.Y (b : Int)).map Sn.v).isSome then T.NW else T.NW + 1) (fun k => (Pt.fput T.Y (b : Int) (some s) k).map Sn.v) := by
    rw [map_fput]; exact hM4
  have hb23 : Below w2.heap.size w2 w3 → True := fun _ => trivial
  obtain ⟨h4, hf4⟩ := h3.way hM' hg4 (fun b' s' hs' => by
    unfold Pt.fput at hs'
    split at hs'
    · cases hs'
      right
      rw [hs]
      exact ⟨hii.keptIf (fun k hk _ => hfr.block k (hpn k hk).1 (fun hf => (hpn k hk).2 (.inr (.inr (.inl (.inl hf)))))), hpla, hpn3⟩
    · exact .inl hs')
  refine ⟨rfl, _, h4, ?_, ⟨rfl, rfl, rfl, rfl, ⟨s, by rw [hs], by rw [hs], rfl⟩, hcn, ?_⟩⟩
  · have hs23 := stp_trans hst2 hst3
    have hup : ∀ k, fp A { T with C := C', S := T.S.put b (outOf T b), dq := dq' } k → fp A T k ∨ w.heap.size ≤ k := fun k hk => (hs23.new k hk).imp id (fun h => Nat.le_trans hb1.size h)
    refine ⟨⟨hf4.os.trans (hs23.fr.os.trans hb1.os), hf4.tape.trans (hs23.fr.tape.trans hb1.tape), hf4.output.trans (hs23.fr.output.trans hb1.output), Nat.le_trans hb1.size (Nat.le_trans hs23.fr.size hf4.size), fun k hk hn => ?_⟩, ?_⟩
    · have hk1 := Nat.lt_of_lt_of_le hk hb1.size
      refine (hf4.block k (Nat.lt_of_lt_of_le hk1 hs23.fr.size) (fun hf => ?_)).trans ((hs23.fr.block k hk1 hn).trans (hb1.block k hk))
      rcases hup k hf with h5 | h5
      · exact hn h5
      · omega
    · rintro k (hk | hk | hk | hk)
      · exact .inl (.inl hk)
      · rcases hk with hk | ⟨b', s', hs', hk⟩
        · exact .inl (.inr (.inl (.inl hk)))
        · have hs'' : Pt.fput T.Y (b : Int) (some s) b' = some s' := hs'
          unfold Pt.fput at hs''
          split at hs''
          · cases hs''
            rw [hs] at hk
            have hk' : (Value.slice ip (chs T.P (b : Int)).length ic).ownBlock = some k := by
              cases ip with
              | none => cases hk
              | some a => simpa [Pt.blkOf, Value.ownBlock] using hk
            exact .inr (Nat.le_trans hb1.size (World.ownsRow.lt hNu k hk').1)
          · exact .inl (.inr (.inl (.inr ⟨b', s', hs'', hk⟩)))
      · exact hup k (.inr (.inr (.inl hk)))
      · exact .inl (.inr (.inr (.inr hk)))
  · dsimp only
    split <;> omega
end
end Go.Proofs.YtjecicjpplibaaaGreat

/- A write is taken off the way. -/
namespace Go.Proofs.YtjecicjpplibaaaGreat
open Go.RowKit Go.Maps
set_option linter.unusedVariables false
set_option maxRecDepth 100000

theorem zero98 (w : World) : (zeroValue 98).run Tryz.prog w = .ok (.agg #[.int .i64 0, .slice none 0 0]) w := by kernel_rfl

section
variable {g : Int} {B : Nat} {w w' : World} {A : At} {T : Vs}
theorem VI.drew (h : VI g B w A T) : VI g B w.drew A T := h.later ((Below.refl _ _).drew)

/-- What a look-up of the way tells. -/
theorem VI.look (h : VI g B w A T) (b : Nat) (hb : b ≤ 100) {s : Sn} (hs : T.Y (b : Int) = some s) : (Instr.lookup 73 (.map (some A.m)) (.int .i64 (b : Int)) false).run Tryz.prog w = .ok s.v w := by
  have := h.wy.get (t := 73) (e := 98) Tryz.underlying73 (z := .agg #[.int .i64 0, .slice none 0 0]) (zero98 w) rfl (b : Int) ⟨by omega, by omega⟩
  rw [hs] at this
  exact this

set_option maxHeartbeats 2000000 in
theorem takeOff_ok (h : VI g B w A T) (x : Wr) (hx : x.block ≤ 100) (v2 : Value) (s : Sn) (hs : T.Y (x.block : Int) = some s) (hid : s.id = x.id) :
    Calls Tryz.prog 82 #[.pointer (some ⟨A.v, 0, none⟩), .agg #[.int .i64 x.id, .int .i64 (x.block : Int), v2]] w fun e w' => e = .returned (.slice s.p s.zs.length s.c) ∧ VI g B w' A { T with Y := Pt.fput T.Y (x.block : Int) none } ∧ Frame (fp A T) w w' ∧ Pt.II w' s.p s.zs.length s.zs := by
  obtain ⟨W, hW⟩ : ∃ W, w.alloc (.cells #[.int .i64 x.id, .int .i64 (x.block : Int), v2] 62) = W := ⟨_, rfl⟩
  have hbW : Below w.heap.size w W := by rw [← hW]; exact (Below.refl _ _).alloc (Nat.le_refl _) _
  have hrW : W.heap[w.heap.size]? = some (.cells #[.int .i64 x.id, .int .i64 (x.block : Int), v2] 62 (0, 0)) := by rw [← hW]; exact at_new rfl
  have hV := (h.later hbW).drew
  have c5 := hV.c5
  have k1 : W.drew.cell? ⟨w.heap.size, 1, none⟩ = some (.int .i64 (x.block : Int)) := (cell_of_row _ _ 1 _ 62 _ hrW).trans rfl
  have hlk := hV.look x.block hx hs
  have hsW : W.heap.size = w.heap.size + 1 := by rw [← hW]; simp
  have kb : ∀ cs, Below w.heap.size w (W.alloc (.cells cs 98)).drew := fun cs => (hbW.alloc (by omega) _).drew
  have kr : ∀ cs, (W.alloc (.cells cs 98)).drew.heap[w.heap.size]? = some (.cells #[.int .i64 x.id, .int .i64 (x.block : Int), v2] 62 (0, 0)) := fun cs => at_old hrW
  have k5 : ∀ cs, (W.alloc (.cells cs 98)).drew.cell? ⟨A.v, 5, none⟩ = some (.map (some A.m)) := fun cs => (h.later (kb cs)).c5
  have kc1 : ∀ cs, (W.alloc (.cells cs 98)).drew.cell? ⟨w.heap.size, 1, none⟩ = some (.int .i64 (x.block : Int)) := fun cs => (cell_of_row _ _ 1 _ 62 _ (kr cs)).trans rfl
  have kl : ∀ cs, (Instr.lookup 73 (.map (some A.m)) (.int .i64 (x.block : Int)) false).run Tryz.prog (W.alloc (.cells cs 98)).drew = .ok (.agg #[.int .i64 x.id, .slice s.p s.zs.length s.c]) (W.alloc (.cells cs 98)).drew := fun cs => by
    have := (h.later (kb cs)).look x.block hx hs
    unfold Sn.v at this
    rw [hid] at this
    exact this
  unfold Sn.v at hlk
  rw [hid] at hlk
  have a5 := k5 #[.int .i64 0, .slice none 0 0]
  have a1 := kc1 #[.int .i64 0, .slice none 0 0]
  have al := kl #[.int .i64 0, .slice none 0 0]
  obtain ⟨WC, hWC⟩ : ∃ WC, (W.alloc (.cells #[.int .i64 x.id, .slice s.p s.zs.length s.c] 98)).drew = WC := ⟨_, rfl⟩
  have e5 : WC.cell? ⟨A.v, 5, none⟩ = some (.map (some A.m)) := by rw [← hWC]; exact k5 _
  have e1 : WC.cell? ⟨w.heap.size, 1, none⟩ = some (.int .i64 (x.block : Int)) := by rw [← hWC]; exact kc1 _
  have el : (Instr.lookup 73 (.map (some A.m)) (.int .i64 (x.block : Int)) false).run Tryz.prog WC = .ok (.agg #[.int .i64 x.id, .slice s.p s.zs.length s.c]) WC := by rw [← hWC]; exact kl _
  have rC : WC.heap[w.heap.size + 1]? = some (.cells #[.int .i64 x.id, .slice s.p s.zs.length s.c] 98 (0, 0)) := by rw [← hWC]; exact at_new hsW.symm
  have hrC : WC.heap[w.heap.size]? = some (.cells #[.int .i64 x.id, .int .i64 (x.block : Int), v2] 62 (0, 0)) := by rw [← hWC]; exact kr _
  have hbT : Below w.heap.size w WC := by rw [← hWC]; exact kb _
  have e0 : WC.cell? ⟨w.heap.size, 0, none⟩ = some (.int .i64 x.id) := (cell_of_row _ _ 0 _ 62 _ hrC).trans rfl
  have n0 : WC.cell? ⟨w.heap.size + 1, 0, none⟩ = some (.int .i64 x.id) := (cell_of_row _ _ 0 _ 98 _ rC).trans rfl
  have hVC := h.later hbT
  obtain ⟨WD, hrun, hMD, hgD⟩ := (hVC.drew).wy.del (t := 73) (e := 98) Tryz.underlying73 (x.block : Int) ⟨by omega, by omega⟩ 0
  have HV : Hid (VI g B WC A T ∧ Below w.heap.size w WC ∧ Pt.Mf WD A.m T.NW (Pt.fput (fun b => (T.Y b).map Sn.v) (x.block : Int) none) ∧ WC.drew.grownBy WD (some A.m)) := ⟨hVC, hbT, hMD, hgD⟩
  have n1 : WD.cell? ⟨w.heap.size + 1, 1, none⟩ = some (.slice s.p s.zs.length s.c) := by
    have hm : A.m < w.heap.size := h.wl _ (.inl rfl)
    rw [World.cell?_of_block (w := WC) (hgD.block (w.heap.size + 1) (Array.getElem?_eq_some_iff.1 rC).1 (by intro e; have := Option.some.inj e; omega))]
    exact (cell_of_row _ _ 1 _ 98 _ rC).trans rfl
  clear hVC hbT hrC rC hMD hgD kl kc1 k5 kr kb hV hbW hrW
  go_enter Tryz.func82, Tryz.ntmps82
  go_wp2_with fail
  go_region_held3 (fun w' => w'.cell? ⟨A.v, 5, none⟩ = some (.map (some A.m)) ∧ w'.cell? ⟨w.heap.size, 1, none⟩ = some (.int .i64 (x.block : Int)) ∧ (Instr.lookup 73 (.map (some A.m)) (.int .i64 (x.block : Int)) false).run Tryz.prog w' = .ok (.agg #[.int .i64 x.id, .slice s.p s.zs.length s.c]) w') (first | exact ⟨c5, k1, hlk⟩ | exact ⟨a5, a1, al⟩ | exact ⟨e5, e1, el⟩) (fail)
  all_goals go_wp2_with fail
  all_goals go_region
  all_goals go_wp2_with fail
  all_goals go_ret
  all_goals
    obtain ⟨hVC, hbT, hMD, hgD⟩ := HV.out
    have hM' : Pt.Mf WD A.m T.NW (fun k => (Pt.fput T.Y (x.block : Int) none k).map Sn.v) := by rw [map_fput]; exact hMD
    obtain ⟨h4, hf4⟩ := hVC.drew.way hM' hgD (fun b' s' hs' => by
      unfold Pt.fput at hs'
      split at hs'
      · cases hs'
      · exact .inl hs')
    refine ⟨rfl, h4, ⟨hf4.os.trans hbT.os, hf4.tape.trans hbT.tape, hf4.output.trans hbT.output, Nat.le_trans hbT.size hf4.size, fun k hk hn => (hf4.block k (Nat.lt_of_lt_of_le hk hbT.size) hn).trans (hbT.block k hk)⟩, ?_⟩
    refine (hVC.wr _ s hs).1.keptIf (fun k hk hkl => ?_)
    refine hgD.block k hkl (fun e => h.nm _ s hs (hk.trans ?_))
    exact e
end
end Go.Proofs.YtjecicjpplibaaaGreat
