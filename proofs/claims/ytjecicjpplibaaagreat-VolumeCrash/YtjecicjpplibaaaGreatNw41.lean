/- VB VC Rep -/
import Derived.Test.YtjecicjpplibaaaGreatNw40
import Derived.Test.YtjecicjpplibaaaGreatNw22
import Derived.Test.YtjecicjpplibaaaGreatNw15
import Derived.Test.YtjecicjpplibaaaGreatNw03
import Derived.Deep.RegionLaw
import Derived.Laws.Externs
import Derived.Lib.MakeNoZero

/- Write, Complete and Change, with the guard. -/
namespace Go.Proofs.YtjecicjpplibaaaGreat
open Go.RowKit Go.Maps
set_option linter.unusedVariables false
set_option maxRecDepth 100000

section
variable {g : Int} {B : Nat} {w w' : World} {A : At} {T : Vs}
theorem vWrite_ok (h : VI 0 B w A T) (b : Nat) (hb : b < T.S.N) (hm : may T (b : Int) = true) (hc : T.C.hi + T.C.mi < 4611686018427387904) (hq : T.S.q.length < 64) (hl : T.S.last < 9223372036854775807) (hNW : T.NW < 100000) :
    Calls Tryz.prog 12 #[.pointer (some ⟨A.v, 0, none⟩), .int .i64 (b : Int)] w fun e w' => e = .returned (.int .i64 0) ∧ ∃ T', VI 0 B w' A T' ∧ Pt.Stp (fp A T) (fp A T') w w' ∧ Wrote T T' b := by
  refine (vwrite_of h.vrow (b : Int) (R := fun r w1 => r = .int .i64 0 ∧ ∃ T', VI 1 B w1 A T' ∧ Pt.Stp (fp A T) (fp A T') (w.setCell ⟨A.v, 0, none⟩ (.int .i32 1)) w1 ∧ Wrote T T' b) ((vwr_ok (h.guard 1) b hb hm hc hq hl hNW).mono ?_)).mono ?_
  · rintro e w1 ⟨rfl, T', hv, hst, hw⟩
    exact ⟨_, _, rfl, hv.vheld, rfl, T', hv, hst, hw⟩
  · rintro e w2 ⟨r, y, w1, rfl, _, ⟨rfl, T', hv, hst, hw⟩, rfl⟩
    obtain ⟨hv0, hs0⟩ := unguard hst hv
    exact ⟨rfl, T', hv0, hs0, hw⟩

theorem vComplete_ok (h : VI 0 B w A T) (k : Nat) (x : Wr) (s : Sn) (ok : Bool) (hx : T.S.q[k]? = some x) (hi : T.S.q.findIdx? (fun y => y.id == x.id) = some k) (hs : T.Y (x.block : Int) = some s) (hid : s.id = x.id)
    (hkn : s.zs.all (Pt.kn T.last) = true) (hbad : (Pt.still T.P s.zs).any (Pt.bad T.P s.zs) = false) (hln : s.zs.length ≤ 1000) :
    Calls Tryz.prog 15 #[.pointer (some ⟨A.v, 0, none⟩), .int .i64 (k : Int), .bool ok] w fun e w' => e = .returned (.int .i64 (if ok then 0 else 4)) ∧ ∃ T', VI 0 B w' A T' ∧ Pt.Stp (fp A T) (fp A T') w w' ∧ Ended T T' k x s ok := by
  refine (vcomplete_of h.vrow (k : Int) ok (R := fun r w1 => r = .int .i64 (if ok then 0 else 4) ∧ ∃ T', VI 1 B w1 A T' ∧ Pt.Stp (fp A T) (fp A T') (w.setCell ⟨A.v, 0, none⟩ (.int .i32 1)) w1 ∧ Ended T T' k x s ok) ((vcpl_ok (h.guard 1) k x s ok hx hi hs hid hkn hbad hln).mono ?_)).mono ?_
  · rintro e w1 ⟨rfl, T', hv, hst, hw⟩
    exact ⟨_, _, rfl, hv.vheld, rfl, T', hv, hst, hw⟩
  · rintro e w2 ⟨r, y, w1, rfl, _, ⟨rfl, T', hv, hst, hw⟩, rfl⟩
    obtain ⟨hv0, hs0⟩ := unguard hst hv
    exact ⟨rfl, T', hv0, hs0, hw⟩

set_option maxHeartbeats 400000 in
theorem whole_none (w : World) : Calls Tryz.prog 59 #[.pointer none] w fun e w' => e = .returned (.bool false) ∧ w' = w := by
  go_enter Tryz.func59, Tryz.ntmps59
  go_wp2
  go_ret
  exact ⟨rfl, rfl⟩
set_option maxHeartbeats 400000 in
theorem lacks_none (w : World) (b : Int) : Calls Tryz.prog 65 #[.pointer none, .int .i64 b] w fun e w' => e = .returned (.bool false) ∧ w' = w := by
  have hw := whole_none w
  go_enter Tryz.func65, Tryz.ntmps65
  go_wp2_with (first | (go_at_call 59; refine same_at hw ?_))
  go_ret
  exact ⟨rfl, rfl⟩

/-- T' is T with a patch more. -/
structure Changed (T T' : Vs) (b o : Nat) (xs zs : List Int) : Prop where
  ex : ∃ pn : Pt.Pv, pn.id = T.last + 1 ∧ pn.blk = b ∧ pn.off = o ∧ pn.bs = xs ∧ pn.nd = Pt.rs (Pt.still T.P zs ++ Pt.uppL T.P pn) ∧ T'.P = T.P ++ [pn]
  last : T'.last = T.last + 1
  S : T'.S = T.S
  C : T'.C = T.C
  Y : T'.Y = T.Y
  x : T'.x = T.x
  N : T'.NW = T.NW

set_option maxHeartbeats 2000000 in
theorem vChange_ok (h : VI 0 B w A T) (hx : T.x = none) (hsm : T.last + 1 ≤ 1000) (b o : Nat) (hb : b < T.S.N) (p : Option Addr) (n c : Nat) (xs : List Int) (hbi : BI w p n xs) (hp : ∀ k, Pt.blkOf p = some k → k ≠ A.v) (hmay : Pt.mayAt (b : Int) (o : Int) n) (q : Option Addr) (m d : Nat) (zs : List Int) (hz : Pt.II w q m zs) (hqv : ∀ k, Pt.blkOf q = some k → k ≠ A.v) (hk : zs.all (Pt.kn T.last) = true) (hm8 : (m + T.P.length) * 8 ≤ 140737488355328) :
    Calls Tryz.prog 30 #[.pointer (some ⟨A.v, 0, none⟩), .int .i64 (b : Int), .int .i64 (o : Int), .slice p n c, .slice q m d] w fun e w' => e = .returned (.tuple #[.int .i64 ((T.last + 1 : Nat) : Int), .int .i64 0]) ∧ ∃ T', VI 0 B w' A T' ∧ Pt.Stp (fp A T) (fp A T') w w' ∧ Changed T T' b o xs zs := by
  have hg := h.guard 1
  have hN12 := h.cd.ci.N12
  have hm := vmade_ok h.vrow.made
  have hlk := h.vrow.lock
  have hh := vhas_ok hg b hb
  have c6 := hg.c6
  rw [hx] at c6
  have c4 := hg.c4
  obtain ⟨WL, hWL⟩ : ∃ WL, w.setCell ⟨A.v, 0, none⟩ (.int .i32 1) = WL := ⟨_, rfl⟩
  have hoth : ∀ k, k < w.heap.size → k ≠ A.v → WL.heap[k]? = w.heap[k]? := fun k hk hn => by rw [← hWL]; exact (Frame.setCell (X := fun i => i = A.v) w (p := ⟨A.v, 0, none⟩) (.int .i32 1) rfl).block k hk hn
  have hbiL : Pt.BI WL p n xs := hbi.pt.keptIf (fun k hk hl => hoth k hl (hp k hk))
  have hzL : Pt.II WL q m zs := hz.keptIf (fun k hk hl => hoth k hl (hqv k hk))
  rw [hWL] at hg hlk hh c6 c4
  have hadd := Pt.sadd_ok hg.ps hsm b o (by omega) p n c xs hbiL hmay q m d zs hzL hk hm8
  have hla := lacks_none WL (b : Int)
  go_enter_defers Tryz.func30, Tryz.ntmps30
  go_wp2_with (first
    | (go_at_call 38; refine same_at hm ?_)
    | (go_at_call 39; refine Calls.mono hlk ?_; rintro e w' ⟨rfl, hw'⟩; subst w')
    | (go_at_call 64; refine same_at hh ?_)
    | (go_at_call 65; refine same_at hla ?_)
    | (go_at_call 66; refine Calls.mono hadd ?_; rintro e w1 ⟨rfl, pn, K', e1, e2, e3, e4, e5, hps, hst⟩; obtain ⟨h1, hs1⟩ := hg.pats hps hst))
  refine leaves_cons (f := 40) (args := #[.pointer (some ⟨A.v, 0, none⟩)]) (by simp) (by simp [go_sem]) ?_
  refine (h1.vheld.unlock .returning).mono ?_
  rintro e u' w'' ⟨rfl, rfl, rfl⟩
  rw [← hWL] at hs1
  obtain ⟨hv0, hs0⟩ := unguard hs1 h1
  exact ⟨_, results_tmp2 rfl _ _ _, by simp, _, hv0, hs0, ⟨⟨pn, e1, e2, e3, e4, e5, rfl⟩, rfl, rfl, rfl, rfl, rfl, rfl⟩⟩
end
end Go.Proofs.YtjecicjpplibaaaGreat

/- A volume is opened. -/
namespace Go.Proofs.YtjecicjpplibaaaGreat
open Go.RowKit Go.Maps
set_option linter.unusedVariables false
set_option maxRecDepth 100000

/-- A volume that was just opened. -/
def new0 (S : St) (dq : Value) (bd : Nat) : Vs := ⟨⟨bd, 0, 0, []⟩, S, dq, 0, [], fun _ => none, fun _ => none, 0, none⟩

section
variable {B : Nat} {w w' : World}
theorem ownsRow_base {W : World} {base base' : Nat} {e : TypeId} {size : Nat} {v : Value} {k : Nat} {xs : List Value} (h : W.ownsRow base e size v k xs) (hb : base' ≤ base) : W.ownsRow base' e size v k xs := by
  refine ⟨h.1, ?_⟩
  rcases h.2 with h' | ⟨g', cap', cur, h', hbg, rest⟩
  · exact .inl h'
  · exact .inr ⟨g', cap', cur, h', Nat.le_trans hb hbg, rest⟩
theorem ps_base {B B' : Nat} {w : World} {a mp mb last : Nat} {P : List Pt.Pv} {K : Int → Option Value} (h : Pt.PS B w a mp mb last P K) (hB : B' ≤ B) : Pt.PS B' w a mp mb last P K :=
  ⟨h.row, h.pm, h.bm, h.byt, h.nee, fun b v hv => ⟨(h.rows b v hv).1, ownsRow_base (h.rows b v hv).2.1 hB, (h.rows b v hv).2.2⟩, h.away, h.two, h.apart, h.ids, h.srt, h.low, h.sml, ⟨⟨Nat.le_trans hB h.base.1.1, Nat.le_trans hB h.base.1.2.1, Nat.le_trans hB h.base.1.2.2⟩, h.base.2⟩⟩

set_option maxHeartbeats 1000000 in
theorem vOpen_ok {d dm df : Nat} {dq : Value} {S : St} (h : DI B w d dm df dq S) (hB : B ≤ w.heap.size) (hN : S.N ≤ 12) (hf : ∀ b, S.fl b = 0) (hS : ∀ b, Sect (S.f b)) (bd : Nat) (hbd : 1 ≤ bd ∧ bd ≤ 64) :
    Calls Tryz.prog 29 #[.pointer (some ⟨d, 0, none⟩), .int .i64 (bd : Int)] w fun e w' => ∃ A : At, e = .returned (.tuple #[.pointer (some ⟨A.v, 0, none⟩), .int .i64 0]) ∧ A.d = d ∧ A.dm = dm ∧ A.df = df ∧ VI 0 B w' A (new0 S dq bd) ∧ Below w.heap.size w w' ∧ ∀ k, fp A (new0 S dq bd) k → foot d dm df dq k ∨ w.heap.size ≤ k := by
  have hcn := cnew_ok h hB bd hbd hN
  have hmm := @run_makeMap Tryz.prog
  go_enter Tryz.func29, Tryz.ntmps29
  go_wp2_with (first
    | (go_at_call 62; refine Calls.mono hcn ?_; rintro e w1 ⟨c, cm, rfl, hc1, hm1, hcd, hb1⟩)
    | (go_at_call 63; refine Calls.mono (Pt.new_ok _) ?_; rintro e w2 ⟨s, mp, mb, rfl, hps, hb2⟩))
  go_ret2
  obtain ⟨W, hW⟩ : ∃ W, (w2.alloc (.map #[] 0)).alloc (.cells #[.int .i32 0, .int .u32 0, .pointer (some ⟨d, 0, none⟩), .pointer (some ⟨c, 0, none⟩), .pointer (some ⟨s, 0, none⟩), .map (some w2.heap.size), .pointer none] 76) = W := ⟨_, rfl⟩
  have hbW : Below w2.heap.size w2 W := by rw [← hW]; exact ((Below.refl _ _).alloc (Nat.le_refl _) _).alloc (by simp) _
  have hrow : W.heap[w2.heap.size + 1]? = some (.cells #[.int .i32 0, .int .u32 0, .pointer (some ⟨d, 0, none⟩), .pointer (some ⟨c, 0, none⟩), .pointer (some ⟨s, 0, none⟩), .map (some w2.heap.size), .pointer none] 76 (0, 0)) := by rw [← hW]; exact at_new (by simp)
  have hmap : Pt.Mf W w2.heap.size 0 (fun _ => none) := by rw [← hW]; exact (Pt.mf_made w2 0).kept ((at_old (at_new rfl)).trans (at_new (w := w2) rfl).symm)
  have hs1 := hb1.size
  have hs2 := hb2.size
  have hb12 : Below w.heap.size w w2 := hb1.trans (hb2.mono hb1.size)
  have hb1W : Below w1.heap.size w1 W := hb2.trans (hbW.mono hb2.size)
  have hcdW := hcd.later hb1W
  have hpsW := (ps_base hps (Nat.le_trans hB hs1)).kept hbW
  have hfl : ∀ k, foot d dm df dq k → k < w.heap.size := fun k hk => (h.in k hk).2
  have hcl : ∀ k, cfoot c cm ⟨bd, 0, 0, []⟩ k → w.heap.size ≤ k ∧ k < w1.heap.size := by
    rintro k (rfl | rfl | ⟨f, hf, _⟩)
    · exact ⟨hc1, (hcd.ci.toCW.in _ (.inl rfl)).2⟩
    · exact ⟨hm1, (hcd.ci.toCW.in _ (.inr (.inl rfl))).2⟩
    · cases hf
  have hpl : ∀ k, Pt.dm s mp mb [] (fun _ => none) k → w1.heap.size ≤ k ∧ k < w2.heap.size := by
    intro k hk
    refine ⟨?_, hps.dm_lt hk⟩
    rcases hk with rfl | rfl | rfl | ⟨b, v, hv, _⟩ | ⟨p, hp, _⟩
    · exact hps.base.1.1
    · exact hps.base.1.2.1
    · exact hps.base.1.2.2
    · cases hv
    · cases hp
  have hwl : ∀ k, wfoot ⟨w2.heap.size + 1, d, c, s, w2.heap.size, cm, dm, df, mp, mb⟩ (new0 S dq bd) k → k = w2.heap.size := by
    rintro k (hk | ⟨b, s', hs', _⟩)
    · exact hk
    · cases hs'
  have hdl : ∀ k, dfoot ⟨w2.heap.size + 1, d, c, s, w2.heap.size, cm, dm, df, mp, mb⟩ (new0 S dq bd) k → k < w1.heap.size := by
    rintro k (hk | hk)
    · exact Nat.lt_of_lt_of_le (hfl k hk) hs1
    · exact (hcl k hk).2
  have hvi : VI 0 B W ⟨w2.heap.size + 1, d, c, s, w2.heap.size, cm, dm, df, mp, mb⟩ (new0 S dq bd) := by
    refine ⟨hrow, hcdW, ⟨fun f hf => (by cases hf), fun f hf => (by cases hf), hf, ok_of h hS hf⟩, hpsW, hmap, fun b s' hs' => (by cases hs'), fun k hk => (by have h1 := hwl k hk; have := (Array.getElem?_eq_some_iff.1 hrow).1; omega), fun b s' hs' => (by cases hs'), ?_, ?_, ?_, ?_, ?_⟩
    · rintro k (hk | hk | hk) e
      · have := hwl k hk; have e' : k = w2.heap.size + 1 := e; omega
      · have := hdl k hk; have e' : k = w2.heap.size + 1 := e; omega
      · have := hpl k hk; have e' : k = w2.heap.size + 1 := e; omega
    · intro k hk
      have := hwl k hk
      exact ⟨fun hd => by have := hdl k hd; omega, fun hp => by have := hpl k hp; omega⟩
    · intro k hk hp
      have := hdl k hk
      have := hpl k hp
      omega
    · show B ≤ w2.heap.size + 1
      omega
    · have := hbW.size; omega
  rw [hW]
  refine ⟨⟨w2.heap.size + 1, d, c, s, w2.heap.size, cm, dm, df, mp, mb⟩, rfl, rfl, rfl, rfl, hvi, hb12.trans (hbW.mono hb12.size), ?_⟩
  rintro k (hk | hk | (hk | hk) | hk)
  · have e' : k = w2.heap.size + 1 := hk; right; omega
  · have := hwl k hk; right; omega
  · exact .inl hk
  · exact .inr (hcl k hk).1
  · have := hpl k hk; right; omega
end
end Go.Proofs.YtjecicjpplibaaaGreat

/- bytes.Repeat of one byte, 128 times. -/
namespace Go.Proofs.YtjecicjpplibaaaGreat
open Go.RowKit Go.Maps
set_option linter.unusedVariables false

set_option maxRecDepth 100000 in
set_option maxHeartbeats 1000000 in
theorem mul64_ok (w : World) : Calls Tryz.prog 139 #[.int .u64 1, .int .u64 128] w fun e w' => e = .returned (.tuple #[.int .u64 0, .int .u64 128]) ∧ w' = w := by
  go_enter Tryz.func139, Tryz.ntmps139
  go_wp2
  go_ret2
  exact ⟨rfl, rfl⟩
set_option maxHeartbeats 400000 in
theorem mul_ok (w : World) : Calls Tryz.prog 106 #[.int .u64 1, .int .u64 128] w fun e w' => e = .returned (.tuple #[.int .u64 0, .int .u64 128]) ∧ w' = w := by
  have h := mul64_ok w
  go_enter Tryz.func106, Tryz.ntmps106
  go_wp2_with (first | (go_at_call 139; refine same_at h ?_))
  go_ret2
  exact ⟨rfl, rfl⟩
theorem called107 (args : Array Value) (w : World) : (callFunc 107 args).run Tryz.prog w = ((Extern.BytealgMakeNoZero.makeNoZero #[3] #[42] args).run Tryz.prog w).andThen fun v w' => .ok (.value v) w' :=
  run_callFunc_extern Tryz.func107 (by kernel_rfl) (by kernel_rfl) (by kernel_rfl) (by kernel_rfl) args w

set_option maxRecDepth 100000 in
set_option maxHeartbeats 2000000 in
theorem repeat_ok (x : Int) (hx : 0 ≤ x ∧ x < 256) (a : Addr) (cp : Nat) (w : World) (h : BI w (some a) 1 [x]) :
    Calls Tryz.prog 72 #[.slice (some a) 1 cp, .int .i64 128] w fun e w' => ∃ g, e = .returned (.slice (some ⟨g, 0, none⟩) 128 128) ∧ w.heap.size ≤ g ∧ BI w' (some ⟨g, 0, none⟩) 128 (List.replicate 128 x) ∧ (∃ cs, w'.heap[g]? = some (.cells cs 5 (0, 0))) ∧ Below w.heap.size w w' := by
  have hm := mul_ok w
  obtain ⟨cs, hrun, hcs, hcm⟩ := Lib.run_makeNoZero (P := Tryz.prog) w #[3] 42 5 Tryz.underlying42 128 (by omega)
  have hcall : (callFunc 107 #[.int .i64 128]).run Tryz.prog w = .ok (.value (.slice (some ⟨w.heap.size, 0, none⟩) 128 cs.size)) (w.drew.drew.alloc (.cells cs 5)) := by
    rw [called107]
    have : (Extern.BytealgMakeNoZero.makeNoZero #[3] #[42] #[.int .i64 128]).run Tryz.prog w = _ := hrun
    rw [this]
    rfl
  have hbA : Below w.heap.size w (w.alloc (.cells cs 5)).drew.drew := below_drewN ((Below.refl _ w).alloc (Nat.le_refl _) _) 2
  have hrow0 : (w.alloc (.cells cs 5)).drew.drew.heap[w.heap.size]? = some (.cells cs.toList.toArray 5 (0, 0)) := heap_alloc_new w _
  have hsrc := (h.kept hbA).src'
  have hone := one_cells [x]
  go_enter Tryz.func72, Tryz.ntmps72
  go_wp2_with (first
    | (go_at_call 106; refine same_at hm ?_)
    | (refine wpList_copy_splice rfl (.tmp 58) (.tmp 59) 42 42 rfl 5 Tryz.underlying42 size5 _ _ _ _ _ _ rfl rfl w.heap.size 0 cs.toList 5 hrow0 [Value.int .u8 x] rfl (fun _ => ⟨rfl, a, rfl, hsrc⟩) (by simp; omega) hone w.heap.size w hbA (Nat.le_refl _) ?_))
  intro W1 hg1 hb1
  have hrow1 := hg1.out
  clear hg1
  go_wp2_with fail
  go_loopw [10] (fun b wr => ∃ (k : Nat) (cur : List Value), 1 ≤ k ∧ k ≤ 128 ∧ b = .int .i64 (k : Int) ∧ wr.heap[w.heap.size]? = some (.cells cur.toArray 5 (0, 0)) ∧ cur.length = cs.size ∧ cur.take k = List.replicate k (.int .u8 x) ∧ Below w.heap.size w wr) (fun b _ => 128 - (intOf b).toNat)
  case atStart => exact ⟨1, _, by omega, by omega, rfl, hrow1, by rw [length_splice _ _ _ (by simp; omega)]; simp, by simp [splice], hb1⟩
  case round =>
    clear hb1 hrow1 hrow0 hsrc hbA hone hcall hrun
    obtain ⟨k, cur, hk1, hk2, rfl, hrow, hlen, htake, hb⟩ := hrel
    by_cases hlt : k < 128
    · have hI : (k : Int) < 128 := by omega
      have hk0 : (0 : Int) ≤ (k : Int) := by omega
      have hkJ : (k : Int) ≤ 128 := by omega
      obtain ⟨m, hm⟩ : ∃ m, m = min k (128 - k) := ⟨_, rfl⟩
      have hcell : ∀ j, j < k → wr.cell? ⟨w.heap.size, j, none⟩ = some (.int .u8 x) := by
        intro j hj
        have e : cur[j]? = some (.int .u8 x) := by
          have : (cur.take k)[j]? = some (.int .u8 x) := by rw [htake]; simp [hj]
          rw [List.getElem?_take_of_lt hj] at this
          exact this
        simp [World.cell?, hrow, e]
      have hmin : min (k : Int) 128 = (k : Int) := by omega
      have b1 := IntWalk.i64_in (k : Int) (by omega)
      have hml : (List.replicate m (Value.int .u8 x)).length = Nat.min k (128 - k) := by simp [hm]
      have hsrc : ∀ j v, (List.replicate m (Value.int .u8 x))[j]? = some v → wr.drew.cell? ((⟨w.heap.size, 0, none⟩ : Addr).add j) = some v := by
        intro j v hj
        rw [List.getElem?_replicate] at hj
        split at hj
        · cases hj
          have e : (⟨w.heap.size, 0, none⟩ : Addr).add j = ⟨w.heap.size, j, none⟩ := by unfold Addr.add; split <;> simp_all
          rw [e]
          exact hcell j (by omega)
        · cases hj
      have hm1 : 1 ≤ m := by omega
      have hm2 : k + m ≤ 128 := by omega
      have hfit : k + (List.replicate m (Value.int .u8 x)).length ≤ cur.length := by simp; omega
      have hone2 : ∀ v ∈ List.replicate m (Value.int .u8 x), v.oneCell' = true := by
        intro v hv
        rw [(List.mem_replicate.1 hv).2]
        rfl
      have hbd := hb.drew
      have hrd : wr.drew.heap[w.heap.size]? = some (.cells cur.toArray 5 (0, 0)) := hrow
      have HS := (show Hid _ from hsrc)
      have HF := (show Hid _ from hfit)
      have HL := (show Hid _ from hml)
      have HT := (show Hid _ from htake)
      have H1 := (show Hid _ from hone2)
      have HR := (show Hid _ from hrd)
      have b2 := IntWalk.i64_in ((k : Int) + (m : Int)) (by omega)
      clear hsrc hfit hml htake hone2 hrd hcell hrow hm
      go_wp2_with fail
      go_region_law (first | (refine step_copy_splice rfl (.tmp 70) (.tmp 73) 42 42 rfl 5 Tryz.underlying42 size5 (some ⟨w.heap.size, k, none⟩) (some ⟨w.heap.size, 0, none⟩) (128 - k) (128 - k) k 128 (by simp [Act.eval, Act.put]; omega) (by simp [Act.eval, Act.put]) w.heap.size k cur 5 HR.out (List.replicate m (Value.int .u8 x)) HL.out (fun _ => ⟨rfl, _, rfl, HS.out⟩) HF.out H1.out w.heap.size w hbd (Nat.le_refl _) ?_; intro w5 hg5 hb5))
      go_simp
      go_wp2
      go_roundw
      case rel =>
        refine ⟨k + m, _, by omega, by omega, by go_num, hg5.out, ?_, ?_, hb5⟩
        · rw [length_splice _ _ _ HF.out]; exact hlen
        · have hck : (cur.take k).length = k := by rw [HT.out]; simp
          unfold splice
          rw [HT.out, ← List.append_assoc]
          rw [List.take_append_of_le_length (by simp)]
          rw [List.take_of_length_le (by simp)]
          rw [List.replicate_append_replicate]
      case measure => simp [intOf]; omega
    · obtain rfl : k = 128 := by omega
      have HT := (show Hid _ from htake)
      clear htake
      go_wp2_with fail
      go_ret
      refine ⟨w.heap.size, rfl, Nat.le_refl _, ⟨by simp, by omega, ?_, fun _ => ⟨w.heap.size, 0, rfl, fun i hi => ?_⟩⟩, ⟨_, hrow⟩, hb⟩
      · intro i
        rw [List.getD_eq_getElem?_getD, List.getElem?_replicate]
        split
        · exact hx
        · simp
      · have e : cur[i]? = some (.int .u8 x) := by
          have : (cur.take 128)[i]? = some (.int .u8 x) := by rw [HT.out, List.getElem?_replicate, if_pos hi]
          rw [List.getElem?_take_of_lt hi] at this
          exact this
        rw [Nat.zero_add]
        rw [List.getD_eq_getElem?_getD, List.getElem?_replicate, if_pos hi]
        simp [World.cell?, hrow, e]
end Go.Proofs.YtjecicjpplibaaaGreat
