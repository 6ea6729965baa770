/- VA VB VC Rep -/
import Derived.Test.YtinigfidofgaiaaGreatGr23
import Derived.Test.YtinigfidofgaiaaGreatGr18
import Derived.Test.YtinigfidofgaiaaGreatGr13
import Derived.Test.YtinigfidofgaiaaGreatGr08
import Derived.Test.YtinigfidofgaiaaGreatGr02
import Derived.Deep.RegionLaw
import Derived.Laws.Externs
import Derived.Lib.MakeNoZero

/- A write is done: complete. -/
namespace Go.Proofs.YtinigfidofgaiaaGreat
open Go.RowKit Go.Maps
set_option linter.unusedVariables false
set_option maxRecDepth 100000

section
variable {g : Int} {B : Nat} {w w' : World} {A : At} {T : Vs}
/-- Disk and cache have turned. -/
theorem VI.both (h : VI g B w A T) {w1 w2 : World} {dq' : Value} {S' : St} {C' : Ch} (hf : Frame (foot A.d A.dm A.df T.dq) w w1) (hn : ∀ k, foot A.d A.dm A.df dq' k → foot A.d A.dm A.df T.dq k ∨ w.heap.size ≤ k)
    (hf2 : Frame (cfoot A.c A.cm T.C) w1 w2) (hn2 : ∀ k, cfoot A.c A.cm C' k → cfoot A.c A.cm T.C k ∨ w.heap.size ≤ k) (hcd : CD B w2 A.c A.cm A.d A.dm A.df dq' C' S') (hy : Sy C' S') :
    VI g B w2 A { T with S := S', dq := dq', C := C' } ∧ Pt.Stp (fp A T) (fp A { T with S := S', dq := dq', C := C' }) w w2 := by
  have hlt := h.lt
  have hs2 : w.heap.size ≤ w2.heap.size := Nat.le_trans hf.size hf2.size
  have ho : ∀ k, k < w.heap.size → ¬ dfoot A T k → w2.heap[k]? = w.heap[k]? := fun k hk hn => (hf2.block k (Nat.lt_of_lt_of_le hk hf.size) (fun hc => hn (.inr hc))).trans (hf.block k hk (fun hc => hn (.inl hc)))
  have nvc : ¬ dfoot A T A.v := fun hc => h.nv A.v (.inr (.inl hc)) rfl
  have hd : ∀ k, dfoot A { T with S := S', dq := dq', C := C' } k → dfoot A T k ∨ w.heap.size ≤ k := by
    rintro k (hk | hk)
    · exact (hn k hk).imp .inl id
    · exact (hn2 k hk).imp .inr id
  have nwc : ∀ k, wfoot A T k → ¬ dfoot A T k := fun k hk => (h.nw k hk).1
  refine ⟨⟨(ho _ (hlt _ (.inl rfl)) nvc).trans h.row, hcd, hy, ?_, h.wy.kept (ho _ (h.wl _ (.inl rfl)) (nwc _ (.inl rfl))), fun b s hs' => ⟨(h.wr b s hs').1.keptIf (fun k hk hkl => ho k hkl (nwc k (.inr ⟨b, s, hs', hk⟩))), (h.wr b s hs').2⟩, fun k hk => Nat.lt_of_lt_of_le (h.wl k hk) hs2, h.nm, ?_, ?_, ?_, h.lo.1, Nat.le_trans h.lo.2 hs2⟩, ⟨⟨hf2.os.trans hf.os, hf2.tape.trans hf.tape, hf2.output.trans hf.output, hs2, fun k hk hn => ho k hk (fun hc => hn (.inr (.inr (.inl hc))))⟩, ?_⟩⟩
  · exact h.ps.else hs2 (fun k hk hkl => ho k hkl (fun hc => h.nd k hc hk))
  · rintro k (hk | hk | hk)
    · exact h.nv k (.inl hk)
    · rcases hd k hk with h1 | h1
      · exact h.nv k (.inr (.inl h1))
      · have := hlt A.v (.inl rfl); omega
    · exact h.nv k (.inr (.inr hk))
  · intro k hk
    refine ⟨fun hk' => ?_, (h.nw k hk).2⟩
    rcases hd k hk' with h1 | h1
    · exact (h.nw k hk).1 h1
    · have := h.wl k hk; omega
  · intro k hk hp
    rcases hd k hk with h1 | h1
    · exact h.nd k h1 hp
    · have := hlt k (.inr (.inr (.inr hp))); omega
  · rintro k (hk | hk | hk | hk)
    · exact .inl (.inl hk)
    · exact .inl (.inr (.inl hk))
    · rcases hd k hk with h1 | h1
      · exact .inl (.inr (.inr (.inl h1)))
      · exact .inr h1
    · exact .inl (.inr (.inr (.inr hk)))

/-- The patches have turned. -/
theorem VI.pats (h : VI g B w A T) {last' : Nat} {P' : List Pt.Pv} {K' : Int → Option Value} (hps : Pt.PS B w' A.s A.mp A.mb last' P' K') (hst : Pt.Stp (Pt.dm A.s A.mp A.mb T.P T.K) (Pt.dm A.s A.mp A.mb P' K') w w') :
    VI g B w' A { T with last := last', P := P', K := K' } ∧ Pt.Stp (fp A T) (fp A { T with last := last', P := P', K := K' }) w w' := by
  have hlt := h.lt
  have hf := hst.fr
  have ho : ∀ k, k < w.heap.size → ¬ pfoot A T k → w'.heap[k]? = w.heap[k]? := fun k hk hn => hf.block k hk hn
  have nvp : ¬ pfoot A T A.v := fun hc => h.nv A.v (.inr (.inr hc)) rfl
  refine ⟨⟨(ho _ (hlt _ (.inl rfl)) nvp).trans h.row, ⟨⟨h.cd.ci.toCW.kept (fun k hk => ho k (hlt k (.inr (.inr (.inl (.inr hk))))) (h.nd k (.inr hk))), h.cd.ci.ord, h.cd.ci.us⟩, h.cd.di.kept (fun k hk => ho k (hlt k (.inr (.inr (.inl (.inl hk))))) (h.nd k (.inl hk))), h.cd.ne⟩, h.sy, hps, h.wy.kept (ho _ (h.wl _ (.inl rfl)) (h.nw _ (.inl rfl)).2), fun b s hs' => ⟨(h.wr b s hs').1.keptIf (fun k hk hkl => ho k hkl (h.nw k (.inr ⟨b, s, hs', hk⟩)).2), (h.wr b s hs').2⟩, fun k hk => Nat.lt_of_lt_of_le (h.wl k hk) hf.size, h.nm, ?_, ?_, ?_, h.lo.1, Nat.le_trans h.lo.2 hf.size⟩, ⟨⟨hf.os, hf.tape, hf.output, hf.size, fun k hk hn => ho k hk (fun hc => hn (.inr (.inr (.inr hc))))⟩, ?_⟩⟩
  · rintro k (hk | hk | hk)
    · exact h.nv k (.inl hk)
    · exact h.nv k (.inr (.inl hk))
    · rcases hst.new k hk with h1 | h1
      · exact h.nv k (.inr (.inr h1))
      · have := hlt A.v (.inl rfl); omega
  · intro k hk
    refine ⟨(h.nw k hk).1, fun hp => ?_⟩
    rcases hst.new k hp with h1 | h1
    · exact (h.nw k hk).2 h1
    · have := h.wl k hk; omega
  · intro k hk hp
    rcases hst.new k hp with h1 | h1
    · exact h.nd k hk h1
    · have := hlt k (.inr (.inr (.inl hk))); omega
  · rintro k (hk | hk | hk | hk)
    · exact .inl (.inl hk)
    · exact .inl (.inr (.inl hk))
    · exact .inl (.inr (.inr (.inl hk)))
    · rcases hst.new k hk with h1 | h1
      · exact .inl (.inr (.inr (.inr h1)))
      · exact .inr h1

/-- A Put of a block that there is. -/
theorem putc {c mb d dm df : Nat} {dq : Value} {C : Ch} {S : St} (h : CD B w c mb d dm df dq C S) (b : Nat) (hb : b < S.N) (p : Option Addr) (cp : Nat) (xs : List Int) (hx : BI w p 128 xs) :
    Calls Tryz.prog 84 #[.pointer (some ⟨c, 0, none⟩), .int .i64 (b : Int), .slice p 128 cp] w fun e w' => ∃ C', e = .returned (.int .i64 0) ∧ CD B w' c mb d dm df dq C' S ∧ Frame (cfoot c mb C) w w' ∧ (∀ k, cfoot c mb C' k → cfoot c mb C k) ∧ C'.hi + C'.mi = C.hi + C.mi ∧ (∀ f ∈ C'.L, (f.b = b ∧ f.xs = xs ∧ ∃ k ∈ C.L, f.p = k.p) ∨ (¬ f.b = b ∧ f ∈ C.L)) := by
  by_cases hin : ∃ f ∈ C.L, f.b = b
  · obtain ⟨f, hf, rfl⟩ := hin
    refine (put_hit h hf p cp xs hx).mono ?_
    rintro e w' ⟨rfl, hcd, hfr⟩
    refine ⟨_, rfl, hcd, hfr, ?_, rfl, ?_⟩
    · rintro k (rfl | rfl | ⟨f', hf', rfl⟩)
      · exact .inl rfl
      · exact .inr (.inl rfl)
      · rcases mem_rep hf' with h1 | ⟨h1, _⟩
        · exact .inr (.inr ⟨f, hf, by rw [h1]⟩)
        · exact .inr (.inr ⟨f', h1, rfl⟩)
    · intro f' hf'
      rcases mem_rep hf' with h1 | ⟨h1, h2⟩
      · exact .inl ⟨by rw [h1], by rw [h1], f, hf, by rw [h1]⟩
      · exact .inr ⟨h2, h1⟩
  · have hno : ∀ k ∈ C.L, ¬ k.b = b := fun k hk e => hin ⟨k, hk, e⟩
    refine (put_miss h b hb hno p cp).mono ?_
    rintro e w' ⟨rfl, rfl⟩
    exact ⟨C, rfl, h, Frame.refl _ _, fun _ h => h, rfl, fun f hf => .inr ⟨hno f hf, hf⟩⟩

theorem sect_upd {f : Nat → List Int} {b : Nat} {xs : List Int} (h : ∀ k, Sect (f k)) (hx : Sect xs) (k : Nat) : Sect (upd f b xs k) := by
  unfold upd
  split
  · exact hx
  · exact h k

theorem join_stp {D D2 D3 : Nat → Prop} {w WA w2 w3 : World} (hb : Below w.heap.size w WA) (hf : Frame D WA w2) (h2 : ∀ j, D2 j → D j) (hst : Pt.Stp D2 D3 w2.drew w3) : Pt.Stp D D3 w w3 := by
  have hd : w2.drew.heap = w2.heap := rfl
  refine ⟨⟨hst.fr.os.trans (hf.os.trans hb.os), hst.fr.tape.trans (hf.tape.trans hb.tape), hst.fr.output.trans (hf.output.trans hb.output), Nat.le_trans hb.size (Nat.le_trans hf.size hst.fr.size), fun k hk hn => ?_⟩, fun k hk => ?_⟩
  · have hk1 := Nat.lt_of_lt_of_le hk hb.size
    exact (hst.fr.block k (Nat.lt_of_lt_of_le hk1 hf.size) (fun hc => hn (h2 k hc))).trans ((hf.block k hk1 hn).trans (hb.block k hk))
  · rcases hst.new k hk with h1 | h1
    · exact .inl (h2 k h1)
    · exact .inr (Nat.le_trans hb.size (Nat.le_trans hf.size h1))

/-- T' is T behind the kth write's end. -/
structure Ended (T T' : Vs) (k : Nat) (x : Wr) (s : Sn) (ok : Bool) : Prop where
  S : T'.S = T.S.done k x ok
  P : T'.P = if ok then Pt.kpP T.P s.zs else T.P
  last : T'.last = T.last
  vx : T'.x = T.x
  Y : T'.Y = Pt.fput T.Y (x.block : Int) none
  C : T'.C.hi + T'.C.mi = T.C.hi + T.C.mi
  N : T'.NW = T.NW

set_option maxHeartbeats 4000000 in
theorem vcpl_ok (h : VI g B w A T) (k : Nat) (x : Wr) (s : Sn) (ok : Bool) (hx : T.S.q[k]? = some x) (hi : T.S.q.findIdx? (fun y => y.id == x.id) = some k) (hs : T.Y (x.block : Int) = some s) (hid : s.id = x.id)
    (hkn : s.zs.all (Pt.kn T.last) = true) (hbad : (Pt.still T.P s.zs).any (Pt.bad T.P s.zs) = false) (hln : s.zs.length ≤ 1000) :
    Calls Tryz.prog 46 #[.pointer (some ⟨A.v, 0, none⟩), .int .i64 (k : Int), .bool ok] w fun e w' => e = .returned (.int .i64 (if ok then 0 else 4)) ∧ ∃ T', VI g B w' A T' ∧ Pt.Stp (fp A T) (fp A T') w w' ∧ Ended T T' k x s ok := by
  have hN12 := h.cd.ci.N12
  have hkl : k < T.S.q.length := (List.getElem?_eq_some_iff.1 hx).1
  have hq64 := h.cd.di.q64
  have hxm : x ∈ T.S.q := List.mem_of_getElem? hx
  have hxb : x.block < T.S.N := (h.cd.di.qok x hxm).1
  have hxs : Sect x.bytes := (h.cd.di.qok x hxm).2.1
  have c2 := h.c2
  have hq := queue_ok h.cd.di
  have hlt := h.lt
  obtain ⟨n, hn⟩ : ∃ n, n = T.S.q.length := ⟨_, rfl⟩
  rw [← hn] at hq hq64 hkl
  have HN := (show Hid _ from hn)
  clear hn
  have k0 : (0 : Int) ≤ (k : Int) := by omega
  have k1 : (k : Int) < (n : Int) := by omega
  have HX := (show Hid _ from hx)
  have HI := (show Hid _ from hi)
  have HS := (show Hid _ from hs)
  have HID := (show Hid _ from hid)
  clear hi hs hid hxm
  go_enter Tryz.func46, Tryz.ntmps46
  go_wp2_with fail
  refine Calls.mono hq ?_
  rintro e w1 ⟨q1, gs, rfl, hS, hb1⟩
  obtain ⟨z0, z1, z2⟩ := hS.cells k x hx
  have hOb := hS.el k x hx
  generalize gs.getD k 0 = gj at z2 hOb
  unfold sl at z2
  clear hx
  obtain ⟨WA, hWA⟩ : ∃ WA, w1.alloc (Obj.cells #[.int .i64 x.id, .int .i64 (x.block : Int), .slice (some ⟨gj, 0, none⟩) 128 128] 62) = WA := ⟨_, rfl⟩
  have hbA : Below w1.heap.size w1 WA := by rw [← hWA]; exact (Below.refl _ _).alloc (Nat.le_refl _) _
  have hrA : WA.heap[w1.heap.size]? = some (.cells #[.int .i64 x.id, .int .i64 (x.block : Int), .slice (some ⟨gj, 0, none⟩) 128 128] 62 (0, 0)) := by rw [← hWA]; exact at_new rfl
  have y0 : WA.cell? ⟨w1.heap.size, 0, none⟩ = some (.int .i64 x.id) := (cell_of_row _ _ 0 _ 62 _ hrA).trans rfl
  have y1 : WA.cell? ⟨w1.heap.size, 1, none⟩ = some (.int .i64 (x.block : Int)) := (cell_of_row _ _ 1 _ 62 _ hrA).trans rfl
  have y2 : WA.cell? ⟨w1.heap.size, 2, none⟩ = some (.slice (some ⟨gj, 0, none⟩) 128 128) := (cell_of_row _ _ 2 _ 62 _ hrA).trans rfl
  have hbT : Below w.heap.size w WA := hb1.trans (hbA.mono hb1.size)
  have hV := h.later hbT
  have hto := takeOff_ok hV x (by omega) (.slice (some ⟨gj, 0, none⟩) 128 128) s HS.out HID.out
  clear hq
  dsimp only
  go_wp2_with fail
  refine Calls.mono hto ?_
  rintro e w2 ⟨rfl, h2, hf2, hii2⟩
  have hnb : ¬ fp A T w1.heap.size := fun hf => by have := hlt _ hf; have := hb1.size; omega
  have hgj := hOb.spot
  have hng : ¬ fp A T gj := fun hf => by have := hlt _ hf; omega
  have hr2 : w2.heap[w1.heap.size]? = some (.cells #[.int .i64 x.id, .int .i64 (x.block : Int), .slice (some ⟨gj, 0, none⟩) 128 128] 62 (0, 0)) := (hf2.block _ (Array.getElem?_eq_some_iff.1 hrA).1 hnb).trans hrA
  have hO2 : Own w.heap.size w2 gj 128 128 x.bytes := ownsRow_kept (hOb.kept hbA) (fun j hj => by simp only [Value.ownBlock, Option.some.injEq] at hj; subst hj; exact hf2.block gj (Nat.lt_of_lt_of_le hgj.2 hbA.size) hng)
  have hfp2 : ∀ j, fp A { T with Y := Pt.fput T.Y (x.block : Int) none } j → fp A T j := by
    rintro j (hj | hj | hj | hj)
    · exact .inl hj
    · rcases hj with hj | ⟨b', s', hs', hj⟩
      · exact .inr (.inl (.inl hj))
      · have hs'' : Pt.fput T.Y (x.block : Int) none b' = some s' := hs'
        unfold Pt.fput at hs''
        split at hs''
        · cases hs''
        · exact .inr (.inl (.inr ⟨b', s', hs'', hj⟩))
    · exact .inr (.inr (.inl hj))
    · exact .inr (.inr (.inr hj))
  have hV2 := h2.drew
  have d2 := hV2.c2
  have u0 : w2.drew.cell? ⟨w1.heap.size, 0, none⟩ = some (.int .i64 x.id) := (cell_of_row _ _ 0 _ 62 _ hr2).trans rfl
  have hcm := complete_some hV2.cd.di x.id ok k x HI.out HX.out
  obtain ⟨er, her⟩ : ∃ er : Int, er = if ok then 0 else 4 := ⟨_, rfl⟩
  rw [← her] at hcm
  have HE := (show Hid _ from her)
  clear her
  clear hto
  dsimp only
  go_wp2_with fail
  go_region_held3 (fun w' => w'.cell? ⟨A.v, 2, none⟩ = some (.pointer (some ⟨A.d, 0, none⟩)) ∧ w'.cell? ⟨w1.heap.size, 0, none⟩ = some (.int .i64 x.id)) (first | exact ⟨d2, u0⟩ | exact ⟨d3, u3⟩)
    (first | (go_at_call 83; refine Calls.mono hcm ?_; rintro e w3 ⟨dq', rfl, hdi, hfr3, hown3⟩; have hrow3 : w3.heap[A.v]? = w2.heap[A.v]? := hfr3.block A.v (h2.lt _ (.inl rfl)) (fun hc => h2.nv A.v (.inr (.inl (.inl hc))) rfl); have hr3 : w3.heap[w1.heap.size]? = some (.cells #[.int .i64 x.id, .int .i64 (x.block : Int), .slice (some ⟨gj, 0, none⟩) 128 128] 62 (0, 0)) := (hfr3.block _ (Array.getElem?_eq_some_iff.1 hr2).1 (fun hc => hnb (hfp2 _ (.inr (.inr (.inl (.inl hc))))))).trans hr2; have d3 : w3.cell? ⟨A.v, 2, none⟩ = some (.pointer (some ⟨A.d, 0, none⟩)) := (cell_of_row _ _ 2 _ 76 _ (hrow3.trans h2.row)).trans rfl; have u3 : w3.cell? ⟨w1.heap.size, 0, none⟩ = some (.int .i64 x.id) := (cell_of_row _ _ 0 _ 62 _ hr3).trans rfl))
  have hS3 : (T.S.done k x ok).N = T.S.N := rfl
  have hok3 : Ok (T.S.done k x ok) := by
    refine ok_of hdi (fun b => ?_) h.sy.fl
    show Sect ((if ok then upd T.S.f x.block x.bytes else T.S.f) b)
    cases ok with
    | false => exact h.sy.ok.sec b
    | true => exact sect_upd h.sy.ok.sec hxs b
  have hnew3 : ∀ j, foot A.d A.dm A.df dq' j → foot A.d A.dm A.df T.dq j ∨ w2.heap.size ≤ j := by
    rintro j (rfl | rfl | rfl | hj)
    · exact .inl (.inl rfl)
    · exact .inl (.inr (.inl rfl))
    · exact .inl (.inr (.inr (.inl rfl)))
    · exact .inl (.inr (.inr (.inr (hown3 ▸ hj))))
  cases ok with
  | false =>
    obtain rfl : er = 4 := HE.out
    obtain ⟨h3, hst3⟩ := hV2.disk hdi rfl ⟨h.sy.xs, h.sy.pin, h.sy.fl, hok3⟩ hfr3 hnew3
    have hj := join_stp hbT hf2 hfp2 hst3
    go_wp2_with fail
    go_ret
    exact ⟨rfl, _, h3, hj, ⟨rfl, rfl, rfl, rfl, rfl, rfl, rfl⟩⟩
  | true =>
    obtain rfl : er = 0 := HE.out
    have hcd3 : CD B w3.drew A.c A.cm A.d A.dm A.df dq' T.C (T.S.done k x true) := ⟨⟨h2.cd.ci.toCW.kept (fun j hj => hfr3.block j (h2.lt j (.inr (.inr (.inl (.inr hj))))) (h2.cd.apart j hj)), h2.cd.ci.ord, h2.cd.ci.us⟩, hdi.later ((Below.refl _ _).drew), h2.cd.ne⟩
    have hO3 : Own w.heap.size w3 gj 128 128 x.bytes := ownsRow_kept hO2 (fun j hj => by simp only [Value.ownBlock, Option.some.injEq] at hj; subst hj; exact hfr3.block gj hO2.spot.2 (fun hc => hng (hfp2 _ (.inr (.inr (.inl (.inl hc)))))))
    have hbi3 : BI w3.drew (some ⟨gj, 0, none⟩) 128 x.bytes := (hO3.bi (by omega) hxs.2).kept ((Below.refl _ _).drew)
    have hpc := putc hcd3 x.block hxb (some ⟨gj, 0, none⟩) 128 x.bytes hbi3
    have d4 : w3.drew.cell? ⟨A.v, 3, none⟩ = some (.pointer (some ⟨A.c, 0, none⟩)) := (cell_of_row _ _ 3 _ 76 _ (hrow3.trans h2.row)).trans rfl
    have u1 : w3.drew.cell? ⟨w1.heap.size, 1, none⟩ = some (.int .i64 (x.block : Int)) := (cell_of_row _ _ 1 _ 62 _ hr3).trans rfl
    have u2 : w3.drew.cell? ⟨w1.heap.size, 2, none⟩ = some (.slice (some ⟨gj, 0, none⟩) 128 128) := (cell_of_row _ _ 2 _ 62 _ hr3).trans rfl
    have nvc : ¬ cfoot A.c A.cm T.C A.v := fun hc => h2.nv A.v (.inr (.inl (.inr hc))) rfl
    have nbc : ¬ cfoot A.c A.cm T.C w1.heap.size := fun hc => hnb (.inr (.inr (.inl (.inr hc))))
    clear hcm u0 d2
    go_wp2_with fail
    go_region_held3 (fun w' => w'.cell? ⟨A.v, 3, none⟩ = some (.pointer (some ⟨A.c, 0, none⟩)) ∧ w'.cell? ⟨w1.heap.size, 1, none⟩ = some (.int .i64 (x.block : Int)) ∧ w'.cell? ⟨w1.heap.size, 2, none⟩ = some (.slice (some ⟨gj, 0, none⟩) 128 128)) (first | exact ⟨d4, u1, u2⟩ | exact ⟨d5, v1, v2⟩)
      (first | (go_at_call 84; refine Calls.mono hpc ?_; rintro e w4 ⟨C', rfl, hcd4, hfr4, hsub, hcnt, hbuf⟩; have hrow4 : w4.heap[A.v]? = w3.heap[A.v]? := hfr4.block A.v (Nat.lt_of_lt_of_le (h2.lt _ (.inl rfl)) hfr3.size) nvc; have hr4 : w4.heap[w1.heap.size]? = some (.cells #[.int .i64 x.id, .int .i64 (x.block : Int), .slice (some ⟨gj, 0, none⟩) 128 128] 62 (0, 0)) := (hfr4.block _ (Array.getElem?_eq_some_iff.1 hr3).1 nbc).trans hr3; have d5 : w4.cell? ⟨A.v, 3, none⟩ = some (.pointer (some ⟨A.c, 0, none⟩)) := (cell_of_row _ _ 3 _ 76 _ (hrow4.trans (hrow3.trans h2.row))).trans rfl; have v1 : w4.cell? ⟨w1.heap.size, 1, none⟩ = some (.int .i64 (x.block : Int)) := (cell_of_row _ _ 1 _ 62 _ hr4).trans rfl; have v2 : w4.cell? ⟨w1.heap.size, 2, none⟩ = some (.slice (some ⟨gj, 0, none⟩) 128 128) := (cell_of_row _ _ 2 _ 62 _ hr4).trans rfl))
    have hfr4' : Frame (cfoot A.c A.cm T.C) w3 w4 := Frame.trans (frame_of_below ((Below.refl _ _).drew)) hfr4
    have hy4 : Sy C' (T.S.done k x true) := by
      refine ⟨fun f hf => ?_, fun f hf => ?_, h.sy.fl, hok3⟩
      · show f.xs = upd T.S.f x.block x.bytes f.b
        unfold upd
        rcases hbuf f hf with ⟨e1, e2, _⟩ | ⟨e1, e2⟩
        · rw [if_pos e1]; exact e2
        · rw [if_neg e1]; exact h.sy.xs f e2
      · rcases hbuf f hf with ⟨_, _, k', hk', e⟩ | ⟨_, e2⟩
        · rw [e]; exact h.sy.pin k' hk'
        · exact h.sy.pin f e2
    obtain ⟨h4, hst4⟩ := hV2.both hfr3 hnew3 hfr4' (fun j hj => .inl (hsub j hj)) hcd4 hy4
    have hii4 : Pt.II w4 s.p s.zs.length s.zs := by
      refine hii2.keptIf (fun j hj hjl => ?_)
      have hw := h.nw j (.inr ⟨_, s, HS.out, hj⟩)
      exact (hfr4'.block j (Nat.lt_of_lt_of_le hjl hfr3.size) (fun hc => hw.1 (.inr hc))).trans (hfr3.block j hjl (fun hc => hw.1 (.inl hc)))
    have hdn := Pt.done_ok h4.ps s.p s.zs.length s.c s.zs hii4 (by omega) hkn
    have e4 := h4.c4
    have hj := join_stp hbT hf2 hfp2 hst4
    clear hpc
    go_wp2_with fail
    refine Calls.mono hdn ?_
    rintro e w5 (⟨⟨hb', _⟩, _⟩ | ⟨⟨_, rfl⟩, K', hps5, hst5⟩)
    · have hb'' : (Pt.still T.P s.zs).any (Pt.bad T.P s.zs) = true := hb'
      rw [hbad] at hb''
      cases hb''
    · obtain ⟨h5, hs5⟩ := h4.pats hps5 hst5
      have hj5 := stp_trans hj hs5
      dsimp only
      go_wp2_with fail
      go_ret
      exact ⟨rfl, _, h5, hj5, ⟨rfl, rfl, rfl, rfl, rfl, hcnt, rfl⟩⟩
end
end Go.Proofs.YtinigfidofgaiaaGreat

/- Write, Complete and Change, with the guard. -/
namespace Go.Proofs.YtinigfidofgaiaaGreat
open Go.RowKit Go.Maps
set_option linter.unusedVariables false
set_option maxRecDepth 100000

section
variable {g : Int} {B : Nat} {w w' : World} {A : At} {T : Vs}
theorem vWrite_ok (h : VI 0 B w A T) (b : Nat) (hb : b < T.S.N) (hm : may T (b : Int) = true) (hc : T.C.hi + T.C.mi < 4611686018427387904) (hq : T.S.q.length < 64) (hl : T.S.last < 9223372036854775807) (hNW : T.NW < 100000) :
    Calls Tryz.prog 12 #[.pointer (some ⟨A.v, 0, none⟩), .int .i64 (b : Int)] w fun e w' => e = .returned (.int .i64 0) ∧ ∃ T', VI 0 B w' A T' ∧ Pt.Stp (fp A T) (fp A T') w w' ∧ Wrote T T' b := by
  refine (vwrite_of h.vrow (b : Int) (R := fun r w1 => r = .int .i64 0 ∧ ∃ T', VI 1 B w1 A T' ∧ Pt.Stp (fp A T) (fp A T') (w.setCell ⟨A.v, 0, none⟩ (.int .i32 1)) w1 ∧ Wrote T T' b) ((vwr_ok (h.guard 1) b hb hm hc hq hl hNW).mono ?_)).mono ?_
  · rintro e w1 ⟨rfl, T', hv, hst, hw⟩
    exact ⟨_, _, rfl, hv.vheld, rfl, T', hv, hst, hw⟩
  · rintro e w2 ⟨r, y, w1, rfl, _, ⟨rfl, T', hv, hst, hw⟩, rfl⟩
    obtain ⟨hv0, hs0⟩ := unguard hst hv
    exact ⟨rfl, T', hv0, hs0, hw⟩

theorem vComplete_ok (h : VI 0 B w A T) (k : Nat) (x : Wr) (s : Sn) (ok : Bool) (hx : T.S.q[k]? = some x) (hi : T.S.q.findIdx? (fun y => y.id == x.id) = some k) (hs : T.Y (x.block : Int) = some s) (hid : s.id = x.id)
    (hkn : s.zs.all (Pt.kn T.last) = true) (hbad : (Pt.still T.P s.zs).any (Pt.bad T.P s.zs) = false) (hln : s.zs.length ≤ 1000) :
    Calls Tryz.prog 15 #[.pointer (some ⟨A.v, 0, none⟩), .int .i64 (k : Int), .bool ok] w fun e w' => e = .returned (.int .i64 (if ok then 0 else 4)) ∧ ∃ T', VI 0 B w' A T' ∧ Pt.Stp (fp A T) (fp A T') w w' ∧ Ended T T' k x s ok := by
  refine (vcomplete_of h.vrow (k : Int) ok (R := fun r w1 => r = .int .i64 (if ok then 0 else 4) ∧ ∃ T', VI 1 B w1 A T' ∧ Pt.Stp (fp A T) (fp A T') (w.setCell ⟨A.v, 0, none⟩ (.int .i32 1)) w1 ∧ Ended T T' k x s ok) ((vcpl_ok (h.guard 1) k x s ok hx hi hs hid hkn hbad hln).mono ?_)).mono ?_
  · rintro e w1 ⟨rfl, T', hv, hst, hw⟩
    exact ⟨_, _, rfl, hv.vheld, rfl, T', hv, hst, hw⟩
  · rintro e w2 ⟨r, y, w1, rfl, _, ⟨rfl, T', hv, hst, hw⟩, rfl⟩
    obtain ⟨hv0, hs0⟩ := unguard hst hv
    exact ⟨rfl, T', hv0, hs0, hw⟩

set_option maxHeartbeats 400000 in
theorem whole_none (w : World) : Calls Tryz.prog 59 #[.pointer none] w fun e w' => e = .returned (.bool false) ∧ w' = w := by
  go_enter Tryz.func59, Tryz.ntmps59
  go_wp2
  go_ret
  exact ⟨rfl, rfl⟩
set_option maxHeartbeats 400000 in
theorem lacks_none (w : World) (b : Int) : Calls Tryz.prog 65 #[.pointer none, .int .i64 b] w fun e w' => e = .returned (.bool false) ∧ w' = w := by
  have hw := whole_none w
  go_enter Tryz.func65, Tryz.ntmps65
  go_wp2_with (first | (go_at_call 59; refine same_at hw ?_))
  go_ret
  exact ⟨rfl, rfl⟩

/-- T' is T with a patch more. -/
structure Changed (T T' : Vs) (b o : Nat) (xs zs : List Int) : Prop where
  ex : ∃ pn : Pt.Pv, pn.id = T.last + 1 ∧ pn.blk = b ∧ pn.off = o ∧ pn.bs = xs ∧ pn.nd = Pt.rs (Pt.still T.P zs ++ Pt.uppL T.P pn) ∧ T'.P = T.P ++ [pn]
  last : T'.last = T.last + 1
  S : T'.S = T.S
  C : T'.C = T.C
  Y : T'.Y = T.Y
  x : T'.x = T.x
  N : T'.NW = T.NW

set_option maxHeartbeats 2000000 in
theorem vChange_ok (h : VI 0 B w A T) (hx : T.x = none) (hsm : T.last + 1 ≤ 1000) (b o : Nat) (hb : b < T.S.N) (p : Option Addr) (n c : Nat) (xs : List Int) (hbi : BI w p n xs) (hp : ∀ k, Pt.blkOf p = some k → k ≠ A.v) (hmay : Pt.mayAt (b : Int) (o : Int) n) (q : Option Addr) (m d : Nat) (zs : List Int) (hz : Pt.II w q m zs) (hqv : ∀ k, Pt.blkOf q = some k → k ≠ A.v) (hk : zs.all (Pt.kn T.last) = true) (hm8 : (m + T.P.length) * 8 ≤ 140737488355328) :
    Calls Tryz.prog 30 #[.pointer (some ⟨A.v, 0, none⟩), .int .i64 (b : Int), .int .i64 (o : Int), .slice p n c, .slice q m d] w fun e w' => e = .returned (.tuple #[.int .i64 ((T.last + 1 : Nat) : Int), .int .i64 0]) ∧ ∃ T', VI 0 B w' A T' ∧ Pt.Stp (fp A T) (fp A T') w w' ∧ Changed T T' b o xs zs := by
  have hg := h.guard 1
  have hN12 := h.cd.ci.N12
  have hm := vmade_ok h.vrow.made
  have hlk := h.vrow.lock
  have hh := vhas_ok hg b hb
  have c6 := hg.c6
  rw [hx] at c6
  have c4 := hg.c4
  obtain ⟨WL, hWL⟩ : ∃ WL, w.setCell ⟨A.v, 0, none⟩ (.int .i32 1) = WL := ⟨_, rfl⟩
  have hoth : ∀ k, k < w.heap.size → k ≠ A.v → WL.heap[k]? = w.heap[k]? := fun k hk hn => by rw [← hWL]; exact (Frame.setCell (X := fun i => i = A.v) w (p := ⟨A.v, 0, none⟩) (.int .i32 1) rfl).block k hk hn
  have hbiL : Pt.BI WL p n xs := hbi.pt.keptIf (fun k hk hl => hoth k hl (hp k hk))
  have hzL : Pt.II WL q m zs := hz.keptIf (fun k hk hl => hoth k hl (hqv k hk))
  rw [hWL] at hg hlk hh c6 c4
  have hadd := Pt.sadd_ok hg.ps hsm b o (by omega) p n c xs hbiL hmay q m d zs hzL hk hm8
  have hla := lacks_none WL (b : Int)
  go_enter_defers Tryz.func30, Tryz.ntmps30
  go_wp2_with (first
    | (go_at_call 38; refine same_at hm ?_)
    | (go_at_call 39; refine Calls.mono hlk ?_; rintro e w' ⟨rfl, hw'⟩; subst w')
    | (go_at_call 64; refine same_at hh ?_)
    | (go_at_call 65; refine same_at hla ?_)
    | (go_at_call 66; refine Calls.mono hadd ?_; rintro e w1 ⟨rfl, pn, K', e1, e2, e3, e4, e5, hps, hst⟩; obtain ⟨h1, hs1⟩ := hg.pats hps hst))
  refine leaves_cons (f := 40) (args := #[.pointer (some ⟨A.v, 0, none⟩)]) (by simp) (by simp [go_sem]) ?_
  refine (h1.vheld.unlock .returning).mono ?_
  rintro e u' w'' ⟨rfl, rfl, rfl⟩
  rw [← hWL] at hs1
  obtain ⟨hv0, hs0⟩ := unguard hs1 h1
  exact ⟨_, results_tmp2 rfl _ _ _, by simp, _, hv0, hs0, ⟨⟨pn, e1, e2, e3, e4, e5, rfl⟩, rfl, rfl, rfl, rfl, rfl, rfl⟩⟩
end
end Go.Proofs.YtinigfidofgaiaaGreat

/- A volume is opened. -/
namespace Go.Proofs.YtinigfidofgaiaaGreat
open Go.RowKit Go.Maps
set_option linter.unusedVariables false
set_option maxRecDepth 100000

/-- A volume that was just opened. -/
def new0 (S : St) (dq : Value) (bd : Nat) : Vs := ⟨⟨bd, 0, 0, []⟩, S, dq, 0, [], fun _ => none, fun _ => none, 0, none⟩

section
variable {B : Nat} {w w' : World}
theorem ownsRow_base {W : World} {base base' : Nat} {e : TypeId} {size : Nat} {v : Value} {k : Nat} {xs : List Value} (h : W.ownsRow base e size v k xs) (hb : base' ≤ base) : W.ownsRow base' e size v k xs := by
  refine ⟨h.1, ?_⟩
  rcases h.2 with h' | ⟨g', cap', cur, h', hbg, rest⟩
  · exact .inl h'
  · exact .inr ⟨g', cap', cur, h', Nat.le_trans hb hbg, rest⟩
theorem ps_base {B B' : Nat} {w : World} {a mp mb last : Nat} {P : List Pt.Pv} {K : Int → Option Value} (h : Pt.PS B w a mp mb last P K) (hB : B' ≤ B) : Pt.PS B' w a mp mb last P K :=
  ⟨h.row, h.pm, h.bm, h.byt, h.nee, fun b v hv => ⟨(h.rows b v hv).1, ownsRow_base (h.rows b v hv).2.1 hB, (h.rows b v hv).2.2⟩, h.away, h.two, h.apart, h.ids, h.srt, h.low, h.sml, ⟨⟨Nat.le_trans hB h.base.1.1, Nat.le_trans hB h.base.1.2.1, Nat.le_trans hB h.base.1.2.2⟩, h.base.2⟩⟩

set_option maxHeartbeats 1000000 in
theorem vOpen_ok {d dm df : Nat} {dq : Value} {S : St} (h : DI B w d dm df dq S) (hB : B ≤ w.heap.size) (hN : S.N ≤ 12) (hf : ∀ b, S.fl b = 0) (hS : ∀ b, Sect (S.f b)) (bd : Nat) (hbd : 1 ≤ bd ∧ bd ≤ 64) :
    Calls Tryz.prog 29 #[.pointer (some ⟨d, 0, none⟩), .int .i64 (bd : Int)] w fun e w' => ∃ A : At, e = .returned (.tuple #[.pointer (some ⟨A.v, 0, none⟩), .int .i64 0]) ∧ A.d = d ∧ A.dm = dm ∧ A.df = df ∧ VI 0 B w' A (new0 S dq bd) ∧ Below w.heap.size w w' ∧ ∀ k, fp A (new0 S dq bd) k → foot d dm df dq k ∨ w.heap.size ≤ k := by
  have hcn := cnew_ok h hB bd hbd hN
  have hmm := @run_makeMap Tryz.prog
  go_enter Tryz.func29, Tryz.ntmps29
  go_wp2_with (first
    | (go_at_call 62; refine Calls.mono hcn ?_; rintro e w1 ⟨c, cm, rfl, hc1, hm1, hcd, hb1⟩)
    | (go_at_call 63; refine Calls.mono (Pt.new_ok _) ?_; rintro e w2 ⟨s, mp, mb, rfl, hps, hb2⟩))
  go_ret2
  obtain ⟨W, hW⟩ : ∃ W, (w2.alloc (.map #[] 0)).alloc (.cells #[.int .i32 0, .int .u32 0, .pointer (some ⟨d, 0, none⟩), .pointer (some ⟨c, 0, none⟩), .pointer (some ⟨s, 0, none⟩), .map (some w2.heap.size), .pointer none] 76) = W := ⟨_, rfl⟩
  have hbW : Below w2.heap.size w2 W := by rw [← hW]; exact ((Below.refl _ _).alloc (Nat.le_refl _) _).alloc (by simp) _
  have hrow : W.heap[w2.heap.size + 1]? = some (.cells #[.int .i32 0, .int .u32 0, .pointer (some ⟨d, 0, none⟩), .pointer (some ⟨c, 0, none⟩), .pointer (some ⟨s, 0, none⟩), .map (some w2.heap.size), .pointer none] 76 (0, 0)) := by rw [← hW]; exact at_new (by simp)
  have hmap : Pt.Mf W w2.heap.size 0 (fun _ => none) := by rw [← hW]; exact (Pt.mf_made w2 0).kept ((at_old (at_new rfl)).trans (at_new (w := w2) rfl).symm)
  have hs1 := hb1.size
  have hs2 := hb2.size
  have hb12 : Below w.heap.size w w2 := hb1.trans (hb2.mono hb1.size)
  have hb1W : Below w1.heap.size w1 W := hb2.trans (hbW.mono hb2.size)
  have hcdW := hcd.later hb1W
  have hpsW := (ps_base hps (Nat.le_trans hB hs1)).kept hbW
  have hfl : ∀ k, foot d dm df dq k → k < w.heap.size := fun k hk => (h.in k hk).2
  have hcl : ∀ k, cfoot c cm ⟨bd, 0, 0, []⟩ k → w.heap.size ≤ k ∧ k < w1.heap.size := by
    rintro k (rfl | rfl | ⟨f, hf, _⟩)
    · exact ⟨hc1, (hcd.ci.toCW.in _ (.inl rfl)).2⟩
    · exact ⟨hm1, (hcd.ci.toCW.in _ (.inr (.inl rfl))).2⟩
    · cases hf
  have hpl : ∀ k, Pt.dm s mp mb [] (fun _ => none) k → w1.heap.size ≤ k ∧ k < w2.heap.size := by
    intro k hk
    refine ⟨?_, hps.dm_lt hk⟩
    rcases hk with rfl | rfl | rfl | ⟨b, v, hv, _⟩ | ⟨p, hp, _⟩
    · exact hps.base.1.1
    · exact hps.base.1.2.1
    · exact hps.base.1.2.2
    · cases hv
    · cases hp
  have hwl : ∀ k, wfoot ⟨w2.heap.size + 1, d, c, s, w2.heap.size, cm, dm, df, mp, mb⟩ (new0 S dq bd) k → k = w2.heap.size := by
    rintro k (hk | ⟨b, s', hs', _⟩)
    · exact hk
    · cases hs'
  have hdl : ∀ k, dfoot ⟨w2.heap.size + 1, d, c, s, w2.heap.size, cm, dm, df, mp, mb⟩ (new0 S dq bd) k → k < w1.heap.size := by
    rintro k (hk | hk)
    · exact Nat.lt_of_lt_of_le (hfl k hk) hs1
    · exact (hcl k hk).2
  have hvi : VI 0 B W ⟨w2.heap.size + 1, d, c, s, w2.heap.size, cm, dm, df, mp, mb⟩ (new0 S dq bd) := by
    refine ⟨hrow, hcdW, ⟨fun f hf => (by cases hf), fun f hf => (by cases hf), hf, ok_of h hS hf⟩, hpsW, hmap, fun b s' hs' => (by cases hs'), fun k hk => (by have h1 := hwl k hk; have := (Array.getElem?_eq_some_iff.1 hrow).1; omega), fun b s' hs' => (by cases hs'), ?_, ?_, ?_, ?_, ?_⟩
    · rintro k (hk | hk | hk) e
      · have := hwl k hk; have e' : k = w2.heap.size + 1 := e; omega
      · have := hdl k hk; have e' : k = w2.heap.size + 1 := e; omega
      · have := hpl k hk; have e' : k = w2.heap.size + 1 := e; omega
    · intro k hk
      have := hwl k hk
      exact ⟨fun hd => by have := hdl k hd; omega, fun hp => by have := hpl k hp; omega⟩
    · intro k hk hp
      have := hdl k hk
      have := hpl k hp
      omega
    · show B ≤ w2.heap.size + 1
      omega
    · have := hbW.size; omega
  rw [hW]
  refine ⟨⟨w2.heap.size + 1, d, c, s, w2.heap.size, cm, dm, df, mp, mb⟩, rfl, rfl, rfl, rfl, hvi, hb12.trans (hbW.mono hb12.size), ?_⟩
  rintro k (hk | hk | (hk | hk) | hk)
  · have e' : k = w2.heap.size + 1 := hk; right; omega
  · have := hwl k hk; right; omega
  · exact .inl hk
  · exact .inr (hcl k hk).1
  · have := hpl k hk; right; omega
end
end Go.Proofs.YtinigfidofgaiaaGreat

/- bytes.Repeat of one byte, 128 times. -/
namespace Go.Proofs.YtinigfidofgaiaaGreat
open Go.RowKit Go.Maps
set_option linter.unusedVariables false

set_option maxRecDepth 100000 in
set_option maxHeartbeats 1000000 in
theorem mul64_ok (w : World) : Calls Tryz.prog 139 #[.int .u64 1, .int .u64 128] w fun e w' => e = .returned (.tuple #[.int .u64 0, .int .u64 128]) ∧ w' = w := by
  go_enter Tryz.func139, Tryz.ntmps139
  go_wp2
  go_ret2
  exact ⟨rfl, rfl⟩
set_option maxHeartbeats 400000 in
theorem mul_ok (w : World) : Calls Tryz.prog 106 #[.int .u64 1, .int .u64 128] w fun e w' => e = .returned (.tuple #[.int .u64 0, .int .u64 128]) ∧ w' = w := by
  have h := mul64_ok w
  go_enter Tryz.func106, Tryz.ntmps106
  go_wp2_with (first | (go_at_call 139; refine same_at h ?_))
  go_ret2
  exact ⟨rfl, rfl⟩
theorem called107 (args : Array Value) (w : World) : (callFunc 107 args).run Tryz.prog w = ((Extern.BytealgMakeNoZero.makeNoZero #[3] #[42] args).run Tryz.prog w).andThen fun v w' => .ok (.value v) w' :=
  run_callFunc_extern Tryz.func107 (by kernel_rfl) (by kernel_rfl) (by kernel_rfl) (by kernel_rfl) args w

set_option maxRecDepth 100000 in
set_option maxHeartbeats 2000000 in
theorem repeat_ok (x : Int) (hx : 0 ≤ x ∧ x < 256) (a : Addr) (cp : Nat) (w : World) (h : BI w (some a) 1 [x]) :
    Calls Tryz.prog 72 #[.slice (some a) 1 cp, .int .i64 128] w fun e w' => ∃ g, e = .returned (.slice (some ⟨g, 0, none⟩) 128 128) ∧ w.heap.size ≤ g ∧ BI w' (some ⟨g, 0, none⟩) 128 (List.replicate 128 x) ∧ (∃ cs, w'.heap[g]? = some (.cells cs 5 (0, 0))) ∧ Below w.heap.size w w' := by
  have hm := mul_ok w
  obtain ⟨cs, hrun, hcs, hcm⟩ := Lib.run_makeNoZero (P := Tryz.prog) w #[3] 42 5 Tryz.underlying42 128 (by omega)
  have hcall : (callFunc 107 #[.int .i64 128]).run Tryz.prog w = .ok (.value (.slice (some ⟨w.heap.size, 0, none⟩) 128 cs.size)) (w.drew.drew.alloc (.cells cs 5)) := by
    rw [called107]
    have : (Extern.BytealgMakeNoZero.makeNoZero #[3] #[42] #[.int .i64 128]).run Tryz.prog w = _ := hrun
    rw [this]
    rfl
  have hbA : Below w.heap.size w (w.alloc (.cells cs 5)).drew.drew := below_drewN ((Below.refl _ w).alloc (Nat.le_refl _) _) 2
  have hrow0 : (w.alloc (.cells cs 5)).drew.drew.heap[w.heap.size]? = some (.cells cs.toList.toArray 5 (0, 0)) := heap_alloc_new w _
  have hsrc := (h.kept hbA).src'
  have hone := one_cells [x]
  go_enter Tryz.func72, Tryz.ntmps72
  go_wp2_with (first
    | (go_at_call 106; refine same_at hm ?_)
    | (refine wpList_copy_splice rfl (.tmp 58) (.tmp 59) 42 42 rfl 5 Tryz.underlying42 size5 _ _ _ _ _ _ rfl rfl w.heap.size 0 cs.toList 5 hrow0 [Value.int .u8 x] rfl (fun _ => ⟨rfl, a, rfl, hsrc⟩) (by simp; omega) hone w.heap.size w hbA (Nat.le_refl _) ?_))
  intro W1 hg1 hb1
  have hrow1 := hg1.out
  clear hg1
  go_wp2_with fail
  go_loopw [10] (fun b wr => ∃ (k : Nat) (cur : List Value), 1 ≤ k ∧ k ≤ 128 ∧ b = .int .i64 (k : Int) ∧ wr.heap[w.heap.size]? = some (.cells cur.toArray 5 (0, 0)) ∧ cur.length = cs.size ∧ cur.take k = List.replicate k (.int .u8 x) ∧ Below w.heap.size w wr) (fun b _ => 128 - (intOf b).toNat)
  case atStart => exact ⟨1, _, by omega, by omega, rfl, hrow1, by rw [length_splice _ _ _ (by simp; omega)]; simp, by simp [splice], hb1⟩
  case round =>
    clear hb1 hrow1 hrow0 hsrc hbA hone hcall hrun
    obtain ⟨k, cur, hk1, hk2, rfl, hrow, hlen, htake, hb⟩ := hrel
    by_cases hlt : k < 128
    · have hI : (k : Int) < 128 := by omega
      have hk0 : (0 : Int) ≤ (k : Int) := by omega
      have hkJ : (k : Int) ≤ 128 := by omega
      obtain ⟨m, hm⟩ : ∃ m, m = min k (128 - k) := ⟨_, rfl⟩
      have hcell : ∀ j, j < k → wr.cell? ⟨w.heap.size, j, none⟩ = some (.int .u8 x) := by
        intro j hj
        have e : cur[j]? = some (.int .u8 x) := by
          have : (cur.take k)[j]? = some (.int .u8 x) := by rw [htake]; simp [hj]
          rw [List.getElem?_take_of_lt hj] at this
          exact this
        simp [World.cell?, hrow, e]
      have hmin : min (k : Int) 128 = (k : Int) := by omega
      have b1 := IntWalk.i64_in (k : Int) (by omega)
      have hml : (List.replicate m (Value.int .u8 x)).length = Nat.min k (128 - k) := by simp [hm]
      have hsrc : ∀ j v, (List.replicate m (Value.int .u8 x))[j]? = some v → wr.drew.cell? ((⟨w.heap.size, 0, none⟩ : Addr).add j) = some v := by
        intro j v hj
        rw [List.getElem?_replicate] at hj
        split at hj
        · cases hj
          have e : (⟨w.heap.size, 0, none⟩ : Addr).add j = ⟨w.heap.size, j, none⟩ := by unfold Addr.add; split <;> simp_all
          rw [e]
          exact hcell j (by omega)
        · cases hj
      have hm1 : 1 ≤ m := by omega
      have hm2 : k + m ≤ 128 := by omega
      have hfit : k + (List.replicate m (Value.int .u8 x)).length ≤ cur.length := by simp; omega
      have hone2 : ∀ v ∈ List.replicate m (Value.int .u8 x), v.oneCell' = true := by
        intro v hv
        rw [(List.mem_replicate.1 hv).2]
        rfl
      have hbd := hb.drew
      have hrd : wr.drew.heap[w.heap.size]? = some (.cells cur.toArray 5 (0, 0)) := hrow
      have HS := (show Hid _ from hsrc)
      have HF := (show Hid _ from hfit)
      have HL := (show Hid _ from hml)
      have HT := (show Hid _ from htake)
      have H1 := (show Hid _ from hone2)
      have HR := (show Hid _ from hrd)
      have b2 := IntWalk.i64_in ((k : Int) + (m : Int)) (by omega)
      clear hsrc hfit hml htake hone2 hrd hcell hrow hm
      go_wp2_with fail
      go_region_law (first | (refine step_copy_splice rfl (.tmp 70) (.tmp 73) 42 42 rfl 5 Tryz.underlying42 size5 (some ⟨w.heap.size, k, none⟩) (some ⟨w.heap.size, 0, none⟩) (128 - k) (128 - k) k 128 (by simp [Act.eval, Act.put]; omega) (by simp [Act.eval, Act.put]) w.heap.size k cur 5 HR.out (List.replicate m (Value.int .u8 x)) HL.out (fun _ => ⟨rfl, _, rfl, HS.out⟩) HF.out H1.out w.heap.size w hbd (Nat.le_refl _) ?_; intro w5 hg5 hb5))
      go_simp
      go_wp2
      go_roundw
      case rel =>
        refine ⟨k + m, _, by omega, by omega, by go_num, hg5.out, ?_, ?_, hb5⟩
        · rw [length_splice _ _ _ HF.out]; exact hlen
        · have hck : (cur.take k).length = k := by rw [HT.out]; simp
          unfold splice
          rw [HT.out, ← List.append_assoc]
          rw [List.take_append_of_le_length (by simp)]
          rw [List.take_of_length_le (by simp)]
          rw [List.replicate_append_replicate]
      case measure => simp [intOf]; omega
    · obtain rfl : k = 128 := by omega
      have HT := (show Hid _ from htake)
      clear htake
      go_wp2_with fail
      go_ret
      refine ⟨w.heap.size, rfl, Nat.le_refl _, ⟨by simp, by omega, ?_, fun _ => ⟨w.heap.size, 0, rfl, fun i hi => ?_⟩⟩, ⟨_, hrow⟩, hb⟩
      · intro i
        rw [List.getD_eq_getElem?_getD, List.getElem?_replicate]
        split
        · exact hx
        · simp
      · have e : cur[i]? = some (.int .u8 x) := by
          have : (cur.take 128)[i]? = some (.int .u8 x) := by rw [HT.out, List.getElem?_replicate, if_pos hi]
          rw [List.getElem?_take_of_lt hi] at this
          exact this
        rw [Nat.zero_add]
        rw [List.getD_eq_getElem?_getD, List.getElem?_replicate, if_pos hi]
        simp [World.cell?, hrow, e]
end Go.Proofs.YtinigfidofgaiaaGreat
