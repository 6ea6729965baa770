/- VJ VP -/
import Derived.Test.YtjecicjpplibaaaGreatNw45
import Derived.Test.YtjecicjpplibaaaGreatNw01
import Derived.Deep.Slices
import Derived.Deep.Grids

/- begun: a volume behind changes that may be. -/
namespace Go.Proofs.YtjecicjpplibaaaGreat
open Go.RowKit Go.Maps
set_option linter.unusedVariables false
set_option maxRecDepth 100000

/-- A call that was handed in. -/
structure Dk where
  op : Int
  b : Int
  off : Int
  nn : Int
  xs : List Int
  ids : List Int
structure DkAt (w : World) (g o : Nat) (d : Dk) (bp : Option Addr) (bn bc : Nat) (ip : Option Addr) (im ic : Nat) : Prop where
  c0 : w.cell? ⟨g, o, none⟩ = some (.int .i64 d.op)
  c1 : w.cell? ⟨g, o + 1, none⟩ = some (.int .i64 d.b)
  c2 : w.cell? ⟨g, o + 2, none⟩ = some (.int .i64 d.off)
  c3 : w.cell? ⟨g, o + 3, none⟩ = some (.int .i64 d.nn)
  c4 : w.cell? ⟨g, o + 4, none⟩ = some (.slice bp bn bc)
  c5 : w.cell? ⟨g, o + 5, none⟩ = some (.slice ip im ic)
  bi : BI w bp bn d.xs
  bl : bn ≤ bc ∧ bc ≤ 9223372036854775807
  ii : Pt.II w ip im d.ids
  il : (im + 500) * 8 ≤ 140737488355328
/-- The slice at p, of n calls. -/
structure DosI (w : World) (p : Option Addr) (n : Nat) (D : List Dk) : Prop where
  len : D.length = n
  big : n ≤ 140737488355328
  cells : 0 < n → ∃ g o, p = some ⟨g, o, none⟩ ∧ ∀ (j : Nat) (d : Dk), D[j]? = some d → ∃ bp bn bc ip im ic, DkAt w g (o + j * 6) d bp bn bc ip im ic
theorem DkAt.kept {w w' : World} {g o : Nat} {d : Dk} {bp : Option Addr} {bn bc : Nat} {ip : Option Addr} {im ic : Nat} (k : DkAt w g o d bp bn bc ip im ic) (hb : Below w.heap.size w w') : DkAt w' g o d bp bn bc ip im ic := by
  have hg := lt_of_cell k.c0
  have hk : ∀ i, w'.cell? ⟨g, i, none⟩ = w.cell? ⟨g, i, none⟩ := fun i => hb.cell (p := ⟨g, i, none⟩) hg
  exact ⟨(hk _).trans k.c0, (hk _).trans k.c1, (hk _).trans k.c2, (hk _).trans k.c3, (hk _).trans k.c4, (hk _).trans k.c5, k.bi.kept hb, k.bl, k.ii.kept hb, k.il⟩
theorem DkAt.lt {w : World} {g o : Nat} {d : Dk} {bp : Option Addr} {bn bc : Nat} {ip : Option Addr} {im ic : Nat} (k : DkAt w g o d bp bn bc ip im ic) (h0 : 0 < bn) {kk : Nat} (hk : Pt.blkOf bp = some kk) : kk < w.heap.size := by
  obtain ⟨b, oo, rfl, hc⟩ := k.bi.cells h0
  have := lt_of_cell (hc 0 h0)
  simp only [Pt.blkOf, Option.some.injEq] at hk
  omega

/-- A volume at rest: nothing on the way. -/
structure Good (T : Vs) : Prop where
  gd : Pt.Gd T.P
  q : T.S.q = []
  Y : T.Y = fun _ => none
  x : T.x = none
  blk : ∀ p ∈ T.P, p.blk < T.S.N

theorem good_changed {T T' : Vs} {b o : Nat} {xs zs : List Int} {g : Int} {B : Nat} {w : World} {A : At} (h : Good T) (hv : VI g B w A T) (hc : Changed T T' b o xs zs) (hb : b < T.S.N) (ho : o + xs.length ≤ 128) : Good T' := by
  obtain ⟨pn, e1, e2, e3, e4, e5, eP⟩ := hc.ex
  refine ⟨?_, by rw [hc.S]; exact h.q, by rw [hc.Y]; exact h.Y, by rw [hc.x]; exact h.x, ?_⟩
  · rw [eP]
    exact h.gd.add (fun p hp => ⟨(hv.ps.ids p hp).1, (hv.ps.ids p hp).2.1⟩) e1 (by rw [e3, e4]; exact ho) e5
  · rw [eP, hc.S]
    intro p hp
    rcases List.mem_append.1 hp with h1 | h1
    · exact h.blk p h1
    · simp at h1; subst h1; rw [e2]; exact hb

/-- What begun leaves, j changes behind. -/
structure Bgn (w : World) (B : Nat) (w' : World) (A : At) (T : Vs) (K j : Nat) : Prop where
  vi : VI 0 B w' A T
  lo : w.heap.size ≤ B
  good : Good T
  last : T.last = j
  len : T.P.length = j
  C : T.C = ⟨64, 0, 0, []⟩
  N : T.NW = 0
  Sl : T.S.last = 0
  SN : T.S.N = K
  bel : Below w.heap.size w w'
  own : ∀ k, fp A T k → w.heap.size ≤ k

set_option maxHeartbeats 4000000 in
theorem begun_ok (n : Int) (p : Option Addr) (m c : Nat) (D : List Dk) (w : World) (hD : DosI w p m D) : Calls Tryz.prog 8 #[.int .i64 n, .slice p m c] w fun e w' => ∃ A T, e = .returned (.tuple #[.pointer (some ⟨A.v, 0, none⟩), .pointer (some ⟨A.d, 0, none⟩), .bool true]) ∧ ∃ B j, j ≤ 41 ∧ Bgn w B w' A T (1 + Pt.mq 8 n) j := by
  have hl8 := Pt.mq_lt (K := 8) (by omega) n
  have hbl := blocksN_ok n w
  obtain ⟨K, hK⟩ : ∃ K, K = 1 + Pt.mq 8 n := ⟨_, rfl⟩
  rw [← hK] at hbl
  rw [← hK]
  have hK8 : 1 ≤ K ∧ K ≤ 8 := by omega
  clear hK hl8
  go_enter Tryz.func8, Tryz.ntmps8
  go_wp2_with fail
  refine Calls.mono hbl ?_
  rintro e w1 ⟨p1, c1, L, rfl, hL, hS, hb1⟩
  have hof := of_ok p1 K c1 L w1 hL (by omega) (by omega)
  clear hbl
  dsimp only
  go_wp2_with fail
  refine Calls.mono hof ?_
  rintro e w2 ⟨hb2, h2⟩
  rcases h2 with ⟨_, a, dmb, fb, rfl, hd⟩ | ⟨⟨xs, hx, hne⟩, _⟩
  rotate_left
  · exact absurd (hS xs hx).1 hne
  have hb12 : Below w.heap.size w w2 := hb1.trans (hb2.mono hb1.size)
  have hop := vOpen_ok (bd := 64) hd hb2.size (by show K ≤ 12; omega) (fun _ => rfl) (fun b => sect_part hS K b) (by omega)
  clear hof
  dsimp only
  go_wp2_with fail
  refine Calls.mono hop ?_
  rintro e w3 ⟨A, rfl, eA1, eA2, eA3, hv3, hb3, hfp3⟩
  have hB3 : Bgn w w1.heap.size w3 A (new0 ⟨K, part L K, [], 0, fun _ => 0⟩ (.slice none 0 0) 64) K 0 := by
    refine ⟨hv3, hb1.size, ⟨Pt.gd_nil, rfl, rfl, rfl, fun p hp => by cases hp⟩, rfl, rfl, rfl, rfl, rfl, rfl, hb12.trans (hb3.mono hb12.size), fun k hk => ?_⟩
    rcases hfp3 k hk with h1 | h1
    · have := (hd.in k h1).1
      have := hb1.size
      omega
    · have := hb12.size
      omega
  have hbig := hD.big
  have hDl := hD.len
  clear hop hv3 hfp3 hb3 hd hS hL hb12 hb2 hb1
  subst eA1
  dsimp only
  go_wp2_with fail
  go_loopw [36] (fun i wr => ∃ (j : Nat) (T : Vs), j ≤ m ∧ j ≤ 41 ∧ i = .int .i64 (j : Int) ∧ Bgn w w1.heap.size wr A T K j) (fun i _ => m - (intOf i).toNat)
  case atStart => exact ⟨0, _, by omega, by omega, rfl, hB3⟩
  case round =>
    clear hB3
    obtain ⟨j, T, hj, hj41, rfl, hBg⟩ := hrel
    by_cases hlt : j < m
    · obtain ⟨d, hdj⟩ : ∃ d, D[j]? = some d := ⟨_, List.getElem?_eq_getElem (by omega)⟩
      obtain ⟨g, o, rfl, hc⟩ := hD.cells (by omega)
      obtain ⟨bp, bn, bc, ip, im, ic, k0⟩ := hc j d hdj
      have k := k0.kept hBg.bel
      have hjI : (j : Int) < (m : Int) := by omega
      have hj0 : (0 : Int) ≤ (j : Int) := by omega
      have r0 := k.c0
      have r1 := k.c1
      have r2 := k.c2
      have r3 := k.c3
      have r4 := k.c4
      have r5 := k.c5
      obtain ⟨W1, hW1⟩ : ∃ W1, wr.alloc (.cells #[.int .i64 d.op, .int .i64 d.b, .int .i64 d.off, .int .i64 d.nn, .slice bp bn bc, .slice ip im ic] 44) = W1 := ⟨_, rfl⟩
      have hbW : Below wr.heap.size wr W1 := by rw [← hW1]; exact (Below.refl _ _).alloc (Nat.le_refl _) _
      have hrW : W1.heap[wr.heap.size]? = some (.cells #[.int .i64 d.op, .int .i64 d.b, .int .i64 d.off, .int .i64 d.nn, .slice bp bn bc, .slice ip im ic] 44 (0, 0)) := by rw [← hW1]; exact at_new rfl
      have s0 : W1.cell? ⟨wr.heap.size, 0, none⟩ = some (.int .i64 d.op) := (cell_of_row _ _ 0 _ 44 _ hrW).trans rfl
      have s1 : W1.cell? ⟨wr.heap.size, 1, none⟩ = some (.int .i64 d.b) := (cell_of_row _ _ 1 _ 44 _ hrW).trans rfl
      have s2 : W1.cell? ⟨wr.heap.size, 2, none⟩ = some (.int .i64 d.off) := (cell_of_row _ _ 2 _ 44 _ hrW).trans rfl
      have s3 : W1.cell? ⟨wr.heap.size, 3, none⟩ = some (.int .i64 d.nn) := (cell_of_row _ _ 3 _ 44 _ hrW).trans rfl
      have s4 : W1.cell? ⟨wr.heap.size, 4, none⟩ = some (.slice bp bn bc) := (cell_of_row _ _ 4 _ 44 _ hrW).trans rfl
      have s5 : W1.cell? ⟨wr.heap.size, 5, none⟩ = some (.slice ip im ic) := (cell_of_row _ _ 5 _ 44 _ hrW).trans rfl
      by_cases hj40 : j ≤ 40
      · have hg40 : ¬ (40 : Int) < (j : Int) := by omega
        have hd40 : decide ((40 : Int) < (j : Int)) = false := decide_eq_false hg40
        have hvW := hBg.vi.later hbW
        have hNs := hBg.SN
        have hch := change_ok hvW hBg.good.x (by rw [hBg.last]; omega) d.op d.b d.off d.nn bp bn bc d.xs (k.bi.kept hbW) k.bl.1 k.bl.2 ip im ic d.ids (k.ii.kept hbW) k.il (fun h0 kk hk hf => ?_)
        rotate_left
        · have h1 := hBg.own kk hf
          have h2 : kk < w.heap.size := k0.lt h0 hk
          omega
        have HBg := (show Hid _ from hBg)
        clear k k0 hc hdj hBg hg40
        go_wp2_with (first | (go_at_call 22; refine Calls.mono hch ?_; rintro e w5 ⟨rfl, T', h5, hst5, hC5⟩))
        go_roundw
        case rel =>
          have hB := HBg.out
          obtain ⟨pn, q1, q2, q3, q4, q5, qP⟩ := hC5.ex
          have hbl := bsV_len d.nn d.xs
          have hmq := Pt.mq_lt (K := T.S.N) (by rw [hNs]; omega) d.b
          have hmo := Pt.mq_lt (K := 129 - (bsV d.nn d.xs).length) (by omega) d.off
          refine ⟨j + 1, T', by omega, by omega, by go_num, ⟨h5, hB.lo, good_changed hB.good hvW hC5 hmq (by omega), by rw [hC5.last, hB.last], by rw [qP]; simp [hB.len], by rw [hC5.C]; exact hB.C, by rw [hC5.N]; exact hB.N, by rw [hC5.S]; exact hB.Sl, by rw [hC5.S]; exact hB.SN, ?_, ?_⟩⟩
          · have hbw := hB.bel.trans (hbW.mono hB.bel.size)
            refine ⟨hst5.fr.os.trans hbw.os, hst5.fr.tape.trans hbw.tape, hst5.fr.output.trans hbw.output, Nat.le_trans hbw.size hst5.fr.size, fun i hi => ?_⟩
            exact (hst5.fr.block i (Nat.lt_of_lt_of_le hi hbw.size) (fun hf => by have := hB.own i hf; omega)).trans (hbw.block i hi)
          · intro i hi
            rcases hst5.new i hi with h1 | h1
            · exact hB.own i h1
            · have := hB.bel.size
              have := hbW.size
              omega
        case measure => simp [intOf]; omega
      · obtain rfl : j = 41 := by omega
        go_wp2_with fail
        go_ret3
        have hbw := hBg.bel.trans (hbW.mono hBg.bel.size)
        exact ⟨A, T, rfl, w1.heap.size, 41, by omega, ⟨hBg.vi.later hbW, hBg.lo, hBg.good, hBg.last, hBg.len, hBg.C, hBg.N, hBg.Sl, hBg.SN, hbw, hBg.own⟩⟩
    · have hI : ¬ (j : Int) < (m : Int) := by omega
      go_wp2_with fail
      go_ret3
      exact ⟨A, rfl, T, w1.heap.size, j, by omega, hBg⟩
end Go.Proofs.YtjecicjpplibaaaGreat

/- What came in as arguments: calls of a volume, numbers. -/
namespace Go.Proofs.YtjecicjpplibaaaGreat
open Go.ChangeShapes Go.WideShapes Go.ChangeAt Go.RowKit
set_option linter.unusedVariables false

theorem bytes5 : Tryz.prog.bytesOf 5 = 1 := by kernel_rfl
theorem cellsU8 : Tryz.prog.cellsOf 5 = 1 := by kernel_rfl
theorem cells44 : Tryz.prog.cellsOf 44 = 6 := by kernel_rfl
theorem bytes44 : Tryz.prog.bytesOf 44 = 80 := by kernel_rfl
theorem bytes3 : Tryz.prog.bytesOf 3 = 8 := by kernel_rfl
theorem cells3 : Tryz.prog.cellsOf 3 = 1 := by kernel_rfl
theorem cells42 : Tryz.prog.cellsOf 42 = 1 := by kernel_rfl

theorem byt_of_wf {xs : List Int} (h : ∀ n ∈ xs, (Lit.int .u8 n).wf = true) : Num.Byt xs := by
  intro i
  rw [List.getD_eq_getElem?_getD]
  cases hx : xs[i]? with
  | none => simp
  | some x =>
    have := h x (List.mem_of_getElem? hx)
    simp [Lit.wf, IntKind.min, IntKind.max, IntKind.signed, IntKind.bits] at this
    simp only [Option.getD_some]
    omega

theorem rng_of_wf {x : Int} (h : (Lit.int .i64 x).wf = true) : -9223372036854775808 ≤ x ∧ x ≤ 9223372036854775807 := by
  simp [Lit.wf, IntKind.min, IntKind.max, IntKind.signed, IntKind.bits] at h
  omega

theorem weightsAll_mem {H : Type} {P : Program} {e : TypeId} {d : DataW H} {x : Nat} (hx : x ∈ d.weights P e) : ∀ {l : List (DataW H)}, d ∈ l → x ∈ DataW.weightsAll P e l
  | [], h => by cases h
  | y :: r, h => by
    simp only [DataW.weightsAll, List.mem_append]
    rcases List.mem_cons.1 h with rfl | h'
    · exact .inl hx
    · exact .inr (weightsAll_mem hx h')

section
variable {H : Type} {enc : TypeId × Value → H} {W : World}

/-- One cell that reads as bytes. -/
theorem open_bi {v : Value} {d : DataW H} {pl : List MemPlace} {n : Nat} (h : DataW.trod enc Tryz.prog W 0 (fun _ => true) true n 42 [v] = some (d, pl)) (hw : ∀ x ∈ d.weights Tryz.prog 42, x ≤ reachBytes) :
    ∃ p m c xs, v = .slice p m c ∧ m ≤ c ∧ c ≤ 9223372036854775807 ∧ BI W p m xs := by
  rcases open_ints Tryz.underlying42 Tryz.underlying5 cellsU8 h with ⟨hcs, _⟩ | ⟨x, l, c, zs, hcs, _, hl, hm, hz, hx, hcell, hwz⟩
  · simp at hcs
    subst hcs
    exact ⟨none, 0, 0, [], rfl, Nat.le_refl _, by omega, ⟨rfl, by omega, fun i => by simp, fun h => by omega⟩⟩
  · simp at hcs
    subst hcs
    simp only [Prod.mk.injEq] at hx
    obtain ⟨rfl, _⟩ := hx
    simp only [if_true] at hz
    have hw1 := hw ((lits IntKind.u8 (zs.take l) : List (DataW H)).length + (lits IntKind.u8 (zs.drop l) : List (DataW H)).length) (by simp [DataW.weights, Tryz.underlying42, bytes5])
    simp only [lits, List.length_map, List.length_take, List.length_drop, reachBytes] at hw1
    unfold maxLen at hm
    refine ⟨some x, l, c, zs.take l, rfl, hl, by omega, ⟨by rw [List.length_take]; omega, by omega, byt_take (byt_of_wf hwz) _, fun hn => ?_⟩⟩
    obtain ⟨b, off, spot⟩ := x
    have hc := hcell 0 (by omega)
    have hspot : spot = none := by simpa [Addr.add] using World.cell?_spot hc
    subst hspot
    refine ⟨b, off, rfl, fun i hi => ?_⟩
    have hci := hcell i (by omega)
    rw [Addr.add_mid] at hci
    rw [hci, getD_take _ _ _ hi]

theorem open_ii {v : Value} {d : DataW H} {pl : List MemPlace} {n : Nat} (h : DataW.trod enc Tryz.prog W 0 (fun _ => true) true n 23 [v] = some (d, pl)) (hw : ∀ x ∈ d.weights Tryz.prog 23, x ≤ reachBytes) :
    ∃ p m c xs, v = .slice p m c ∧ m ≤ c ∧ c ≤ 9223372036854775807 ∧ m * 8 ≤ 140737488351232 ∧ Pt.II W p m xs := by
  rcases open_ints Tryz.underlying23 Tryz.underlying3 cells3 h with ⟨hcs, _⟩ | ⟨x, l, c, zs, hcs, _, hl, hm, hz, hx, hcell, hwz⟩
  · simp at hcs
    subst hcs
    exact ⟨none, 0, 0, [], rfl, Nat.le_refl _, by omega, by omega, ⟨rfl, by omega, by simp, fun h => by omega⟩⟩
  · simp at hcs
    subst hcs
    simp only [Prod.mk.injEq] at hx
    obtain ⟨rfl, _⟩ := hx
    simp only [if_true] at hz
    have hw1 := hw (((lits IntKind.i64 (zs.take l) : List (DataW H)).length + (lits IntKind.i64 (zs.drop l) : List (DataW H)).length) * 8) (by simp [DataW.weights, Tryz.underlying23, bytes3])
    simp only [lits, List.length_map, List.length_take, List.length_drop, reachBytes] at hw1
    unfold maxLen at hm
    refine ⟨some x, l, c, zs.take l, rfl, hl, by omega, by omega, ⟨by rw [List.length_take]; omega, by omega, fun y hy => rng_of_wf (hwz y (List.mem_of_mem_take hy)), fun hn => ?_⟩⟩
    obtain ⟨b, off, spot⟩ := x
    have hc := hcell 0 (by omega)
    have hspot : spot = none := by simpa [Addr.add] using World.cell?_spot hc
    subst hspot
    refine ⟨b, off, rfl, fun i hi => ?_⟩
    have hci := hcell i (by omega)
    rw [Addr.add_mid] at hci
    rw [hci, getD_take _ _ _ hi]

theorem open_i {v : Value} {d : DataW H} {pl : List MemPlace} {n : Nat} (h : DataW.trod enc Tryz.prog W 0 (fun _ => true) true n 3 [v] = some (d, pl)) : ∃ x, v = .int .i64 x ∧ -9223372036854775808 ≤ x ∧ x ≤ 9223372036854775807 := by
  obtain ⟨x, e, _, hw⟩ := DataW.trod_int Tryz.underlying3 h
  simp at e
  exact ⟨x, e, rng_of_wf hw⟩

set_option maxRecDepth 10000 in
/-- Six cells that read as a call. -/
theorem open_do {b o : Nat} {cs : List Value} {d : DataW H} {pl : List MemPlace} {n : Nat} (hc : ∀ j, j < 6 → W.cell? ⟨b, o + j, none⟩ = cs[j]?) (h : DataW.trod enc Tryz.prog W 0 (fun _ => true) true n 44 cs = some (d, pl)) (hw : ∀ x ∈ d.weights Tryz.prog 44, x ≤ reachBytes) : ∃ x, ∃ bp bn bc ip im ic, DkAt W b o x bp bn bc ip im ic := by
  obtain ⟨xs, k, hk, hxy, hlen, hxl, hf⟩ := DataW.trod_struct Tryz.underlying44 h
  rw [cells44] at hlen
  simp only [Prod.mk.injEq] at hxy
  obtain ⟨rfl, rfl⟩ := hxy
  match xs, hxl, cs, hlen with
  | [y0, y1, y2, y3, y4, y5], _, [v0, v1, v2, v3, v4, v5], _ =>
    have g0 := hf 0 _ rfl
    have g1 := hf 1 _ rfl
    have g2 := hf 2 _ rfl
    have g3 := hf 3 _ rfl
    have g4 := hf 4 _ rfl
    have g5 := hf 5 _ rfl
    simp [cells3, cells42] at g0 g1 g2 g3 g4 g5
    obtain ⟨x0, rfl, r0⟩ := open_i g0
    obtain ⟨x1, rfl, r1⟩ := open_i g1
    obtain ⟨x2, rfl, r2⟩ := open_i g2
    obtain ⟨x3, rfl, r3⟩ := open_i g3
    have hwe : ∀ (j : Nat) (t : TypeId) (dd : DataW H), ([3, 3, 3, 3, 42, 23] : List TypeId)[j]? = some t → ([y0, y1, y2, y3, y4, y5].map (·.1))[j]? = some dd → ∀ x ∈ dd.weights Tryz.prog t, x ≤ reachBytes := by
      intro j t dd ht hd x hx
      apply hw
      simp only [DataW.weights, Tryz.underlying44]
      exact DataW.weights_mem_each ht hd x hx
    obtain ⟨p4, m4, c4, z4, rfl, a4, b4, i4⟩ := open_bi g4 (hwe 4 42 y4.1 rfl rfl)
    obtain ⟨p5, m5, c5, z5, rfl, a5, b5, e5, i5⟩ := open_ii g5 (hwe 5 23 y5.1 rfl rfl)
    refine ⟨⟨x0, x1, x2, x3, z4, z5⟩, p4, m4, c4, p5, m5, c5, ⟨?_, ?_, ?_, ?_, ?_, ?_, i4, ⟨a4, b4⟩, i5, by omega⟩⟩
    · exact hc 0 (by omega)
    · exact hc 1 (by omega)
    · exact hc 2 (by omega)
    · exact hc 3 (by omega)
    · exact hc 4 (by omega)
    · exact hc 5 (by omega)

theorem choose_list {α : Type} {P : Nat → α → Prop} : ∀ (n : Nat), (∀ i, i < n → ∃ x, P i x) → ∃ l : List α, l.length = n ∧ ∀ i x, l[i]? = some x → P i x
  | 0, _ => ⟨[], rfl, by simp⟩
  | n + 1, h => by
    obtain ⟨l, hl, hp⟩ := choose_list n (fun i hi => h i (by omega))
    obtain ⟨x, hx⟩ := h n (by omega)
    refine ⟨l ++ [x], by simp [hl], fun i y hy => ?_⟩
    by_cases hi : i < n
    · rw [List.getElem?_append_left (by omega)] at hy; exact hp i y hy
    · rw [List.getElem?_append_right (by omega)] at hy
      have hi0 : i - l.length = 0 := by have := (List.getElem?_eq_some_iff.1 hy).1; simpa using this
      rw [hi0] at hy
      simp at hy
      subst hy
      obtain rfl : i = n := by omega
      exact hx

set_option maxRecDepth 10000 in
/-- The calls that were handed in. -/
theorem open_dos {a0 : Option Addr} {len0 cap0 : Nat} {d0 : DataW H} {p0 : List MemPlace} {ts : List TypeId} {ds : List (DataW H)} {j : Nat}
    (h0 : DataW.Trod enc Tryz.prog W 0 (fun _ => true) true 22 (.slice a0 len0 cap0) d0 p0)
    (hsz : (DataW.weightsEach Tryz.prog ts ds).all (· ≤ reachBytes) = true) (ht : ts[j]? = some 22) (hd : ds[j]? = some d0) : ∃ D, DosI W a0 len0 D := by
  obtain ⟨fuel, hf⟩ := h0
  have hall : ∀ x ∈ d0.weights Tryz.prog 22, x ≤ reachBytes := fun x hx => by
    have := List.all_eq_true.1 hsz x (DataW.weights_mem_each ht hd x hx)
    simpa using this
  rcases Go.Deep.open_slice Tryz.underlying22 hf with ⟨hcs, _⟩ | ⟨x, l, c, m, nn, E, Pl, hcs, _, hl, hm, hmm, hx, hcell⟩
  · simp [Value.cells] at hcs
    obtain ⟨rfl, rfl, rfl⟩ := hcs
    exact ⟨[], rfl, by omega, fun h => by omega⟩
  · simp [Value.cells] at hcs
    obtain ⟨rfl, rfl, rfl⟩ := hcs
    simp only [if_true] at hmm
    subst hmm
    simp only [Prod.mk.injEq] at hx
    obtain ⟨rfl, _⟩ := hx
    have hw := sized_slice hsz (j := j) (t := 22) (e := 44) ht hd Tryz.underlying22
    rw [bytes44] at hw
    simp only [List.length_map, List.length_range, reachBytes] at hw
    rcases Nat.eq_zero_or_pos len0 with h0 | hpos
    · subst h0
      exact ⟨[], rfl, by omega, fun h => by omega⟩
    obtain ⟨b, off, spot⟩ := x
    have hspot : spot = none := by
      obtain ⟨cs', h1, _⟩ := hcell 0 (by omega)
      rw [cells44] at h1
      obtain ⟨_, hlen, hce⟩ := World.cells?_some h1
      have := hce 0 (by omega)
      have h5 : cs'[0]? = some (cs'[0]'(by omega)) := List.getElem?_eq_getElem (by omega)
      rw [h5] at this
      simpa [Addr.add] using World.cell?_spot this
    subst hspot
    obtain ⟨D, hDl, hD⟩ := choose_list (P := fun i x => ∃ bp bn bc ip im ic, DkAt W b (off + i * 6) x bp bn bc ip im ic) len0 (fun i hi => by
      obtain ⟨cs', h1, h2⟩ := hcell i (by omega)
      rw [cells44] at h1
      obtain ⟨_, hlen, hce⟩ := World.cells?_some h1
      refine open_do (cs := cs') (fun k hk => ?_) h2 (fun y hy => hall y ?_)
      · have := hce k (by omega)
        rw [Addr.add_mid, Addr.add_mid] at this
        exact this
      · simp only [DataW.weights, Tryz.underlying22, List.mem_cons, List.mem_append]
        exact .inr (.inl (weightsAll_mem hy (List.mem_map.2 ⟨i, List.mem_range.2 hi, rfl⟩))))
    exact ⟨D, hDl, by omega, fun _ => ⟨b, off, rfl, hD⟩⟩

theorem open_nums {a0 : Option Addr} {len0 cap0 : Nat} {d0 : DataW H} {p0 : List MemPlace} {ts : List TypeId} {ds : List (DataW H)} {j : Nat}
    (h0 : DataW.Trod enc Tryz.prog W 0 (fun _ => true) true 23 (.slice a0 len0 cap0) d0 p0)
    (hsz : (DataW.weightsEach Tryz.prog ts ds).all (· ≤ reachBytes) = true) (ht : ts[j]? = some 23) (hd : ds[j]? = some d0) : ∃ xs, Pt.II W a0 len0 xs := by
  obtain ⟨fuel, hf⟩ := h0
  have hall : ∀ x ∈ d0.weights Tryz.prog 23, x ≤ reachBytes := fun x hx => by
    have := List.all_eq_true.1 hsz x (DataW.weights_mem_each ht hd x hx)
    simpa using this
  obtain ⟨p, m, c, xs, e, _, _, _, h⟩ := open_ii (v := .slice a0 len0 cap0) (by simpa [Value.cells] using hf) hall
  obtain ⟨rfl, rfl, rfl⟩ := Value.slice.inj e
  exact ⟨xs, h⟩
end
end Go.Proofs.YtjecicjpplibaaaGreat
