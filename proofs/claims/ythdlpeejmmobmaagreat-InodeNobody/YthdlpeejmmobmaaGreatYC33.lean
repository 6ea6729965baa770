/- F4 A12 AO I0 I1 -/
import Derived.Test.YthdlpeejmmobmaaGreatYC32
import Derived.Test.YthdlpeejmmobmaaGreatYC28
import Derived.Test.YthdlpeejmmobmaaGreatYC31
import Derived.Maps.AppendAt
import Derived.Test.YthdlpeejmmobmaaGreatRows
import Derived.Test.YthdlpeejmmobmaaGreatYC03
import Derived.Deep.Slices
import Derived.Deep.Grids
import Derived.ProofKit
import Derived.OpenShut
import Derived.ShutString
import Derived.ChangeOld
import Derived.SizedLaws
import Derived.Lib.SmallJoins
import Derived.Test.YthdlpeejmmobmaaGreatYC22
import Derived.Test.YthdlpeejmmobmaaGreatYC17

namespace Go.Proofs.YthdlpeejmmobmaaGreat
open Go.RowKit Go.Maps Go.MuLone
set_option linter.unusedVariables false
set_option maxRecDepth 100000
theorem rd_ib {w : World} {A n : Nat} {L : Nat → List Int} (h : Mk.Rd w A n L) (hn : n ≤ 2048) : IB w (some ⟨A, 0, none⟩) n (imgL L n) := by
 refine ⟨by simp [imgL], by omega, fun _ => ⟨A, 0, rfl, fun i x hx => ?_⟩⟩
 have hi : i < n := by have := (List.getElem?_eq_some_iff.1 hx).1; simpa [imgL] using this
 have ex : x = L i := by simpa [imgL, hi] using hx.symm
 subst ex
 obtain ⟨q, m, c, h1, h2⟩ := h i hi
 exact ⟨q, m, c, by rw [Nat.zero_add]; exact h1, mk_bi h2⟩
theorem img_len (g b i k : Nat) : (Mk.img g b i k).length = 128 := by
 unfold Mk.img Mk.rtL
 by_cases h1 : k = 2
 ·rw [if_pos h1, Mk.rtB_len]
 rw [if_neg h1]
 by_cases h2 : k = 2 + i / 4
 ·rw [if_pos h2, Mk.dd_len]
 rw [if_neg h2]
 unfold Mk.blF
 split
 ·exact Mk.groupL_len _ _ (Mk.hdY_len _ _)
 ·split
  ·exact Mk.superS_len _ _ _ _
  ·exact Mk.zers_len 128
theorem ib_sect {w : World} {p : Option Addr} {n : Nat} {L : List (List Int)} (h : IB w p n L) (hl : ∀ xs ∈ L, xs.length = 128) : ∀ xs ∈ L, Sect xs := by
 intro xs hx
 obtain ⟨i, hi⟩ := List.getElem?_of_mem hx
 have h0 : 0 < n := by have := (List.getElem?_eq_some_iff.1 hi).1; have := h.len; omega
 obtain ⟨b, o, _, hc⟩ := h.cells h0
 obtain ⟨q, m, c, _, hb⟩ := hc i xs hi
 exact ⟨hl xs hx, hb.byt⟩
set_option maxHeartbeats 1000000 in
theorem rmake_no (G B I : Int) (hmay : ¬ Mk.Gm.May G B I) (w : World) : Calls Tryz.prog 44 #[Mk.geomV G B I] w fun e w' => e = .returned (.tuple #[.slice none 0 0, .int .i64 170]) ∧ Below w.heap.size w w' := by
 obtain ⟨W1, hW1⟩ : ∃ W1, w.alloc (Mk.geomO G B I) = W1 := ⟨_, rfl⟩
 have hb1 : Below w.heap.size w W1 := by rw [← hW1]; exact Mk.grew_alloc _ _
 have hg1 : W1.heap[w.heap.size]? = some (Mk.geomO G B I) := by rw [← hW1]; exact at_new rfl
 have hca := Mk.rcan_not hmay W1
 go_enter Tryz.func44, Tryz.ntmps44
 go_wp2_with (first
  | (refine wpList_load_row rfl 23 (.tmp 1) rfl w.heap.size rfl 23 _ (0, 0) _ hg1 Tryz.underlying23 rfl Mk.info23 ?_))
 refine Mk.grew_at hca ?_
 intro w2 hb2
 have HB : Hid (Below w.heap.size w w2) := Mk.grew_trans hb1 hb2
 clear hca hg1 hb1 hb2
 dsimp only
 go_wp2_with fail
 go_ret2
 exact ⟨rfl, HB.out⟩
theorem belowRow {n : Nat} {w w' : World} (h : Below n w w') {b : Nat} (hb : n ≤ b) (cs : Array Value) : Below n w (w'.setRow b cs) := by
 refine ⟨h.os, h.tape, h.output, Nat.le_trans h.size (by simp), fun k hk => ?_⟩
 rw [setRow_other _ _ _ _ (by omega)]
 exact h.block k hk
theorem geom_one : (#[.int .i64 1, .int .i64 8, .int .i64 4] : Array Value).all (·.oneCell') = true := by simp [Value.oneCell']
theorem results_tct {P : Program} {fn : Func} {a p u : Tmp} {ty : TypeId} (h : fn.results = #[.tmp a, .cell p ty, .tmp u]) (tmps : Array Value) (w : World) (g : Nat) (t : TypeId) (cs : Array Value) (fr : Nat × Nat) (d : TypeDesc)
  (hp : tmps.getD p undef = .pointer (some ⟨g, 0, none⟩)) (hg : w.heap[g]? = some (.cells cs t fr))
  (hu : P.underlying ty = some d) (hd : (match d with | .struct _ | .array _ _ => true | _ => false) = true) (hi : (P.info? ty).map (·.size) = some cs.size) :
  (results fn tmps).run P w = .ok (.tuple #[tmps.getD a undef, .agg cs, tmps.getD u undef]) w := by
 have e : (results fn tmps).run P w = ((asAddr (tmps.getD p undef)).run P w).andThen fun x w₁ => ((loadVar ty x).run P w₁).andThen fun v w₂ => .ok (.tuple #[tmps.getD a undef, v, tmps.getD u undef]) w₂ := by
  simp only [results, h]
  simp [Sem.run_bind, Result.andThen]
 rw [e, hp]
 simp [asAddr, run_loadVar_row w g t ty cs fr d hg hu hd hi]
def S0 (g b i : Nat) : St := ⟨g * b, part (imgL (Mk.img g b i) (g * b)) (g * b), [], 0, fun _ => 0⟩
def T0 (g b i : Nat) : Vs := new0 (S0 g b i) (.slice none 0 0) 64
def FrP (w : World) (g b i : Nat) (e : Ending) (w' : World) : Prop :=
 ∃ p xd y A B, e = .returned (.tuple #[.pointer (some ⟨p, 0, none⟩), Mk.geomV g b i, .bool true]) ∧ w'.heap[p]? = some (.cells #[.pointer (some ⟨At.d A, 0, none⟩), .pointer (some ⟨At.v A, 0, none⟩), .pointer (some ⟨xd, 0, none⟩), .pointer (some ⟨y, 0, none⟩)] 33 (0, 0)) ∧ VI 0 B w' A (T0 g b i) ∧ (∀ k, fp A (T0 g b i) k → w.heap.size ≤ k ∧ k ≠ p) ∧ w.heap.size ≤ p ∧ Below w.heap.size w w'
theorem fresh_end {w w4 w5 : World} {p xd y g b i B' : Nat} {A : At} {a : Act}
  (hp : w5.heap[p]? = some (.cells #[.pointer (some ⟨A.d, 0, none⟩), .pointer (some ⟨A.v, 0, none⟩), .pointer (some ⟨xd, 0, none⟩), .pointer (some ⟨y, 0, none⟩)] 33 (0, 0)))
  (hV : VI 0 B' w5 A (T0 g b i)) (hlo : ∀ k, fp A (T0 g b i) k → p < k) (hp4 : w4.heap.size ≤ p) (hbw : Below w.heap.size w w5) (hlt : w.heap.size + 1 < w4.heap.size)
  (hr : w5.heap[w.heap.size + 1]? = some (Mk.geomO 0 0 0))
  (e2 : a.tmps.getD 2 undef = .pointer (some ⟨p, 0, none⟩)) (e3 : a.tmps.getD 3 undef = .pointer (some ⟨w.heap.size + 1, 0, none⟩)) (e4 : a.tmps.getD 4 undef = .bool true) (ed : a.defers = []) :
  bodyPost Tryz.prog Tryz.f12 (fun e w' => FrP w g b i e w') Exit.ret a ((((w5.setCell ⟨w.heap.size + 1, 0, none⟩ (.int .i64 (g : Int))).setCell ⟨w.heap.size + 1, 1, none⟩ (.int .i64 (b : Int))).setCell ⟨w.heap.size + 1, 2, none⟩ (.int .i64 (i : Int))).drew) := by
 have g1 := row_set hr 0 (.int .i64 (g : Int))
 have g2 := row_set g1 1 (.int .i64 (b : Int))
 have g3 := row_set g2 2 (.int .i64 (i : Int))
 obtain ⟨W7, hW7⟩ : ∃ W7, (((w5.setCell ⟨w.heap.size + 1, 0, none⟩ (.int .i64 (g : Int))).setCell ⟨w.heap.size + 1, 1, none⟩ (.int .i64 (b : Int))).setCell ⟨w.heap.size + 1, 2, none⟩ (.int .i64 (i : Int))) = W7 := ⟨_, rfl⟩
 rw [hW7] at g3 ⊢
 have hdr : Below W7.heap.size W7 W7.drew := (Below.refl _ _).drew
 have so : ∀ b, b ≠ w.heap.size + 1 → W7.drew.heap[b]? = w5.heap[b]? := fun b hb => by
  have h0 : W7.drew.heap[b]? = W7.heap[b]? := rfl
  rw [h0, ← hW7]
  rw [Below.heap_setCell _ _ _ _ hb, Below.heap_setCell _ _ _ _ hb, Below.heap_setCell _ _ _ _ hb]
 have g4 : W7.drew.heap[w.heap.size + 1]? = some (Mk.geomO g b i) := g3
 have hs7 : W7.drew.heap.size = w5.heap.size := by
  have h0 : W7.drew.heap.size = W7.heap.size := rfl
  rw [h0, ← hW7]; simp
 have hb7 : Below w.heap.size w W7.drew := by
  rw [← hW7]
  exact (((hbw.setCell (Nat.le_succ _) _).setCell (Nat.le_succ _) _).setCell (Nat.le_succ _) _).drew
 refine bodyPost_ret (v := .tuple #[.pointer (some ⟨p, 0, none⟩), Mk.geomV g b i, .bool true]) ?_ ed ?_
 ·have := results_tct (P := Tryz.prog) Tryz.results12 a.tmps W7.drew (w.heap.size + 1) 23 _ (0, 0) _ e3 g4 Tryz.underlying23 rfl Mk.info23
  rw [e2, e4] at this
  exact this
 ·refine ⟨p, xd, y, A, B', rfl, (so p (by omega)).trans hp, hV.else (by omega) (fun k hk => so k (by have := hlo k hk; omega)), fun k hk => by have := hlo k hk; omega, by omega, hb7⟩
set_option maxHeartbeats 2000000 in
theorem freshNo_ok (G B I : Int) (hmay : ¬ Mk.Gm.May G B I) (w : World) : Calls Tryz.prog 12 #[Mk.geomV G B I] w fun e w' => FrP w 1 8 4 e w' := by
 obtain ⟨W1, hW1⟩ : ∃ W1, (w.alloc (Mk.geomO G B I)).alloc (Mk.geomO 0 0 0) = W1 := ⟨_, rfl⟩
 have hb1 : Below w.heap.size w W1 := by rw [← hW1]; exact ((Below.refl _ w).alloc (Nat.le_refl _) _).alloc (by simp) _
 have hg1 : W1.heap[w.heap.size]? = some (Mk.geomO G B I) := by rw [← hW1]; exact at_old (at_new rfl)
 have hr1 : W1.heap[w.heap.size + 1]? = some (Mk.geomO 0 0 0) := by rw [← hW1]; exact at_new (by simp)
 have HB1 : Hid (Below w.heap.size w W1) := hb1
 have HR1 : Hid (W1.heap[w.heap.size + 1]? = some (Mk.geomO 0 0 0)) := hr1
 have hno := rmake_no G B I hmay W1
 clear hb1 hr1
 go_enter Tryz.func12, Tryz.ntmps12
 go_wp2_with (first
  | (refine wpList_load_row rfl 23 (.tmp 1) rfl w.heap.size rfl 23 _ (0, 0) _ hg1 Tryz.underlying23 rfl Mk.info23 ?_))
 refine Calls.mono hno ?_
 rintro e w2 ⟨rfl, hb2⟩
 have hg2 := (hb2.block _ (Array.getElem?_eq_some_iff.1 hg1).1).trans hg1
 have hr2 := (hb2.block _ (Array.getElem?_eq_some_iff.1 HR1.out).1).trans HR1.out
 obtain ⟨W3, hW3⟩ : ∃ W3, w2.setRow w.heap.size #[.int .i64 1, .int .i64 8, .int .i64 4] = W3 := ⟨_, rfl⟩
 have hg3 : W3.heap[w.heap.size]? = some (Mk.geomO 1 8 4) := by rw [← hW3]; exact setRow_heap _ _ _ _ 23 _ hg2
 have hr3 : W3.heap[w.heap.size + 1]? = some (Mk.geomO 0 0 0) := by rw [← hW3, setRow_other _ _ _ _ (by omega)]; exact hr2
 have hB2 : Below w.heap.size w w2 := HB1.out.trans (hb2.mono HB1.out.size)
 have hB3 : Below w.heap.size w W3 := by rw [← hW3]; exact belowRow hB2 (Nat.le_refl _) _
 have hmk := Mk.rmake_ok 1 8 4 (by decide) W3
 have HW3 : Hid (w2.setRow w.heap.size #[.int .i64 1, .int .i64 8, .int .i64 4] = W3) := hW3
 have H3 : Hid (Below w.heap.size w W3 ∧ W3.heap[w.heap.size + 1]? = some (Mk.geomO 0 0 0)) := ⟨hB3, hr3⟩
 clear hno hg1 hb2 hr2 hr3 hB2 hB3 hW1 HB1 HR1 hW3
 dsimp only
 go_wp2_with (first
  | (refine wpList_store_row rfl 23 (.tmp 1) _ rfl w.heap.size #[.int .i64 1, .int .i64 8, .int .i64 4] rfl rfl 23 _ hg2 Mk.info23 rfl geom_one ?_; rw [HW3.out])
  | (refine wpList_load_row rfl 23 (.tmp 1) rfl w.heap.size rfl 23 _ (0, 0) _ hg3 Tryz.underlying23 rfl Mk.info23 ?_))
 refine Calls.mono hmk ?_
 rintro e w4 ⟨A, cap, rfl, hRd, hb4⟩
 have hibA := rd_ib hRd (by decide)
 have hlenA : ∀ xs ∈ imgL (Mk.img 1 8 4) 8, xs.length = 128 := fun xs hx => by
  simp only [imgL, List.mem_map] at hx
  obtain ⟨k, _, rfl⟩ := hx
  exact img_len _ _ _ k
 have hof := of64_ok (some ⟨A, 0, none⟩) (8) cap (imgL (Mk.img 1 8 4) 8) w4 hibA (by decide) (by decide) hlenA (ib_sect hibA hlenA)
 clear hmk
 dsimp only
 go_wp2_with fail
 refine Calls.mono hof ?_
 rintro e w5 ⟨p, xd, y, A', B', rfl, hp, hV, hlo, hp4, hb5⟩
 have hb35 : Below W3.heap.size W3 w5 := hb4.trans (hb5.mono hb4.size)
 have hg5 := (hb35.block _ (Array.getElem?_eq_some_iff.1 hg3).1).trans hg3
 have hr5 := (hb35.block _ (Array.getElem?_eq_some_iff.1 H3.out.2).1).trans H3.out.2
 have HF : Hid (w5.heap[p]? = some (.cells #[.pointer (some ⟨A'.d, 0, none⟩), .pointer (some ⟨A'.v, 0, none⟩), .pointer (some ⟨xd, 0, none⟩), .pointer (some ⟨y, 0, none⟩)] 33 (0, 0)) ∧ VI 0 B' w5 A' (T0 1 8 4) ∧ (∀ k, fp A' (T0 1 8 4) k → p < k) ∧ w4.heap.size ≤ p ∧ Below w.heap.size w w5 ∧ w.heap.size + 1 < w4.heap.size) := ⟨hp, hV, hlo, hp4, H3.out.1.trans (hb35.mono H3.out.1.size), Nat.lt_of_lt_of_le (Array.getElem?_eq_some_iff.1 H3.out.2).1 hb4.size⟩
 clear hof hb35 hp hV hlo hp4 hb5 hRd hb4 hibA hlenA hg3 H3 HW3 hg2
 dsimp only
 go_wp2_with fail
 have hd5 : Below w5.heap.size w5 w5.drew := (Below.refl _ _).drew
 have hgd := (hd5.block _ (Array.getElem?_eq_some_iff.1 hg5).1).trans hg5
 have hrd := (hd5.block _ (Array.getElem?_eq_some_iff.1 hr5).1).trans hr5
 have q0 : w5.drew.cell? ⟨w.heap.size, 0, none⟩ = some (.int .i64 1) := cell_of_row _ _ 0 _ _ _ hgd
 have q1 : w5.drew.cell? ⟨w.heap.size, 1, none⟩ = some (.int .i64 8) := cell_of_row _ _ 1 _ _ _ hgd
 have q2 : w5.drew.cell? ⟨w.heap.size, 2, none⟩ = some (.int .i64 4) := cell_of_row _ _ 2 _ _ _ hgd
 have r0 : w5.drew.cell? ⟨w.heap.size + 1, 0, none⟩ = some (.int .i64 0) := cell_of_row _ _ 0 _ _ _ hrd
 have r1 : w5.drew.cell? ⟨w.heap.size + 1, 1, none⟩ = some (.int .i64 0) := cell_of_row _ _ 1 _ _ _ hrd
 have r2 : w5.drew.cell? ⟨w.heap.size + 1, 2, none⟩ = some (.int .i64 0) := cell_of_row _ _ 2 _ _ _ hrd
 have f0 : w5.drew.frozen? ⟨w.heap.size + 1, 0, none⟩ = false := by simp [World.frozen?, hrd]
 have f1 : w5.drew.frozen? ⟨w.heap.size + 1, 1, none⟩ = false := by simp [World.frozen?, hrd]
 have f2 : w5.drew.frozen? ⟨w.heap.size + 1, 2, none⟩ = false := by simp [World.frozen?, hrd]
 have r0' : w5.cell? ⟨w.heap.size + 1, 0, none⟩ = some (.int .i64 0) := cell_of_row _ _ 0 _ _ _ hr5
 have r1' : w5.cell? ⟨w.heap.size + 1, 1, none⟩ = some (.int .i64 0) := cell_of_row _ _ 1 _ _ _ hr5
 have r2' : w5.cell? ⟨w.heap.size + 1, 2, none⟩ = some (.int .i64 0) := cell_of_row _ _ 2 _ _ _ hr5
 have f0' : w5.frozen? ⟨w.heap.size + 1, 0, none⟩ = false := by simp [World.frozen?, hr5]
 have f1' : w5.frozen? ⟨w.heap.size + 1, 1, none⟩ = false := by simp [World.frozen?, hr5]
 have f2' : w5.frozen? ⟨w.heap.size + 1, 2, none⟩ = false := by simp [World.frozen?, hr5]
 have HG : Hid (w5.heap[w.heap.size + 1]? = some (Mk.geomO 0 0 0)) := hr5
 clear hg5 hr5 hd5 hgd hrd
 go_region
 go_wp2_with fail
 obtain ⟨hp, hV, hlo, hp4, hbw, hlt⟩ := HF.out
 exact fresh_end hp hV hlo hp4 hbw hlt HG.out rfl rfl rfl rfl
set_option maxHeartbeats 2000000 in
theorem fresh1_ok (g b i : Nat) (hmay : Mk.Gm.May (g : Int) (b : Int) (i : Int)) (w : World) : Calls Tryz.prog 12 #[Mk.geomV g b i] w fun e w' => FrP w g b i e w' := by
 obtain ⟨W1, hW1⟩ : ∃ W1, (w.alloc (Mk.geomO g b i)).alloc (Mk.geomO 0 0 0) = W1 := ⟨_, rfl⟩
 have hb1 : Below w.heap.size w W1 := by rw [← hW1]; exact ((Below.refl _ w).alloc (Nat.le_refl _) _).alloc (by simp) _
 have hg1 : W1.heap[w.heap.size]? = some (Mk.geomO g b i) := by rw [← hW1]; exact at_old (at_new rfl)
 have hr1 : W1.heap[w.heap.size + 1]? = some (Mk.geomO 0 0 0) := by rw [← hW1]; exact at_new (by simp)
 have HB1 : Hid (Below w.heap.size w W1) := hb1
 have HR1 : Hid (W1.heap[w.heap.size + 1]? = some (Mk.geomO 0 0 0)) := hr1
 have hN : 1 ≤ g * b ∧ g * b ≤ 2048 := by
  obtain ⟨⟨h1, h2⟩, ⟨h3, h4⟩, _⟩ := hmay.all
  have h5 : g * b ≤ 8 * 256 := Nat.mul_le_mul (by omega) (by omega)
  have h6 : 1 * 1 ≤ g * b := Nat.mul_le_mul (by omega) (by omega)
  omega
 have hmk := Mk.rmake_ok g b i hmay W1
 have H3 : Hid (Below w.heap.size w W1 ∧ W1.heap[w.heap.size + 1]? = some (Mk.geomO 0 0 0)) := ⟨hb1, hr1⟩
 clear hb1 hr1 HB1 HR1
 go_enter Tryz.func12, Tryz.ntmps12
 go_wp2_with (first
  | (refine wpList_load_row rfl 23 (.tmp 1) rfl w.heap.size rfl 23 _ (0, 0) _ hg1 Tryz.underlying23 rfl Mk.info23 ?_))
 refine Calls.mono hmk ?_
 rintro e w4 ⟨A, cap, rfl, hRd, hb4⟩
 have hibA := rd_ib hRd (by omega)
 have hlenA : ∀ xs ∈ imgL (Mk.img g b i) (g * b), xs.length = 128 := fun xs hx => by
  simp only [imgL, List.mem_map] at hx
  obtain ⟨k, _, rfl⟩ := hx
  exact img_len _ _ _ k
 have hof := of64_ok (some ⟨A, 0, none⟩) (g * b) cap (imgL (Mk.img g b i) (g * b)) w4 hibA (by omega) (by omega) hlenA (ib_sect hibA hlenA)
 clear hmk
 dsimp only
 go_wp2_with fail
 refine Calls.mono hof ?_
 rintro e w5 ⟨p, xd, y, A', B', rfl, hp, hV, hlo, hp4, hb5⟩
 have hb35 : Below W1.heap.size W1 w5 := hb4.trans (hb5.mono hb4.size)
 have hg5 := (hb35.block _ (Array.getElem?_eq_some_iff.1 hg1).1).trans hg1
 have hr5 := (hb35.block _ (Array.getElem?_eq_some_iff.1 H3.out.2).1).trans H3.out.2
 have HF : Hid (w5.heap[p]? = some (.cells #[.pointer (some ⟨A'.d, 0, none⟩), .pointer (some ⟨A'.v, 0, none⟩), .pointer (some ⟨xd, 0, none⟩), .pointer (some ⟨y, 0, none⟩)] 33 (0, 0)) ∧ VI 0 B' w5 A' (T0 g b i) ∧ (∀ k, fp A' (T0 g b i) k → p < k) ∧ w4.heap.size ≤ p ∧ Below w.heap.size w w5 ∧ w.heap.size + 1 < w4.heap.size) := ⟨hp, hV, hlo, hp4, H3.out.1.trans (hb35.mono H3.out.1.size), Nat.lt_of_lt_of_le (Array.getElem?_eq_some_iff.1 H3.out.2).1 hb4.size⟩
 clear hof hb35 hp hV hlo hp4 hb5 hRd hb4 hibA hlenA hg1 H3
 dsimp only
 go_wp2_with fail
 have hd5 : Below w5.heap.size w5 w5.drew := (Below.refl _ _).drew
 have hgd := (hd5.block _ (Array.getElem?_eq_some_iff.1 hg5).1).trans hg5
 have hrd := (hd5.block _ (Array.getElem?_eq_some_iff.1 hr5).1).trans hr5
 have q0 : w5.drew.cell? ⟨w.heap.size, 0, none⟩ = some (.int .i64 (g : Int)) := cell_of_row _ _ 0 _ _ _ hgd
 have q1 : w5.drew.cell? ⟨w.heap.size, 1, none⟩ = some (.int .i64 (b : Int)) := cell_of_row _ _ 1 _ _ _ hgd
 have q2 : w5.drew.cell? ⟨w.heap.size, 2, none⟩ = some (.int .i64 (i : Int)) := cell_of_row _ _ 2 _ _ _ hgd
 have r0 : w5.drew.cell? ⟨w.heap.size + 1, 0, none⟩ = some (.int .i64 0) := cell_of_row _ _ 0 _ _ _ hrd
 have r1 : w5.drew.cell? ⟨w.heap.size + 1, 1, none⟩ = some (.int .i64 0) := cell_of_row _ _ 1 _ _ _ hrd
 have r2 : w5.drew.cell? ⟨w.heap.size + 1, 2, none⟩ = some (.int .i64 0) := cell_of_row _ _ 2 _ _ _ hrd
 have f0 : w5.drew.frozen? ⟨w.heap.size + 1, 0, none⟩ = false := by simp [World.frozen?, hrd]
 have f1 : w5.drew.frozen? ⟨w.heap.size + 1, 1, none⟩ = false := by simp [World.frozen?, hrd]
 have f2 : w5.drew.frozen? ⟨w.heap.size + 1, 2, none⟩ = false := by simp [World.frozen?, hrd]
 have r0' : w5.cell? ⟨w.heap.size + 1, 0, none⟩ = some (.int .i64 0) := cell_of_row _ _ 0 _ _ _ hr5
 have r1' : w5.cell? ⟨w.heap.size + 1, 1, none⟩ = some (.int .i64 0) := cell_of_row _ _ 1 _ _ _ hr5
 have r2' : w5.cell? ⟨w.heap.size + 1, 2, none⟩ = some (.int .i64 0) := cell_of_row _ _ 2 _ _ _ hr5
 have f0' : w5.frozen? ⟨w.heap.size + 1, 0, none⟩ = false := by simp [World.frozen?, hr5]
 have f1' : w5.frozen? ⟨w.heap.size + 1, 1, none⟩ = false := by simp [World.frozen?, hr5]
 have f2' : w5.frozen? ⟨w.heap.size + 1, 2, none⟩ = false := by simp [World.frozen?, hr5]
 have HG : Hid (w5.heap[w.heap.size + 1]? = some (Mk.geomO 0 0 0)) := hr5
 clear hg5 hr5 hd5 hgd hrd
 go_region
 go_wp2_with fail
 obtain ⟨hp, hV, hlo, hp4, hbw, hlt⟩ := HF.out
 exact fresh_end hp hV hlo hp4 hbw hlt HG.out rfl rfl rfl rfl
theorem fresh_ok (G B I : Int) (w : World) : Calls Tryz.prog 12 #[Mk.geomV G B I] w fun e w' => ∃ g b i : Nat, Mk.Gm.May (g : Int) (b : Int) (i : Int) ∧ FrP w g b i e w' := by
 by_cases hm : Mk.Gm.May G B I
 ·obtain ⟨⟨h1, h2⟩, ⟨h3, h4⟩, ⟨h5, h6⟩, _⟩ := hm.all
  obtain ⟨g, rfl⟩ := Int.eq_ofNat_of_zero_le (show 0 ≤ G by omega)
  obtain ⟨b, rfl⟩ := Int.eq_ofNat_of_zero_le (show 0 ≤ B by omega)
  obtain ⟨i, rfl⟩ := Int.eq_ofNat_of_zero_le (show 0 ≤ I by omega)
  exact (fresh1_ok g b i hm w).mono fun e w' h => ⟨g, b, i, hm, h⟩
 ·exact (freshNo_ok G B I hm w).mono fun e w' h => ⟨1, 8, 4, by decide, h⟩
end Go.Proofs.YthdlpeejmmobmaaGreat

namespace Go.Proofs.YthdlpeejmmobmaaGreat
open Go.RowKit Go.Maps
set_option linter.unusedVariables false
set_option maxRecDepth 100000
def nimg (g b i : Nat) : Nat → List Int := nowOf (T0 g b i)
theorem nimg_at {g b i k : Nat} (hk : k < g * b) : nimg g b i k = Mk.img g b i k := by
 have e : nimg g b i k = Pt.ovrs (Pt.ofB [] (k : Int)) (part (imgL (Mk.img g b i) (g * b)) (g * b) k) := rfl
 rw [e]
 have e2 : part (imgL (Mk.img g b i) (g * b)) (g * b) k = Mk.img g b i k := by
  unfold part imgL
  rw [if_pos hk, List.getD_eq_getElem?_getD, List.getElem?_map, List.getElem?_range hk]
  rfl
 rw [e2]
 rfl
theorem img_head {g b i n : Nat} (hm : Mk.Gm.May (g : Int) b i) (hn : n < g) : Mk.img g b i (n * b + 1) = Mk.groupL (n : Int) (Mk.hdY i n) := by
 have := hm.all
 have hb : 1 < b := by omega
 have h1 : (n * b + 1) % b = 1 := by rw [Nat.add_comm, Nat.add_mul_mod_self_right]; exact Nat.mod_eq_of_lt hb
 have h2 : (n * b + 1) / b = n := by rw [Nat.add_comm, Nat.add_mul_div_right _ _ (by omega), Nat.div_eq_of_lt hb]; omega
 have h3 : n * b + 1 ≠ 2 ∧ n * b + 1 ≠ 2 + i / 4 := by
  rcases Nat.eq_zero_or_pos n with rfl | hp
  ·omega
  ·have : b ≤ n * b := Nat.le_mul_of_pos_left b hp
   omega
 unfold Mk.img Mk.rtL
 rw [if_neg h3.1, if_neg h3.2]
 unfold Mk.blF
 rw [h1, if_pos rfl, h2]
theorem geo_of {g b i : Nat} (hm : Mk.Gm.May (g : Int) b i) : Geo g b i (g * b) := ⟨hm, rfl⟩
theorem hds_new {g b i : Nat} (hm : Mk.Gm.May (g : Int) b i) : Hds (nimg g b i) g b (Mk.hdY i) :=
 ⟨fun n hn => (nimg_at (by have := (geo_of hm).hd hn (show 1 < b by have := hm.all; omega); exact this)).trans (img_head hm hn), fun n _ => Mk.hdY_len i n, fun n _ => Mk.hdY_byt i n⟩
theorem fr_vol {w w' : World} {g b i : Nat} {e : Ending} (h : FrP w g b i e w') : ∃ p v F, ∃ pd px py : Value, e = .returned (.tuple #[.pointer (some ⟨p, 0, none⟩), Mk.geomV g b i, .bool true]) ∧ w'.heap[p]? = some (.cells #[pd, .pointer (some ⟨v, 0, none⟩), px, py] 33 (0, 0)) ∧ Vol w' v F (g * b) (nimg g b i) 0 0 ∧ (∀ k, F k → w.heap.size ≤ k ∧ k ≠ p) ∧ w.heap.size ≤ p ∧ Below w.heap.size w w' := by
 obtain ⟨p, xd, y, A, B, e1, hp, hV, hF, hlo, hb⟩ := h
 exact ⟨p, A.v, _, _, _, _, e1, hp, ⟨B, A, _, hV, rfl, rfl, rfl, rfl, rfl, rfl, rfl, rfl, rfl, fun m J h => by cases h⟩, hF, hlo, hb⟩
def updH (H : Nat → List Int) (n : Nat) (ys : List Int) : Nat → List Int := fun k => if k = n then ys else H k
theorem hds_put {I : Nat → List Int} {G B : Nat} {H : Nat → List Int} (h : Hds I G B H) (hB : 1 < B) (n : Nat) {ys : List Int} (hl : ys.length = 40) (hy : Mk.Num.Byt ys) : Hds (putH I B n ys) G B (updH H n ys) := by
 refine ⟨fun k hk => ?_, fun k hk => ?_, fun k hk => ?_⟩
 ·unfold putH updH
  by_cases e : k = n
  ·subst e
   rw [if_pos rfl, if_pos rfl]
  ·have : k * B + 1 ≠ n * B + 1 := fun h9 => e (Nat.eq_of_mul_eq_mul_right (show 0 < B by omega) (by omega))
   rw [if_neg this, if_neg e]
   exact h.at_ k hk
 ·unfold updH
  split
  ·exact hl
  ·exact h.len k hk
 ·unfold updH
  split
  ·exact hy
  ·exact h.byt k hk
end Go.Proofs.YthdlpeejmmobmaaGreat

namespace Go.Proofs.YthdlpeejmmobmaaGreat
open Go.ChangeShapes Go.WideShapes Go.ChangeAt Go.RowKit Go.Joins
set_option linter.unusedVariables false
set_option maxRecDepth 100000
theorem ownKnob_none : ownKnob Tryz.prog.godebug = none := by kernel_rfl
theorem laid_out : laidOutB Tryz.prog = true := by kernel_rfl
theorem cells23 : Tryz.prog.cellsOf 23 = 3 := by kernel_rfl
theorem open_geom {H : Type} {enc : TypeId × Value → H} {W : World} {base : Nat} {v : Value} {d : DataW H} {p : List MemPlace} (hv : Value.okWide Tryz.prog W .any base 23 v)
  (h : DataW.Trod enc Tryz.prog W 0 (fun _ => true) true 23 v d p) : ∃ G B I, v = Mk.geomV G B I := by
 obtain ⟨c0, c1, c2, y0, y1, y2, m, rfl, rfl, rfl, hy0, hy1, hy2⟩ := open_agg3 Tryz.underlying23 (by kernel_rfl) cells23 hv h
 obtain ⟨a, e0, _, _⟩ := DataW.trod_int Tryz.underlying3 hy0
 obtain ⟨b, e1, _, _⟩ := DataW.trod_int Tryz.underlying3 hy1
 obtain ⟨c, e2, _, _⟩ := DataW.trod_int Tryz.underlying3 hy2
 simp at e0 e1 e2
 subst e0 e1 e2
 exact ⟨a, b, c, rfl⟩
theorem bytes3 : Tryz.prog.bytesOf 3 = 8 := by kernel_rfl
theorem cells3 : Tryz.prog.cellsOf 3 = 1 := by kernel_rfl
theorem rng_of_wf {x : Int} (h : (Lit.int .i64 x).wf = true) : -9223372036854775808 ≤ x ∧ x ≤ 9223372036854775807 := by
 simp [Lit.wf, IntKind.min, IntKind.max, IntKind.signed, IntKind.bits] at h
 omega
section
variable {H : Type} {enc : TypeId × Value → H} {W : World}
theorem open_ii {v : Value} {d : DataW H} {pl : List MemPlace} {n : Nat} (h : DataW.trod enc Tryz.prog W 0 (fun _ => true) true n 49 [v] = some (d, pl)) (hw : ∀ x ∈ d.weights Tryz.prog 49, x ≤ reachBytes) :
  ∃ p m c xs, v = .slice p m c ∧ m ≤ c ∧ c ≤ 9223372036854775807 ∧ m * 8 ≤ 140737488351232 ∧ Pt.II W p m xs := by
 rcases open_ints Tryz.underlying49 Tryz.underlying3 cells3 h with ⟨hcs, _⟩ | ⟨x, l, c, zs, hcs, _, hl, hm, hz, hx, hcell, hwz⟩
 ·simp at hcs
  subst hcs
  exact ⟨none, 0, 0, [], rfl, Nat.le_refl _, by omega, by omega, ⟨rfl, by omega, by simp, fun h => by omega⟩⟩
 ·simp at hcs
  subst hcs
  simp only [Prod.mk.injEq] at hx
  obtain ⟨rfl, _⟩ := hx
  simp only [if_true] at hz
  have hw1 := hw (((lits IntKind.i64 (zs.take l) : List (DataW H)).length + (lits IntKind.i64 (zs.drop l) : List (DataW H)).length) * 8) (by simp [DataW.weights, Tryz.underlying49, bytes3])
  simp only [lits, List.length_map, List.length_take, List.length_drop, reachBytes] at hw1
  unfold maxLen at hm
  refine ⟨some x, l, c, zs.take l, rfl, hl, by omega, by omega, ⟨by rw [List.length_take]; omega, by omega, fun y hy => rng_of_wf (hwz y (List.mem_of_mem_take hy)), fun hn => ?_⟩⟩
  obtain ⟨b, off, spot⟩ := x
  have hc := hcell 0 (by omega)
  have hspot : spot = none := by simpa [Addr.add] using World.cell?_spot hc
  subst hspot
  refine ⟨b, off, rfl, fun i hi => ?_⟩
  have hci := hcell i (by omega)
  rw [Addr.add_mid] at hci
  rw [hci, getD_take _ _ _ hi]
set_option maxRecDepth 10000 in
theorem open_nums {a0 : Option Addr} {len0 cap0 : Nat} {d0 : DataW H} {p0 : List MemPlace} {ts : List TypeId} {ds : List (DataW H)} {j : Nat}
  (h0 : DataW.Trod enc Tryz.prog W 0 (fun _ => true) true 49 (.slice a0 len0 cap0) d0 p0)
  (hsz : (DataW.weightsEach Tryz.prog ts ds).all (· ≤ reachBytes) = true) (ht : ts[j]? = some 49) (hd : ds[j]? = some d0) : ∃ xs, Pt.II W a0 len0 xs := by
 obtain ⟨fuel, hf⟩ := h0
 have hall : ∀ x ∈ d0.weights Tryz.prog 49, x ≤ reachBytes := fun x hx => by
  have := List.all_eq_true.1 hsz x (DataW.weights_mem_each ht hd x hx)
  simpa using this
 obtain ⟨p, m, c, xs, e, _, _, _, h⟩ := open_ii (v := .slice a0 len0 cap0) (by simpa [Value.cells] using hf) hall
 obtain ⟨rfl, rfl, rfl⟩ := Value.slice.inj e
 exact ⟨xs, h⟩
end
end Go.Proofs.YthdlpeejmmobmaaGreat

namespace Go.Proofs.YthdlpeejmmobmaaGreat
open Go.RowKit Go.Maps
set_option linter.unusedVariables false
set_option maxRecDepth 100000
set_option maxHeartbeats 2000000 in
theorem irefusal_fit {w : World} {v : Nat} {k G B I N : Int} (h : VHas w v k) (hk : ¬ k = 0) (hm : Mk.Gm.May G B I) (hN : G * B = N) (hlt : ¬ k < N) : Calls Tryz.prog 88 #[.pointer (some ⟨v, 0, none⟩), Mk.geomV G B I] w fun e w' => e = .returned (.int .i64 0) ∧ Below w.heap.size w w' := by
 have hb1 : Below w.heap.size w (w.alloc (Mk.geomO G B I)) := Mk.grew_alloc _ _
 have hg1 : (w.alloc (Mk.geomO G B I)).heap[w.heap.size]? = some (Mk.geomO G B I) := at_new rfl
 obtain ⟨W1, hW1⟩ : ∃ W1, w.alloc (Mk.geomO G B I) = W1 := ⟨_, rfl⟩
 rw [hW1] at hb1 hg1
 have hv1 := h.kept hb1
 have c1 := hv1.blocks
 have hkb : (k == 0) = false := by rw [beq_eq_false_iff_ne]; exact hk
 have hd : Below W1.heap.size W1 W1.drew := (Below.refl _ _).drew
 have hv2 := hv1.kept hd
 have g2 := (g3_of hg1).kept hd
 have q0 := g2.c0
 have q1 := g2.c1
 have q2 := g2.c2
 have hca := Mk.can_ok G B I W1.drew
 rw [Mk.Gm.can, if_pos hm] at hca
 have HB : Hid (Below w.heap.size w W1.drew) := hb1.drew
 have HN : Hid (G * B = N) := hN
 have HM : Hid (Mk.Gm.May G B I) := hm
 clear hm hN hb1 hd
 go_enter Tryz.func88, Tryz.ntmps88
 go_wp2_with (first | (go_at_call 13; refine same_at c1 ?_))
 go_region_with (first
  | (go_at_call 48; refine Mk.grew_at hca ?_; intro w2 hb2; have hv3 := hv2.kept hb2; have g3 := g2.kept hb2; have q0' := g3.c0; have q1' := g3.c1; have q2' := g3.c2; have hb3 := Mk.blocks_ok G B I w2; rw [Mk.Gm.num, if_pos HM.out, HN.out] at hb3; have cb := hv3.blocks)
  | (go_at_call 13; first | refine same_at cb ?_ | refine same_at cb' ?_)
  | (go_at_call 49; refine Mk.grew_at hb3 ?_; intro w4 hb4; have cb' := (hv3.kept hb4).blocks))
 all_goals go_wp2_with fail
 all_goals go_ret
 all_goals exact ⟨rfl, Mk.grew_trans (Mk.grew_trans HB.out hb2) hb4⟩
section
variable [Inhabited Past] {w w' : World} {v : Nat} {F : Nat → Prop} {N : Nat} {I : Nat → List Int} {l c G B Q : Nat}
theorem irefusal_ok (h : Vol w v F N I l c) (hg : Geo G B Q N) : Calls Tryz.prog 88 #[.pointer (some ⟨v, 0, none⟩), Mk.geomV G B Q] w fun e w' => e = .returned (.int .i64 0) ∧ Below w.heap.size w w' := by
 have hN := h.N1
 exact irefusal_fit h.has (by omega) hg.may (N := (N : Int)) (by have := hg.N; rw [← this]; simp) (by omega)
set_option maxHeartbeats 1000000 in
theorem irefusalInode_ok (h : Vol w v F N I l c) (hg : Geo G B Q N) {n : Nat} (hn : n < G * Q) (m : Nat) (hm : m ≤ n) : Calls Tryz.prog 75 #[.pointer (some ⟨v, 0, none⟩), Mk.geomV G B Q, .int .i64 (n : Int), .int .i64 (m : Int)] w fun e w' => e = .returned (.int .i64 0) ∧ Below w.heap.size w w' := by
 obtain ⟨W, hW⟩ : ∃ W, w.alloc (Mk.geomO G B Q) = W := ⟨_, rfl⟩
 have hb : Below w.heap.size w W := by rw [← hW]; exact Mk.grew_alloc _ _
 have hx : W.heap[w.heap.size]? = some (Mk.geomO G B Q) := by rw [← hW]; exact at_new rfl
 have c0 := (g3_of hx).c0
 have c1 := (g3_of hx).c1
 have c2 := (g3_of hx).c2
 have hr := irefusal_ok (h.later hb) hg
 have hino := fun w => Mk.inodes_ok G B Q w
 rw [Mk.Gm.num_pos hg.may] at hino
 have e2 : (G : Int) * (Q : Int) = ((G * Q : Nat) : Int) := by push_cast; rfl
 rw [e2] at hino
 obtain ⟨K, hK⟩ : ∃ K, G * Q = K := ⟨_, rfl⟩
 rw [hK] at hino hn
 have hn1 : ¬ (n : Int) < (m : Int) := by omega
 have hn2 : ¬ (K : Int) ≤ (n : Int) := by omega
 clear hx hK e2
 go_enter Tryz.func75, Tryz.ntmps75
 go_wp2_with fail
 refine Mk.grew_at hr ?_
 intro w1 hb1
 have c0' := Mk.cell_kept c0 hb1
 have c1' := Mk.cell_kept c1 hb1
 have c2' := Mk.cell_kept c2 hb1
 dsimp only
 go_wp2_with fail
 refine Mk.grew_at (hino _) ?_
 intro w2 hb2
 dsimp only
 go_wp2_with fail
 go_ret
 exact ⟨rfl, hb.trans ((hb1.mono hb.size).trans (hb2.mono (by have := hb.size; have := hb1.size; omega)))⟩
end
end Go.Proofs.YthdlpeejmmobmaaGreat

namespace Go.Proofs.YthdlpeejmmobmaaGreat
open Go.RowKit Go.Maps
set_option linter.unusedVariables false
set_option maxRecDepth 100000
def iP (B Q n : Nat) : Nat := n / Q * B + 2 + n % Q / 4
def iA (Q n : Nat) : Nat := n % Q % 4 * 32
def iB (I : Nat → List Int) (B Q n : Nat) : List Int := ((I (iP B Q n)).drop (iA Q n)).take 32
theorem iP_lt {N G B Q : Nat} (hg : Geo G B Q N) {n : Nat} (hn : n < G * Q) : iP B Q n < N := by
 have hfit := hg.fit
 have h1 : n / Q < G := Nat.div_lt_of_lt_mul (by rw [Nat.mul_comm]; exact hn)
 have h2 : n % Q < Q := Nat.mod_lt _ (by omega)
 have := hg.hd h1 (k := 2 + n % Q / 4) (by omega)
 unfold iP
 omega
theorem ddV_cells (ys : List Int) : ∃ C : Array Value, Mk.ddV 32 ys = .agg C ∧ C.size = 9 ∧ C.all (·.oneCell') = true := by
 unfold Mk.ddV
 split
 ·exact ⟨_, rfl, rfl, by simp [Value.oneCell']⟩
 ·exact ⟨_, rfl, rfl, by simp [Value.oneCell']⟩
section
variable [Inhabited Past] {w w' : World} {v : Nat} {F : Nat → Prop} {N : Nat} {I : Nat → List Int} {l c G B Q : Nat}
set_option maxHeartbeats 4000000 in
theorem iget_ok (h : Vol w v F N I l c) (hg : Geo G B Q N) {n : Nat} (hn : n < G * Q) (hc : c < 4611686018427387904) :
  Calls Tryz.prog 29 #[.pointer (some ⟨v, 0, none⟩), Mk.geomV G B Q, .int .i64 (n : Int)] w fun e w' => e = .returned (.tuple #[Mk.ddV 32 (iB I B Q n), .int .i64 (Mk.ddE 32 (iB I B Q n))]) ∧ ∃ F', Vol w' v F' N I l (c + 1) ∧ Pt.Stp F F' w w' := by
 have hfit := hg.fit
 have hP := iP_lt hg hn
 have hA : iA Q n + 32 ≤ 128 := by unfold iA; omega
 obtain ⟨W, hW⟩ : ∃ W, (w.alloc (Mk.geomO G B Q)).alloc (.cells #[.int .i64 0, .int .i64 0, .int .i64 0, .int .i64 0, .int .i64 0, .int .i64 0, .int .i64 0, .int .i64 0, .int .i64 0] 75) = W := ⟨_, rfl⟩
 have hb : Below w.heap.size w W := by rw [← hW]; exact ((Below.refl _ _).alloc (Nat.le_refl _) _).alloc (by simp) _
 have hx : W.heap[w.heap.size]? = some (Mk.geomO G B Q) := by rw [← hW]; exact at_old (at_new rfl)
 have hd : W.heap[w.heap.size + 1]? = some (.cells #[.int .i64 0, .int .i64 0, .int .i64 0, .int .i64 0, .int .i64 0, .int .i64 0, .int .i64 0, .int .i64 0, .int .i64 0] 75 (0, 0)) := by rw [← hW]; exact at_new (by simp)
 have hsz : W.heap.size = w.heap.size + 2 := by rw [← hW]; simp
 have c0 := (g3_of hx).c0
 have c1 := (g3_of hx).c1
 have c2 := (g3_of hx).c2
 have hlt := h.lt
 have hv := h.later hb
 have hrf := irefusalInode_ok hv hg hn 0 (by omega)
 have hio := fun w => Mk.inode_in (G := (G : Int)) (B := B) (I := Q) (n := (n : Int)) ⟨hg.may, by omega, by exact_mod_cast hn⟩ w
 have e1 : (n : Int) / (Q : Int) * (B : Int) + 2 + (n : Int) % (Q : Int) / 4 = ((iP B Q n : Nat) : Int) := by unfold iP; push_cast; rfl
 have e2 : (n : Int) % (Q : Int) % 4 * 32 = ((iA Q n : Nat) : Int) := by unfold iA; push_cast; rfl
 rw [e1, e2] at hio
 obtain ⟨P, hPe⟩ : ∃ P, iP B Q n = P := ⟨_, rfl⟩
 obtain ⟨A, hAe⟩ : ∃ A, iA Q n = A := ⟨_, rfl⟩
 have HI : Hid (iB I B Q n = ((I P).drop A).take 32) := by show _ = _; unfold iB; rw [hPe, hAe]
 rw [hPe] at hP hio
 rw [hAe] at hA hio
 have HV : Hid (Vol W v F N I l c ∧ Below w.heap.size w W ∧ (∀ k, F k → k < w.heap.size)) := ⟨hv, hb, hlt⟩
 clear hv h hlt hb e1 e2 hPe hAe
 go_enter Tryz.func29, Tryz.ntmps29
 go_wp2_with (first
  | (go_at_call 75; refine Mk.grew_at hrf ?_; intro w1 hb1; have hx1 := (hb1.block _ (Array.getElem?_eq_some_iff.1 hx).1).trans hx; have hd1 := (hb1.block _ (Array.getElem?_eq_some_iff.1 hd).1).trans hd; have c0 := (g3_of hx1).c0; have c1 := (g3_of hx1).c1; have c2 := (g3_of hx1).c2)
  | (go_at_call 76; refine Mk.grew_at (hio _) ?_; intro w2 hb2; have hd2 := (hb2.block _ (Array.getElem?_eq_some_iff.1 hd1).1).trans hd1))
 have hb3 : Below W.heap.size W w2 := hb1.trans (hb2.mono hb1.size)
 have hrd := vol_read (HV.out.1.later hb3) P hP hc
 refine Calls.mono hrd ?_
 rintro e w3 ⟨q, cap, F2, rfl, hO, hq, hv3, hst3⟩
 have hsz3 : w.heap.size + 2 ≤ w2.heap.size := by have := hb3.size; omega
 have hd3 : w3.heap[w.heap.size + 1]? = _ := (hst3.fr.block _ (by omega) (fun hf => by have := HV.out.2.2 _ hf; omega)).trans hd2
 have hbq := hO.bi (by omega) (HV.out.1.sect P).2
 obtain ⟨hcap, hcap2⟩ : 128 ≤ cap ∧ cap ≤ 9223372036854775807 := by
  rcases hO.2 with ⟨h9, _⟩ | ⟨g9, cap9, cur9, h9, _, _, h10, h11, _⟩
  ·cases h9
  ·cases h9; exact ⟨h10, h11⟩
 have hA4 : ¬ (A : Int) < 0 := by omega
 dsimp only
 go_wp2_with fail
 have hbA : Mk.BI w3 (some ⟨q, A, none⟩) 32 (((I P).drop A).take 32) := by
  have h1 := (bi_mk hbq).drop A (by omega)
  rw [Nat.zero_add] at h1
  exact ⟨by rw [List.length_take, h1.len]; omega, by omega, byt_take h1.byt _, fun _ => ⟨q, A, rfl, fun i hi => by
   obtain ⟨b9, o9, e9, hc9⟩ := h1.cells (by omega)
   cases e9
   rw [getD_take _ _ _ hi]
   exact hc9 i (by omega)⟩⟩
 obtain ⟨ys, hys⟩ : ∃ ys, ((I P).drop A).take 32 = ys := ⟨_, rfl⟩
 rw [hys] at hbA
 have hdd := Mk.decodeDinode_ok _ 32 (cap - A) ys w3 hbA (by omega)
 refine Calls.mono hdd ?_
 rintro e w4 ⟨rfl, hb4⟩
 have hd4 := (hb4.block _ (Array.getElem?_eq_some_iff.1 hd3).1).trans hd3
 obtain ⟨C, hC, hC9, hC1⟩ := ddV_cells ys
 rw [hC]
 have hi75 : (Tryz.prog.info? 75).map (·.size) = some C.size := by rw [hC9]; kernel_rfl
 have hs9 : (#[.int .i64 0, .int .i64 0, .int .i64 0, .int .i64 0, .int .i64 0, .int .i64 0, .int .i64 0, .int .i64 0, .int .i64 0] : Array Value).size = C.size := hC9.symm
 dsimp only
 go_wp2_with (first
  | (refine wpList_store_row rfl 75 _ _ rfl (w.heap.size + 1) C rfl rfl 75 _ hd4 hi75 hs9 hC1 ?_))
 refine bodyPost_ret (v := .tuple #[.agg C, .int .i64 (Mk.ddE 32 ys)]) (Mk.results_cell_tmp_row (p := 6) (u := 7) (ty := 75) Tryz.results29 _ _ (w.heap.size + 1) 75 _ (0, 0) _ rfl (setRow_heap _ _ _ _ _ _ hd4) Tryz.underlying75 rfl hi75) rfl ?_
 have hlow : Below w.heap.size w4 (w4.setRow (w.heap.size + 1) C) := below_setRow (Below.refl _ _) (by omega) _
 obtain ⟨hvW, hbW, hltF⟩ := HV.out
 have hst4 : Pt.Stp F F2 w w4 := stp_grown (stp_after (hbW.trans (hb3.mono hbW.size)) hst3) hb4
 have hq2 : ∀ k, F2 k → k ≠ w.heap.size + 1 := fun k hk e => (hst3.new k hk).elim (fun h9 => by have := hltF k h9; omega) (fun h9 => by have : w2.heap.size ≤ k := h9; omega)
 exact ⟨by rw [HI.out, hys, hC], F2, (hv3.later hb4).else hlow.size (fun k hk => setRow_other _ _ _ _ (hq2 k hk)), stp_low hst4 hlow⟩
end
end Go.Proofs.YthdlpeejmmobmaaGreat
