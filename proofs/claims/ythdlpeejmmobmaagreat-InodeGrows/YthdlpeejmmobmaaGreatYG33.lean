/- F4 A11 A12 AO -/
import Derived.Test.YthdlpeejmmobmaaGreatYG32
import Derived.Test.YthdlpeejmmobmaaGreatYG29
import Derived.Test.YthdlpeejmmobmaaGreatYG31
import Derived.Maps.AppendAt
import Derived.Test.YthdlpeejmmobmaaGreatRows
import Derived.Test.YthdlpeejmmobmaaGreatYG03
import Derived.Deep.Slices
import Derived.Deep.Grids
import Derived.ProofKit
import Derived.OpenShut
import Derived.ShutString
import Derived.ChangeOld
import Derived.SizedLaws
import Derived.Lib.SmallJoins

namespace Go.Proofs.YthdlpeejmmobmaaGreat
open Go.RowKit Go.Maps Go.MuLone
set_option linter.unusedVariables false
set_option maxRecDepth 100000
theorem rd_ib {w : World} {A n : Nat} {L : Nat → List Int} (h : Mk.Rd w A n L) (hn : n ≤ 2048) : IB w (some ⟨A, 0, none⟩) n (imgL L n) := by
 refine ⟨by simp [imgL], by omega, fun _ => ⟨A, 0, rfl, fun i x hx => ?_⟩⟩
 have hi : i < n := by have := (List.getElem?_eq_some_iff.1 hx).1; simpa [imgL] using this
 have ex : x = L i := by simpa [imgL, hi] using hx.symm
 subst ex
 obtain ⟨q, m, c, h1, h2⟩ := h i hi
 exact ⟨q, m, c, by rw [Nat.zero_add]; exact h1, mk_bi h2⟩
theorem img_len (g b i k : Nat) : (Mk.img g b i k).length = 128 := by
 unfold Mk.img Mk.rtL
 by_cases h1 : k = 2
 ·rw [if_pos h1, Mk.rtB_len]
 rw [if_neg h1]
 by_cases h2 : k = 2 + i / 4
 ·rw [if_pos h2, Mk.dd_len]
 rw [if_neg h2]
 unfold Mk.blF
 split
 ·exact Mk.groupL_len _ _ (Mk.hdY_len _ _)
 ·split
  ·exact Mk.superS_len _ _ _ _
  ·exact Mk.zers_len 128
theorem ib_sect {w : World} {p : Option Addr} {n : Nat} {L : List (List Int)} (h : IB w p n L) (hl : ∀ xs ∈ L, xs.length = 128) : ∀ xs ∈ L, Sect xs := by
 intro xs hx
 obtain ⟨i, hi⟩ := List.getElem?_of_mem hx
 have h0 : 0 < n := by have := (List.getElem?_eq_some_iff.1 hi).1; have := h.len; omega
 obtain ⟨b, o, _, hc⟩ := h.cells h0
 obtain ⟨q, m, c, _, hb⟩ := hc i xs hi
 exact ⟨hl xs hx, hb.byt⟩
set_option maxHeartbeats 1000000 in
theorem rmake_no (G B I : Int) (hmay : ¬ Mk.Gm.May G B I) (w : World) : Calls Tryz.prog 44 #[Mk.geomV G B I] w fun e w' => e = .returned (.tuple #[.slice none 0 0, .int .i64 170]) ∧ Below w.heap.size w w' := by
 obtain ⟨W1, hW1⟩ : ∃ W1, w.alloc (Mk.geomO G B I) = W1 := ⟨_, rfl⟩
 have hb1 : Below w.heap.size w W1 := by rw [← hW1]; exact Mk.grew_alloc _ _
 have hg1 : W1.heap[w.heap.size]? = some (Mk.geomO G B I) := by rw [← hW1]; exact at_new rfl
 have hca := Mk.rcan_not hmay W1
 go_enter Tryz.func44, Tryz.ntmps44
 go_wp2_with (first
  | (refine wpList_load_row rfl 23 (.tmp 1) rfl w.heap.size rfl 23 _ (0, 0) _ hg1 Tryz.underlying23 rfl Mk.info23 ?_))
 refine Mk.grew_at hca ?_
 intro w2 hb2
 have HB : Hid (Below w.heap.size w w2) := Mk.grew_trans hb1 hb2
 clear hca hg1 hb1 hb2
 dsimp only
 go_wp2_with fail
 go_ret2
 exact ⟨rfl, HB.out⟩
theorem belowRow {n : Nat} {w w' : World} (h : Below n w w') {b : Nat} (hb : n ≤ b) (cs : Array Value) : Below n w (w'.setRow b cs) := by
 refine ⟨h.os, h.tape, h.output, Nat.le_trans h.size (by simp), fun k hk => ?_⟩
 rw [setRow_other _ _ _ _ (by omega)]
 exact h.block k hk
theorem geom_one : (#[.int .i64 1, .int .i64 8, .int .i64 4] : Array Value).all (·.oneCell') = true := by simp [Value.oneCell']
theorem results_tct {P : Program} {fn : Func} {a p u : Tmp} {ty : TypeId} (h : fn.results = #[.tmp a, .cell p ty, .tmp u]) (tmps : Array Value) (w : World) (g : Nat) (t : TypeId) (cs : Array Value) (fr : Nat × Nat) (d : TypeDesc)
  (hp : tmps.getD p undef = .pointer (some ⟨g, 0, none⟩)) (hg : w.heap[g]? = some (.cells cs t fr))
  (hu : P.underlying ty = some d) (hd : (match d with | .struct _ | .array _ _ => true | _ => false) = true) (hi : (P.info? ty).map (·.size) = some cs.size) :
  (results fn tmps).run P w = .ok (.tuple #[tmps.getD a undef, .agg cs, tmps.getD u undef]) w := by
 have e : (results fn tmps).run P w = ((asAddr (tmps.getD p undef)).run P w).andThen fun x w₁ => ((loadVar ty x).run P w₁).andThen fun v w₂ => .ok (.tuple #[tmps.getD a undef, v, tmps.getD u undef]) w₂ := by
  simp only [results, h]
  simp [Sem.run_bind, Result.andThen]
 rw [e, hp]
 simp [asAddr, run_loadVar_row w g t ty cs fr d hg hu hd hi]
def S0 (g b i : Nat) : St := ⟨g * b, part (imgL (Mk.img g b i) (g * b)) (g * b), [], 0, fun _ => 0⟩
def T0 (g b i : Nat) : Vs := new0 (S0 g b i) (.slice none 0 0) 64
def FrP (w : World) (g b i : Nat) (e : Ending) (w' : World) : Prop :=
 ∃ p xd y A B, e = .returned (.tuple #[.pointer (some ⟨p, 0, none⟩), Mk.geomV g b i, .bool true]) ∧ w'.heap[p]? = some (.cells #[.pointer (some ⟨At.d A, 0, none⟩), .pointer (some ⟨At.v A, 0, none⟩), .pointer (some ⟨xd, 0, none⟩), .pointer (some ⟨y, 0, none⟩)] 33 (0, 0)) ∧ VI 0 B w' A (T0 g b i) ∧ (∀ k, fp A (T0 g b i) k → w.heap.size ≤ k ∧ k ≠ p) ∧ w.heap.size ≤ p ∧ Below w.heap.size w w'
theorem fresh_end {w w4 w5 : World} {p xd y g b i B' : Nat} {A : At} {a : Act}
  (hp : w5.heap[p]? = some (.cells #[.pointer (some ⟨A.d, 0, none⟩), .pointer (some ⟨A.v, 0, none⟩), .pointer (some ⟨xd, 0, none⟩), .pointer (some ⟨y, 0, none⟩)] 33 (0, 0)))
  (hV : VI 0 B' w5 A (T0 g b i)) (hlo : ∀ k, fp A (T0 g b i) k → p < k) (hp4 : w4.heap.size ≤ p) (hbw : Below w.heap.size w w5) (hlt : w.heap.size + 1 < w4.heap.size)
  (hr : w5.heap[w.heap.size + 1]? = some (Mk.geomO 0 0 0))
  (e2 : a.tmps.getD 2 undef = .pointer (some ⟨p, 0, none⟩)) (e3 : a.tmps.getD 3 undef = .pointer (some ⟨w.heap.size + 1, 0, none⟩)) (e4 : a.tmps.getD 4 undef = .bool true) (ed : a.defers = []) :
  bodyPost Tryz.prog Tryz.f12 (fun e w' => FrP w g b i e w') Exit.ret a ((((w5.setCell ⟨w.heap.size + 1, 0, none⟩ (.int .i64 (g : Int))).setCell ⟨w.heap.size + 1, 1, none⟩ (.int .i64 (b : Int))).setCell ⟨w.heap.size + 1, 2, none⟩ (.int .i64 (i : Int))).drew) := by
 have g1 := row_set hr 0 (.int .i64 (g : Int))
 have g2 := row_set g1 1 (.int .i64 (b : Int))
 have g3 := row_set g2 2 (.int .i64 (i : Int))
 obtain ⟨W7, hW7⟩ : ∃ W7, (((w5.setCell ⟨w.heap.size + 1, 0, none⟩ (.int .i64 (g : Int))).setCell ⟨w.heap.size + 1, 1, none⟩ (.int .i64 (b : Int))).setCell ⟨w.heap.size + 1, 2, none⟩ (.int .i64 (i : Int))) = W7 := ⟨_, rfl⟩
 rw [hW7] at g3 ⊢
 have hdr : Below W7.heap.size W7 W7.drew := (Below.refl _ _).drew
 have so : ∀ b, b ≠ w.heap.size + 1 → W7.drew.heap[b]? = w5.heap[b]? := fun b hb => by
  have h0 : W7.drew.heap[b]? = W7.heap[b]? := rfl
  rw [h0, ← hW7]
  rw [Below.heap_setCell _ _ _ _ hb, Below.heap_setCell _ _ _ _ hb, Below.heap_setCell _ _ _ _ hb]
 have g4 : W7.drew.heap[w.heap.size + 1]? = some (Mk.geomO g b i) := g3
 have hs7 : W7.drew.heap.size = w5.heap.size := by
  have h0 : W7.drew.heap.size = W7.heap.size := rfl
  rw [h0, ← hW7]; simp
 have hb7 : Below w.heap.size w W7.drew := by
  rw [← hW7]
  exact (((hbw.setCell (Nat.le_succ _) _).setCell (Nat.le_succ _) _).setCell (Nat.le_succ _) _).drew
 refine bodyPost_ret (v := .tuple #[.pointer (some ⟨p, 0, none⟩), Mk.geomV g b i, .bool true]) ?_ ed ?_
 ·have := results_tct (P := Tryz.prog) Tryz.results12 a.tmps W7.drew (w.heap.size + 1) 23 _ (0, 0) _ e3 g4 Tryz.underlying23 rfl Mk.info23
  rw [e2, e4] at this
  exact this
 ·refine ⟨p, xd, y, A, B', rfl, (so p (by omega)).trans hp, hV.else (by omega) (fun k hk => so k (by have := hlo k hk; omega)), fun k hk => by have := hlo k hk; omega, by omega, hb7⟩
set_option maxHeartbeats 2000000 in
theorem freshNo_ok (G B I : Int) (hmay : ¬ Mk.Gm.May G B I) (w : World) : Calls Tryz.prog 12 #[Mk.geomV G B I] w fun e w' => FrP w 1 8 4 e w' := by
 obtain ⟨W1, hW1⟩ : ∃ W1, (w.alloc (Mk.geomO G B I)).alloc (Mk.geomO 0 0 0) = W1 := ⟨_, rfl⟩
 have hb1 : Below w.heap.size w W1 := by rw [← hW1]; exact ((Below.refl _ w).alloc (Nat.le_refl _) _).alloc (by simp) _
 have hg1 : W1.heap[w.heap.size]? = some (Mk.geomO G B I) := by rw [← hW1]; exact at_old (at_new rfl)
 have hr1 : W1.heap[w.heap.size + 1]? = some (Mk.geomO 0 0 0) := by rw [← hW1]; exact at_new (by simp)
 have HB1 : Hid (Below w.heap.size w W1) := hb1
 have HR1 : Hid (W1.heap[w.heap.size + 1]? = some (Mk.geomO 0 0 0)) := hr1
 have hno := rmake_no G B I hmay W1
 clear hb1 hr1
 go_enter Tryz.func12, Tryz.ntmps12
 go_wp2_with (first
  | (refine wpList_load_row rfl 23 (.tmp 1) rfl w.heap.size rfl 23 _ (0, 0) _ hg1 Tryz.underlying23 rfl Mk.info23 ?_))
 refine Calls.mono hno ?_
 rintro e w2 ⟨rfl, hb2⟩
 have hg2 := (hb2.block _ (Array.getElem?_eq_some_iff.1 hg1).1).trans hg1
 have hr2 := (hb2.block _ (Array.getElem?_eq_some_iff.1 HR1.out).1).trans HR1.out
 obtain ⟨W3, hW3⟩ : ∃ W3, w2.setRow w.heap.size #[.int .i64 1, .int .i64 8, .int .i64 4] = W3 := ⟨_, rfl⟩
 have hg3 : W3.heap[w.heap.size]? = some (Mk.geomO 1 8 4) := by rw [← hW3]; exact setRow_heap _ _ _ _ 23 _ hg2
 have hr3 : W3.heap[w.heap.size + 1]? = some (Mk.geomO 0 0 0) := by rw [← hW3, setRow_other _ _ _ _ (by omega)]; exact hr2
 have hB2 : Below w.heap.size w w2 := HB1.out.trans (hb2.mono HB1.out.size)
 have hB3 : Below w.heap.size w W3 := by rw [← hW3]; exact belowRow hB2 (Nat.le_refl _) _
 have hmk := Mk.rmake_ok 1 8 4 (by decide) W3
 have HW3 : Hid (w2.setRow w.heap.size #[.int .i64 1, .int .i64 8, .int .i64 4] = W3) := hW3
 have H3 : Hid (Below w.heap.size w W3 ∧ W3.heap[w.heap.size + 1]? = some (Mk.geomO 0 0 0)) := ⟨hB3, hr3⟩
 clear hno hg1 hb2 hr2 hr3 hB2 hB3 hW1 HB1 HR1 hW3
 dsimp only
 go_wp2_with (first
  | (refine wpList_store_row rfl 23 (.tmp 1) _ rfl w.heap.size #[.int .i64 1, .int .i64 8, .int .i64 4] rfl rfl 23 _ hg2 Mk.info23 rfl geom_one ?_; rw [HW3.out])
  | (refine wpList_load_row rfl 23 (.tmp 1) rfl w.heap.size rfl 23 _ (0, 0) _ hg3 Tryz.underlying23 rfl Mk.info23 ?_))
 refine Calls.mono hmk ?_
 rintro e w4 ⟨A, cap, rfl, hRd, hb4⟩
 have hibA := rd_ib hRd (by decide)
 have hlenA : ∀ xs ∈ imgL (Mk.img 1 8 4) 8, xs.length = 128 := fun xs hx => by
  simp only [imgL, List.mem_map] at hx
  obtain ⟨k, _, rfl⟩ := hx
  exact img_len _ _ _ k
 have hof := of64_ok (some ⟨A, 0, none⟩) (8) cap (imgL (Mk.img 1 8 4) 8) w4 hibA (by decide) (by decide) hlenA (ib_sect hibA hlenA)
 clear hmk
 dsimp only
 go_wp2_with fail
 refine Calls.mono hof ?_
 rintro e w5 ⟨p, xd, y, A', B', rfl, hp, hV, hlo, hp4, hb5⟩
 have hb35 : Below W3.heap.size W3 w5 := hb4.trans (hb5.mono hb4.size)
 have hg5 := (hb35.block _ (Array.getElem?_eq_some_iff.1 hg3).1).trans hg3
 have hr5 := (hb35.block _ (Array.getElem?_eq_some_iff.1 H3.out.2).1).trans H3.out.2
 have HF : Hid (w5.heap[p]? = some (.cells #[.pointer (some ⟨A'.d, 0, none⟩), .pointer (some ⟨A'.v, 0, none⟩), .pointer (some ⟨xd, 0, none⟩), .pointer (some ⟨y, 0, none⟩)] 33 (0, 0)) ∧ VI 0 B' w5 A' (T0 1 8 4) ∧ (∀ k, fp A' (T0 1 8 4) k → p < k) ∧ w4.heap.size ≤ p ∧ Below w.heap.size w w5 ∧ w.heap.size + 1 < w4.heap.size) := ⟨hp, hV, hlo, hp4, H3.out.1.trans (hb35.mono H3.out.1.size), Nat.lt_of_lt_of_le (Array.getElem?_eq_some_iff.1 H3.out.2).1 hb4.size⟩
 clear hof hb35 hp hV hlo hp4 hb5 hRd hb4 hibA hlenA hg3 H3 HW3 hg2
 dsimp only
 go_wp2_with fail
 have hd5 : Below w5.heap.size w5 w5.drew := (Below.refl _ _).drew
 have hgd := (hd5.block _ (Array.getElem?_eq_some_iff.1 hg5).1).trans hg5
 have hrd := (hd5.block _ (Array.getElem?_eq_some_iff.1 hr5).1).trans hr5
 have q0 : w5.drew.cell? ⟨w.heap.size, 0, none⟩ = some (.int .i64 1) := cell_of_row _ _ 0 _ _ _ hgd
 have q1 : w5.drew.cell? ⟨w.heap.size, 1, none⟩ = some (.int .i64 8) := cell_of_row _ _ 1 _ _ _ hgd
 have q2 : w5.drew.cell? ⟨w.heap.size, 2, none⟩ = some (.int .i64 4) := cell_of_row _ _ 2 _ _ _ hgd
 have r0 : w5.drew.cell? ⟨w.heap.size + 1, 0, none⟩ = some (.int .i64 0) := cell_of_row _ _ 0 _ _ _ hrd
 have r1 : w5.drew.cell? ⟨w.heap.size + 1, 1, none⟩ = some (.int .i64 0) := cell_of_row _ _ 1 _ _ _ hrd
 have r2 : w5.drew.cell? ⟨w.heap.size + 1, 2, none⟩ = some (.int .i64 0) := cell_of_row _ _ 2 _ _ _ hrd
 have f0 : w5.drew.frozen? ⟨w.heap.size + 1, 0, none⟩ = false := by simp [World.frozen?, hrd]
 have f1 : w5.drew.frozen? ⟨w.heap.size + 1, 1, none⟩ = false := by simp [World.frozen?, hrd]
 have f2 : w5.drew.frozen? ⟨w.heap.size + 1, 2, none⟩ = false := by simp [World.frozen?, hrd]
 have r0' : w5.cell? ⟨w.heap.size + 1, 0, none⟩ = some (.int .i64 0) := cell_of_row _ _ 0 _ _ _ hr5
 have r1' : w5.cell? ⟨w.heap.size + 1, 1, none⟩ = some (.int .i64 0) := cell_of_row _ _ 1 _ _ _ hr5
 have r2' : w5.cell? ⟨w.heap.size + 1, 2, none⟩ = some (.int .i64 0) := cell_of_row _ _ 2 _ _ _ hr5
 have f0' : w5.frozen? ⟨w.heap.size + 1, 0, none⟩ = false := by simp [World.frozen?, hr5]
 have f1' : w5.frozen? ⟨w.heap.size + 1, 1, none⟩ = false := by simp [World.frozen?, hr5]
 have f2' : w5.frozen? ⟨w.heap.size + 1, 2, none⟩ = false := by simp [World.frozen?, hr5]
 have HG : Hid (w5.heap[w.heap.size + 1]? = some (Mk.geomO 0 0 0)) := hr5
 clear hg5 hr5 hd5 hgd hrd
 go_region
 go_wp2_with fail
 obtain ⟨hp, hV, hlo, hp4, hbw, hlt⟩ := HF.out
 exact fresh_end hp hV hlo hp4 hbw hlt HG.out rfl rfl rfl rfl
set_option maxHeartbeats 2000000 in
theorem fresh1_ok (g b i : Nat) (hmay : Mk.Gm.May (g : Int) (b : Int) (i : Int)) (w : World) : Calls Tryz.prog 12 #[Mk.geomV g b i] w fun e w' => FrP w g b i e w' := by
 obtain ⟨W1, hW1⟩ : ∃ W1, (w.alloc (Mk.geomO g b i)).alloc (Mk.geomO 0 0 0) = W1 := ⟨_, rfl⟩
 have hb1 : Below w.heap.size w W1 := by rw [← hW1]; exact ((Below.refl _ w).alloc (Nat.le_refl _) _).alloc (by simp) _
 have hg1 : W1.heap[w.heap.size]? = some (Mk.geomO g b i) := by rw [← hW1]; exact at_old (at_new rfl)
 have hr1 : W1.heap[w.heap.size + 1]? = some (Mk.geomO 0 0 0) := by rw [← hW1]; exact at_new (by simp)
 have HB1 : Hid (Below w.heap.size w W1) := hb1
 have HR1 : Hid (W1.heap[w.heap.size + 1]? = some (Mk.geomO 0 0 0)) := hr1
 have hN : 1 ≤ g * b ∧ g * b ≤ 2048 := by
  obtain ⟨⟨h1, h2⟩, ⟨h3, h4⟩, _⟩ := hmay.all
  have h5 : g * b ≤ 8 * 256 := Nat.mul_le_mul (by omega) (by omega)
  have h6 : 1 * 1 ≤ g * b := Nat.mul_le_mul (by omega) (by omega)
  omega
 have hmk := Mk.rmake_ok g b i hmay W1
 have H3 : Hid (Below w.heap.size w W1 ∧ W1.heap[w.heap.size + 1]? = some (Mk.geomO 0 0 0)) := ⟨hb1, hr1⟩
 clear hb1 hr1 HB1 HR1
 go_enter Tryz.func12, Tryz.ntmps12
 go_wp2_with (first
  | (refine wpList_load_row rfl 23 (.tmp 1) rfl w.heap.size rfl 23 _ (0, 0) _ hg1 Tryz.underlying23 rfl Mk.info23 ?_))
 refine Calls.mono hmk ?_
 rintro e w4 ⟨A, cap, rfl, hRd, hb4⟩
 have hibA := rd_ib hRd (by omega)
 have hlenA : ∀ xs ∈ imgL (Mk.img g b i) (g * b), xs.length = 128 := fun xs hx => by
  simp only [imgL, List.mem_map] at hx
  obtain ⟨k, _, rfl⟩ := hx
  exact img_len _ _ _ k
 have hof := of64_ok (some ⟨A, 0, none⟩) (g * b) cap (imgL (Mk.img g b i) (g * b)) w4 hibA (by omega) (by omega) hlenA (ib_sect hibA hlenA)
 clear hmk
 dsimp only
 go_wp2_with fail
 refine Calls.mono hof ?_
 rintro e w5 ⟨p, xd, y, A', B', rfl, hp, hV, hlo, hp4, hb5⟩
 have hb35 : Below W1.heap.size W1 w5 := hb4.trans (hb5.mono hb4.size)
 have hg5 := (hb35.block _ (Array.getElem?_eq_some_iff.1 hg1).1).trans hg1
 have hr5 := (hb35.block _ (Array.getElem?_eq_some_iff.1 H3.out.2).1).trans H3.out.2
 have HF : Hid (w5.heap[p]? = some (.cells #[.pointer (some ⟨A'.d, 0, none⟩), .pointer (some ⟨A'.v, 0, none⟩), .pointer (some ⟨xd, 0, none⟩), .pointer (some ⟨y, 0, none⟩)] 33 (0, 0)) ∧ VI 0 B' w5 A' (T0 g b i) ∧ (∀ k, fp A' (T0 g b i) k → p < k) ∧ w4.heap.size ≤ p ∧ Below w.heap.size w w5 ∧ w.heap.size + 1 < w4.heap.size) := ⟨hp, hV, hlo, hp4, H3.out.1.trans (hb35.mono H3.out.1.size), Nat.lt_of_lt_of_le (Array.getElem?_eq_some_iff.1 H3.out.2).1 hb4.size⟩
 clear hof hb35 hp hV hlo hp4 hb5 hRd hb4 hibA hlenA hg1 H3
 dsimp only
 go_wp2_with fail
 have hd5 : Below w5.heap.size w5 w5.drew := (Below.refl _ _).drew
 have hgd := (hd5.block _ (Array.getElem?_eq_some_iff.1 hg5).1).trans hg5
 have hrd := (hd5.block _ (Array.getElem?_eq_some_iff.1 hr5).1).trans hr5
 have q0 : w5.drew.cell? ⟨w.heap.size, 0, none⟩ = some (.int .i64 (g : Int)) := cell_of_row _ _ 0 _ _ _ hgd
 have q1 : w5.drew.cell? ⟨w.heap.size, 1, none⟩ = some (.int .i64 (b : Int)) := cell_of_row _ _ 1 _ _ _ hgd
 have q2 : w5.drew.cell? ⟨w.heap.size, 2, none⟩ = some (.int .i64 (i : Int)) := cell_of_row _ _ 2 _ _ _ hgd
 have r0 : w5.drew.cell? ⟨w.heap.size + 1, 0, none⟩ = some (.int .i64 0) := cell_of_row _ _ 0 _ _ _ hrd
 have r1 : w5.drew.cell? ⟨w.heap.size + 1, 1, none⟩ = some (.int .i64 0) := cell_of_row _ _ 1 _ _ _ hrd
 have r2 : w5.drew.cell? ⟨w.heap.size + 1, 2, none⟩ = some (.int .i64 0) := cell_of_row _ _ 2 _ _ _ hrd
 have f0 : w5.drew.frozen? ⟨w.heap.size + 1, 0, none⟩ = false := by simp [World.frozen?, hrd]
 have f1 : w5.drew.frozen? ⟨w.heap.size + 1, 1, none⟩ = false := by simp [World.frozen?, hrd]
 have f2 : w5.drew.frozen? ⟨w.heap.size + 1, 2, none⟩ = false := by simp [World.frozen?, hrd]
 have r0' : w5.cell? ⟨w.heap.size + 1, 0, none⟩ = some (.int .i64 0) := cell_of_row _ _ 0 _ _ _ hr5
 have r1' : w5.cell? ⟨w.heap.size + 1, 1, none⟩ = some (.int .i64 0) := cell_of_row _ _ 1 _ _ _ hr5
 have r2' : w5.cell? ⟨w.heap.size + 1, 2, none⟩ = some (.int .i64 0) := cell_of_row _ _ 2 _ _ _ hr5
 have f0' : w5.frozen? ⟨w.heap.size + 1, 0, none⟩ = false := by simp [World.frozen?, hr5]
 have f1' : w5.frozen? ⟨w.heap.size + 1, 1, none⟩ = false := by simp [World.frozen?, hr5]
 have f2' : w5.frozen? ⟨w.heap.size + 1, 2, none⟩ = false := by simp [World.frozen?, hr5]
 have HG : Hid (w5.heap[w.heap.size + 1]? = some (Mk.geomO 0 0 0)) := hr5
 clear hg5 hr5 hd5 hgd hrd
 go_region
 go_wp2_with fail
 obtain ⟨hp, hV, hlo, hp4, hbw, hlt⟩ := HF.out
 exact fresh_end hp hV hlo hp4 hbw hlt HG.out rfl rfl rfl rfl
theorem fresh_ok (G B I : Int) (w : World) : Calls Tryz.prog 12 #[Mk.geomV G B I] w fun e w' => ∃ g b i : Nat, Mk.Gm.May (g : Int) (b : Int) (i : Int) ∧ FrP w g b i e w' := by
 by_cases hm : Mk.Gm.May G B I
 ·obtain ⟨⟨h1, h2⟩, ⟨h3, h4⟩, ⟨h5, h6⟩, _⟩ := hm.all
  obtain ⟨g, rfl⟩ := Int.eq_ofNat_of_zero_le (show 0 ≤ G by omega)
  obtain ⟨b, rfl⟩ := Int.eq_ofNat_of_zero_le (show 0 ≤ B by omega)
  obtain ⟨i, rfl⟩ := Int.eq_ofNat_of_zero_le (show 0 ≤ I by omega)
  exact (fresh1_ok g b i hm w).mono fun e w' h => ⟨g, b, i, hm, h⟩
 ·exact (freshNo_ok G B I hm w).mono fun e w' h => ⟨1, 8, 4, by decide, h⟩
end Go.Proofs.YthdlpeejmmobmaaGreat

namespace Go.Proofs.YthdlpeejmmobmaaGreat
open Go.RowKit Go.Maps
set_option linter.unusedVariables false
set_option maxRecDepth 100000
theorem PI.snoc {B : Nat} {wr w1 w3 : World} {u v3 : Value} {j m : Nat} {vs : List Value} {L : List (List Int)} {p1 : Option Addr} {c1 : Nat} {xs : List Int}
  (hp : PI B wr u j vs L) (hp1 : PI B w1 u j vs L) (hB : B ≤ wr.heap.size)
  (ho1 : w1.ownsRow wr.heap.size 5 1 (.slice p1 m c1) m (xs.map (Value.int .u8))) (hm : m ≤ 140737488355328) (hx : Num.Byt xs)
  (hkeep : ∀ (u' : Value) (l : Nat) (Lx : List Value), w1.ownsRow B 5 1 u' l Lx → w3.ownsRow B 5 1 u' l Lx)
  (hown3 : w3.ownsRow B 42 1 v3 (j + 1) (vs ++ [.slice p1 m c1])) : PI B w3 v3 (j + 1) (vs ++ [.slice p1 m c1]) (L ++ [xs]) := by
 have hl := hp.vlen
 have hll := hp.len
 have ho1' : w1.ownsRow B 5 1 (.slice p1 m c1) m (xs.map (Value.int .u8)) := by
  refine ⟨ho1.1, ?_⟩
  rcases ho1.2 with h' | ⟨g', cap', cur, h', hbg, rest⟩
  ·exact .inl h'
  ·exact .inr ⟨g', cap', cur, h', Nat.le_trans hB hbg, rest⟩
 have hold : ∀ (i : Nat) (u : Value) (k : Nat), vs[i]? = some u → u.ownBlock = some k → k < wr.heap.size := fun i u k hu hk => by
  have hil := (List.getElem?_eq_some_iff.1 hu).1
  obtain ⟨q, m, d, eu, ho, _⟩ := hp.el i u _ hu (List.getElem?_eq_getElem (by omega))
  rw [eu] at hk
  exact (ho.lt k hk).2
 refine ⟨hown3, by rw [List.length_append, hll]; rfl, ?_, ?_⟩
 ·intro i u' ys hu hy
  by_cases hi : i < j
  ·rw [List.getElem?_append_left (by omega)] at hu hy
   obtain ⟨q', m', d', eu, ho, hm, hbt⟩ := hp1.el i u' ys hu hy
   exact ⟨q', m', d', eu, hkeep _ _ _ ho, hm, hbt⟩
  ·rw [List.getElem?_append_right (by omega)] at hu hy
   have hi0 : i - vs.length = 0 := by have := (List.getElem?_eq_some_iff.1 hu).1; simpa using this
   rw [hi0] at hu
   rw [hll, ← hl, hi0] at hy
   simp at hu hy
   subst hu
   subst hy
   exact ⟨p1, m, c1, rfl, hkeep _ _ _ ho1', hm, hx⟩
 ·intro i i' u' u'' k hu hu' hk hk'
  have key : ∀ (i : Nat) (u' : Value), (vs ++ [Value.slice p1 m c1])[i]? = some u' → u'.ownBlock = some k → (i < j ∧ k < wr.heap.size ∧ vs[i]? = some u') ∨ (i = j ∧ wr.heap.size ≤ k) := by
   intro i u' hu hk
   by_cases hi : i < j
   ·rw [List.getElem?_append_left (by omega)] at hu
    exact .inl ⟨hi, hold i u' k hu hk, hu⟩
   ·rw [List.getElem?_append_right (by omega)] at hu
    have hi0 : i - vs.length = 0 := by have := (List.getElem?_eq_some_iff.1 hu).1; simpa using this
    rw [hi0] at hu
    simp at hu
    subst hu
    exact .inr ⟨by omega, (ho1.lt k hk).1⟩
  rcases key i u' hu hk with ⟨a1, a2, a3⟩ | ⟨a1, a2⟩
  ·rcases key i' u'' hu' hk' with ⟨b1, b2, b3⟩ | ⟨b1, b2⟩
   ·exact hp1.ne i i' u' u'' k a3 b3 hk hk'
   ·omega
  ·rcases key i' u'' hu' hk' with ⟨b1, b2, b3⟩ | ⟨b1, b2⟩
   ·omega
   ·omega
def pif (v : Value) (vs : List Value) (k : Nat) : Prop := v.ownBlock = some k ∨ ∃ u ∈ vs, u.ownBlock = some k
theorem PI.flt {B : Nat} {w : World} {v : Value} {n : Nat} {vs : List Value} {L : List (List Int)} (h : PI B w v n vs L) {k : Nat} (hk : pif v vs k) : B ≤ k ∧ k < w.heap.size := by
 rcases hk with hk | ⟨u, hu, hk⟩
 ·exact h.row.lt k hk
 ·obtain ⟨i, hi, e⟩ := List.getElem_of_mem hu
  have hl := h.vlen
  have hll := h.len
  obtain ⟨q, m, d, eu, ho, _⟩ := h.el i u _ (by rw [List.getElem?_eq_getElem hi, e]) (List.getElem?_eq_getElem (by omega))
  rw [eu] at hk
  exact ho.lt k hk
theorem PI.keepF {B : Nat} {w w' : World} {v : Value} {n : Nat} {vs : List Value} {L : List (List Int)} (h : PI B w v n vs L) (hb : ∀ k, pif v vs k → w'.heap[k]? = w.heap[k]?) : PI B w' v n vs L := by
 refine ⟨ownsRow_kept h.row (fun k hk => hb k (.inl hk)), h.len, fun i u xs hu hx => ?_, h.ne⟩
 obtain ⟨q, m, d, eu, ho, hm, hbt⟩ := h.el i u xs hu hx
 exact ⟨q, m, d, eu, ownsRow_kept ho (fun k hk => hb k (.inr ⟨u, List.mem_of_getElem? hu, by rw [eu]; exact hk⟩)), hm, hbt⟩
theorem imgL_succ (f : Nat → List Int) (n : Nat) : imgL f (n + 1) = imgL f n ++ [f n] := by simp [imgL, List.range_succ]
section
variable {w w' : World} {v : Nat} {F : Nat → Prop} {N : Nat} {I : Nat → List Int} {l c G B Q : Nat}
set_option maxHeartbeats 2000000 in
theorem pnow_ok {p : Nat} {pd px py : Value} (h : Vol w v F N I l c) (hP : w.heap[p]? = some (.cells #[pd, .pointer (some ⟨v, 0, none⟩), px, py] 33 (0, 0))) (hpF : ¬ F p) (hc : c + N < 4611686018427387904) :
  Calls Tryz.prog 27 #[.pointer (some ⟨p, 0, none⟩)] w fun e w' => ∃ u vs F', e = .returned u ∧ PI w.heap.size w' u N vs (imgL I N) ∧ Vol w' v F' N I l (c + N) ∧ Pt.Stp F F' w w' ∧ ∀ k, pif u vs k → ¬ F' k := by
 obtain ⟨i9, hi9, hx0, hx1, hx2⟩ := info_parts info30
 have hN := h.N1
 have k1 : w.cell? ⟨p, 1, none⟩ = some (.pointer (some ⟨v, 0, none⟩)) := cell_of_row _ _ 1 _ 33 _ hP
 have hbl := vol_blocks h
 have HV : Hid (Vol w v F N I l c ∧ w.heap[p]? = some (.cells #[pd, .pointer (some ⟨v, 0, none⟩), px, py] 33 (0, 0)) ∧ ¬ F p ∧ p < w.heap.size) := ⟨h, hP, hpF, (Array.getElem?_eq_some_iff.1 hP).1⟩
 clear h hP hpF
 go_enter Tryz.func27, Tryz.ntmps27
 go_wp2_with (first | (go_at_call 13; refine same_at hbl ?_))
 go_loopw [3, 12] (fun u i wr => ∃ (j : Nat) (vs : List Value) (F1 : Nat → Prop) (u' : Value), j ≤ N ∧ i = .int .i64 (j : Int) ∧ u' = u ∧ PI w.heap.size wr u' j vs (imgL I j) ∧ Vol wr v F1 N I l (c + j) ∧ Pt.Stp F F1 w wr ∧ (∀ k, pif u' vs k → ¬ F1 k)) (fun _ i _ => N - (intOf i).toNat)
 case atStart => exact ⟨0, [], F, _, by omega, rfl, rfl, ⟨World.ownsRow_nil _ _ _ _, by simp [imgL], by simp, by simp⟩, HV.out.1, Pt.Stp.refl _ _, by rintro k (hk | ⟨u, hu, _⟩); cases hk; cases hu⟩
 case round =>
  obtain ⟨j, vs, F1, u, hj, rfl, rfl, hp, hv, hst, hoff⟩ := hrel
  have hszw : w.heap.size ≤ wr.heap.size := hst.fr.size
  by_cases hlt : j < N
  ·have hpr := (hst.fr.block p HV.out.2.2.2 HV.out.2.2.1).trans HV.out.2.1
   have k2 : wr.cell? ⟨p, 1, none⟩ = some (.pointer (some ⟨v, 0, none⟩)) := cell_of_row _ _ 1 _ 33 _ hpr
   have hrd := vol_read hv j hlt (by omega)
   have hjI : (j : Int) < (N : Int) := by omega
   have Hp : Hid (PI w.heap.size wr u j vs (imgL I j) ∧ Vol wr v F1 N I l (c + j) ∧ Pt.Stp F F1 w wr ∧ (∀ k, pif u vs k → ¬ F1 k)) := ⟨hp, hv, hst, hoff⟩
   clear hp hv hst hoff hpr
   go_wp2_with fail
   refine Calls.mono hrd ?_
   rintro e w1 ⟨x, cap, F2, rfl, ho, hxF, hv1, hst1⟩
   obtain ⟨hp, hv, hst, hoff⟩ := Hp.out
   have hp1 : PI w.heap.size w1 u j vs (imgL I j) := hp.keepF fun k hk => hst1.fr.block k (hp.flt hk).2 (hoff k hk)
   have hoff1 : ∀ k, pif u vs k → ¬ F2 k := fun k hk hF => by
    rcases hst1.new k hF with h9 | h9
    ·exact hoff k hk h9
    ·have := (hp.flt hk).2
     omega
   have hsz1 := hst1.fr.size
   have hb2 := (Below.refl w1.heap.size w1).alloc (Nat.le_refl _) (.cells #[.slice (some ⟨x, 0, none⟩) 128 cap] 42)
   have hp2 := hp1.kept (w' := w1.alloc (.cells #[.slice (some ⟨x, 0, none⟩) 128 cap] 42)) (fun k _ hk => hb2.block k hk)
   have hnews : ∀ i u, [Value.slice (some ⟨x, 0, none⟩) 128 cap][i]? = some u → (w1.alloc (.cells #[.slice (some ⟨x, 0, none⟩) 128 cap] 42)).cell? ((⟨w1.heap.size, 0, none⟩ : Addr).add i) = some u := cell_one_new _ _ _
   have hone : ∀ u ∈ [Value.slice (some ⟨x, 0, none⟩) 128 cap], u.oneCell' = true := by intro u hu; simp at hu; subst hu; rfl
   have HN1 := (show Hid _ from hnews)
   have HO := (show Hid _ from hone)
   have hrow2 := hp2.row
   have Hx := (show Hid (_ ∧ _ ∧ _ ∧ _ ∧ _ ∧ _ ∧ _) from ⟨ho, hv1, hst1, hp1, hb2, hxF, hoff1⟩)
   clear hnews hone hrd ho hv1 hst1 hp1 hb2 hp2 hp hv hst hoff hxF hoff1
   dsimp only
   go_wp2_with (at_builtin; refine wpList_append_own_at _ rfl _ _ 67 rfl w.heap.size 42 i9 (.slice none 0 0) 1 24 Tryz.underlying67 hi9 hx0 hx1 hx2 rfl (by decide) u j vs rfl hrow2 ⟨w1.heap.size, 0, none⟩ 1 1 [Value.slice (some ⟨x, 0, none⟩) 128 cap] rfl rfl HN1.out HO.out (by unfold maxLen; omega) (by omega) (by simp only [World.size_alloc]; omega) ?_)
   intro v3 w3 hown3 hgrow3 _ hat
   obtain ⟨ho, hv1, hst1, hp1, hb2, hxF, hoff1⟩ := Hx.out
   obtain ⟨hp, hv, hst, hoff⟩ := Hp.out
   have hsz2 : (w1.alloc (.cells #[.slice (some ⟨x, 0, none⟩) 128 cap] 42)).heap.size = w1.heap.size + 1 := by simp
   have hlow : Below w.heap.size w1 w3 := ((Below.refl _ _).alloc (by omega) (.cells #[.slice (some ⟨x, 0, none⟩) 128 cap] 42)).grown hgrow3 (by omega) (fun k hk => (hrow2.lt k hk).1)
   have hkeep : ∀ (u' : Value) (l : Nat) (Lx : List Value), w1.ownsRow w.heap.size 5 1 u' l Lx → w3.ownsRow w.heap.size 5 1 u' l Lx := fun u' l Lx ho => by
    have ho2 := ownsRow_kept ho (w' := w1.alloc (.cells #[.slice (some ⟨x, 0, none⟩) 128 cap] 42)) (fun k hk => hb2.block k (ho.lt k hk).2)
    exact ownsRow_kept ho2 (fun k hk => hgrow3.block k (ho2.lt k hk).2 (fun e => owns_ne ho2 hrow2 (by decide) hk e.symm))
   have hv3 : Vol w3 v F2 N I l (c + j + 1) := hv1.else (by have := hgrow3.size; omega) fun k hk => by
    have hkl := hv1.lt k hk
    exact (hgrow3.block k (by omega) (fun e => hoff1 k (.inl e.symm) hk)).trans (hb2.block k hkl)
   have hst3 : Pt.Stp F F2 w w3 := stp_low (stp_trans hst hst1) hlow
   have hoff3 : ∀ k, pif v3 (vs ++ [.slice (some ⟨x, 0, none⟩) 128 cap]) k → ¬ F2 k := by
    rintro k (hk | ⟨u', hu', hk⟩) hF
    ·rcases hat with e | e
     ·exact hoff1 k (.inl (e ▸ hk)) hF
     ·rw [e] at hk
      cases hk
      have := hv1.lt _ hF
      omega
    ·rcases List.mem_append.1 hu' with h9 | h9
     ·exact hoff1 k (.inr ⟨u', h9, hk⟩) hF
     ·rw [List.mem_singleton] at h9
      subst h9
      cases hk
      exact hxF hF
   go_wp2
   go_roundw
   case rel =>
    refine ⟨j + 1, vs ++ [.slice (some ⟨x, 0, none⟩) 128 cap], F2, _, by omega, by go_num, rfl, ?_, hv3, hst3, hoff3⟩
    rw [imgL_succ]
    exact hp.snoc hp1 hszw ho (by omega) (hv.sect j).2 hkeep hown3
   case measure => simp [intOf]; omega
  ·obtain rfl : j = N := by omega
   go_wp2
   go_ret
   exact ⟨_, vs, F1, rfl, hp, hv, hst, hoff⟩
end
end Go.Proofs.YthdlpeejmmobmaaGreat

namespace Go.Proofs.YthdlpeejmmobmaaGreat
open Go.RowKit Go.Maps
set_option linter.unusedVariables false
set_option maxRecDepth 100000
def nimg (g b i : Nat) : Nat → List Int := nowOf (T0 g b i)
theorem nimg_at {g b i k : Nat} (hk : k < g * b) : nimg g b i k = Mk.img g b i k := by
 have e : nimg g b i k = Pt.ovrs (Pt.ofB [] (k : Int)) (part (imgL (Mk.img g b i) (g * b)) (g * b) k) := rfl
 rw [e]
 have e2 : part (imgL (Mk.img g b i) (g * b)) (g * b) k = Mk.img g b i k := by
  unfold part imgL
  rw [if_pos hk, List.getD_eq_getElem?_getD, List.getElem?_map, List.getElem?_range hk]
  rfl
 rw [e2]
 rfl
theorem img_head {g b i n : Nat} (hm : Mk.Gm.May (g : Int) b i) (hn : n < g) : Mk.img g b i (n * b + 1) = Mk.groupL (n : Int) (Mk.hdY i n) := by
 have := hm.all
 have hb : 1 < b := by omega
 have h1 : (n * b + 1) % b = 1 := by rw [Nat.add_comm, Nat.add_mul_mod_self_right]; exact Nat.mod_eq_of_lt hb
 have h2 : (n * b + 1) / b = n := by rw [Nat.add_comm, Nat.add_mul_div_right _ _ (by omega), Nat.div_eq_of_lt hb]; omega
 have h3 : n * b + 1 ≠ 2 ∧ n * b + 1 ≠ 2 + i / 4 := by
  rcases Nat.eq_zero_or_pos n with rfl | hp
  ·omega
  ·have : b ≤ n * b := Nat.le_mul_of_pos_left b hp
   omega
 unfold Mk.img Mk.rtL
 rw [if_neg h3.1, if_neg h3.2]
 unfold Mk.blF
 rw [h1, if_pos rfl, h2]
theorem geo_of {g b i : Nat} (hm : Mk.Gm.May (g : Int) b i) : Geo g b i (g * b) := ⟨hm, rfl⟩
theorem hds_new {g b i : Nat} (hm : Mk.Gm.May (g : Int) b i) : Hds (nimg g b i) g b (Mk.hdY i) :=
 ⟨fun n hn => (nimg_at (by have := (geo_of hm).hd hn (show 1 < b by have := hm.all; omega); exact this)).trans (img_head hm hn), fun n _ => Mk.hdY_len i n, fun n _ => Mk.hdY_byt i n⟩
theorem fr_vol {w w' : World} {g b i : Nat} {e : Ending} (h : FrP w g b i e w') : ∃ p v F, ∃ pd px py : Value, e = .returned (.tuple #[.pointer (some ⟨p, 0, none⟩), Mk.geomV g b i, .bool true]) ∧ w'.heap[p]? = some (.cells #[pd, .pointer (some ⟨v, 0, none⟩), px, py] 33 (0, 0)) ∧ Vol w' v F (g * b) (nimg g b i) 0 0 ∧ (∀ k, F k → w.heap.size ≤ k ∧ k ≠ p) ∧ w.heap.size ≤ p ∧ Below w.heap.size w w' := by
 obtain ⟨p, xd, y, A, B, e1, hp, hV, hF, hlo, hb⟩ := h
 exact ⟨p, A.v, _, _, _, _, e1, hp, ⟨B, A, _, hV, rfl, rfl, rfl, rfl, rfl, rfl, rfl, rfl, rfl, fun m J h => by cases h⟩, hF, hlo, hb⟩
def updH (H : Nat → List Int) (n : Nat) (ys : List Int) : Nat → List Int := fun k => if k = n then ys else H k
theorem hds_put {I : Nat → List Int} {G B : Nat} {H : Nat → List Int} (h : Hds I G B H) (hB : 1 < B) (n : Nat) {ys : List Int} (hl : ys.length = 40) (hy : Mk.Num.Byt ys) : Hds (putH I B n ys) G B (updH H n ys) := by
 refine ⟨fun k hk => ?_, fun k hk => ?_, fun k hk => ?_⟩
 ·unfold putH updH
  by_cases e : k = n
  ·subst e
   rw [if_pos rfl, if_pos rfl]
  ·have : k * B + 1 ≠ n * B + 1 := fun h9 => e (Nat.eq_of_mul_eq_mul_right (show 0 < B by omega) (by omega))
   rw [if_neg this, if_neg e]
   exact h.at_ k hk
 ·unfold updH
  split
  ·exact hl
  ·exact h.len k hk
 ·unfold updH
  split
  ·exact hy
  ·exact h.byt k hk
end Go.Proofs.YthdlpeejmmobmaaGreat

namespace Go.Proofs.YthdlpeejmmobmaaGreat
open Go.ChangeShapes Go.WideShapes Go.ChangeAt Go.RowKit Go.Joins
set_option linter.unusedVariables false
set_option maxRecDepth 100000
theorem ownKnob_none : ownKnob Tryz.prog.godebug = none := by kernel_rfl
theorem laid_out : laidOutB Tryz.prog = true := by kernel_rfl
theorem cells23 : Tryz.prog.cellsOf 23 = 3 := by kernel_rfl
theorem open_geom {H : Type} {enc : TypeId × Value → H} {W : World} {base : Nat} {v : Value} {d : DataW H} {p : List MemPlace} (hv : Value.okWide Tryz.prog W .any base 23 v)
  (h : DataW.Trod enc Tryz.prog W 0 (fun _ => true) true 23 v d p) : ∃ G B I, v = Mk.geomV G B I := by
 obtain ⟨c0, c1, c2, y0, y1, y2, m, rfl, rfl, rfl, hy0, hy1, hy2⟩ := open_agg3 Tryz.underlying23 (by kernel_rfl) cells23 hv h
 obtain ⟨a, e0, _, _⟩ := DataW.trod_int Tryz.underlying3 hy0
 obtain ⟨b, e1, _, _⟩ := DataW.trod_int Tryz.underlying3 hy1
 obtain ⟨c, e2, _, _⟩ := DataW.trod_int Tryz.underlying3 hy2
 simp at e0 e1 e2
 subst e0 e1 e2
 exact ⟨a, b, c, rfl⟩
theorem bytes3 : Tryz.prog.bytesOf 3 = 8 := by kernel_rfl
theorem cells3 : Tryz.prog.cellsOf 3 = 1 := by kernel_rfl
theorem rng_of_wf {x : Int} (h : (Lit.int .i64 x).wf = true) : -9223372036854775808 ≤ x ∧ x ≤ 9223372036854775807 := by
 simp [Lit.wf, IntKind.min, IntKind.max, IntKind.signed, IntKind.bits] at h
 omega
section
variable {H : Type} {enc : TypeId × Value → H} {W : World}
theorem open_ii {v : Value} {d : DataW H} {pl : List MemPlace} {n : Nat} (h : DataW.trod enc Tryz.prog W 0 (fun _ => true) true n 49 [v] = some (d, pl)) (hw : ∀ x ∈ d.weights Tryz.prog 49, x ≤ reachBytes) :
  ∃ p m c xs, v = .slice p m c ∧ m ≤ c ∧ c ≤ 9223372036854775807 ∧ m * 8 ≤ 140737488351232 ∧ Pt.II W p m xs := by
 rcases open_ints Tryz.underlying49 Tryz.underlying3 cells3 h with ⟨hcs, _⟩ | ⟨x, l, c, zs, hcs, _, hl, hm, hz, hx, hcell, hwz⟩
 ·simp at hcs
  subst hcs
  exact ⟨none, 0, 0, [], rfl, Nat.le_refl _, by omega, by omega, ⟨rfl, by omega, by simp, fun h => by omega⟩⟩
 ·simp at hcs
  subst hcs
  simp only [Prod.mk.injEq] at hx
  obtain ⟨rfl, _⟩ := hx
  simp only [if_true] at hz
  have hw1 := hw (((lits IntKind.i64 (zs.take l) : List (DataW H)).length + (lits IntKind.i64 (zs.drop l) : List (DataW H)).length) * 8) (by simp [DataW.weights, Tryz.underlying49, bytes3])
  simp only [lits, List.length_map, List.length_take, List.length_drop, reachBytes] at hw1
  unfold maxLen at hm
  refine ⟨some x, l, c, zs.take l, rfl, hl, by omega, by omega, ⟨by rw [List.length_take]; omega, by omega, fun y hy => rng_of_wf (hwz y (List.mem_of_mem_take hy)), fun hn => ?_⟩⟩
  obtain ⟨b, off, spot⟩ := x
  have hc := hcell 0 (by omega)
  have hspot : spot = none := by simpa [Addr.add] using World.cell?_spot hc
  subst hspot
  refine ⟨b, off, rfl, fun i hi => ?_⟩
  have hci := hcell i (by omega)
  rw [Addr.add_mid] at hci
  rw [hci, getD_take _ _ _ hi]
set_option maxRecDepth 10000 in
theorem open_nums {a0 : Option Addr} {len0 cap0 : Nat} {d0 : DataW H} {p0 : List MemPlace} {ts : List TypeId} {ds : List (DataW H)} {j : Nat}
  (h0 : DataW.Trod enc Tryz.prog W 0 (fun _ => true) true 49 (.slice a0 len0 cap0) d0 p0)
  (hsz : (DataW.weightsEach Tryz.prog ts ds).all (· ≤ reachBytes) = true) (ht : ts[j]? = some 49) (hd : ds[j]? = some d0) : ∃ xs, Pt.II W a0 len0 xs := by
 obtain ⟨fuel, hf⟩ := h0
 have hall : ∀ x ∈ d0.weights Tryz.prog 49, x ≤ reachBytes := fun x hx => by
  have := List.all_eq_true.1 hsz x (DataW.weights_mem_each ht hd x hx)
  simpa using this
 obtain ⟨p, m, c, xs, e, _, _, _, h⟩ := open_ii (v := .slice a0 len0 cap0) (by simpa [Value.cells] using hf) hall
 obtain ⟨rfl, rfl, rfl⟩ := Value.slice.inj e
 exact ⟨xs, h⟩
end
end Go.Proofs.YthdlpeejmmobmaaGreat
