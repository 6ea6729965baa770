/- F4 A12 AO CR C7 C2 C1 -/
import Derived.Test.YthdlpeejmmobmaaGreatAi27
import Derived.Test.YthdlpeejmmobmaaGreatAi24
import Derived.Test.YthdlpeejmmobmaaGreatAi26
import Derived.Maps.AppendAt
import Derived.Test.YthdlpeejmmobmaaGreatRows
import Derived.Test.YthdlpeejmmobmaaGreatAi03
import Derived.Deep.Slices
import Derived.Deep.Grids
import Derived.ProofKit
import Derived.OpenShut
import Derived.ShutString
import Derived.ChangeOld
import Derived.SizedLaws
import Derived.Lib.SmallJoins
import Derived.Test.YthdlpeejmmobmaaGreatAi04
import Derived.Test.YthdlpeejmmobmaaGreatAi25
import Derived.Test.YthdlpeejmmobmaaGreatAi22
import Derived.Deep.MidRow
import Derived.Laws.MakeOwn

namespace Go.Proofs.YthdlpeejmmobmaaGreat
open Go.RowKit Go.Maps Go.MuLone
set_option linter.unusedVariables false
set_option maxRecDepth 100000

theorem rd_ib {w : World} {A n : Nat} {L : Nat → List Int} (h : Mk.Rd w A n L) (hn : n ≤ 2048) : IB w (some ⟨A, 0, none⟩) n (imgL L n) := by
  refine ⟨by simp [imgL], by omega, fun _ => ⟨A, 0, rfl, fun i x hx => ?_⟩⟩
  have hi : i < n := by have := (List.getElem?_eq_some_iff.1 hx).1; simpa [imgL] using this
  have ex : x = L i := by simpa [imgL, hi] using hx.symm
  subst ex
  obtain ⟨q, m, c, h1, h2⟩ := h i hi
  exact ⟨q, m, c, by rw [Nat.zero_add]; exact h1, mk_bi h2⟩

theorem img_len (g b i k : Nat) : (Mk.img g b i k).length = 128 := by
  unfold Mk.img Mk.rtL
  by_cases h1 : k = 2
  · rw [if_pos h1, Mk.rtB_len]
  rw [if_neg h1]
  by_cases h2 : k = 2 + i / 4
  · rw [if_pos h2, Mk.dd_len]
  rw [if_neg h2]
  unfold Mk.blF
  split
  · exact Mk.groupL_len _ _ (Mk.hdY_len _ _)
  · split
    · exact Mk.superS_len _ _ _ _
    · exact Mk.zers_len 128

theorem ib_sect {w : World} {p : Option Addr} {n : Nat} {L : List (List Int)} (h : IB w p n L) (hl : ∀ xs ∈ L, xs.length = 128) : ∀ xs ∈ L, Sect xs := by
  intro xs hx
  obtain ⟨i, hi⟩ := List.getElem?_of_mem hx
  have h0 : 0 < n := by have := (List.getElem?_eq_some_iff.1 hi).1; have := h.len; omega
  obtain ⟨b, o, _, hc⟩ := h.cells h0
  obtain ⟨q, m, c, _, hb⟩ := hc i xs hi
  exact ⟨hl xs hx, hb.byt⟩
set_option maxHeartbeats 1000000 in
theorem rmake_no (G B I : Int) (hmay : ¬ Mk.Gm.May G B I) (w : World) : Calls Tryz.prog 44 #[Mk.geomV G B I] w fun e w' => e = .returned (.tuple #[.slice none 0 0, .int .i64 170]) ∧ Below w.heap.size w w' := by
  obtain ⟨W1, hW1⟩ : ∃ W1, w.alloc (Mk.geomO G B I) = W1 := ⟨_, rfl⟩
  have hb1 : Below w.heap.size w W1 := by rw [← hW1]; exact Mk.grew_alloc _ _
  have hg1 : W1.heap[w.heap.size]? = some (Mk.geomO G B I) := by rw [← hW1]; exact at_new rfl
  have hca := Mk.rcan_not hmay W1
  go_enter Tryz.func44, Tryz.ntmps44
  go_wp2_with (first
    | (refine wpList_load_row rfl 23 (.tmp 1) rfl w.heap.size rfl 23 _ (0, 0) _ hg1 Tryz.underlying23 rfl Mk.info23 ?_))
  refine Mk.grew_at hca ?_
  intro w2 hb2
  have HB : Hid (Below w.heap.size w w2) := Mk.grew_trans hb1 hb2
  clear hca hg1 hb1 hb2
  dsimp only
  go_wp2_with fail
  go_ret2
  exact ⟨rfl, HB.out⟩

theorem belowRow {n : Nat} {w w' : World} (h : Below n w w') {b : Nat} (hb : n ≤ b) (cs : Array Value) : Below n w (w'.setRow b cs) := by
  refine ⟨h.os, h.tape, h.output, Nat.le_trans h.size (by simp), fun k hk => ?_⟩
  rw [setRow_other _ _ _ _ (by omega)]
  exact h.block k hk

theorem geom_one : (#[.int .i64 1, .int .i64 8, .int .i64 4] : Array Value).all (·.oneCell') = true := by simp [Value.oneCell']

theorem results_tct {P : Program} {fn : Func} {a p u : Tmp} {ty : TypeId} (h : fn.results = #[.tmp a, .cell p ty, .tmp u]) (tmps : Array Value) (w : World) (g : Nat) (t : TypeId) (cs : Array Value) (fr : Nat × Nat) (d : TypeDesc)
    (hp : tmps.getD p undef = .pointer (some ⟨g, 0, none⟩)) (hg : w.heap[g]? = some (.cells cs t fr))
    (hu : P.underlying ty = some d) (hd : (match d with | .struct _ | .array _ _ => true | _ => false) = true) (hi : (P.info? ty).map (·.size) = some cs.size) :
    (results fn tmps).run P w = .ok (.tuple #[tmps.getD a undef, .agg cs, tmps.getD u undef]) w := by
  have e : (results fn tmps).run P w = ((asAddr (tmps.getD p undef)).run P w).andThen fun x w₁ => ((loadVar ty x).run P w₁).andThen fun v w₂ => .ok (.tuple #[tmps.getD a undef, v, tmps.getD u undef]) w₂ := by
    simp only [results, h]
    simp [Sem.run_bind, Result.andThen]
  rw [e, hp]
  simp [asAddr, run_loadVar_row w g t ty cs fr d hg hu hd hi]

/-- A new volume's disk. -/
def S0 (g b i : Nat) : St := ⟨g * b, part (imgL (Mk.img g b i) (g * b)) (g * b), [], 0, fun _ => 0⟩
/-- A new volume. -/
def T0 (g b i : Nat) : Vs := new0 (S0 g b i) (.slice none 0 0) 64
/-- What Fresh leaves: a pair over a new volume of a geometry, and that. -/
def FrP (w : World) (g b i : Nat) (e : Ending) (w' : World) : Prop :=
  ∃ p xd y A B, e = .returned (.tuple #[.pointer (some ⟨p, 0, none⟩), Mk.geomV g b i, .bool true]) ∧ w'.heap[p]? = some (.cells #[.pointer (some ⟨At.d A, 0, none⟩), .pointer (some ⟨At.v A, 0, none⟩), .pointer (some ⟨xd, 0, none⟩), .pointer (some ⟨y, 0, none⟩)] 33 (0, 0)) ∧ VI 0 B w' A (T0 g b i) ∧ (∀ k, fp A (T0 g b i) k → w.heap.size ≤ k ∧ k ≠ p) ∧ w.heap.size ≤ p ∧ Below w.heap.size w w'

theorem fresh_end {w w4 w5 : World} {p xd y g b i B' : Nat} {A : At} {a : Act}
    (hp : w5.heap[p]? = some (.cells #[.pointer (some ⟨A.d, 0, none⟩), .pointer (some ⟨A.v, 0, none⟩), .pointer (some ⟨xd, 0, none⟩), .pointer (some ⟨y, 0, none⟩)] 33 (0, 0)))
    (hV : VI 0 B' w5 A (T0 g b i)) (hlo : ∀ k, fp A (T0 g b i) k → p < k) (hp4 : w4.heap.size ≤ p) (hbw : Below w.heap.size w w5) (hlt : w.heap.size + 1 < w4.heap.size)
    (hr : w5.heap[w.heap.size + 1]? = some (Mk.geomO 0 0 0))
    (e2 : a.tmps.getD 2 undef = .pointer (some ⟨p, 0, none⟩)) (e3 : a.tmps.getD 3 undef = .pointer (some ⟨w.heap.size + 1, 0, none⟩)) (e4 : a.tmps.getD 4 undef = .bool true) (ed : a.defers = []) :
    bodyPost Tryz.prog Tryz.f12 (fun e w' => FrP w g b i e w') Exit.ret a ((((w5.setCell ⟨w.heap.size + 1, 0, none⟩ (.int .i64 (g : Int))).setCell ⟨w.heap.size + 1, 1, none⟩ (.int .i64 (b : Int))).setCell ⟨w.heap.size + 1, 2, none⟩ (.int .i64 (i : Int))).drew) := by
  have g1 := row_set hr 0 (.int .i64 (g : Int))
  have g2 := row_set g1 1 (.int .i64 (b : Int))
  have g3 := row_set g2 2 (.int .i64 (i : Int))
  obtain ⟨W7, hW7⟩ : ∃ W7, (((w5.setCell ⟨w.heap.size + 1, 0, none⟩ (.int .i64 (g : Int))).setCell ⟨w.heap.size + 1, 1, none⟩ (.int .i64 (b : Int))).setCell ⟨w.heap.size + 1, 2, none⟩ (.int .i64 (i : Int))) = W7 := ⟨_, rfl⟩
  rw [hW7] at g3 ⊢
  have hdr : Below W7.heap.size W7 W7.drew := (Below.refl _ _).drew
  have so : ∀ b, b ≠ w.heap.size + 1 → W7.drew.heap[b]? = w5.heap[b]? := fun b hb => by
    have h0 : W7.drew.heap[b]? = W7.heap[b]? := rfl
    rw [h0, ← hW7]
    rw [Below.heap_setCell _ _ _ _ hb, Below.heap_setCell _ _ _ _ hb, Below.heap_setCell _ _ _ _ hb]
  have g4 : W7.drew.heap[w.heap.size + 1]? = some (Mk.geomO g b i) := g3
  have hs7 : W7.drew.heap.size = w5.heap.size := by
    have h0 : W7.drew.heap.size = W7.heap.size := rfl
    rw [h0, ← hW7]; simp
  have hb7 : Below w.heap.size w W7.drew := by
    rw [← hW7]
    exact (((hbw.setCell (Nat.le_succ _) _).setCell (Nat.le_succ _) _).setCell (Nat.le_succ _) _).drew
  refine bodyPost_ret (v := .tuple #[.pointer (some ⟨p, 0, none⟩), Mk.geomV g b i, .bool true]) ?_ ed ?_
  · have := results_tct (P := Tryz.prog) Tryz.results12 a.tmps W7.drew (w.heap.size + 1) 23 _ (0, 0) _ e3 g4 Tryz.underlying23 rfl Mk.info23
    rw [e2, e4] at this
    exact this
  · refine ⟨p, xd, y, A, B', rfl, (so p (by omega)).trans hp, hV.else (by omega) (fun k hk => so k (by have := hlo k hk; omega)), fun k hk => by have := hlo k hk; omega, by omega, hb7⟩
set_option maxHeartbeats 2000000 in
theorem freshNo_ok (G B I : Int) (hmay : ¬ Mk.Gm.May G B I) (w : World) : Calls Tryz.prog 12 #[Mk.geomV G B I] w fun e w' => FrP w 1 8 4 e w' := by
  obtain ⟨W1, hW1⟩ : ∃ W1, (w.alloc (Mk.geomO G B I)).alloc (Mk.geomO 0 0 0) = W1 := ⟨_, rfl⟩
  have hb1 : Below w.heap.size w W1 := by rw [← hW1]; exact ((Below.refl _ w).alloc (Nat.le_refl _) _).alloc (by simp) _
  have hg1 : W1.heap[w.heap.size]? = some (Mk.geomO G B I) := by rw [← hW1]; exact at_old (at_new rfl)
  have hr1 : W1.heap[w.heap.size + 1]? = some (Mk.geomO 0 0 0) := by rw [← hW1]; exact at_new (by simp)
  have HB1 : Hid (Below w.heap.size w W1) := hb1
  have HR1 : Hid (W1.heap[w.heap.size + 1]? = some (Mk.geomO 0 0 0)) := hr1
  have hno := rmake_no G B I hmay W1
  clear hb1 hr1
  go_enter Tryz.func12, Tryz.ntmps12
  go_wp2_with (first
    | (refine wpList_load_row rfl 23 (.tmp 1) rfl w.heap.size rfl 23 _ (0, 0) _ hg1 Tryz.underlying23 rfl Mk.info23 ?_))
  refine Calls.mono hno ?_
  rintro e w2 ⟨rfl, hb2⟩
  have hg2 := (hb2.block _ (Array.getElem?_eq_some_iff.1 hg1).1).trans hg1
  have hr2 := (hb2.block _ (Array.getElem?_eq_some_iff.1 HR1.out).1).trans HR1.out
  obtain ⟨W3, hW3⟩ : ∃ W3, w2.setRow w.heap.size #[.int .i64 1, .int .i64 8, .int .i64 4] = W3 := ⟨_, rfl⟩
  have hg3 : W3.heap[w.heap.size]? = some (Mk.geomO 1 8 4) := by rw [← hW3]; exact setRow_heap _ _ _ _ 23 _ hg2
  have hr3 : W3.heap[w.heap.size + 1]? = some (Mk.geomO 0 0 0) := by rw [← hW3, setRow_other _ _ _ _ (by omega)]; exact hr2
  have hB2 : Below w.heap.size w w2 := HB1.out.trans (hb2.mono HB1.out.size)
  have hB3 : Below w.heap.size w W3 := by rw [← hW3]; exact belowRow hB2 (Nat.le_refl _) _
  have hmk := Mk.rmake_ok 1 8 4 (by decide) W3
  have HW3 : Hid (w2.setRow w.heap.size #[.int .i64 1, .int .i64 8, .int .i64 4] = W3) := hW3
  have H3 : Hid (Below w.heap.size w W3 ∧ W3.heap[w.heap.size + 1]? = some (Mk.geomO 0 0 0)) := ⟨hB3, hr3⟩
  clear hno hg1 hb2 hr2 hr3 hB2 hB3 hW1 HB1 HR1 hW3
  dsimp only
  go_wp2_with (first
    | (refine wpList_store_row rfl 23 (.tmp 1) _ rfl w.heap.size #[.int .i64 1, .int .i64 8, .int .i64 4] rfl rfl 23 _ hg2 Mk.info23 rfl geom_one ?_; rw [HW3.out])
    | (refine wpList_load_row rfl 23 (.tmp 1) rfl w.heap.size rfl 23 _ (0, 0) _ hg3 Tryz.underlying23 rfl Mk.info23 ?_))
  refine Calls.mono hmk ?_
  rintro e w4 ⟨A, cap, rfl, hRd, hb4⟩
  have hibA := rd_ib hRd (by decide)
  have hlenA : ∀ xs ∈ imgL (Mk.img 1 8 4) 8, xs.length = 128 := fun xs hx => by
    simp only [imgL, List.mem_map] at hx
    obtain ⟨k, _, rfl⟩ := hx
    exact img_len _ _ _ k
  have hof := of64_ok (some ⟨A, 0, none⟩) (8) cap (imgL (Mk.img 1 8 4) 8) w4 hibA (by decide) (by decide) hlenA (ib_sect hibA hlenA)
  clear hmk
  dsimp only
  go_wp2_with fail
  refine Calls.mono hof ?_
  rintro e w5 ⟨p, xd, y, A', B', rfl, hp, hV, hlo, hp4, hb5⟩
  have hb35 : Below W3.heap.size W3 w5 := hb4.trans (hb5.mono hb4.size)
  have hg5 := (hb35.block _ (Array.getElem?_eq_some_iff.1 hg3).1).trans hg3
  have hr5 := (hb35.block _ (Array.getElem?_eq_some_iff.1 H3.out.2).1).trans H3.out.2
  have HF : Hid (w5.heap[p]? = some (.cells #[.pointer (some ⟨A'.d, 0, none⟩), .pointer (some ⟨A'.v, 0, none⟩), .pointer (some ⟨xd, 0, none⟩), .pointer (some ⟨y, 0, none⟩)] 33 (0, 0)) ∧ VI 0 B' w5 A' (T0 1 8 4) ∧ (∀ k, fp A' (T0 1 8 4) k → p < k) ∧ w4.heap.size ≤ p ∧ Below w.heap.size w w5 ∧ w.heap.size + 1 < w4.heap.size) := ⟨hp, hV, hlo, hp4, H3.out.1.trans (hb35.mono H3.out.1.size), Nat.lt_of_lt_of_le (Array.getElem?_eq_some_iff.1 H3.out.2).1 hb4.size⟩
  clear hof hb35 hp hV hlo hp4 hb5 hRd hb4 hibA hlenA hg3 H3 HW3 hg2
  dsimp only
  go_wp2_with fail
  have hd5 : Below w5.heap.size w5 w5.drew := (Below.refl _ _).drew
  have hgd := (hd5.block _ (Array.getElem?_eq_some_iff.1 hg5).1).trans hg5
  have hrd := (hd5.block _ (Array.getElem?_eq_some_iff.1 hr5).1).trans hr5
  have q0 : w5.drew.cell? ⟨w.heap.size, 0, none⟩ = some (.int .i64 1) := cell_of_row _ _ 0 _ _ _ hgd
  have q1 : w5.drew.cell? ⟨w.heap.size, 1, none⟩ = some (.int .i64 8) := cell_of_row _ _ 1 _ _ _ hgd
  have q2 : w5.drew.cell? ⟨w.heap.size, 2, none⟩ = some (.int .i64 4) := cell_of_row _ _ 2 _ _ _ hgd
  have r0 : w5.drew.cell? ⟨w.heap.size + 1, 0, none⟩ = some (.int .i64 0) := cell_of_row _ _ 0 _ _ _ hrd
  have r1 : w5.drew.cell? ⟨w.heap.size + 1, 1, none⟩ = some (.int .i64 0) := cell_of_row _ _ 1 _ _ _ hrd
  have r2 : w5.drew.cell? ⟨w.heap.size + 1, 2, none⟩ = some (.int .i64 0) := cell_of_row _ _ 2 _ _ _ hrd
  have f0 : w5.drew.frozen? ⟨w.heap.size + 1, 0, none⟩ = false := by simp [World.frozen?, hrd]
  have f1 : w5.drew.frozen? ⟨w.heap.size + 1, 1, none⟩ = false := by simp [World.frozen?, hrd]
  have f2 : w5.drew.frozen? ⟨w.heap.size + 1, 2, none⟩ = false := by simp [World.frozen?, hrd]
  have r0' : w5.cell? ⟨w.heap.size + 1, 0, none⟩ = some (.int .i64 0) := cell_of_row _ _ 0 _ _ _ hr5
  have r1' : w5.cell? ⟨w.heap.size + 1, 1, none⟩ = some (.int .i64 0) := cell_of_row _ _ 1 _ _ _ hr5
  have r2' : w5.cell? ⟨w.heap.size + 1, 2, none⟩ = some (.int .i64 0) := cell_of_row _ _ 2 _ _ _ hr5
  have f0' : w5.frozen? ⟨w.heap.size + 1, 0, none⟩ = false := by simp [World.frozen?, hr5]
  have f1' : w5.frozen? ⟨w.heap.size + 1, 1, none⟩ = false := by simp [World.frozen?, hr5]
  have f2' : w5.frozen? ⟨w.heap.size + 1, 2, none⟩ = false := by simp [World.frozen?, hr5]
  have HG : Hid (w5.heap[w.heap.size + 1]? = some (Mk.geomO 0 0 0)) := hr5
  clear hg5 hr5 hd5 hgd hrd
  go_region
  go_wp2_with fail
  obtain ⟨hp, hV, hlo, hp4, hbw, hlt⟩ := HF.out
  exact fresh_end hp hV hlo hp4 hbw hlt HG.out rfl rfl rfl rfl
set_option maxHeartbeats 2000000 in
theorem fresh1_ok (g b i : Nat) (hmay : Mk.Gm.May (g : Int) (b : Int) (i : Int)) (w : World) : Calls Tryz.prog 12 #[Mk.geomV g b i] w fun e w' => FrP w g b i e w' := by
  obtain ⟨W1, hW1⟩ : ∃ W1, (w.alloc (Mk.geomO g b i)).alloc (Mk.geomO 0 0 0) = W1 := ⟨_, rfl⟩
  have hb1 : Below w.heap.size w W1 := by rw [← hW1]; exact ((Below.refl _ w).alloc (Nat.le_refl _) _).alloc (by simp) _
  have hg1 : W1.heap[w.heap.size]? = some (Mk.geomO g b i) := by rw [← hW1]; exact at_old (at_new rfl)
  have hr1 : W1.heap[w.heap.size + 1]? = some (Mk.geomO 0 0 0) := by rw [← hW1]; exact at_new (by simp)
  have HB1 : Hid (Below w.heap.size w W1) := hb1
  have HR1 : Hid (W1.heap[w.heap.size + 1]? = some (Mk.geomO 0 0 0)) := hr1
  have hN : 1 ≤ g * b ∧ g * b ≤ 2048 := by
    obtain ⟨⟨h1, h2⟩, ⟨h3, h4⟩, _⟩ := hmay.all
    have h5 : g * b ≤ 8 * 256 := Nat.mul_le_mul (by omega) (by omega)
    have h6 : 1 * 1 ≤ g * b := Nat.mul_le_mul (by omega) (by omega)
    omega
  have hmk := Mk.rmake_ok g b i hmay W1
  have H3 : Hid (Below w.heap.size w W1 ∧ W1.heap[w.heap.size + 1]? = some (Mk.geomO 0 0 0)) := ⟨hb1, hr1⟩
  clear hb1 hr1 HB1 HR1
  go_enter Tryz.func12, Tryz.ntmps12
  go_wp2_with (first
    | (refine wpList_load_row rfl 23 (.tmp 1) rfl w.heap.size rfl 23 _ (0, 0) _ hg1 Tryz.underlying23 rfl Mk.info23 ?_))
  refine Calls.mono hmk ?_
  rintro e w4 ⟨A, cap, rfl, hRd, hb4⟩
  have hibA := rd_ib hRd (by omega)
  have hlenA : ∀ xs ∈ imgL (Mk.img g b i) (g * b), xs.length = 128 := fun xs hx => by
    simp only [imgL, List.mem_map] at hx
    obtain ⟨k, _, rfl⟩ := hx
    exact img_len _ _ _ k
  have hof := of64_ok (some ⟨A, 0, none⟩) (g * b) cap (imgL (Mk.img g b i) (g * b)) w4 hibA (by omega) (by omega) hlenA (ib_sect hibA hlenA)
  clear hmk
  dsimp only
  go_wp2_with fail
  refine Calls.mono hof ?_
  rintro e w5 ⟨p, xd, y, A', B', rfl, hp, hV, hlo, hp4, hb5⟩
  have hb35 : Below W1.heap.size W1 w5 := hb4.trans (hb5.mono hb4.size)
  have hg5 := (hb35.block _ (Array.getElem?_eq_some_iff.1 hg1).1).trans hg1
  have hr5 := (hb35.block _ (Array.getElem?_eq_some_iff.1 H3.out.2).1).trans H3.out.2
  have HF : Hid (w5.heap[p]? = some (.cells #[.pointer (some ⟨A'.d, 0, none⟩), .pointer (some ⟨A'.v, 0, none⟩), .pointer (some ⟨xd, 0, none⟩), .pointer (some ⟨y, 0, none⟩)] 33 (0, 0)) ∧ VI 0 B' w5 A' (T0 g b i) ∧ (∀ k, fp A' (T0 g b i) k → p < k) ∧ w4.heap.size ≤ p ∧ Below w.heap.size w w5 ∧ w.heap.size + 1 < w4.heap.size) := ⟨hp, hV, hlo, hp4, H3.out.1.trans (hb35.mono H3.out.1.size), Nat.lt_of_lt_of_le (Array.getElem?_eq_some_iff.1 H3.out.2).1 hb4.size⟩
  clear hof hb35 hp hV hlo hp4 hb5 hRd hb4 hibA hlenA hg1 H3
  dsimp only
  go_wp2_with fail
  have hd5 : Below w5.heap.size w5 w5.drew := (Below.refl _ _).drew
  have hgd := (hd5.block _ (Array.getElem?_eq_some_iff.1 hg5).1).trans hg5
  have hrd := (hd5.block _ (Array.getElem?_eq_some_iff.1 hr5).1).trans hr5
  have q0 : w5.drew.cell? ⟨w.heap.size, 0, none⟩ = some (.int .i64 (g : Int)) := cell_of_row _ _ 0 _ _ _ hgd
  have q1 : w5.drew.cell? ⟨w.heap.size, 1, none⟩ = some (.int .i64 (b : Int)) := cell_of_row _ _ 1 _ _ _ hgd
  have q2 : w5.drew.cell? ⟨w.heap.size, 2, none⟩ = some (.int .i64 (i : Int)) := cell_of_row _ _ 2 _ _ _ hgd
  have r0 : w5.drew.cell? ⟨w.heap.size + 1, 0, none⟩ = some (.int .i64 0) := cell_of_row _ _ 0 _ _ _ hrd
  have r1 : w5.drew.cell? ⟨w.heap.size + 1, 1, none⟩ = some (.int .i64 0) := cell_of_row _ _ 1 _ _ _ hrd
  have r2 : w5.drew.cell? ⟨w.heap.size + 1, 2, none⟩ = some (.int .i64 0) := cell_of_row _ _ 2 _ _ _ hrd
  have f0 : w5.drew.frozen? ⟨w.heap.size + 1, 0, none⟩ = false := by simp [World.frozen?, hrd]
  have f1 : w5.drew.frozen? ⟨w.heap.size + 1, 1, none⟩ = false := by simp [World.frozen?, hrd]
  have f2 : w5.drew.frozen? ⟨w.heap.size + 1, 2, none⟩ = false := by simp [World.frozen?, hrd]
  have r0' : w5.cell? ⟨w.heap.size + 1, 0, none⟩ = some (.int .i64 0) := cell_of_row _ _ 0 _ _ _ hr5
  have r1' : w5.cell? ⟨w.heap.size + 1, 1, none⟩ = some (.int .i64 0) := cell_of_row _ _ 1 _ _ _ hr5
  have r2' : w5.cell? ⟨w.heap.size + 1, 2, none⟩ = some (.int .i64 0) := cell_of_row _ _ 2 _ _ _ hr5
  have f0' : w5.frozen? ⟨w.heap.size + 1, 0, none⟩ = false := by simp [World.frozen?, hr5]
  have f1' : w5.frozen? ⟨w.heap.size + 1, 1, none⟩ = false := by simp [World.frozen?, hr5]
  have f2' : w5.frozen? ⟨w.heap.size + 1, 2, none⟩ = false := by simp [World.frozen?, hr5]
  have HG : Hid (w5.heap[w.heap.size + 1]? = some (Mk.geomO 0 0 0)) := hr5
  clear hg5 hr5 hd5 hgd hrd
  go_region
  go_wp2_with fail
  obtain ⟨hp, hV, hlo, hp4, hbw, hlt⟩ := HF.out
  exact fresh_end hp hV hlo hp4 hbw hlt HG.out rfl rfl rfl rfl
/-- Fresh of whatever geometry. -/
theorem fresh_ok (G B I : Int) (w : World) : Calls Tryz.prog 12 #[Mk.geomV G B I] w fun e w' => ∃ g b i : Nat, Mk.Gm.May (g : Int) (b : Int) (i : Int) ∧ FrP w g b i e w' := by
  by_cases hm : Mk.Gm.May G B I
  · obtain ⟨⟨h1, h2⟩, ⟨h3, h4⟩, ⟨h5, h6⟩, _⟩ := hm.all
    obtain ⟨g, rfl⟩ := Int.eq_ofNat_of_zero_le (show 0 ≤ G by omega)
    obtain ⟨b, rfl⟩ := Int.eq_ofNat_of_zero_le (show 0 ≤ B by omega)
    obtain ⟨i, rfl⟩ := Int.eq_ofNat_of_zero_le (show 0 ≤ I by omega)
    exact (fresh1_ok g b i hm w).mono fun e w' h => ⟨g, b, i, hm, h⟩
  · exact (freshNo_ok G B I hm w).mono fun e w' h => ⟨1, 8, 4, by decide, h⟩
end Go.Proofs.YthdlpeejmmobmaaGreat

namespace Go.Proofs.YthdlpeejmmobmaaGreat
open Go.RowKit Go.Maps
set_option linter.unusedVariables false
set_option maxRecDepth 100000

/-- A new volume's blocks now. -/
def nimg (g b i : Nat) : Nat → List Int := nowOf (T0 g b i)
theorem nimg_at {g b i k : Nat} (hk : k < g * b) : nimg g b i k = Mk.img g b i k := by
  have e : nimg g b i k = Pt.ovrs (Pt.ofB [] (k : Int)) (part (imgL (Mk.img g b i) (g * b)) (g * b) k) := rfl
  rw [e]
  have e2 : part (imgL (Mk.img g b i) (g * b)) (g * b) k = Mk.img g b i k := by
    unfold part imgL
    rw [if_pos hk, List.getD_eq_getElem?_getD, List.getElem?_map, List.getElem?_range hk]
    rfl
  rw [e2]
  rfl
theorem img_head {g b i n : Nat} (hm : Mk.Gm.May (g : Int) b i) (hn : n < g) : Mk.img g b i (n * b + 1) = Mk.groupL (n : Int) (Mk.hdY i n) := by
  have := hm.all
  have hb : 1 < b := by omega
  have h1 : (n * b + 1) % b = 1 := by rw [Nat.add_comm, Nat.add_mul_mod_self_right]; exact Nat.mod_eq_of_lt hb
  have h2 : (n * b + 1) / b = n := by rw [Nat.add_comm, Nat.add_mul_div_right _ _ (by omega), Nat.div_eq_of_lt hb]; omega
  have h3 : n * b + 1 ≠ 2 ∧ n * b + 1 ≠ 2 + i / 4 := by
    rcases Nat.eq_zero_or_pos n with rfl | hp
    · omega
    · have : b ≤ n * b := Nat.le_mul_of_pos_left b hp
      omega
  unfold Mk.img Mk.rtL
  rw [if_neg h3.1, if_neg h3.2]
  unfold Mk.blF
  rw [h1, if_pos rfl, h2]
theorem geo_of {g b i : Nat} (hm : Mk.Gm.May (g : Int) b i) : Geo g b i (g * b) := ⟨hm, rfl⟩
theorem hds_new {g b i : Nat} (hm : Mk.Gm.May (g : Int) b i) : Hds (nimg g b i) g b (Mk.hdY i) :=
  ⟨fun n hn => (nimg_at (by have := (geo_of hm).hd hn (show 1 < b by have := hm.all; omega); exact this)).trans (img_head hm hn), fun n _ => Mk.hdY_len i n, fun n _ => Mk.hdY_byt i n⟩
/-- What Fresh leaves. -/
theorem fr_vol {w w' : World} {g b i : Nat} {e : Ending} (h : FrP w g b i e w') : ∃ p v F, ∃ pd px py : Value, e = .returned (.tuple #[.pointer (some ⟨p, 0, none⟩), Mk.geomV g b i, .bool true]) ∧ w'.heap[p]? = some (.cells #[pd, .pointer (some ⟨v, 0, none⟩), px, py] 33 (0, 0)) ∧ Vol w' v F (g * b) (nimg g b i) 0 0 ∧ (∀ k, F k → w.heap.size ≤ k ∧ k ≠ p) ∧ w.heap.size ≤ p ∧ Below w.heap.size w w' := by
  obtain ⟨p, xd, y, A, B, e1, hp, hV, hF, hlo, hb⟩ := h
  exact ⟨p, A.v, _, _, _, _, e1, hp, ⟨B, A, _, hV, rfl, rfl, rfl, rfl, rfl, rfl, rfl, rfl, rfl⟩, hF, hlo, hb⟩

/-- The headers with one written over. -/
def updH (H : Nat → List Int) (n : Nat) (ys : List Int) : Nat → List Int := fun k => if k = n then ys else H k
theorem hds_put {I : Nat → List Int} {G B : Nat} {H : Nat → List Int} (h : Hds I G B H) (hB : 1 < B) (n : Nat) {ys : List Int} (hl : ys.length = 40) (hy : Mk.Num.Byt ys) : Hds (putH I B n ys) G B (updH H n ys) := by
  refine ⟨fun k hk => ?_, fun k hk => ?_, fun k hk => ?_⟩
  · unfold putH updH
    by_cases e : k = n
    · subst e
      rw [if_pos rfl, if_pos rfl]
    · have : k * B + 1 ≠ n * B + 1 := fun h9 => e (Nat.eq_of_mul_eq_mul_right (show 0 < B by omega) (by omega))
      rw [if_neg this, if_neg e]
      exact h.at_ k hk
  · unfold updH
    split
    · exact hl
    · exact h.len k hk
  · unfold updH
    split
    · exact hy
    · exact h.byt k hk
end Go.Proofs.YthdlpeejmmobmaaGreat

namespace Go.Proofs.YthdlpeejmmobmaaGreat
open Go.ChangeShapes Go.WideShapes Go.ChangeAt Go.RowKit Go.Joins
set_option linter.unusedVariables false
set_option maxRecDepth 100000

theorem ownKnob_none : ownKnob Tryz.prog.godebug = none := by kernel_rfl
theorem laid_out : laidOutB Tryz.prog = true := by kernel_rfl
theorem cells23 : Tryz.prog.cellsOf 23 = 3 := by kernel_rfl

theorem open_geom {H : Type} {enc : TypeId × Value → H} {W : World} {base : Nat} {v : Value} {d : DataW H} {p : List MemPlace} (hv : Value.okWide Tryz.prog W .any base 23 v)
    (h : DataW.Trod enc Tryz.prog W 0 (fun _ => true) true 23 v d p) : ∃ G B I, v = Mk.geomV G B I := by
  obtain ⟨c0, c1, c2, y0, y1, y2, m, rfl, rfl, rfl, hy0, hy1, hy2⟩ := open_agg3 Tryz.underlying23 (by kernel_rfl) cells23 hv h
  obtain ⟨a, e0, _, _⟩ := DataW.trod_int Tryz.underlying3 hy0
  obtain ⟨b, e1, _, _⟩ := DataW.trod_int Tryz.underlying3 hy1
  obtain ⟨c, e2, _, _⟩ := DataW.trod_int Tryz.underlying3 hy2
  simp at e0 e1 e2
  subst e0 e1 e2
  exact ⟨a, b, c, rfl⟩

section
variable {H : Type} {enc : TypeId × Value → H} {W : World}

end
end Go.Proofs.YthdlpeejmmobmaaGreat

namespace Go.Proofs.YthdlpeejmmobmaaGreat
open Go.RowKit Go.Maps
open Mk.Al (putY)
set_option linter.unusedVariables false
set_option maxRecDepth 100000

/-- A geometry and a pair. -/
structure R4 (wx : World) (x p v : Nat) (g b i : Nat) (pd px py : Value) : Prop where
  g : wx.heap[x]? = some (Mk.geomO g b i)
  p : wx.heap[p]? = some (.cells #[pd, .pointer (some ⟨v, 0, none⟩), px, py] 33 (0, 0))
theorem R4.lt {wx : World} {x p v g b i : Nat} {pd px py : Value} (h : R4 wx x p v g b i pd px py) : x < wx.heap.size ∧ p < wx.heap.size := ⟨(Array.getElem?_eq_some_iff.1 h.g).1, (Array.getElem?_eq_some_iff.1 h.p).1⟩
theorem R4.keptIf {wx wy : World} {x p v g b i : Nat} {pd px py : Value} (h : R4 wx x p v g b i pd px py) (h1 : wy.heap[x]? = wx.heap[x]?) (h2 : wy.heap[p]? = wx.heap[p]?) : R4 wy x p v g b i pd px py := ⟨h1.trans h.g, h2.trans h.p⟩
theorem R4.kept {wx wy : World} {x p v g b i : Nat} {pd px py : Value} (h : R4 wx x p v g b i pd px py) (hb : Below wx.heap.size wx wy) : R4 wy x p v g b i pd px py := h.keptIf (hb.block _ h.lt.1) (hb.block _ h.lt.2)
theorem R4.cells {wx : World} {x p v g b i : Nat} {pd px py : Value} (h : R4 wx x p v g b i pd px py) : wx.cell? ⟨x, 0, none⟩ = some (.int .i64 (g : Int)) ∧ wx.cell? ⟨x, 1, none⟩ = some (.int .i64 (b : Int)) ∧ wx.cell? ⟨x, 2, none⟩ = some (.int .i64 (i : Int)) ∧ wx.cell? ⟨p, 1, none⟩ = some (.pointer (some ⟨v, 0, none⟩)) := ⟨(g3_of h.g).c0, (g3_of h.g).c1, (g3_of h.g).c2, cell_of_row _ _ 1 _ 33 _ h.p⟩
theorem near_mod (z : Int) {g : Nat} (hg : 0 < g) (h8 : g ≤ 8) : ∃ n : Nat, (IntKind.u64.wrap z).tmod (g : Int) = (n : Int) ∧ n < g ∧ wrap64 (n : Int) = (n : Int) := by
  have h0 : 0 ≤ IntKind.u64.wrap z := by rw [IntKind.wrap_u64]; omega
  have h1 : (IntKind.u64.wrap z).tmod (g : Int) = (IntKind.u64.wrap z) % (g : Int) := Int.tmod_eq_emod_of_nonneg h0
  have h2 := Int.emod_nonneg (IntKind.u64.wrap z) (show (g : Int) ≠ 0 by omega)
  have h3 := Int.emod_lt_of_pos (IntKind.u64.wrap z) (show (0 : Int) < g by omega)
  generalize (IntKind.u64.wrap z) % (g : Int) = x at *
  refine ⟨x.toNat, ?_, ?_, IntWalk.wrap64_in _ ⟨by omega, by omega⟩⟩
  · rw [h1]; omega
  · omega
end Go.Proofs.YthdlpeejmmobmaaGreat

namespace Go.Proofs.YthdlpeejmmobmaaGreat
open Go.RowKit Go.Maps
set_option linter.unusedVariables false

theorem zero4 (w : World) : (zeroValue 4).run Tryz.prog w = .ok (.bool false) w := by kernel_rfl
/-- A bool as a datum. -/
def boolR (v : Value) : Option (DataW Unit × List MemPlace) := match v with | .bool b => some (.lit (.bool b), []) | _ => none
theorem boolR_inv {v : Value} {b : Bool} {ps : List MemPlace} (h : boolR v = some (.lit (.bool b), ps)) : v = .bool b := by
  unfold boolR at h
  split at h
  · simp at h; rw [h.1]
  · cases h
/-- Block mb is a set of n numbers: those of S. -/
def NSet (w : World) (mb n : Nat) (S : Nat → Bool) : Prop :=
  ∃ D, w.ownsMap Tryz.prog 3 boolR mb (size D) D ∧ size D = n ∧ ∀ b, b < 9223372036854775808 → has D (key b) = S b ∧ D.atKey (key b) (.lit (.bool false)) = .lit (.bool (S b))
theorem nset_made (w : World) : NSet (w.alloc (.map #[] 0)) w.heap.size 0 (fun _ => false) :=
  ⟨.map [], w.ownsMap_made _ _ _, rfl, fun b _ => ⟨by simp [has], rfl⟩⟩
theorem NSet.kept {w w' : World} {mb n : Nat} {S : Nat → Bool} (h : NSet w mb n S) (hb : w'.heap[mb]? = w.heap[mb]?) : NSet w' mb n S := by
  obtain ⟨D, ⟨es, c, ho, r⟩, h2⟩ := h
  exact ⟨D, ⟨es, c, hb.trans ho, r⟩, h2⟩
theorem NSet.lt {w : World} {mb n : Nat} {S : Nat → Bool} (h : NSet w mb n S) : mb < w.heap.size := by
  obtain ⟨D, ho, _⟩ := h
  exact ho.lt
theorem NSet.look {w : World} {mb n : Nat} {S : Nat → Bool} (h : NSet w mb n S) (b : Nat) (hb : b < 9223372036854775808) :
    (Instr.lookup 48 (.map (some mb)) (.int .i64 (b : Int)) false).run Tryz.prog w = .ok (.bool (S b)) w := by
  obtain ⟨D, ho, _, hat⟩ := h
  obtain ⟨u, ps, hr, hv⟩ := ho.lookup keyed3 Tryz.underlying48 (zero4 w) (zd := .lit (.bool false)) (zp := []) rfl (key_of hb)
  rw [(hat b hb).2] at hv
  rw [hr, boolR_inv hv]
theorem NSet.len {w : World} {mb n : Nat} {S : Nat → Bool} (h : NSet w mb n S) (ty : TypeId) : (Builtin.len_ #[48] ty #[.map (some mb)]).run Tryz.prog w = .ok (.int .i64 (n : Int)) w := by
  obtain ⟨D, ho, hs, _⟩ := h
  rw [ho.len Tryz.underlying48 ty, hs]
theorem NSet.add {w : World} {mb n : Nat} {S : Nat → Bool} (h : NSet w mb n S) (hn : n < 100000) (b : Nat) (hb : b < 9223372036854775808) :
    ∃ w', (Instr.mapUpdate 48 (.map (some mb)) (.int .i64 (b : Int)) (.bool true)).run Tryz.prog w = .ok () w' ∧ NSet w' mb (if S b then n else n + 1) (upd S b true) ∧ w.grownBy w' (some mb) := by
  obtain ⟨D, ho, hs, hat⟩ := h
  obtain ⟨w', hr, ho', hg⟩ := ho.update keyed3 Tryz.underlying48 (show size D < maxLen by unfold maxLen; omega) (val := .bool true) (key_of hb) (d := .lit (.bool true)) (ps := []) rfl
  refine ⟨w', hr, ⟨_, tight ho', ?_, ?_⟩, hg⟩
  · rw [size_put (ho.tidy keyed3), hs, (hat b hb).1]
  · intro y hy
    unfold upd
    by_cases e : y = b
    · subst e
      rw [if_pos rfl, has_put_same ho.isMap (key_is y), atKey_put_same ho.isMap (key_is y)]
      exact ⟨rfl, rfl⟩
    · rw [if_neg e, has_put_other (fun h => e (key_inj h)), atKey_put_other (fun h => e (key_inj h))]
      exact hat y hy
theorem wpList_add_nset (w : World) {ops : Array Oper} {rest : List Oper} {o : Oper} {a : Act} {Q : Exit → Act → World → Prop}
    (hg : o.guard = none) (m x v : Operand) (hop : o.op = Op.mapUpdate 48 m x v) {mb n : Nat} {S : Nat → Bool} (h : NSet w mb n S) (hn : n < 100000) (b : Nat) (hb : b < 9223372036854775808)
    (hm : a.eval m = .map (some mb)) (hx : a.eval x = .int .i64 (b : Int)) (hv : a.eval v = .bool true)
    (hK : ∀ w', NSet w' mb (if S b then n else n + 1) (upd S b true) → w.grownBy w' (some mb) → wpList Tryz.prog ops Q rest (a.put o.dst undef) w') :
    wpList Tryz.prog ops Q (o :: rest) a w := by
  refine wpList_plain hg fun K' hK' => ?_
  obtain ⟨w', hrun, r1, r2⟩ := h.add hn b hb
  unfold Oper.wp
  simp [execOp, hop, hm, hx, hv, hrun, Result.andThen]
  exact hK' _ _ (hK w' r1 r2)
end Go.Proofs.YthdlpeejmmobmaaGreat

namespace Go.Proofs.YthdlpeejmmobmaaGreat
open Go.RowKit Go.Maps
open Mk.Al (putY rowOf fN eN lo zc)
set_option maxRecDepth 100000
set_option linter.unusedVariables false

/-- How many of k bits from f on are not set. -/
def zn (p : Nat → Bool) (f : Nat) : Nat → Nat
  | 0 => 0
  | k + 1 => zn p f k + if p (f + k) then 0 else 1
theorem zn_le (p : Nat → Bool) (f : Nat) : ∀ k, zn p f k ≤ k
  | 0 => Nat.le_refl _
  | k + 1 => by
    have := zn_le p f k
    simp only [zn]
    split <;> omega
theorem zc_zn (xs : List Int) (f : Nat) : ∀ k, zc xs f (f + k) = (zn (Mk.Bit.on xs) f k : Int)
  | 0 => by simp [zc, zn]
  | k + 1 => by
    have ih := zc_zn xs f k
    unfold zc at ih ⊢
    have hc : Mk.Bit.count xs (f + (k + 1)) = Mk.Bit.count xs (f + k) + (if Mk.Bit.on xs (f + k) then 1 else 0) := rfl
    have hz : zn (Mk.Bit.on xs) f (k + 1) = zn (Mk.Bit.on xs) f k + (if Mk.Bit.on xs (f + k) then 0 else 1) := rfl
    rw [hc, hz]
    cases Mk.Bit.on xs (f + k) <;> simp <;> omega
theorem zn_congr {p q : Nat → Bool} {f : Nat} : ∀ {k}, (∀ j, f ≤ j → j < f + k → p j = q j) → zn p f k = zn q f k
  | 0, _ => rfl
  | k + 1, h => by
    simp only [zn]
    rw [zn_congr (k := k) (fun j h1 h2 => h j h1 (by omega)), h (f + k) (by omega) (by omega)]
theorem zn_turn {p q : Nat → Bool} {f i : Nat} (hi : p i = false) (hq : q i = true) (ho : ∀ j, j ≠ i → q j = p j) : ∀ {k}, f ≤ i → i < f + k → zn q f k + 1 = zn p f k
  | 0, h1, h2 => by omega
  | k + 1, h1, h2 => by
    simp only [zn]
    by_cases e : i = f + k
    · rw [← e, hi, hq, zn_congr (p := q) (q := p) (fun j h3 h4 => ho j (by omega))]
      simp
    · rw [ho (f + k) (fun h => e h.symm), ← zn_turn hi hq ho (k := k) h1 (by omega)]
      omega
theorem zn_lo (xs : List Int) (f k : Nat) : zn (Mk.Bit.on xs) f k = 0 ↔ lo xs f k = none := by
  constructor
  · induction k with
    | zero => intro _; rfl
    | succ k ih =>
      intro h
      simp only [zn] at h
      simp only [lo]
      rw [ih (by omega)]
      cases ho : Mk.Bit.on xs (f + k) with
      | true => rfl
      | false => rw [ho] at h; simp at h
  · intro h
    have ha := Mk.Al.lo_none xs f k h
    have := zn_congr (p := Mk.Bit.on xs) (q := fun _ => true) (f := f) (k := k) ha
    rw [this]
    clear this ha h
    induction k with
    | zero => rfl
    | succ k ih => simp only [zn, ih]; rfl
/-- How many bits of group n may be given. -/
def fre (H : Nat → List Int) (r : Bool) (B Q n : Nat) : Nat := zn (Mk.Bit.on (rowOf r (H n))) (fN r Q n) (eN r B Q - fN r Q n)
theorem fre_zc {G B Q n : Nat} (hm : Mk.Gm.May (G : Int) B Q) (H : Nat → List Int) (r : Bool) : zc (rowOf r (H n)) (fN r Q n) (eN r B Q) = (fre H r B Q n : Int) := by
  have := (Mk.Al.fe_lt hm r n).1
  unfold fre
  rw [← zc_zn]
  congr 1
  omega
theorem fre_frs {H : Nat → List Int} {r : Bool} {B Q n : Nat} : fre H r B Q n = 0 ↔ frs H r B Q n = none := zn_lo _ _ _
/-- How many bits of the first k groups may be given. -/
def tot (H : Nat → List Int) (r : Bool) (B Q : Nat) : Nat → Nat
  | 0 => 0
  | k + 1 => tot H r B Q k + fre H r B Q k
theorem tot_zero {H : Nat → List Int} {r : Bool} {B Q : Nat} : ∀ {k}, tot H r B Q k = 0 ↔ ∀ n, n < k → frs H r B Q n = none
  | 0 => ⟨fun _ n hn => absurd hn (by omega), fun _ => rfl⟩
  | k + 1 => by
    simp only [tot]
    constructor
    · intro h n hn
      by_cases e : n = k
      · subst e; exact fre_frs.1 (by omega)
      · exact tot_zero.1 (show tot H r B Q k = 0 by omega) n (by omega)
    · intro h
      have h1 := tot_zero.2 (fun n hn => h n (by omega) : ∀ n, n < k → frs H r B Q n = none)
      have h2 := fre_frs.2 (h k (by omega))
      omega
theorem tot_le {H : Nat → List Int} {r : Bool} {B Q : Nat} (hB : eN r B Q ≤ 256) : ∀ {k}, tot H r B Q k ≤ 256 * k
  | 0 => Nat.le_refl _
  | k + 1 => by
    have h1 := tot_le (H := H) (r := r) (B := B) (Q := Q) hB (k := k)
    have h2 := zn_le (Mk.Bit.on (rowOf r (H k))) (fN r Q k) (eN r B Q - fN r Q k)
    simp only [tot]
    unfold fre
    omega
theorem fre_congr {H J : Nat → List Int} {r : Bool} {B Q n : Nat} (h : rowOf r (J n) = rowOf r (H n)) : fre J r B Q n = fre H r B Q n := by unfold fre; rw [h]
theorem tot_congr {H J : Nat → List Int} {r : Bool} {B Q : Nat} : ∀ {k}, (∀ n, n < k → rowOf r (J n) = rowOf r (H n)) → tot J r B Q k = tot H r B Q k
  | 0, _ => rfl
  | k + 1, h => by
    simp only [tot]
    rw [tot_congr (k := k) (fun n hn => h n (by omega)), fre_congr (h k (by omega))]
theorem tot_upd {H J : Nat → List Int} {r : Bool} {B Q n : Nat} (ho : ∀ k, k ≠ n → rowOf r (J k) = rowOf r (H k)) : ∀ {k}, n < k → tot J r B Q k + fre H r B Q n = tot H r B Q k + fre J r B Q n
  | 0, h => by omega
  | k + 1, h => by
    simp only [tot]
    by_cases e : n = k
    · subst e
      rw [tot_congr (k := n) (fun m hm => ho m (by omega))]
      omega
    · have := tot_upd (B := B) (Q := Q) ho (k := k) (by omega)
      rw [fre_congr (ho k (fun h => e h.symm))]
      omega
/-- A bit given: of its own row there is one less to give. -/
theorem tot_give {G B Q n i : Nat} {H : Nat → List Int} (hm : Mk.Gm.May (G : Int) B Q) (hl : (H n).length = 40) (hy : Mk.Num.Byt (H n)) (r : Bool) (hn : n < G) (h : frs H r B Q n = some i) :
    tot (updH H n (putY r (H n) i true)) r B Q G + 1 = tot H r B Q G := by
  obtain ⟨h1, h2, h3⟩ := frs_some hm h
  have hfe := Mk.Al.fe_lt hm r n
  have hi : i / 8 < (rowOf r (H n)).length := by rw [Mk.Al.row_len r hl]; omega
  have hr : rowOf r (updH H n (putY r (H n) i true) n) = Mk.Bit.put (rowOf r (H n)) i true := by
    unfold updH; rw [if_pos rfl]; exact Mk.Al.row_put r hl i true
  have hby := Mk.Al.row_byt r hy
  have e1 : fre (updH H n (putY r (H n) i true)) r B Q n + 1 = fre H r B Q n := by
    unfold fre
    rw [hr]
    exact zn_turn h3 (Mk.Bit.put_on hby hi true) (fun j hj => Mk.Bit.put_other hby hi true hj) h1 (by omega)
  have e2 := tot_upd (H := H) (J := updH H n (putY r (H n) i true)) (r := r) (B := B) (Q := Q) (n := n) (fun k hk => by unfold updH; rw [if_neg hk]) hn
  omega
end Go.Proofs.YthdlpeejmmobmaaGreat

namespace Go.Proofs.YthdlpeejmmobmaaGreat
open Go.RowKit Go.Maps
set_option maxRecDepth 100000
set_option linter.unusedVariables false

theorem heap_setCells (b : Nat) : ∀ (vs : List Value) (o : Nat) (w : World), (w.setCells b o vs).heap.size = w.heap.size ∧ (w.setCells b o vs).os = w.os ∧ (w.setCells b o vs).tape = w.tape ∧ (w.setCells b o vs).output = w.output ∧ ∀ k, k ≠ b → (w.setCells b o vs).heap[k]? = w.heap[k]?
  | [], o, w => ⟨rfl, rfl, rfl, rfl, fun _ _ => rfl⟩
  | v :: r, o, w => by
    obtain ⟨h1, h2, h3, h4, h5⟩ := heap_setCells b r (o + 1) (w.setCell ⟨b, o, none⟩ v)
    refine ⟨h1.trans (by simp [World.setCell]), h2.trans rfl, h3.trans rfl, h4.trans rfl, fun k hk => (h5 k hk).trans ?_⟩
    simp only [World.setCell, Array.getElem?_modify]
    rw [if_neg (fun e => hk e.symm)]
theorem below_setCells {B : Nat} {a w : World} (h : Below B a w) (b : Nat) (hb : B ≤ b) (o : Nat) (vs : List Value) : Below B a (w.setCells b o vs) := by
  obtain ⟨h1, h2, h3, h4, h5⟩ := heap_setCells b vs o w
  exact ⟨h2.trans h.os, h3.trans h.tape, h4.trans h.output, by rw [h1]; exact h.size, fun k hk => (h5 k (by omega)).trans (h.block k hk)⟩
/-- Headers in a row: the first k of G that there is room for. -/
structure Hrow (w : World) (b G k : Nat) (H : Nat → List Int) : Prop where
  there : w.there b 0 (41 * G)
  row : ∀ n, n < k → w.rangeAt b (n * 41) (Mk.groupA n (H n)).toList
theorem Hrow.keep {w w' : World} {b G k : Nat} {H : Nat → List Int} (h : Hrow w b G k H) (hb : w'.heap[b]? = w.heap[b]?) : Hrow w' b G k H :=
  ⟨fun j hj => by have := h.there j hj; simp only [World.cell?, World.frozen?, hb] at this ⊢; exact this, fun n hn j v hv => by have := h.row n hn j v hv; simp only [World.cell?, hb] at this ⊢; exact this⟩
theorem Hrow.put {w : World} {b G k : Nat} {H : Nat → List Int} (h : Hrow w b G k H) (hk : k < G) (hl : ∀ n, n ≤ k → (H n).length = 40) : Hrow (w.setCells b (k * 41) (Mk.groupA k (H k)).toList) b G (k + 1) H := by
  have hs : ∀ n, n ≤ k → (Mk.groupA n (H n)).toList.length = 41 := fun n hn => by rw [Array.length_toList]; exact Mk.groupA_size _ _ (hl n hn)
  refine ⟨World.there_setCells h.there _ _ _, fun n hn => ?_⟩
  by_cases e : n = k
  · subst e
    exact World.rangeAt_setCells_same _ _ _ _ (fun j hj => by
      have := hs n (Nat.le_refl _)
      have h2 := h.there (n * 41 + j) (by omega)
      rw [Nat.zero_add] at h2
      exact h2)
  · exact World.rangeAt_setCells_apart (h.row n (by omega)) _ _ _ (.inr (.inl (by rw [hs n (by omega)]; omega)))
theorem Hrow.at_ {w : World} {b G k : Nat} {H : Nat → List Int} (h : Hrow w b G k H) (hk : k < G) : w.there b (k * 41) 41 := fun j hj => by
  have h2 := h.there (k * 41 + j) (by omega)
  rw [Nat.zero_add] at h2
  exact h2
theorem hrow_new {w : World} {b G : Nat} {Z : Array Value} (h : w.heap[b]? = some (.cells Z 64 (0, 0))) (hz : Z.size = 41 * G) (H : Nat → List Int) : Hrow w b G 0 H :=
  ⟨fun j hj => by
    have hj' : j < Z.size := by omega
    simp [World.cell?, World.frozen?, h, Array.getElem?_eq_getElem hj'], fun n hn => absurd hn (by omega)⟩
theorem info64 : (Tryz.prog.info? 64).map (fun i => (i.zero, i.size, i.bytes)) = some (some (Mk.groupV 0 (Mk.zers 40)), 41, 48) := by kernel_rfl
theorem made_hdrs {G : Nat} (hG : G ≤ 8) : ∃ Z, Z.size = 41 * G ∧ ∀ w : World, (Instr.makeSlice 131 (.int .i64 (G : Int)) (.int .i64 (G : Int))).run Tryz.prog w = .ok (.slice (some ⟨w.heap.size, 0, none⟩) G G) (w.alloc (.cells Z 64)) := by
  obtain ⟨i0, hi, hz0, hz1, hz2⟩ := Mk.info_partsS info64
  refine ⟨madeCells (Mk.groupV 0 (Mk.zers 40)).cells (G * i0.size), by rw [size_madeCells, hz1]; omega, fun w => ?_⟩
  have h := run_make (P := Tryz.prog) w 131 64 i0 _ Tryz.underlying131 hi hz0 .i64 .i64 (G : Int) (G : Int) (by omega) (by omega) (by rw [hz2]; omega) (by omega)
  simpa using h
end Go.Proofs.YthdlpeejmmobmaaGreat
