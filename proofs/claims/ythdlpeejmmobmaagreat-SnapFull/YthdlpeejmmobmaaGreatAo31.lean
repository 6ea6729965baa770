/- F2 F4 A12 AO CR -/
import Derived.Test.YthdlpeejmmobmaaGreatAo30
import Derived.Test.YthdlpeejmmobmaaGreatAo26
import Derived.Maps.AppendAt
import Derived.Test.YthdlpeejmmobmaaGreatRows
import Derived.Test.YthdlpeejmmobmaaGreatAo03
import Derived.Deep.Slices
import Derived.Deep.Grids
import Derived.ProofKit
import Derived.OpenShut
import Derived.ShutString
import Derived.ChangeOld
import Derived.SizedLaws
import Derived.Lib.SmallJoins

namespace Go.Proofs.YthdlpeejmmobmaaGreat
open Go.RowKit Go.Maps Go.MuLone
set_option linter.unusedVariables false
set_option maxRecDepth 100000

section
variable {w : World}
set_option maxHeartbeats 400000 in
theorem rcnew_ok (d : Nat) (w : World) : Calls Tryz.prog 194 #[.pointer (some ⟨d, 0, none⟩), .int .i64 64] w fun e w' => ∃ c, e = .returned (.tuple #[.pointer (some ⟨c, 0, none⟩), .int .i64 0]) ∧ Below w.heap.size w w' := by
  go_enter Tryz.func194, Tryz.ntmps194
  go_wp2
  go_ret2
  exact ⟨_, rfl, (Below.refl _ w).alloc (Nat.le_refl _) _⟩
set_option maxHeartbeats 400000 in
theorem rvopen_ok (d : Nat) (w : World) : Calls Tryz.prog 111 #[.pointer (some ⟨d, 0, none⟩), .int .i64 64] w fun e w' => ∃ y, e = .returned (.tuple #[.pointer (some ⟨y, 0, none⟩), .int .i64 0]) ∧ Below w.heap.size w w' := by
  go_enter Tryz.func111, Tryz.ntmps111
  go_wp2_with (first | (go_at_call 194; refine Calls.mono (rcnew_ok d _) ?_; rintro e w1 ⟨c, rfl, hb1⟩))
  go_ret2
  exact ⟨_, rfl, (hb1.alloc hb1.size _).alloc (by simp; have := hb1.size; omega) _⟩
theorem sect_part {L : List (List Int)} (h : ∀ xs ∈ L, Sect xs) (j b : Nat) : Sect (part L j b) := by
  unfold part
  split
  · rw [List.getD_eq_getElem?_getD]
    cases e : L[b]? with
    | none => exact sect_zer
    | some xs => exact h xs (List.mem_of_getElem? e)
  · exact sect_zer
end

/-- What bollardplain.Of leaves of an image of blocks: a pair, with a new volume of the program's over a disk that has the image. -/
def OfP (w : World) (n : Nat) (L : List (List Int)) (e : Ending) (w' : World) : Prop :=
  ∃ p xd y A B, e = .returned (.tuple #[.pointer (some ⟨p, 0, none⟩), .bool true]) ∧ w'.heap[p]? = some (.cells #[.pointer (some ⟨At.d A, 0, none⟩), .pointer (some ⟨At.v A, 0, none⟩), .pointer (some ⟨xd, 0, none⟩), .pointer (some ⟨y, 0, none⟩)] 33 (0, 0)) ∧ VI 0 B w' A (new0 ⟨n, part L n, [], 0, fun _ => 0⟩ (.slice none 0 0) 64) ∧ (∀ k, fp A (new0 ⟨n, part L n, [], 0, fun _ => 0⟩ (.slice none 0 0) 64) k → p < k) ∧ w.heap.size ≤ p ∧ Below w.heap.size w w'

set_option maxRecDepth 10000 in
set_option maxHeartbeats 2000000 in
theorem of64_ok (p : Option Addr) (n c : Nat) (L : List (List Int)) (w : World) (h : IB w p n L) (h1 : 1 ≤ n) (h2 : n ≤ 2048) (hL : ∀ xs ∈ L, xs.length = 128) (hS : ∀ xs ∈ L, Sect xs) :
    Calls Tryz.prog 45 #[.slice p n c, .int .i64 64] w fun e w' => OfP w n L e w' := by
  obtain ⟨W1, hW1⟩ : ∃ W1, w.alloc (.cells #[.pointer none, .pointer none, .pointer none, .pointer none] 33) = W1 := ⟨_, rfl⟩
  have hb1 : Below w.heap.size w W1 := by rw [← hW1]; exact (Below.refl _ w).alloc (Nat.le_refl _) _
  have hp1 : W1.heap[w.heap.size]? = some (.cells #[.pointer none, .pointer none, .pointer none, .pointer none] 33 (0, 0)) := by rw [← hW1]; exact at_new rfl
  have hib1 : IB W1 p n L := by
    refine ⟨h.len, h.big, fun h0 => ?_⟩
    obtain ⟨b, o, e, hc⟩ := h.cells h0
    refine ⟨b, o, e, fun i x hx => ?_⟩
    obtain ⟨q, m, cc, e1, e2⟩ := hc i x hx
    exact ⟨q, m, cc, (hb1.cell (p := ⟨b, o + i, none⟩) (lt_of_cell e1)).trans e1, e2.kept hb1⟩
  have c1 := pimage_ok p n c L W1 hib1 (by omega)
  have HB1 : Hid (Below w.heap.size w W1) := hb1
  have HP1 : Hid (W1.heap[w.heap.size]? = some (.cells #[.pointer none, .pointer none, .pointer none, .pointer none] 33 (0, 0))) := hp1
  have HI : Hid (IB W1 p n L) := hib1
  clear hb1 hp1 hib1
  go_enter Tryz.func45, Tryz.ntmps45
  go_wp2_with fail
  refine Calls.mono c1 ?_
  rintro e w2 ⟨v2, vs2, rfl, hPI, hb2⟩
  obtain ⟨p2, k2, rfl, hib2⟩ := hPI.ib (by omega)
  clear c1
  dsimp only
  go_wp2_with fail
  refine Calls.mono (of_ok p2 n k2 L w2 hib2 h1 h2) ?_
  rintro e w3 ⟨hb3, hx⟩
  rcases hx with ⟨_, d, dm, df, rfl, hD⟩ | ⟨⟨xs, hm, hne⟩, _⟩
  case inr => exact absurd (hL xs hm) hne
  have hb13 : Below W1.heap.size W1 w3 := hb2.trans (hb3.mono hb2.size)
  have hib3 : IB w3 p n L := by
    have h := HI.out
    refine ⟨h.len, h.big, fun h0 => ?_⟩
    obtain ⟨b, o, e, hc⟩ := h.cells h0
    refine ⟨b, o, e, fun i x hx => ?_⟩
    obtain ⟨q, m, cc, e1, e2⟩ := hc i x hx
    exact ⟨q, m, cc, (hb13.cell (p := ⟨b, o + i, none⟩) (lt_of_cell e1)).trans e1, e2.kept hb13⟩
  dsimp only
  go_wp2_with fail
  refine Calls.mono (rof_ok p n c L w3 hib3 h1 h2) ?_
  rintro e w4 ⟨hb4, hx⟩
  rcases hx with ⟨_, xd, rfl⟩ | ⟨⟨xs, hm, hne⟩, _⟩
  case inr => exact absurd (hL xs hm) hne
  have hD4 := hD.later hb4
  have HD4 : Hid (DI w2.heap.size w4 d dm df (.slice none 0 0) ⟨n, part L n, [], 0, fun _ => 0⟩) := hD4
  have c5 := vOpen_ok (bd := 64) hD4 (Nat.le_trans hb3.size hb4.size) (by show n ≤ 2048; omega) (fun _ => rfl) (fun b => sect_part hS n b) (by omega)
  clear hD hD4 hib3
  dsimp only
  go_wp2_with fail
  refine Calls.mono c5 ?_
  rintro e w5 ⟨A, rfl, eA1, eA2, eA3, hv5, hb5, hfp⟩
  clear c5
  dsimp only
  go_wp2_with fail
  refine Calls.mono (rvopen_ok xd w5) ?_
  rintro e w6 ⟨y, rfl, hb6⟩
  have hb46 : Below w4.heap.size w4 w6 := hb5.trans (hb6.mono hb5.size)
  have hb14 : Below W1.heap.size W1 w4 := hb13.trans (hb4.mono hb13.size)
  have hb16 : Below W1.heap.size W1 w6 := hb14.trans (hb46.mono hb14.size)
  have hv6 := hv5.later hb6
  have hp6 := (hb16.block _ (Array.getElem?_eq_some_iff.1 HP1.out).1).trans HP1.out
  have hB := HB1.out.trans (hb16.mono HB1.out.size)
  have f0 : w6.frozen? ⟨w.heap.size, 0, none⟩ = false := by simp [World.frozen?, hp6]
  have f1 : w6.frozen? ⟨w.heap.size, 1, none⟩ = false := by simp [World.frozen?, hp6]
  have f2 : w6.frozen? ⟨w.heap.size, 2, none⟩ = false := by simp [World.frozen?, hp6]
  have f3 : w6.frozen? ⟨w.heap.size, 3, none⟩ = false := by simp [World.frozen?, hp6]
  have k0 : w6.cell? ⟨w.heap.size, 0, none⟩ = some (.pointer none) := cell_of_row _ _ 0 _ _ _ hp6
  have k1 : w6.cell? ⟨w.heap.size, 1, none⟩ = some (.pointer none) := cell_of_row _ _ 1 _ _ _ hp6
  have k2 : w6.cell? ⟨w.heap.size, 2, none⟩ = some (.pointer none) := cell_of_row _ _ 2 _ _ _ hp6
  have k3 : w6.cell? ⟨w.heap.size, 3, none⟩ = some (.pointer none) := cell_of_row _ _ 3 _ _ _ hp6
  have hplt := (Array.getElem?_eq_some_iff.1 HP1.out).1
  have HF : Hid (VI 0 w2.heap.size w6 A (new0 ⟨n, part L n, [], 0, fun _ => 0⟩ (.slice none 0 0) 64) ∧ w6.heap[w.heap.size]? = some (.cells #[.pointer none, .pointer none, .pointer none, .pointer none] 33 (0, 0)) ∧ Below w.heap.size w w6 ∧ (∀ k, fp A (new0 ⟨n, part L n, [], 0, fun _ => 0⟩ (.slice none 0 0) 64) k → w.heap.size < k) ∧ A.d = d) := ⟨hv6, hp6, hB, fun k hk => by
    rcases hfp k hk with h1 | h1
    · have := (HD4.out.in k h1).1
      have := hb2.size
      omega
    · have := hb14.size
      omega, eA1⟩
  clear hv6 hv5 hfp hplt hp6 hB hb16 hb14 hb46 hb5 hb6 hb4 hb3 hb2 hb13 HB1 HP1 HI HD4 hPI hib2 hL hS h eA2 eA3
  subst eA1
  dsimp only
  go_wp2
  go_ret2
  obtain ⟨hv6, hp6, hB, hlo, _⟩ := HF.out
  obtain ⟨W7, hW7⟩ : ∃ W7, (((w6.setCell ⟨w.heap.size, 0, none⟩ (.pointer (some ⟨A.d, 0, none⟩))).setCell ⟨w.heap.size, 1, none⟩ (.pointer (some ⟨A.v, 0, none⟩))).setCell ⟨w.heap.size, 2, none⟩ (.pointer (some ⟨xd, 0, none⟩))).setCell ⟨w.heap.size, 3, none⟩ (.pointer (some ⟨y, 0, none⟩)) = W7 := ⟨_, rfl⟩
  rw [hW7]
  have so : ∀ b, b ≠ w.heap.size → W7.heap[b]? = w6.heap[b]? := fun b hb => by
    rw [← hW7]
    rw [Below.heap_setCell _ _ _ _ hb, Below.heap_setCell _ _ _ _ hb, Below.heap_setCell _ _ _ _ hb, Below.heap_setCell _ _ _ _ hb]
  have g1 := row_set hp6 0 (.pointer (some ⟨A.d, 0, none⟩))
  have g2 := row_set g1 1 (.pointer (some ⟨A.v, 0, none⟩))
  have g3 := row_set g2 2 (.pointer (some ⟨xd, 0, none⟩))
  have g4 := row_set g3 3 (.pointer (some ⟨y, 0, none⟩))
  rw [hW7] at g4
  have hs7 : W7.heap.size = w6.heap.size := by rw [← hW7]; simp
  have hb7 : Below w.heap.size w W7 := by
    rw [← hW7]
    exact (((hB.setCell (Nat.le_refl _) _).setCell (Nat.le_refl _) _).setCell (Nat.le_refl _) _).setCell (Nat.le_refl _) _
  exact ⟨w.heap.size, xd, y, A, w2.heap.size, rfl, g4, hv6.else (by omega) (fun k hk => so k (by have := hlo k hk; omega)), hlo, Nat.le_refl _, hb7⟩
end Go.Proofs.YthdlpeejmmobmaaGreat

namespace Go.Proofs.YthdlpeejmmobmaaGreat
open Go.RowKit Go.Maps Go.MuLone
set_option linter.unusedVariables false
set_option maxRecDepth 100000

theorem rd_ib {w : World} {A n : Nat} {L : Nat → List Int} (h : Mk.Rd w A n L) (hn : n ≤ 2048) : IB w (some ⟨A, 0, none⟩) n (imgL L n) := by
  refine ⟨by simp [imgL], by omega, fun _ => ⟨A, 0, rfl, fun i x hx => ?_⟩⟩
  have hi : i < n := by have := (List.getElem?_eq_some_iff.1 hx).1; simpa [imgL] using this
  have ex : x = L i := by simpa [imgL, hi] using hx.symm
  subst ex
  obtain ⟨q, m, c, h1, h2⟩ := h i hi
  exact ⟨q, m, c, by rw [Nat.zero_add]; exact h1, mk_bi h2⟩

theorem img_len (g b i k : Nat) : (Mk.img g b i k).length = 128 := by
  unfold Mk.img Mk.rtL
  by_cases h1 : k = 2
  · rw [if_pos h1, Mk.rtB_len]
  rw [if_neg h1]
  by_cases h2 : k = 2 + i / 4
  · rw [if_pos h2, Mk.dd_len]
  rw [if_neg h2]
  unfold Mk.blF
  split
  · exact Mk.groupL_len _ _ (Mk.hdY_len _ _)
  · split
    · exact Mk.superS_len _ _ _ _
    · exact Mk.zers_len 128

theorem ib_sect {w : World} {p : Option Addr} {n : Nat} {L : List (List Int)} (h : IB w p n L) (hl : ∀ xs ∈ L, xs.length = 128) : ∀ xs ∈ L, Sect xs := by
  intro xs hx
  obtain ⟨i, hi⟩ := List.getElem?_of_mem hx
  have h0 : 0 < n := by have := (List.getElem?_eq_some_iff.1 hi).1; have := h.len; omega
  obtain ⟨b, o, _, hc⟩ := h.cells h0
  obtain ⟨q, m, c, _, hb⟩ := hc i xs hi
  exact ⟨hl xs hx, hb.byt⟩
set_option maxHeartbeats 1000000 in
theorem rmake_no (G B I : Int) (hmay : ¬ Mk.Gm.May G B I) (w : World) : Calls Tryz.prog 44 #[Mk.geomV G B I] w fun e w' => e = .returned (.tuple #[.slice none 0 0, .int .i64 170]) ∧ Below w.heap.size w w' := by
  obtain ⟨W1, hW1⟩ : ∃ W1, w.alloc (Mk.geomO G B I) = W1 := ⟨_, rfl⟩
  have hb1 : Below w.heap.size w W1 := by rw [← hW1]; exact Mk.grew_alloc _ _
  have hg1 : W1.heap[w.heap.size]? = some (Mk.geomO G B I) := by rw [← hW1]; exact at_new rfl
  have hca := Mk.rcan_not hmay W1
  go_enter Tryz.func44, Tryz.ntmps44
  go_wp2_with (first
    | (refine wpList_load_row rfl 23 (.tmp 1) rfl w.heap.size rfl 23 _ (0, 0) _ hg1 Tryz.underlying23 rfl Mk.info23 ?_))
  refine Mk.grew_at hca ?_
  intro w2 hb2
  have HB : Hid (Below w.heap.size w w2) := Mk.grew_trans hb1 hb2
  clear hca hg1 hb1 hb2
  dsimp only
  go_wp2_with fail
  go_ret2
  exact ⟨rfl, HB.out⟩

theorem belowRow {n : Nat} {w w' : World} (h : Below n w w') {b : Nat} (hb : n ≤ b) (cs : Array Value) : Below n w (w'.setRow b cs) := by
  refine ⟨h.os, h.tape, h.output, Nat.le_trans h.size (by simp), fun k hk => ?_⟩
  rw [setRow_other _ _ _ _ (by omega)]
  exact h.block k hk

theorem geom_one : (#[.int .i64 1, .int .i64 8, .int .i64 4] : Array Value).all (·.oneCell') = true := by simp [Value.oneCell']

theorem results_tct {P : Program} {fn : Func} {a p u : Tmp} {ty : TypeId} (h : fn.results = #[.tmp a, .cell p ty, .tmp u]) (tmps : Array Value) (w : World) (g : Nat) (t : TypeId) (cs : Array Value) (fr : Nat × Nat) (d : TypeDesc)
    (hp : tmps.getD p undef = .pointer (some ⟨g, 0, none⟩)) (hg : w.heap[g]? = some (.cells cs t fr))
    (hu : P.underlying ty = some d) (hd : (match d with | .struct _ | .array _ _ => true | _ => false) = true) (hi : (P.info? ty).map (·.size) = some cs.size) :
    (results fn tmps).run P w = .ok (.tuple #[tmps.getD a undef, .agg cs, tmps.getD u undef]) w := by
  have e : (results fn tmps).run P w = ((asAddr (tmps.getD p undef)).run P w).andThen fun x w₁ => ((loadVar ty x).run P w₁).andThen fun v w₂ => .ok (.tuple #[tmps.getD a undef, v, tmps.getD u undef]) w₂ := by
    simp only [results, h]
    simp [Sem.run_bind, Result.andThen]
  rw [e, hp]
  simp [asAddr, run_loadVar_row w g t ty cs fr d hg hu hd hi]

/-- A new volume's disk. -/
def S0 (g b i : Nat) : St := ⟨g * b, part (imgL (Mk.img g b i) (g * b)) (g * b), [], 0, fun _ => 0⟩
/-- A new volume. -/
def T0 (g b i : Nat) : Vs := new0 (S0 g b i) (.slice none 0 0) 64
/-- What Fresh leaves: a pair over a new volume of a geometry, and that. -/
def FrP (w : World) (g b i : Nat) (e : Ending) (w' : World) : Prop :=
  ∃ p xd y A B, e = .returned (.tuple #[.pointer (some ⟨p, 0, none⟩), Mk.geomV g b i, .bool true]) ∧ w'.heap[p]? = some (.cells #[.pointer (some ⟨At.d A, 0, none⟩), .pointer (some ⟨At.v A, 0, none⟩), .pointer (some ⟨xd, 0, none⟩), .pointer (some ⟨y, 0, none⟩)] 33 (0, 0)) ∧ VI 0 B w' A (T0 g b i) ∧ (∀ k, fp A (T0 g b i) k → w.heap.size ≤ k ∧ k ≠ p) ∧ w.heap.size ≤ p ∧ Below w.heap.size w w'

theorem fresh_end {w w4 w5 : World} {p xd y g b i B' : Nat} {A : At} {a : Act}
    (hp : w5.heap[p]? = some (.cells #[.pointer (some ⟨A.d, 0, none⟩), .pointer (some ⟨A.v, 0, none⟩), .pointer (some ⟨xd, 0, none⟩), .pointer (some ⟨y, 0, none⟩)] 33 (0, 0)))
    (hV : VI 0 B' w5 A (T0 g b i)) (hlo : ∀ k, fp A (T0 g b i) k → p < k) (hp4 : w4.heap.size ≤ p) (hbw : Below w.heap.size w w5) (hlt : w.heap.size + 1 < w4.heap.size)
    (hr : w5.heap[w.heap.size + 1]? = some (Mk.geomO 0 0 0))
    (e2 : a.tmps.getD 2 undef = .pointer (some ⟨p, 0, none⟩)) (e3 : a.tmps.getD 3 undef = .pointer (some ⟨w.heap.size + 1, 0, none⟩)) (e4 : a.tmps.getD 4 undef = .bool true) (ed : a.defers = []) :
    bodyPost Tryz.prog Tryz.f12 (fun e w' => FrP w g b i e w') Exit.ret a ((((w5.setCell ⟨w.heap.size + 1, 0, none⟩ (.int .i64 (g : Int))).setCell ⟨w.heap.size + 1, 1, none⟩ (.int .i64 (b : Int))).setCell ⟨w.heap.size + 1, 2, none⟩ (.int .i64 (i : Int))).drew) := by
  have g1 := row_set hr 0 (.int .i64 (g : Int))
  have g2 := row_set g1 1 (.int .i64 (b : Int))
  have g3 := row_set g2 2 (.int .i64 (i : Int))
  obtain ⟨W7, hW7⟩ : ∃ W7, (((w5.setCell ⟨w.heap.size + 1, 0, none⟩ (.int .i64 (g : Int))).setCell ⟨w.heap.size + 1, 1, none⟩ (.int .i64 (b : Int))).setCell ⟨w.heap.size + 1, 2, none⟩ (.int .i64 (i : Int))) = W7 := ⟨_, rfl⟩
  rw [hW7] at g3 ⊢
  have hdr : Below W7.heap.size W7 W7.drew := (Below.refl _ _).drew
  have so : ∀ b, b ≠ w.heap.size + 1 → W7.drew.heap[b]? = w5.heap[b]? := fun b hb => by
    have h0 : W7.drew.heap[b]? = W7.heap[b]? := rfl
    rw [h0, ← hW7]
    rw [Below.heap_setCell _ _ _ _ hb, Below.heap_setCell _ _ _ _ hb, Below.heap_setCell _ _ _ _ hb]
  have g4 : W7.drew.heap[w.heap.size + 1]? = some (Mk.geomO g b i) := g3
  have hs7 : W7.drew.heap.size = w5.heap.size := by
    have h0 : W7.drew.heap.size = W7.heap.size := rfl
    rw [h0, ← hW7]; simp
  have hb7 : Below w.heap.size w W7.drew := by
    rw [← hW7]
    exact (((hbw.setCell (Nat.le_succ _) _).setCell (Nat.le_succ _) _).setCell (Nat.le_succ _) _).drew
  refine bodyPost_ret (v := .tuple #[.pointer (some ⟨p, 0, none⟩), Mk.geomV g b i, .bool true]) ?_ ed ?_
  · have := results_tct (P := Tryz.prog) Tryz.results12 a.tmps W7.drew (w.heap.size + 1) 23 _ (0, 0) _ e3 g4 Tryz.underlying23 rfl Mk.info23
    rw [e2, e4] at this
    exact this
  · refine ⟨p, xd, y, A, B', rfl, (so p (by omega)).trans hp, hV.else (by omega) (fun k hk => so k (by have := hlo k hk; omega)), fun k hk => by have := hlo k hk; omega, by omega, hb7⟩
set_option maxHeartbeats 2000000 in
theorem freshNo_ok (G B I : Int) (hmay : ¬ Mk.Gm.May G B I) (w : World) : Calls Tryz.prog 12 #[Mk.geomV G B I] w fun e w' => FrP w 1 8 4 e w' := by
  obtain ⟨W1, hW1⟩ : ∃ W1, (w.alloc (Mk.geomO G B I)).alloc (Mk.geomO 0 0 0) = W1 := ⟨_, rfl⟩
  have hb1 : Below w.heap.size w W1 := by rw [← hW1]; exact ((Below.refl _ w).alloc (Nat.le_refl _) _).alloc (by simp) _
  have hg1 : W1.heap[w.heap.size]? = some (Mk.geomO G B I) := by rw [← hW1]; exact at_old (at_new rfl)
  have hr1 : W1.heap[w.heap.size + 1]? = some (Mk.geomO 0 0 0) := by rw [← hW1]; exact at_new (by simp)
  have HB1 : Hid (Below w.heap.size w W1) := hb1
  have HR1 : Hid (W1.heap[w.heap.size + 1]? = some (Mk.geomO 0 0 0)) := hr1
  have hno := rmake_no G B I hmay W1
  clear hb1 hr1
  go_enter Tryz.func12, Tryz.ntmps12
  go_wp2_with (first
    | (refine wpList_load_row rfl 23 (.tmp 1) rfl w.heap.size rfl 23 _ (0, 0) _ hg1 Tryz.underlying23 rfl Mk.info23 ?_))
  refine Calls.mono hno ?_
  rintro e w2 ⟨rfl, hb2⟩
  have hg2 := (hb2.block _ (Array.getElem?_eq_some_iff.1 hg1).1).trans hg1
  have hr2 := (hb2.block _ (Array.getElem?_eq_some_iff.1 HR1.out).1).trans HR1.out
  obtain ⟨W3, hW3⟩ : ∃ W3, w2.setRow w.heap.size #[.int .i64 1, .int .i64 8, .int .i64 4] = W3 := ⟨_, rfl⟩
  have hg3 : W3.heap[w.heap.size]? = some (Mk.geomO 1 8 4) := by rw [← hW3]; exact setRow_heap _ _ _ _ 23 _ hg2
  have hr3 : W3.heap[w.heap.size + 1]? = some (Mk.geomO 0 0 0) := by rw [← hW3, setRow_other _ _ _ _ (by omega)]; exact hr2
  have hB2 : Below w.heap.size w w2 := HB1.out.trans (hb2.mono HB1.out.size)
  have hB3 : Below w.heap.size w W3 := by rw [← hW3]; exact belowRow hB2 (Nat.le_refl _) _
  have hmk := Mk.rmake_ok 1 8 4 (by decide) W3
  have HW3 : Hid (w2.setRow w.heap.size #[.int .i64 1, .int .i64 8, .int .i64 4] = W3) := hW3
  have H3 : Hid (Below w.heap.size w W3 ∧ W3.heap[w.heap.size + 1]? = some (Mk.geomO 0 0 0)) := ⟨hB3, hr3⟩
  clear hno hg1 hb2 hr2 hr3 hB2 hB3 hW1 HB1 HR1 hW3
  dsimp only
  go_wp2_with (first
    | (refine wpList_store_row rfl 23 (.tmp 1) _ rfl w.heap.size #[.int .i64 1, .int .i64 8, .int .i64 4] rfl rfl 23 _ hg2 Mk.info23 rfl geom_one ?_; rw [HW3.out])
    | (refine wpList_load_row rfl 23 (.tmp 1) rfl w.heap.size rfl 23 _ (0, 0) _ hg3 Tryz.underlying23 rfl Mk.info23 ?_))
  refine Calls.mono hmk ?_
  rintro e w4 ⟨A, cap, rfl, hRd, hb4⟩
  have hibA := rd_ib hRd (by decide)
  have hlenA : ∀ xs ∈ imgL (Mk.img 1 8 4) 8, xs.length = 128 := fun xs hx => by
    simp only [imgL, List.mem_map] at hx
    obtain ⟨k, _, rfl⟩ := hx
    exact img_len _ _ _ k
  have hof := of64_ok (some ⟨A, 0, none⟩) (8) cap (imgL (Mk.img 1 8 4) 8) w4 hibA (by decide) (by decide) hlenA (ib_sect hibA hlenA)
  clear hmk
  dsimp only
  go_wp2_with fail
  refine Calls.mono hof ?_
  rintro e w5 ⟨p, xd, y, A', B', rfl, hp, hV, hlo, hp4, hb5⟩
  have hb35 : Below W3.heap.size W3 w5 := hb4.trans (hb5.mono hb4.size)
  have hg5 := (hb35.block _ (Array.getElem?_eq_some_iff.1 hg3).1).trans hg3
  have hr5 := (hb35.block _ (Array.getElem?_eq_some_iff.1 H3.out.2).1).trans H3.out.2
  have HF : Hid (w5.heap[p]? = some (.cells #[.pointer (some ⟨A'.d, 0, none⟩), .pointer (some ⟨A'.v, 0, none⟩), .pointer (some ⟨xd, 0, none⟩), .pointer (some ⟨y, 0, none⟩)] 33 (0, 0)) ∧ VI 0 B' w5 A' (T0 1 8 4) ∧ (∀ k, fp A' (T0 1 8 4) k → p < k) ∧ w4.heap.size ≤ p ∧ Below w.heap.size w w5 ∧ w.heap.size + 1 < w4.heap.size) := ⟨hp, hV, hlo, hp4, H3.out.1.trans (hb35.mono H3.out.1.size), Nat.lt_of_lt_of_le (Array.getElem?_eq_some_iff.1 H3.out.2).1 hb4.size⟩
  clear hof hb35 hp hV hlo hp4 hb5 hRd hb4 hibA hlenA hg3 H3 HW3 hg2
  dsimp only
  go_wp2_with fail
  have hd5 : Below w5.heap.size w5 w5.drew := (Below.refl _ _).drew
  have hgd := (hd5.block _ (Array.getElem?_eq_some_iff.1 hg5).1).trans hg5
  have hrd := (hd5.block _ (Array.getElem?_eq_some_iff.1 hr5).1).trans hr5
  have q0 : w5.drew.cell? ⟨w.heap.size, 0, none⟩ = some (.int .i64 1) := cell_of_row _ _ 0 _ _ _ hgd
  have q1 : w5.drew.cell? ⟨w.heap.size, 1, none⟩ = some (.int .i64 8) := cell_of_row _ _ 1 _ _ _ hgd
  have q2 : w5.drew.cell? ⟨w.heap.size, 2, none⟩ = some (.int .i64 4) := cell_of_row _ _ 2 _ _ _ hgd
  have r0 : w5.drew.cell? ⟨w.heap.size + 1, 0, none⟩ = some (.int .i64 0) := cell_of_row _ _ 0 _ _ _ hrd
  have r1 : w5.drew.cell? ⟨w.heap.size + 1, 1, none⟩ = some (.int .i64 0) := cell_of_row _ _ 1 _ _ _ hrd
  have r2 : w5.drew.cell? ⟨w.heap.size + 1, 2, none⟩ = some (.int .i64 0) := cell_of_row _ _ 2 _ _ _ hrd
  have f0 : w5.drew.frozen? ⟨w.heap.size + 1, 0, none⟩ = false := by simp [World.frozen?, hrd]
  have f1 : w5.drew.frozen? ⟨w.heap.size + 1, 1, none⟩ = false := by simp [World.frozen?, hrd]
  have f2 : w5.drew.frozen? ⟨w.heap.size + 1, 2, none⟩ = false := by simp [World.frozen?, hrd]
  have r0' : w5.cell? ⟨w.heap.size + 1, 0, none⟩ = some (.int .i64 0) := cell_of_row _ _ 0 _ _ _ hr5
  have r1' : w5.cell? ⟨w.heap.size + 1, 1, none⟩ = some (.int .i64 0) := cell_of_row _ _ 1 _ _ _ hr5
  have r2' : w5.cell? ⟨w.heap.size + 1, 2, none⟩ = some (.int .i64 0) := cell_of_row _ _ 2 _ _ _ hr5
  have f0' : w5.frozen? ⟨w.heap.size + 1, 0, none⟩ = false := by simp [World.frozen?, hr5]
  have f1' : w5.frozen? ⟨w.heap.size + 1, 1, none⟩ = false := by simp [World.frozen?, hr5]
  have f2' : w5.frozen? ⟨w.heap.size + 1, 2, none⟩ = false := by simp [World.frozen?, hr5]
  have HG : Hid (w5.heap[w.heap.size + 1]? = some (Mk.geomO 0 0 0)) := hr5
  clear hg5 hr5 hd5 hgd hrd
  go_region
  go_wp2_with fail
  obtain ⟨hp, hV, hlo, hp4, hbw, hlt⟩ := HF.out
  exact fresh_end hp hV hlo hp4 hbw hlt HG.out rfl rfl rfl rfl
set_option maxHeartbeats 2000000 in
theorem fresh1_ok (g b i : Nat) (hmay : Mk.Gm.May (g : Int) (b : Int) (i : Int)) (w : World) : Calls Tryz.prog 12 #[Mk.geomV g b i] w fun e w' => FrP w g b i e w' := by
  obtain ⟨W1, hW1⟩ : ∃ W1, (w.alloc (Mk.geomO g b i)).alloc (Mk.geomO 0 0 0) = W1 := ⟨_, rfl⟩
  have hb1 : Below w.heap.size w W1 := by rw [← hW1]; exact ((Below.refl _ w).alloc (Nat.le_refl _) _).alloc (by simp) _
  have hg1 : W1.heap[w.heap.size]? = some (Mk.geomO g b i) := by rw [← hW1]; exact at_old (at_new rfl)
  have hr1 : W1.heap[w.heap.size + 1]? = some (Mk.geomO 0 0 0) := by rw [← hW1]; exact at_new (by simp)
  have HB1 : Hid (Below w.heap.size w W1) := hb1
  have HR1 : Hid (W1.heap[w.heap.size + 1]? = some (Mk.geomO 0 0 0)) := hr1
  have hN : 1 ≤ g * b ∧ g * b ≤ 2048 := by
    obtain ⟨⟨h1, h2⟩, ⟨h3, h4⟩, _⟩ := hmay.all
    have h5 : g * b ≤ 8 * 256 := Nat.mul_le_mul (by omega) (by omega)
    have h6 : 1 * 1 ≤ g * b := Nat.mul_le_mul (by omega) (by omega)
    omega
  have hmk := Mk.rmake_ok g b i hmay W1
  have H3 : Hid (Below w.heap.size w W1 ∧ W1.heap[w.heap.size + 1]? = some (Mk.geomO 0 0 0)) := ⟨hb1, hr1⟩
  clear hb1 hr1 HB1 HR1
  go_enter Tryz.func12, Tryz.ntmps12
  go_wp2_with (first
    | (refine wpList_load_row rfl 23 (.tmp 1) rfl w.heap.size rfl 23 _ (0, 0) _ hg1 Tryz.underlying23 rfl Mk.info23 ?_))
  refine Calls.mono hmk ?_
  rintro e w4 ⟨A, cap, rfl, hRd, hb4⟩
  have hibA := rd_ib hRd (by omega)
  have hlenA : ∀ xs ∈ imgL (Mk.img g b i) (g * b), xs.length = 128 := fun xs hx => by
    simp only [imgL, List.mem_map] at hx
    obtain ⟨k, _, rfl⟩ := hx
    exact img_len _ _ _ k
  have hof := of64_ok (some ⟨A, 0, none⟩) (g * b) cap (imgL (Mk.img g b i) (g * b)) w4 hibA (by omega) (by omega) hlenA (ib_sect hibA hlenA)
  clear hmk
  dsimp only
  go_wp2_with fail
  refine Calls.mono hof ?_
  rintro e w5 ⟨p, xd, y, A', B', rfl, hp, hV, hlo, hp4, hb5⟩
  have hb35 : Below W1.heap.size W1 w5 := hb4.trans (hb5.mono hb4.size)
  have hg5 := (hb35.block _ (Array.getElem?_eq_some_iff.1 hg1).1).trans hg1
  have hr5 := (hb35.block _ (Array.getElem?_eq_some_iff.1 H3.out.2).1).trans H3.out.2
  have HF : Hid (w5.heap[p]? = some (.cells #[.pointer (some ⟨A'.d, 0, none⟩), .pointer (some ⟨A'.v, 0, none⟩), .pointer (some ⟨xd, 0, none⟩), .pointer (some ⟨y, 0, none⟩)] 33 (0, 0)) ∧ VI 0 B' w5 A' (T0 g b i) ∧ (∀ k, fp A' (T0 g b i) k → p < k) ∧ w4.heap.size ≤ p ∧ Below w.heap.size w w5 ∧ w.heap.size + 1 < w4.heap.size) := ⟨hp, hV, hlo, hp4, H3.out.1.trans (hb35.mono H3.out.1.size), Nat.lt_of_lt_of_le (Array.getElem?_eq_some_iff.1 H3.out.2).1 hb4.size⟩
  clear hof hb35 hp hV hlo hp4 hb5 hRd hb4 hibA hlenA hg1 H3
  dsimp only
  go_wp2_with fail
  have hd5 : Below w5.heap.size w5 w5.drew := (Below.refl _ _).drew
  have hgd := (hd5.block _ (Array.getElem?_eq_some_iff.1 hg5).1).trans hg5
  have hrd := (hd5.block _ (Array.getElem?_eq_some_iff.1 hr5).1).trans hr5
  have q0 : w5.drew.cell? ⟨w.heap.size, 0, none⟩ = some (.int .i64 (g : Int)) := cell_of_row _ _ 0 _ _ _ hgd
  have q1 : w5.drew.cell? ⟨w.heap.size, 1, none⟩ = some (.int .i64 (b : Int)) := cell_of_row _ _ 1 _ _ _ hgd
  have q2 : w5.drew.cell? ⟨w.heap.size, 2, none⟩ = some (.int .i64 (i : Int)) := cell_of_row _ _ 2 _ _ _ hgd
  have r0 : w5.drew.cell? ⟨w.heap.size + 1, 0, none⟩ = some (.int .i64 0) := cell_of_row _ _ 0 _ _ _ hrd
  have r1 : w5.drew.cell? ⟨w.heap.size + 1, 1, none⟩ = some (.int .i64 0) := cell_of_row _ _ 1 _ _ _ hrd
  have r2 : w5.drew.cell? ⟨w.heap.size + 1, 2, none⟩ = some (.int .i64 0) := cell_of_row _ _ 2 _ _ _ hrd
  have f0 : w5.drew.frozen? ⟨w.heap.size + 1, 0, none⟩ = false := by simp [World.frozen?, hrd]
  have f1 : w5.drew.frozen? ⟨w.heap.size + 1, 1, none⟩ = false := by simp [World.frozen?, hrd]
  have f2 : w5.drew.frozen? ⟨w.heap.size + 1, 2, none⟩ = false := by simp [World.frozen?, hrd]
  have r0' : w5.cell? ⟨w.heap.size + 1, 0, none⟩ = some (.int .i64 0) := cell_of_row _ _ 0 _ _ _ hr5
  have r1' : w5.cell? ⟨w.heap.size + 1, 1, none⟩ = some (.int .i64 0) := cell_of_row _ _ 1 _ _ _ hr5
  have r2' : w5.cell? ⟨w.heap.size + 1, 2, none⟩ = some (.int .i64 0) := cell_of_row _ _ 2 _ _ _ hr5
  have f0' : w5.frozen? ⟨w.heap.size + 1, 0, none⟩ = false := by simp [World.frozen?, hr5]
  have f1' : w5.frozen? ⟨w.heap.size + 1, 1, none⟩ = false := by simp [World.frozen?, hr5]
  have f2' : w5.frozen? ⟨w.heap.size + 1, 2, none⟩ = false := by simp [World.frozen?, hr5]
  have HG : Hid (w5.heap[w.heap.size + 1]? = some (Mk.geomO 0 0 0)) := hr5
  clear hg5 hr5 hd5 hgd hrd
  go_region
  go_wp2_with fail
  obtain ⟨hp, hV, hlo, hp4, hbw, hlt⟩ := HF.out
  exact fresh_end hp hV hlo hp4 hbw hlt HG.out rfl rfl rfl rfl
/-- Fresh of whatever geometry. -/
theorem fresh_ok (G B I : Int) (w : World) : Calls Tryz.prog 12 #[Mk.geomV G B I] w fun e w' => ∃ g b i : Nat, Mk.Gm.May (g : Int) (b : Int) (i : Int) ∧ FrP w g b i e w' := by
  by_cases hm : Mk.Gm.May G B I
  · obtain ⟨⟨h1, h2⟩, ⟨h3, h4⟩, ⟨h5, h6⟩, _⟩ := hm.all
    obtain ⟨g, rfl⟩ := Int.eq_ofNat_of_zero_le (show 0 ≤ G by omega)
    obtain ⟨b, rfl⟩ := Int.eq_ofNat_of_zero_le (show 0 ≤ B by omega)
    obtain ⟨i, rfl⟩ := Int.eq_ofNat_of_zero_le (show 0 ≤ I by omega)
    exact (fresh1_ok g b i hm w).mono fun e w' h => ⟨g, b, i, hm, h⟩
  · exact (freshNo_ok G B I hm w).mono fun e w' h => ⟨1, 8, 4, by decide, h⟩
end Go.Proofs.YthdlpeejmmobmaaGreat

namespace Go.Proofs.YthdlpeejmmobmaaGreat
open Go.RowKit Go.Maps
set_option linter.unusedVariables false
set_option maxRecDepth 100000

/-- A new volume's blocks now. -/
def nimg (g b i : Nat) : Nat → List Int := nowOf (T0 g b i)
theorem nimg_at {g b i k : Nat} (hk : k < g * b) : nimg g b i k = Mk.img g b i k := by
  have e : nimg g b i k = Pt.ovrs (Pt.ofB [] (k : Int)) (part (imgL (Mk.img g b i) (g * b)) (g * b) k) := rfl
  rw [e]
  have e2 : part (imgL (Mk.img g b i) (g * b)) (g * b) k = Mk.img g b i k := by
    unfold part imgL
    rw [if_pos hk, List.getD_eq_getElem?_getD, List.getElem?_map, List.getElem?_range hk]
    rfl
  rw [e2]
  rfl
theorem img_head {g b i n : Nat} (hm : Mk.Gm.May (g : Int) b i) (hn : n < g) : Mk.img g b i (n * b + 1) = Mk.groupL (n : Int) (Mk.hdY i n) := by
  have := hm.all
  have hb : 1 < b := by omega
  have h1 : (n * b + 1) % b = 1 := by rw [Nat.add_comm, Nat.add_mul_mod_self_right]; exact Nat.mod_eq_of_lt hb
  have h2 : (n * b + 1) / b = n := by rw [Nat.add_comm, Nat.add_mul_div_right _ _ (by omega), Nat.div_eq_of_lt hb]; omega
  have h3 : n * b + 1 ≠ 2 ∧ n * b + 1 ≠ 2 + i / 4 := by
    rcases Nat.eq_zero_or_pos n with rfl | hp
    · omega
    · have : b ≤ n * b := Nat.le_mul_of_pos_left b hp
      omega
  unfold Mk.img Mk.rtL
  rw [if_neg h3.1, if_neg h3.2]
  unfold Mk.blF
  rw [h1, if_pos rfl, h2]
theorem geo_of {g b i : Nat} (hm : Mk.Gm.May (g : Int) b i) : Geo g b i (g * b) := ⟨hm, rfl⟩
theorem hds_new {g b i : Nat} (hm : Mk.Gm.May (g : Int) b i) : Hds (nimg g b i) g b (Mk.hdY i) :=
  ⟨fun n hn => (nimg_at (by have := (geo_of hm).hd hn (show 1 < b by have := hm.all; omega); exact this)).trans (img_head hm hn), fun n _ => Mk.hdY_len i n, fun n _ => Mk.hdY_byt i n⟩
/-- What Fresh leaves. -/
theorem fr_vol {w w' : World} {g b i : Nat} {e : Ending} (h : FrP w g b i e w') : ∃ p v F, ∃ pd px py : Value, e = .returned (.tuple #[.pointer (some ⟨p, 0, none⟩), Mk.geomV g b i, .bool true]) ∧ w'.heap[p]? = some (.cells #[pd, .pointer (some ⟨v, 0, none⟩), px, py] 33 (0, 0)) ∧ Vol w' v F (g * b) (nimg g b i) 0 0 ∧ (∀ k, F k → w.heap.size ≤ k ∧ k ≠ p) ∧ w.heap.size ≤ p ∧ Below w.heap.size w w' := by
  obtain ⟨p, xd, y, A, B, e1, hp, hV, hF, hlo, hb⟩ := h
  exact ⟨p, A.v, _, _, _, _, e1, hp, ⟨B, A, _, hV, rfl, rfl, rfl, rfl, rfl, rfl, rfl, rfl, rfl⟩, hF, hlo, hb⟩

/-- The headers with one written over. -/
def updH (H : Nat → List Int) (n : Nat) (ys : List Int) : Nat → List Int := fun k => if k = n then ys else H k
theorem hds_put {I : Nat → List Int} {G B : Nat} {H : Nat → List Int} (h : Hds I G B H) (hB : 1 < B) (n : Nat) {ys : List Int} (hl : ys.length = 40) (hy : Mk.Num.Byt ys) : Hds (putH I B n ys) G B (updH H n ys) := by
  refine ⟨fun k hk => ?_, fun k hk => ?_, fun k hk => ?_⟩
  · unfold putH updH
    by_cases e : k = n
    · subst e
      rw [if_pos rfl, if_pos rfl]
    · have : k * B + 1 ≠ n * B + 1 := fun h9 => e (Nat.eq_of_mul_eq_mul_right (show 0 < B by omega) (by omega))
      rw [if_neg this, if_neg e]
      exact h.at_ k hk
  · unfold updH
    split
    · exact hl
    · exact h.len k hk
  · unfold updH
    split
    · exact hy
    · exact h.byt k hk
end Go.Proofs.YthdlpeejmmobmaaGreat

namespace Go.Proofs.YthdlpeejmmobmaaGreat
open Go.ChangeShapes Go.WideShapes Go.ChangeAt Go.RowKit Go.Joins
set_option linter.unusedVariables false
set_option maxRecDepth 100000

theorem ownKnob_none : ownKnob Tryz.prog.godebug = none := by kernel_rfl
theorem laid_out : laidOutB Tryz.prog = true := by kernel_rfl
theorem cells23 : Tryz.prog.cellsOf 23 = 3 := by kernel_rfl

theorem open_geom {H : Type} {enc : TypeId × Value → H} {W : World} {base : Nat} {v : Value} {d : DataW H} {p : List MemPlace} (hv : Value.okWide Tryz.prog W .any base 23 v)
    (h : DataW.Trod enc Tryz.prog W 0 (fun _ => true) true 23 v d p) : ∃ G B I, v = Mk.geomV G B I := by
  obtain ⟨c0, c1, c2, y0, y1, y2, m, rfl, rfl, rfl, hy0, hy1, hy2⟩ := open_agg3 Tryz.underlying23 (by kernel_rfl) cells23 hv h
  obtain ⟨a, e0, _, _⟩ := DataW.trod_int Tryz.underlying3 hy0
  obtain ⟨b, e1, _, _⟩ := DataW.trod_int Tryz.underlying3 hy1
  obtain ⟨c, e2, _, _⟩ := DataW.trod_int Tryz.underlying3 hy2
  simp at e0 e1 e2
  subst e0 e1 e2
  exact ⟨a, b, c, rfl⟩

theorem cells3 : Tryz.prog.cellsOf 3 = 1 := by kernel_rfl

theorem rng_of_wf {x : Int} (h : (Lit.int .i64 x).wf = true) : -9223372036854775808 ≤ x ∧ x ≤ 9223372036854775807 := by
  simp [Lit.wf, IntKind.min, IntKind.max, IntKind.signed, IntKind.bits] at h
  omega

section
variable {H : Type} {enc : TypeId × Value → H} {W : World}

theorem open_i {v : Value} {d : DataW H} {pl : List MemPlace} {n : Nat} (h : DataW.trod enc Tryz.prog W 0 (fun _ => true) true n 3 [v] = some (d, pl)) : ∃ x, v = .int .i64 x ∧ -9223372036854775808 ≤ x ∧ x ≤ 9223372036854775807 := by
  obtain ⟨x, e, _, hw⟩ := DataW.trod_int Tryz.underlying3 h
  simp at e
  exact ⟨x, e, rng_of_wf hw⟩

end
end Go.Proofs.YthdlpeejmmobmaaGreat

namespace Go.Proofs.YthdlpeejmmobmaaGreat
open Go.RowKit Go.Maps
open Mk.Al (putY)
set_option linter.unusedVariables false
set_option maxRecDepth 100000

/-- A geometry and a pair. -/
structure R4 (wx : World) (x p v : Nat) (g b i : Nat) (pd px py : Value) : Prop where
  g : wx.heap[x]? = some (Mk.geomO g b i)
  p : wx.heap[p]? = some (.cells #[pd, .pointer (some ⟨v, 0, none⟩), px, py] 33 (0, 0))
theorem R4.lt {wx : World} {x p v g b i : Nat} {pd px py : Value} (h : R4 wx x p v g b i pd px py) : x < wx.heap.size ∧ p < wx.heap.size := ⟨(Array.getElem?_eq_some_iff.1 h.g).1, (Array.getElem?_eq_some_iff.1 h.p).1⟩
theorem R4.keptIf {wx wy : World} {x p v g b i : Nat} {pd px py : Value} (h : R4 wx x p v g b i pd px py) (h1 : wy.heap[x]? = wx.heap[x]?) (h2 : wy.heap[p]? = wx.heap[p]?) : R4 wy x p v g b i pd px py := ⟨h1.trans h.g, h2.trans h.p⟩
theorem R4.kept {wx wy : World} {x p v g b i : Nat} {pd px py : Value} (h : R4 wx x p v g b i pd px py) (hb : Below wx.heap.size wx wy) : R4 wy x p v g b i pd px py := h.keptIf (hb.block _ h.lt.1) (hb.block _ h.lt.2)
theorem R4.cells {wx : World} {x p v g b i : Nat} {pd px py : Value} (h : R4 wx x p v g b i pd px py) : wx.cell? ⟨x, 0, none⟩ = some (.int .i64 (g : Int)) ∧ wx.cell? ⟨x, 1, none⟩ = some (.int .i64 (b : Int)) ∧ wx.cell? ⟨x, 2, none⟩ = some (.int .i64 (i : Int)) ∧ wx.cell? ⟨p, 1, none⟩ = some (.pointer (some ⟨v, 0, none⟩)) := ⟨(g3_of h.g).c0, (g3_of h.g).c1, (g3_of h.g).c2, cell_of_row _ _ 1 _ 33 _ h.p⟩
theorem near_mod (z : Int) {g : Nat} (hg : 0 < g) (h8 : g ≤ 8) : ∃ n : Nat, (IntKind.u64.wrap z).tmod (g : Int) = (n : Int) ∧ n < g ∧ wrap64 (n : Int) = (n : Int) := by
  have h0 : 0 ≤ IntKind.u64.wrap z := by rw [IntKind.wrap_u64]; omega
  have h1 : (IntKind.u64.wrap z).tmod (g : Int) = (IntKind.u64.wrap z) % (g : Int) := Int.tmod_eq_emod_of_nonneg h0
  have h2 := Int.emod_nonneg (IntKind.u64.wrap z) (show (g : Int) ≠ 0 by omega)
  have h3 := Int.emod_lt_of_pos (IntKind.u64.wrap z) (show (0 : Int) < g by omega)
  generalize (IntKind.u64.wrap z) % (g : Int) = x at *
  refine ⟨x.toNat, ?_, ?_, IntWalk.wrap64_in _ ⟨by omega, by omega⟩⟩
  · rw [h1]; omega
  · omega
end Go.Proofs.YthdlpeejmmobmaaGreat
