/- Vo KGeom KGeomB KGeomC KZeros KConv -/
import Derived.Test.YthdlpeejmmobmaaGreatYG17
import Derived.Test.YthdlpeejmmobmaaGreatYG03
import Derived.WalkKit
import Derived.WalkSpells
import Derived.WalkLawsBesides
import Derived.BigQuiet
import Derived.Deep.QuietTactic
import Derived.Deep.RegionHeld3
import Derived.Test.YthdlpeejmmobmaaGreatYG01
import Derived.Lib.AppendZerosOnto
import Derived.Deep.MidRow

namespace Go.Proofs.YthdlpeejmmobmaaGreat
open Go.RowKit Go.Maps
set_option linter.unusedVariables false
set_option maxRecDepth 100000
def lay (ys : List Int) (o : Nat) (xs : List Int) : List Int := ys.take o ++ xs ++ ys.drop (o + xs.length)
def updI (I : Nat → List Int) (b o : Nat) (xs : List Int) : Nat → List Int := fun k => if k = b then lay (I b) o xs else I k
structure Past where
 o : Option (Nat × (Nat → List Int))
instance noPast : Inhabited Past := ⟨⟨none⟩⟩
def marks (p : Past) (T : Vs) : Prop := ∀ m J, p.o = some (m, J) → m ≤ T.last ∧ nowOf { T with P := Pt.upP T.P m } = J
structure Vol [Inhabited Past] (w : World) (v : Nat) (F : Nat → Prop) (N : Nat) (I : Nat → List Int) (l c : Nat) : Prop where
 ex : ∃ B A T, VI 0 B w A T ∧ A.v = v ∧ F = fp A T ∧ T.S.N = N ∧ T.x = none ∧ T.Y = (fun _ => none) ∧ I = nowOf T ∧ T.last = l ∧ T.P.length = l ∧ T.C.hi + T.C.mi = c ∧ marks default T
theorem now_changed {T T' : Vs} {b o : Nat} {xs zs : List Int} (h : Changed T T' b o xs zs) : nowOf T' = updI (nowOf T) b o xs := by
 obtain ⟨pn, e1, e2, e3, e4, e5, eP⟩ := h.ex
 funext k
 unfold nowOf updI
 rw [eP, h.S]
 have e : Pt.ofB (T.P ++ [pn]) (k : Int) = Pt.ofB T.P (k : Int) ++ (if k = b then [pn] else []) := by
  unfold Pt.ofB
  rw [List.filter_append]
  congr 1
  by_cases hk : k = b
  ·subst hk
   rw [if_pos rfl]
   simp [e2]
  ·rw [if_neg hk]
   have hne : ¬ pn.blk = k := by rw [e2]; exact fun e => hk e.symm
   have hnc : ¬ (pn.blk : Int) = (k : Int) := by omega
   rw [List.filter_cons, if_neg (by simpa using hnc), List.filter_nil]
 rw [e]
 by_cases hk : k = b
 ·subst hk
  rw [if_pos rfl, if_pos rfl, Pt.ovrs_snoc]
  unfold Pt.ovr lay
  rw [e3, e4]
 ·rw [if_neg hk, if_neg hk, List.append_nil]
theorem marks_changed {p : Past} {T T' : Vs} {b o : Nat} {xs zs : List Int} (h : marks p T) (hC : Changed T T' b o xs zs) : marks p T' := by
 intro m J hp
 obtain ⟨h1, h2⟩ := h m J hp
 obtain ⟨pn, e1, e2, e3, e4, e5, eP⟩ := hC.ex
 have hl := hC.last
 refine ⟨by omega, ?_⟩
 rw [← h2]
 have e : Pt.upP T'.P m = Pt.upP T.P m := by
  unfold Pt.upP
  rw [eP, List.filter_append, List.filter_cons, if_neg (by simp; omega), List.filter_nil, List.append_nil]
 funext k
 unfold nowOf
 show Pt.ovrs (Pt.ofB (Pt.upP T'.P m) k) (T'.S.f k) = Pt.ovrs (Pt.ofB (Pt.upP T.P m) k) (T.S.f k)
 rw [e, hC.S]
section
variable [Inhabited Past] {w w' : World} {v : Nat} {F : Nat → Prop} {N : Nat} {I : Nat → List Int} {l c : Nat}
theorem Vol.lt (h : Vol w v F N I l c) : ∀ k, F k → k < w.heap.size := by
 obtain ⟨B, A, T, hv, rfl, rfl, _⟩ := h.ex
 exact hv.lt
theorem Vol.mem (h : Vol w v F N I l c) : F v := by
 obtain ⟨B, A, T, hv, rfl, rfl, _⟩ := h.ex
 exact .inl rfl
theorem Vol.else (h : Vol w v F N I l c) (hs : w.heap.size ≤ w'.heap.size) (hb : ∀ k, F k → w'.heap[k]? = w.heap[k]?) : Vol w' v F N I l c := by
 obtain ⟨B, A, T, hv, e1, rfl, r⟩ := h.ex
 exact ⟨B, A, T, hv.else hs hb, e1, rfl, r⟩
theorem Vol.later (h : Vol w v F N I l c) (hb : Below w.heap.size w w') : Vol w' v F N I l c := h.else hb.size fun k hk => hb.block k (h.lt k hk)
theorem Vol.sect (h : Vol w v F N I l c) (b : Nat) : Sect (I b) := by
 obtain ⟨B, A, T, hv, _, _, _, _, _, rfl, _⟩ := h.ex
 exact now_sect hv b
theorem Vol.N1 (h : Vol w v F N I l c) : 1 ≤ N ∧ N ≤ 2048 := by
 obtain ⟨B, A, T, hv, _, _, rfl, _⟩ := h.ex
 exact ⟨hv.cd.di.N1, hv.cd.ci.N12⟩
theorem vol_blocks (h : Vol w v F N I l c) : Calls Tryz.prog 13 #[.pointer (some ⟨v, 0, none⟩)] w fun e w' => e = .returned (.int .i64 (N : Int)) ∧ w' = w := by
 obtain ⟨B, A, T, hv, rfl, _, rfl, _⟩ := h.ex
 exact vBlocks_ok hv
theorem vol_last (h : Vol w v F N I l c) : Calls Tryz.prog 81 #[.pointer (some ⟨v, 0, none⟩)] w fun e w' => e = .returned (.int .i64 (l : Int)) ∧ w' = w := by
 obtain ⟨B, A, T, hv, rfl, _, _, _, _, _, rfl, _⟩ := h.ex
 exact vLast_ok hv
theorem vol_read (h : Vol w v F N I l c) (b : Nat) (hb : b < N) (hc : c < 4611686018427387904) :
  Calls Tryz.prog 19 #[.pointer (some ⟨v, 0, none⟩), .int .i64 (b : Int)] w fun e w' => ∃ q cap F', e = .returned (.tuple #[.slice (some ⟨q, 0, none⟩) 128 cap, .int .i64 0]) ∧ Own w.heap.size w' q 128 cap (I b) ∧ ¬ F' q ∧ Vol w' v F' N I l (c + 1) ∧ Pt.Stp F F' w w' := by
 obtain ⟨B, A, T, hv, rfl, rfl, rfl, hx, hY, rfl, rfl, hP, rfl, hM⟩ := h.ex
 refine (vRead_ok hv b hb hc).mono ?_
 rintro e w1 ⟨q, cap, C', rfl, hO, hq, hv1, hst, hcn⟩
 exact ⟨q, cap, _, rfl, hO, hq, ⟨B, A, { T with C := C' }, hv1, rfl, rfl, rfl, hx, hY, rfl, rfl, hP, hcn, hM⟩, hst⟩
theorem vol_change (h : Vol w v F N I l c) (hl : l + 1 ≤ 10000) (b o : Nat) (hb : b < N) (p : Option Addr) (n cp : Nat) (xs : List Int) (hbi : BI w p n xs) (hp : ∀ k, Pt.blkOf p = some k → k ≠ v) (hn : n ≠ 0) (ho : o + n ≤ 128) (q : Option Addr) (m d : Nat) (zs : List Int) (hz : Pt.II w q m zs) (hqv : ∀ k, Pt.blkOf q = some k → k ≠ v) (hk : zs.all (Pt.kn l) = true) (hm : m ≤ 100000) :
  Calls Tryz.prog 17 #[.pointer (some ⟨v, 0, none⟩), .int .i64 (b : Int), .int .i64 (o : Int), .slice p n cp, .slice q m d] w fun e w' => e = .returned (.tuple #[.int .i64 ((l + 1 : Nat) : Int), .int .i64 0]) ∧ ∃ F', Vol w' v F' N (updI I b o xs) (l + 1) c ∧ Pt.Stp F F' w w' := by
 obtain ⟨B, A, T, hv, rfl, rfl, rfl, hx, hY, rfl, rfl, hP, rfl, hM⟩ := h.ex
 refine (vChange_ok hv hx hl b o hb p n cp xs hbi hp ⟨by omega, by omega, hn, by omega⟩ q m d zs hz hqv hk (by omega)).mono ?_
 rintro e w1 ⟨rfl, T', hv1, hst, hC⟩
 obtain ⟨pn, _, _, _, _, _, eP⟩ := hC.ex
 exact ⟨rfl, _, ⟨B, A, T', hv1, rfl, rfl, by rw [hC.S], by rw [hC.x, hx], by rw [hC.Y, hY], (now_changed hC).symm, hC.last, by rw [eP, List.length_append, hP]; rfl, by rw [hC.C], marks_changed hM hC⟩, hst⟩
end
end Go.Proofs.YthdlpeejmmobmaaGreat

namespace Go.Proofs.YthdlpeejmmobmaaGreat.Mk
open Go.RowKit
set_option maxRecDepth 100000
namespace Gm
def can (G B I : Int) : Int := if May G B I then 0 else 170
end Gm
theorem gwithin_ok (n l h : Int) (w : World) : Calls Tryz.prog 112 #[.int .i64 n, .int .i64 l, .int .i64 h] w fun e w' => e = .returned (.bool (decide (l ≤ n ∧ n ≤ h))) ∧ w' = w := by
 go_enter Tryz.func112, Tryz.ntmps112
 go_wp2
 all_goals
  go_ret
  exact ⟨by simp [*]; try omega, rfl⟩
theorem box_at {w w1 : World} {o : Obj} (hb : Below (w.alloc o).heap.size (w.alloc o) w1) : w1.heap[w.heap.size]? = some o := by
 rw [hb.block _ (by rw [size_alloc]; omega), heap_new]
theorem box_below {w w1 : World} {o : Obj} (hb : Below (w.alloc o).heap.size (w.alloc o) w1) : Below w.heap.size w w1 :=
 ((Below.refl _ _).alloc (Nat.le_refl _) _).trans (hb.mono (by rw [size_alloc]; omega))
def Box (w : World) (b : Nat) (G B I : Int) : Prop := w.cell? ⟨b, 0, none⟩ = some (.int .i64 G) ∧ w.cell? ⟨b, 1, none⟩ = some (.int .i64 B) ∧ w.cell? ⟨b, 2, none⟩ = some (.int .i64 I)
theorem box_ok {w w1 : World} {G B I : Int} (hb : Below (w.alloc (geomO G B I)).heap.size (w.alloc (geomO G B I)) w1) : Box w1 w.heap.size G B I := by
 have := box_at hb
 refine ⟨?_, ?_, ?_⟩ <;> simp [World.cell?, this]
theorem Box.kept {w w1 : World} {b : Nat} {G B I : Int} (h : Box w b G B I) (hb : Below w.heap.size w w1) : Box w1 b G B I := by
 have hlt := lt_of_cell h.1
 refine ⟨?_, ?_, ?_⟩
 ·rw [hb.cell (p := ⟨b, 0, none⟩) hlt]; exact h.1
 ·rw [hb.cell (p := ⟨b, 1, none⟩) hlt]; exact h.2.1
 ·rw [hb.cell (p := ⟨b, 2, none⟩) hlt]; exact h.2.2
theorem dataPlace_any (G B I : Int) (w : World) : Calls Tryz.prog 195 #[geomV G B I] w fun e w' => (∃ v, e = .returned (.int .i64 v) ∧ (4 ≤ I ∧ I ≤ 64 → v = 2 + I / 4)) ∧ Below w.heap.size w w' := by
 go_enter Tryz.func195, Tryz.ntmps195
 go_wp2
 go_ret
 refine ⟨⟨_, rfl, fun h => ?_⟩, (Below.refl _ _).alloc (Nat.le_refl _) _⟩
 have h1 := h.1
 have h2 := h.2
 unfold wrap64
 rw [Int.tdiv_eq_ediv_of_nonneg (by omega)]
 omega
theorem dataBlocks_any (G B I : Int) (w : World) : Calls Tryz.prog 113 #[geomV G B I] w fun e w' => (∃ v, e = .returned (.int .i64 v) ∧ (4 ≤ I ∧ I ≤ 64 ∧ 8 ≤ B ∧ B ≤ 256 → v = B - (2 + I / 4))) ∧ Below w.heap.size w w' := by
 go_enter Tryz.func113, Tryz.ntmps113
 go_wp2_with fail
 have hB := box_ok (Below.refl _ (w.alloc (geomO G B I)))
 have hbe := box_below (Below.refl _ (w.alloc (geomO G B I)))
 have hsz := size_alloc w (geomO G B I)
 generalize w.alloc (geomO G B I) = w0 at *
 obtain ⟨c0, c1, c2⟩ := hB
 go_region_held3 (fun w' => w'.cell? ⟨w.heap.size, 0, none⟩ = some (.int .i64 G) ∧ w'.cell? ⟨w.heap.size, 1, none⟩ = some (.int .i64 B) ∧ w'.cell? ⟨w.heap.size, 2, none⟩ = some (.int .i64 I)) (first | exact ⟨c0, c1, c2⟩ | exact cc) ((go_at_call 195; refine (dataPlace_any _ _ _ _).mono ?_; rintro e w1 ⟨⟨v, rfl, hv⟩, hb1⟩; have cc := Box.kept (w := w0.drew) ⟨c0, c1, c2⟩ hb1))
 go_wp2
 go_ret
 refine ⟨⟨_, rfl, fun h => ?_⟩, hbe.drew.trans (hb1.mono (by show w.heap.size ≤ w0.heap.size; omega))⟩
 rw [hv ⟨h.1, h.2.1⟩, IntKind.wrap_i64]
 omega
theorem Gm.can_pos {G B I : Int} (h : Gm.May G B I) : Gm.can G B I = 0 := if_pos h
theorem Gm.can_neg {G B I : Int} (h : ¬ Gm.May G B I) : Gm.can G B I = 170 := if_neg h
theorem can_ok (G B I : Int) (w : World) : Calls Tryz.prog 48 #[geomV G B I] w fun e w' => e = .returned (.int .i64 (Gm.can G B I)) ∧ Below w.heap.size w w' := by
 have HB : Below w.heap.size w (w.alloc (geomO G B I)) := (Below.refl _ _).alloc (Nat.le_refl _) _
 have HS := size_alloc w (geomO G B I)
 go_enter Tryz.func48, Tryz.ntmps48
 go_wp2_with (first | (go_at_call 112; refine same_at (gwithin_ok _ _ _ _) ?_) | (go_at_call 113; refine (dataBlocks_any _ _ _ _).mono ?_; rintro e w1 ⟨⟨v, rfl, hv⟩, hb1⟩))
 all_goals
  go_ret
  refine ⟨?_, by first | exact HB | exact HB.trans (hb1.mono HB.size)⟩
  try simp only [Bool.not_eq_true', decide_eq_false_iff_not, Bool.not_eq_false', decide_eq_true_eq] at *
  first
   | (rw [Gm.can_pos (by unfold Gm.May; omega)]; rfl)
   | (rw [Gm.can_neg (by unfold Gm.May; omega)]; rfl)
theorem rcan_ok (G B I : Int) (w : World) : Calls Tryz.prog 103 #[geomV G B I] w fun e w' => e = .returned (.int .i64 (Gm.can G B I)) ∧ Below w.heap.size w w' := by
 have HB : Below w.heap.size w (w.alloc (geomO G B I)) := (Below.refl _ _).alloc (Nat.le_refl _) _
 go_enter Tryz.func103, Tryz.ntmps103
 go_wp2
 all_goals
  go_ret
  refine ⟨?_, HB⟩
  first
   | (rw [Gm.can_pos (by unfold Gm.May; omega)]; rfl)
   | (rw [Gm.can_neg (by unfold Gm.May; omega)]; rfl)
theorem Gm.May.all {G B I : Int} (h : Gm.May G B I) : (1 ≤ G ∧ G ≤ 8) ∧ (8 ≤ B ∧ B ≤ 256) ∧ (4 ≤ I ∧ I ≤ 64) ∧ I % 4 = 0 ∧ 3 + I / 4 ≤ B := by
 unfold Gm.May at h; omega
theorem mul_le' {a b m n : Int} (h0 : 0 ≤ a) (h1 : a ≤ m) (h2 : 0 ≤ b) (h3 : b ≤ n) : 0 ≤ a * b ∧ a * b ≤ m * n :=
 ⟨Int.mul_nonneg h0 h2, Int.mul_le_mul h1 h3 h2 (by omega)⟩
theorem can_may {G B I : Int} (h : Gm.May G B I) (w : World) : Calls Tryz.prog 48 #[geomV G B I] w fun e w' => e = .returned (.int .i64 0) ∧ Below w.heap.size w w' := by
 have := can_ok G B I w
 rwa [Gm.can, if_pos h] at this
theorem can_not {G B I : Int} (h : ¬ Gm.May G B I) (w : World) : Calls Tryz.prog 48 #[geomV G B I] w fun e w' => e = .returned (.int .i64 170) ∧ Below w.heap.size w w' := by
 have := can_ok G B I w
 rwa [Gm.can, if_neg h] at this
theorem rcan_may {G B I : Int} (h : Gm.May G B I) (w : World) : Calls Tryz.prog 103 #[geomV G B I] w fun e w' => e = .returned (.int .i64 0) ∧ Below w.heap.size w w' := by
 have := rcan_ok G B I w
 rwa [Gm.can, if_pos h] at this
theorem rcan_not {G B I : Int} (h : ¬ Gm.May G B I) (w : World) : Calls Tryz.prog 103 #[geomV G B I] w fun e w' => e = .returned (.int .i64 170) ∧ Below w.heap.size w w' := by
 have := rcan_ok G B I w
 rwa [Gm.can, if_neg h] at this
def Gm.num (G B I each : Int) : Int := if Gm.May G B I then G * each else 0
theorem Gm.num_pos {G B I : Int} (h : Gm.May G B I) (k : Int) : Gm.num G B I k = G * k := if_pos h
theorem Gm.num_neg {G B I : Int} (h : ¬ Gm.May G B I) (k : Int) : Gm.num G B I k = 0 := if_neg h
theorem box_cells (w : World) (G B I : Int) : (w.alloc (geomO G B I)).cell? ⟨w.heap.size, 0, none⟩ = some (.int .i64 G) ∧ (w.alloc (geomO G B I)).cell? ⟨w.heap.size, 1, none⟩ = some (.int .i64 B) ∧ (w.alloc (geomO G B I)).cell? ⟨w.heap.size, 2, none⟩ = some (.int .i64 I) :=
 box_ok (Below.refl _ (w.alloc (geomO G B I)))
theorem inAll_ok (G B I k : Int) (w : World) (hk : Gm.May G B I → 0 ≤ k ∧ k ≤ 256) : Calls Tryz.prog 114 #[geomV G B I, .int .i64 k] w fun e w' => e = .returned (.int .i64 (Gm.num G B I k)) ∧ Below w.heap.size w w' := by
 have HB : Below w.heap.size w (w.alloc (geomO G B I)) := (Below.refl _ _).alloc (Nat.le_refl _) _
 obtain ⟨c0, c1, c2⟩ := box_cells w G B I
 by_cases h : Gm.May G B I
 ·rw [Gm.num_pos h]
  obtain ⟨hG, hB, hI, h4, h3⟩ := h.all
  have hp := mul_le' (a := G) (b := k) (m := 8) (n := 256) (by omega) (by omega) (hk h).1 (hk h).2
  go_enter Tryz.func114, Tryz.ntmps114
  go_wp2_with (first | (go_at_call 48; refine grew_at (can_may h _) ?_; intro wn hbn; have HB := grew_trans HB hbn; have c0 := cell_kept c0 hbn))
  go_ret
  exact ⟨rfl, HB⟩
 ·rw [Gm.num_neg h]
  go_enter Tryz.func114, Tryz.ntmps114
  go_wp2_with (first | (go_at_call 48; refine grew_at (can_not h _) ?_; intro wn hbn; have HB := grew_trans HB hbn))
  go_ret
  exact ⟨rfl, HB⟩
theorem blocks_ok (G B I : Int) (w : World) : Calls Tryz.prog 49 #[geomV G B I] w fun e w' => e = .returned (.int .i64 (Gm.num G B I B)) ∧ Below w.heap.size w w' := by
 have HB : Below w.heap.size w (w.alloc (geomO G B I)) := (Below.refl _ _).alloc (Nat.le_refl _) _
 go_enter Tryz.func49, Tryz.ntmps49
 go_wp2_with (first | (go_at_call 114; refine grew_at (inAll_ok _ _ _ _ _ (fun h => by have := h.all; omega)) ?_; intro wn hbn; have HB := grew_trans HB hbn))
 go_ret
 exact ⟨rfl, HB⟩
theorem inodes_ok (G B I : Int) (w : World) : Calls Tryz.prog 144 #[geomV G B I] w fun e w' => e = .returned (.int .i64 (Gm.num G B I I)) ∧ Below w.heap.size w w' := by
 have HB : Below w.heap.size w (w.alloc (geomO G B I)) := (Below.refl _ _).alloc (Nat.le_refl _) _
 go_enter Tryz.func144, Tryz.ntmps144
 go_wp2_with (first | (go_at_call 114; refine grew_at (inAll_ok _ _ _ _ _ (fun h => by have := h.all; omega)) ?_; intro wn hbn; have HB := grew_trans HB hbn))
 go_ret
 exact ⟨rfl, HB⟩
end Go.Proofs.YthdlpeejmmobmaaGreat.Mk

namespace Go.Proofs.YthdlpeejmmobmaaGreat.Mk
open Go.RowKit
set_option maxRecDepth 100000
def Gm.In (G B I n : Int) : Prop := Gm.May G B I ∧ 0 ≤ n ∧ n < G
instance (G B I n : Int) : Decidable (Gm.In G B I n) := by unfold Gm.In; infer_instance
theorem Gm.In.bd {G B I n : Int} (h : Gm.In G B I n) : 0 ≤ n * B ∧ n * B ≤ 1792 := by
 have := h.1.all
 have h2 := h.2
 have := mul_le' (a := n) (b := B) (m := 7) (n := 256) (by omega) (by omega) (by omega) (by omega)
 omega
theorem super_in {G B I n : Int} (h : Gm.In G B I n) (w : World) : Calls Tryz.prog 139 #[geomV G B I, .int .i64 n] w fun e w' => e = .returned (.tuple #[.int .i64 (n * B), .bool true]) ∧ Below w.heap.size w w' := by
 have HB : Below w.heap.size w (w.alloc (geomO G B I)) := (Below.refl _ _).alloc (Nat.le_refl _) _
 obtain ⟨c0, c1, c2⟩ := box_cells w G B I
 have hp := h.bd
 obtain ⟨h, hn0, hn1⟩ := h
 go_enter Tryz.func139, Tryz.ntmps139
 go_wp2_with (first | (go_at_call 48; refine grew_at (can_may h _) ?_; intro wn hbn; have HB := grew_trans HB hbn; have c0 := cell_kept c0 hbn; have c1 := cell_kept c1 hbn; have c2 := cell_kept c2 hbn))
 go_ret2
 exact ⟨rfl, HB⟩
theorem header_in {G B I n : Int} (h : Gm.In G B I n) (w : World) : Calls Tryz.prog 73 #[geomV G B I, .int .i64 n] w fun e w' => e = .returned (.tuple #[.int .i64 (n * B + 1), .bool true]) ∧ Below w.heap.size w w' := by
 have HB : Below w.heap.size w (w.alloc (geomO G B I)) := (Below.refl _ _).alloc (Nat.le_refl _) _
 obtain ⟨c0, c1, c2⟩ := box_cells w G B I
 have hp := h.bd
 go_enter Tryz.func73, Tryz.ntmps73
 go_wp2_with (first | (go_at_call 139; refine grew_at (super_in h _) ?_; intro wn hbn; have HB := grew_trans HB hbn; have c0 := cell_kept c0 hbn; have c1 := cell_kept c1 hbn; have c2 := cell_kept c2 hbn))
 go_ret2
 exact ⟨rfl, HB⟩
theorem dataPlace_may {G B I : Int} (h : Gm.May G B I) (w : World) : Calls Tryz.prog 195 #[geomV G B I] w fun e w' => e = .returned (.int .i64 (2 + I / 4)) ∧ Below w.heap.size w w' :=
 (dataPlace_any G B I w).mono (by rintro e w' ⟨⟨v, rfl, hv⟩, hb⟩; exact ⟨by rw [hv (by have := h.all; omega)], hb⟩)
theorem dataBlocks_may {G B I : Int} (h : Gm.May G B I) (w : World) : Calls Tryz.prog 113 #[geomV G B I] w fun e w' => e = .returned (.int .i64 (B - (2 + I / 4))) ∧ Below w.heap.size w w' :=
 (dataBlocks_any G B I w).mono (by rintro e w' ⟨⟨v, rfl, hv⟩, hb⟩; exact ⟨by rw [hv (by have := h.all; omega)], hb⟩)
theorem data_in {G B I n : Int} (h : Gm.In G B I n) (w : World) : Calls Tryz.prog 218 #[geomV G B I, .int .i64 n] w fun e w' => e = .returned (.tuple #[.int .i64 (n * B + (2 + I / 4)), .int .i64 (B - (2 + I / 4)), .bool true]) ∧ Below w.heap.size w w' := by
 have HB : Below w.heap.size w (w.alloc (geomO G B I)) := (Below.refl _ _).alloc (Nat.le_refl _) _
 obtain ⟨c0, c1, c2⟩ := box_cells w G B I
 have hp := h.bd
 have hm := h.1.all
 go_enter Tryz.func218, Tryz.ntmps218
 go_wp2_with (first | (go_at_call 139; refine grew_at (super_in h _) ?_; intro wn hbn; have HB := grew_trans HB hbn; have c0 := cell_kept c0 hbn; have c1 := cell_kept c1 hbn; have c2 := cell_kept c2 hbn))
 have HB := HB.drew
 go_region_held3 (fun w' => w'.cell? ⟨w.heap.size, 0, none⟩ = some (.int .i64 G) ∧ w'.cell? ⟨w.heap.size, 1, none⟩ = some (.int .i64 B) ∧ w'.cell? ⟨w.heap.size, 2, none⟩ = some (.int .i64 I)) (first | exact ⟨c0, c1, c2⟩ | exact cc | exact cc')
  (first
   | (go_at_call 195; refine grew_at (dataPlace_may h.1 _) ?_; intro w1 hb1; have cc := Box.kept (w := wn.drew) ⟨c0, c1, c2⟩ hb1)
   | (go_at_call 113; refine grew_at (dataBlocks_may h.1 _) ?_; intro w2 hb2; have HB := grew_trans (grew_trans HB hb1) hb2; have cc' := Box.kept cc hb2))
 go_wp2
 go_ret3
 refine ⟨?_, HB⟩
 have e2 : IntKind.i64.wrap (n * B + (2 + I / 4)) = n * B + (2 + I / 4) := by rw [IntKind.wrap_i64]; omega
 show Ending.returned (.tuple #[.int .i64 (IntKind.i64.wrap (n * B + (2 + I / 4))), .int .i64 (B - (2 + I / 4)), .bool true]) = _
 rw [e2]
theorem tdiv_wrap {n k : Int} (h0 : 0 ≤ n) (h1 : n < 2048) (hk : 1 ≤ k) : wrap64 (n.tdiv k) = n / k := by
 rw [Int.tdiv_eq_ediv_of_nonneg h0]
 have h2 := Int.ediv_nonneg h0 (show 0 ≤ k by omega)
 have h3 := Int.ediv_le_self (b := k) (a := n) h0
 unfold wrap64
 omega
theorem split_in {n a k : Int} (h0 : 0 ≤ n) (h1 : n < a) (hk : 1 ≤ k) (hn : n < 2048) (w : World) : Calls Tryz.prog 151 #[.int .i64 n, .int .i64 a, .int .i64 k] w fun e w' => e = .returned (.tuple #[.int .i64 (n / k), .int .i64 (n % k), .bool true]) ∧ Below w.heap.size w w' := by
 have hk0 : k ≠ 0 := by omega
 go_enter Tryz.func151, Tryz.ntmps151
 go_wp2_with fail
 go_quiet (fail)
 go_wp2
 go_ret3
 refine ⟨?_, below_drewN (Below.refl _ _) _⟩
 rw [← tdiv_wrap h0 hn hk]; rfl
def Gm.Of (G B I k n : Int) : Prop := Gm.May G B I ∧ 0 ≤ n ∧ n < G * k
instance (G B I k n : Int) : Decidable (Gm.Of G B I k n) := by unfold Gm.Of; infer_instance
theorem Gm.Of.bd {G B I k n : Int} (h : Gm.Of G B I k n) (hk : 1 ≤ k) (hk2 : k ≤ 256) : 0 ≤ n / k ∧ n / k < G ∧ 0 ≤ n % k ∧ n % k < k ∧ 0 ≤ n ∧ n < 2048 := by
 obtain ⟨hm, h0, h1⟩ := h
 have := hm.all
 have hp := mul_le' (a := G) (b := k) (m := 8) (n := 256) (by omega) (by omega) (by omega) hk2
 exact ⟨Int.ediv_nonneg h0 (by omega), Int.ediv_lt_of_lt_mul (by omega) h1, Int.emod_nonneg _ (by omega), Int.emod_lt_of_pos _ (by omega), h0, by omega⟩
theorem Gm.num_out {G B I k n : Int} (h : ¬ Gm.Of G B I k n) : n < 0 ∨ Gm.num G B I k ≤ n := by
 by_cases hm : Gm.May G B I
 ·rw [Gm.num_pos hm]
  by_cases h1 : n < 0
  ·exact .inl h1
  ·right
   by_cases h2 : G * k ≤ n
   ·exact h2
   ·exact absurd ⟨hm, by omega, by omega⟩ h
 ·rw [Gm.num_neg hm]; omega
theorem owner_in {G B I n : Int} (h : Gm.Of G B I I n) (w : World) : Calls Tryz.prog 82 #[geomV G B I, .int .i64 n] w fun e w' => e = .returned (.tuple #[.int .i64 (n / I), .int .i64 (n % I), .bool true]) ∧ Below w.heap.size w w' := by
 have HB : Below w.heap.size w (w.alloc (geomO G B I)) := (Below.refl _ _).alloc (Nat.le_refl _) _
 obtain ⟨c0, c1, c2⟩ := box_cells w G B I
 have hm := h.1.all
 go_enter Tryz.func82, Tryz.ntmps82
 go_wp2_with fail
 generalize w.alloc (geomO G B I) = w0 at *
 have HB := HB.drew
 go_region_held3 (fun w' => w'.cell? ⟨w.heap.size, 0, none⟩ = some (.int .i64 G) ∧ w'.cell? ⟨w.heap.size, 1, none⟩ = some (.int .i64 B) ∧ w'.cell? ⟨w.heap.size, 2, none⟩ = some (.int .i64 I)) (first | exact ⟨c0, c1, c2⟩ | exact cc | exact cc')
  (first
   | (go_at_call 144; refine grew_at (inodes_ok _ _ _ _) ?_; intro w1 hb1; have cc := Box.kept (w := w0.drew) ⟨c0, c1, c2⟩ hb1)
   | (go_at_call 151; refine grew_at (split_in h.2.1 (by rw [Gm.num_pos h.1]; exact h.2.2) (by omega) (h.bd (by omega) (by omega)).2.2.2.2.2 _) ?_; intro w2 hb2; have HB := grew_trans (grew_trans HB hb1) hb2; have cc' := Box.kept cc hb2))
 go_wp2
 go_ret3
 exact ⟨rfl, HB⟩
theorem group_in {G B I n : Int} (h : Gm.Of G B I B n) (w : World) : Calls Tryz.prog 219 #[geomV G B I, .int .i64 n] w fun e w' => e = .returned (.tuple #[.int .i64 (n / B), .int .i64 (n % B), .bool true]) ∧ Below w.heap.size w w' := by
 have HB : Below w.heap.size w (w.alloc (geomO G B I)) := (Below.refl _ _).alloc (Nat.le_refl _) _
 obtain ⟨c0, c1, c2⟩ := box_cells w G B I
 have hm := h.1.all
 go_enter Tryz.func219, Tryz.ntmps219
 go_wp2_with fail
 generalize w.alloc (geomO G B I) = w0 at *
 have HB := HB.drew
 go_region_held3 (fun w' => w'.cell? ⟨w.heap.size, 0, none⟩ = some (.int .i64 G) ∧ w'.cell? ⟨w.heap.size, 1, none⟩ = some (.int .i64 B) ∧ w'.cell? ⟨w.heap.size, 2, none⟩ = some (.int .i64 I)) (first | exact ⟨c0, c1, c2⟩ | exact cc | exact cc')
  (first
   | (go_at_call 49; refine grew_at (blocks_ok _ _ _ _) ?_; intro w1 hb1; have cc := Box.kept (w := w0.drew) ⟨c0, c1, c2⟩ hb1)
   | (go_at_call 151; refine grew_at (split_in h.2.1 (by rw [Gm.num_pos h.1]; exact h.2.2) (by omega) (h.bd (by omega) (by omega)).2.2.2.2.2 _) ?_; intro w2 hb2; have HB := grew_trans (grew_trans HB hb1) hb2; have cc' := Box.kept cc hb2))
 go_wp2
 go_ret3
 exact ⟨rfl, HB⟩
end Go.Proofs.YthdlpeejmmobmaaGreat.Mk

namespace Go.Proofs.YthdlpeejmmobmaaGreat.Mk
open Go.RowKit
set_option maxRecDepth 100000
theorem Gm.Of.at {G B I n : Int} (h : Gm.Of G B I I n) : 0 ≤ n / I * B ∧ n / I * B ≤ 1792 ∧ 0 ≤ n / I ∧ n / I < G ∧ 0 ≤ n % I ∧ n % I < I := by
 have hm := h.1.all
 have hb := h.bd (by omega) (by omega)
 have := mul_le' (a := n / I) (b := B) (m := 7) (n := 256) (by omega) (by omega) (by omega) (by omega)
 omega
theorem inode_in {G B I n : Int} (h : Gm.Of G B I I n) (w : World) : Calls Tryz.prog 76 #[geomV G B I, .int .i64 n] w fun e w' => e = .returned (.tuple #[.int .i64 (n / I * B + 2 + n % I / 4), .int .i64 (n % I % 4 * 32), .bool true]) ∧ Below w.heap.size w w' := by
 have HB : Below w.heap.size w (w.alloc (geomO G B I)) := (Below.refl _ _).alloc (Nat.le_refl _) _
 obtain ⟨c0, c1, c2⟩ := box_cells w G B I
 have hm := h.1.all
 have hb := h.at
 generalize hq : n / I = q at *
 generalize hr : n % I = r at *
 have ho := fun w => owner_in h w
 rw [hq, hr] at ho
 clear hq hr
 go_enter Tryz.func76, Tryz.ntmps76
 go_wp2_with (first | (go_at_call 82; refine grew_at (ho _) ?_; intro wn hbn; have HB := grew_trans HB hbn; have c0 := cell_kept c0 hbn; have c1 := cell_kept c1 hbn; have c2 := cell_kept c2 hbn))
 go_ret3
 exact ⟨rfl, HB⟩
end Go.Proofs.YthdlpeejmmobmaaGreat.Mk

namespace Go.Proofs.YthdlpeejmmobmaaGreat.Mk
open Go.RowKit
set_option maxRecDepth 100000
theorem zero_list (m : Nat) : (Builtin.zeroCells (Value.int .u8 0).cells m).toList = (List.replicate m (0 : Int)).map (Value.int .u8) := by
 apply List.ext_getElem
 ·simp [Builtin.zeroCells, Value.cells]
 ·intro i h1 h2
  simp [Builtin.zeroCells, Value.cells, Nat.mod_one]
theorem zeros_own (B : Nat) (w : World) (v : Value) (n m : Nat) (xs : List Int) (h : w.ownsRow B 5 1 v n (xs.map (Value.int .u8))) (hnm : n + m = 128) (hB : B ≤ w.heap.size) (ty : TypeId) :
  ∃ g cap w', (Builtin.append_ #[42, 3] ty #[v, .int .i64 (m : Int)]).run Tryz.prog w = .ok (.slice (some ⟨g, 0, none⟩) 128 cap) w' ∧ Own B w' g 128 cap (xs ++ List.replicate m 0) ∧ w.grownBy w' v.ownBlock := by
 obtain ⟨i0, hi, hz0, hz1, hz2⟩ := info_parts info5
 have hlen : (xs ++ List.replicate m (0 : Int)).length = 128 := by have := h.1; simp at this ⊢; omega
 have hxl : xs.length = n := by have := h.1; simpa using this
 have hmap : (xs ++ List.replicate m (0 : Int)).map (Value.int .u8) = xs.map (Value.int .u8) ++ (Builtin.zeroCells (Value.int .u8 0).cells m).toList := by rw [List.map_append, zero_list]
 rcases h.2 with ⟨rfl, h0⟩ | ⟨g, cap, cur, rfl, hbg, hg, hnc, hcm, hcs, htk⟩
 ·have hm : m = 128 := by omega
  subst hm
  have hr := Lib.run_append_nil_zeros (P := Tryz.prog) w 42 3 ty 5 i0 (.int .u8 0) .i64 .i64 Tryz.underlying42 Tryz.underlying3 hi hz0 128 (by omega) (by omega) (by omega) (by rw [hz2]; omega)
  refine ⟨_, _, _, hr, ⟨by simpa using hlen, .inr ⟨_, _, _, rfl, hB, heap_alloc_new w.drew _, grownCap_ge _ _ _ _, grownCap_le_maxLen _ _ _ _ (by unfold maxLen; omega), ?_, ?_⟩⟩, ⟨rfl, rfl, rfl, by simp, fun k hk _ => Below.heap_alloc w.drew _ k hk⟩⟩
  ·have := grownCap_ge w 128 0 5
   simp [size_zeroCells, Value.cells]; omega
  ·rw [hmap]
   have hx0 : xs = [] := List.eq_nil_of_length_eq_zero (by omega)
   subst hx0
   simp only [Array.toList_append, List.map_nil, List.nil_append]
   exact List.take_left' (by simp [size_zeroCells, Value.cells])
 ·by_cases hroom : 128 ≤ cap
  ·have hw : IntKind.i64.wrap (m : Int) = m := by rw [IntKind.wrap_i64]; omega
   have hneg : ¬ ((m : Int) < 0) := by omega
   have h48 : ¬ ((281474976710656 : Int) < (m : Int)) := by omega
   have hroom' : n + m ≤ cap := by omega
   by_cases hm : m = 0
   ·subst hm
    have hn : n = 128 := by omega
    subst hn
    refine ⟨g, cap, w, ?_, ?_, ⟨rfl, rfl, rfl, Nat.le_refl _, fun _ _ _ => rfl⟩⟩
    ·have hw0 : IntKind.i64.wrap 0 = 0 := hw
     simp [Builtin.append_, run_underlying Tryz.underlying42, run_underlying Tryz.underlying3, sizeOf, typeInfo, hi, hz2, asInt, asIntOf, hroom, Addr.add_mid, storeCells, hw0]
    ·rw [List.replicate_zero, List.append_nil]
     exact h
   ·have h1 : ∀ u ∈ (Builtin.zeroCells (Value.int .u8 0).cells m).toList, u.oneCell' = true := by rw [zero_list]; exact one_cells _
    have hzl : (Builtin.zeroCells (Value.int .u8 0).cells m).toList.length = m := by rw [zero_list]; simp
    have hst := run_storeCells_at Tryz.prog g n 5 (Builtin.zeroCells (Value.int .u8 0).cells m).toList 0 cur w hg (by rw [hzl, hcs]; omega) h1
    refine ⟨g, cap, w.setRow g (cur.toList.take n ++ (Builtin.zeroCells (Value.int .u8 0).cells m).toList ++ cur.toList.drop (n + m)).toArray, ?_, ⟨by simpa using hlen, .inr ⟨g, cap, _, rfl, hbg, setRow_heap w g cur _ 5 _ hg, hroom, hcm, ?_, ?_⟩⟩, ⟨rfl, rfl, rfl, by simp, fun k _ hk => setRow_other w g k _ (fun e => hk (by simp [Value.ownBlock, e]))⟩⟩
    ·rw [Nat.add_zero, hzl] at hst
     simp [Builtin.append_, run_underlying Tryz.underlying42, run_underlying Tryz.underlying3, sizeOf, typeInfo, zeroValue, hi, hz0, hz1, hz2, asInt, asIntOf, hw, hneg, h48, hm, Addr.add_mid, hst, hnm]
     intro hc
     omega
    ·simp only [List.size_toArray, List.length_append, List.length_take, List.length_drop, Array.length_toList, hzl, hcs]; omega
    ·rw [hmap, ← htk]
     simp only [Nat.mul_one]
     have hle : (cur.toList.take n ++ (Builtin.zeroCells (Value.int .u8 0).cells m).toList).length = 128 := by rw [List.length_append, hzl, List.length_take, Array.length_toList, hcs]; omega
     exact List.take_left' hle
  ·have hm : 0 < m := by omega
   have hold : (Builtin.firstCells i0.size n (.slice (some ⟨g, 0, none⟩) n cap)).run Tryz.prog w.drew = .ok (xs.map (Value.int .u8)).toArray w.drew :=
    run_firstCells_some (P := Tryz.prog) w.drew i0.size n ⟨g, 0, none⟩ n cap _ (by rw [hz1]; simpa using h.1) (h.cells rfl)
   have hr := Lib.run_append_grow_zeros (P := Tryz.prog) w 42 3 ty 5 i0 (.int .u8 0) .i64 .i64 Tryz.underlying42 Tryz.underlying3 hi hz0 (some ⟨g, 0, none⟩) n cap (xs.map (Value.int .u8)) hold m hm (by omega) (by omega) (by omega) (by rw [hz2]; omega) (growslice_fits (by omega) (by rw [hz2]; omega))
   rw [hnm] at hr
   refine ⟨_, _, _, hr, ⟨by simpa using hlen, .inr ⟨_, _, _, rfl, hB, heap_alloc_new w.drew _, grownCap_ge _ _ _ _, grownCap_le_maxLen _ _ _ _ (by unfold maxLen; omega), ?_, ?_⟩⟩, ⟨rfl, rfl, rfl, by simp, fun k hk _ => Below.heap_alloc w.drew _ k hk⟩⟩
   ·have := grownCap_ge w 128 cap 5
    simp [size_zeroCells, Value.cells]; omega
   ·rw [hmap]
    simp only [Array.toList_append]
    exact List.take_left' (by simp [size_zeroCells, Value.cells]; omega)
end Go.Proofs.YthdlpeejmmobmaaGreat.Mk

namespace Go.Proofs.YthdlpeejmmobmaaGreat.Mk
open Go.RowKit
set_option maxRecDepth 100000
theorem heap_freeze_other (w : World) (b o k : Nat) (h : k ≠ b) : (w.freeze ⟨b, o, none⟩ 1).heap[k]? = w.heap[k]? := by
 unfold World.freeze
 rw [if_neg (by decide)]
 have h' : ¬ b = k := fun e => h e.symm
 simp [Array.getElem?_modify, h']
theorem heap_freeze_same (w : World) (b o : Nat) {cs : Array Value} {t : TypeId} {mk : Nat × Nat} (h : w.heap[b]? = some (.cells cs t mk)) : ∃ mk', (w.freeze ⟨b, o, none⟩ 1).heap[b]? = some (.cells cs t mk') := by
 unfold World.freeze
 rw [if_neg (by decide)]
 obtain ⟨lo, hi⟩ := mk
 simp [Array.getElem?_modify, h]
theorem size_freeze (w : World) (b o : Nat) : (w.freeze ⟨b, o, none⟩ 1).heap.size = w.heap.size := by
 unfold World.freeze
 rw [if_neg (by decide)]
 simp
theorem conv_at (W : World) (b n c : Nat) {cs : Array Value} {mk : Nat × Nat} (h : W.heap[b]? = some (.cells cs 5 mk)) : (convert 42 42 (.slice (some ⟨b, 0, none⟩) n c)).run Tryz.prog W = .ok (.slice (some ⟨b, 0, none⟩) n c) (W.freeze ⟨b, cs.size, none⟩ 1) := by
 simp [convert, run_underlying Tryz.underlying42, run_underlying Tryz.underlying5, markStringish, World.shape?, h]
def Lit8 (B : Nat) (w : World) (b : Nat) (xs : List Int) : Prop := B ≤ b ∧ ∃ mk, w.heap[b]? = some (.cells (xs.map (Value.int .u8)).toArray 5 mk)
theorem Lit8.bi {B : Nat} {w : World} {b : Nat} {xs : List Int} (h : Lit8 B w b xs) (hx : Num.Byt xs) (hn : xs.length ≤ 140737488355328) : BI w (some ⟨b, 0, none⟩) xs.length xs := by
 obtain ⟨_, mk, hm⟩ := h
 refine ⟨rfl, hn, hx, fun _ => ⟨b, 0, rfl, fun i hi => ?_⟩⟩
 rw [Nat.zero_add]
 simp [World.cell?, hm, List.getD_eq_getElem?_getD, List.getElem?_eq_getElem hi]
theorem conv_lit (w : World) (xs : List Int) : ∃ w', (∀ n c, (convert 42 42 (.slice (some ⟨w.heap.size, 0, none⟩) n c)).run Tryz.prog (w.alloc (.cells (xs.map (Value.int .u8)).toArray 5)) = .ok (.slice (some ⟨w.heap.size, 0, none⟩) n c) w') ∧ Lit8 w.heap.size w' w.heap.size xs ∧ Below w.heap.size w w' := by
 have h := heap_new w (.cells (xs.map (Value.int .u8)).toArray 5)
 refine ⟨_, fun n c => conv_at _ _ n c h, ⟨Nat.le_refl _, heap_freeze_same _ _ _ h⟩, ⟨rfl, rfl, rfl, by rw [size_freeze, size_alloc]; omega, fun k hk => ?_⟩⟩
 rw [heap_freeze_other _ _ _ _ (by omega), Below.heap_alloc _ _ _ hk]
theorem wpList_append_grow {w : World} {ops : Array Oper} {rest : List Oper} {o : Oper} {a : Act} {Q : Exit → Act → World → Prop} (hgd : o.guard = none) (s x : Operand)
  (ho : o.op = .call { callee := .builtin .append, args := #[s, x], argTypes := #[42, 3] }) (b n m : Nat) (xs : List Int) (hs : a.eval s = .slice (some ⟨b, 0, none⟩) n n) (hx : a.eval x = .int .i64 (m : Int)) (hbi : BI w (some ⟨b, 0, none⟩) n xs) (hnm : n + m = 128) (hm : 0 < m)
  (h : ∀ g cap w', Own w.heap.size w' g 128 cap (xs ++ zers m) → Below w.heap.size w w' → wpList Tryz.prog ops Q rest (a.put o.dst (.slice (some ⟨g, 0, none⟩) 128 cap)) w') : wpList Tryz.prog ops Q (o :: rest) a w := by
 obtain ⟨i0, hi, hz0, hz1, hz2⟩ := info_parts info5
 have hxl := hbi.len
 have hlen : (xs ++ zers m).length = 128 := by simp [zers_len]; omega
 have hmap : (xs ++ zers m).map (Value.int .u8) = xs.map (Value.int .u8) ++ (Builtin.zeroCells (Value.int .u8 0).cells m).toList := by rw [List.map_append, zero_list]; rfl
 have hold : (Builtin.firstCells i0.size n (.slice (some ⟨b, 0, none⟩) n n)).run Tryz.prog w.drew = .ok (xs.map (Value.int .u8)).toArray w.drew :=
  run_firstCells_some (P := Tryz.prog) w.drew i0.size n ⟨b, 0, none⟩ n n _ (by rw [hz1]; simpa using hxl) (by
   intro j v hj
   by_cases h0 : 0 < n
   ·obtain ⟨ad, e, hc⟩ := (hbi.kept (below_drewN (Below.refl _ _) 1)).src h0
    cases e
    exact hc j v hj
   ·have : xs = [] := List.eq_nil_of_length_eq_zero (by omega)
    subst this
    simp at hj)
 have hr := Lib.run_append_grow_zeros (P := Tryz.prog) w 42 3 o.type 5 i0 (.int .u8 0) .i64 .i64 Tryz.underlying42 Tryz.underlying3 hi hz0 (some ⟨b, 0, none⟩) n n (xs.map (Value.int .u8)) hold m hm (by omega) (by omega) (by omega) (by rw [hz2]; omega) (growslice_fits (by omega) (by rw [hz2]; omega))
 rw [hnm] at hr
 refine wpList_plain hgd fun _ hK => ?_
 unfold Oper.wp execOp
 simp only [ho, resolve, invoke, builtin, Sem.run_bind, Sem.run_pure, Result.andThen_ok, List.map_toArray, List.map_cons, List.map_nil, hs, hx, hr]
 refine hK _ _ (h _ _ _ ⟨by simpa using hlen, .inr ⟨_, _, _, rfl, Nat.le_refl _, heap_alloc_new w.drew _, grownCap_ge _ _ _ _, grownCap_le_maxLen _ _ _ _ (by unfold maxLen; omega), ?_, ?_⟩⟩ ⟨rfl, rfl, rfl, by simp, fun k hk => Below.heap_alloc w.drew _ k hk⟩)
 ·have := grownCap_ge w 128 n 5
  simp [size_zeroCells, Value.cells]; omega
 ·rw [hmap]
  simp only [Array.toList_append]
  exact List.take_left' (by simp [size_zeroCells, Value.cells]; omega)
end Go.Proofs.YthdlpeejmmobmaaGreat.Mk
