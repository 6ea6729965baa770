/- I2 I3 KFan KDFan I4 I5 I6 IU J0 J1 C2 C1 -/
import Derived.Test.YthdlpeejmmobmaaGreatYC33
import Derived.Test.YthdlpeejmmobmaaGreatYC22
import Derived.Test.YthdlpeejmmobmaaGreatYC29
import Derived.Test.YthdlpeejmmobmaaGreatYC26
import Derived.Deep.MidRow
import Derived.Laws.MakeOwn

namespace Go.Proofs.YthdlpeejmmobmaaGreat
open Go.RowKit Go.Maps
set_option linter.unusedVariables false
set_option maxRecDepth 100000
section
variable [Inhabited Past] {w w' : World} {v : Nat} {F : Nat → Prop} {N : Nat} {I : Nat → List Int} {l c G B Q : Nat}
set_option maxHeartbeats 4000000 in
theorem iput_ok (h : Vol w v F N I l c) (hg : Geo G B Q N) {n : Nat} (hn : n < G * Q) (hl1 : l + 1 ≤ 10000) (m s1 s2 a1 a2 a3 a4 i1 i2 : Int) (hd : Mk.DMay m s1 s2 a1 a2 a3 a4 i1 i2)
  (q : Option Addr) (mm d : Nat) (zs : List Int) (hz : Pt.II w q mm zs) (hqv : ∀ k, Pt.blkOf q = some k → k ≠ v) (hk : zs.all (Pt.kn l) = true) (hm : mm ≤ 100000) :
  Calls Tryz.prog 32 #[.pointer (some ⟨v, 0, none⟩), Mk.geomV G B Q, .int .i64 (n : Int), Mk.dinV m s1 s2 a1 a2 a3 a4 i1 i2, .slice q mm d] w fun e w' => e = .returned (.tuple #[.int .i64 ((l + 1 : Nat) : Int), .int .i64 0]) ∧ ∃ F', Vol w' v F' N (updI I (iP B Q n) (iA Q n) (Mk.dinB m s1 s2 a1 a2 a3 a4 i1 i2)) (l + 1) c ∧ Pt.Stp F F' w w' := by
 have hfit := hg.fit
 have hP := iP_lt hg hn
 have hA : iA Q n + 32 ≤ 128 := by unfold iA; omega
 obtain ⟨W, hW⟩ : ∃ W, (w.alloc (Mk.geomO G B Q)).alloc (.cells #[.int .i64 m, .int .i64 s1, .int .i64 s2, .int .i64 a1, .int .i64 a2, .int .i64 a3, .int .i64 a4, .int .i64 i1, .int .i64 i2] 75) = W := ⟨_, rfl⟩
 have hb : Below w.heap.size w W := by rw [← hW]; exact ((Below.refl _ _).alloc (Nat.le_refl _) _).alloc (by simp) _
 have hx : W.heap[w.heap.size]? = some (Mk.geomO G B Q) := by rw [← hW]; exact at_old (at_new rfl)
 have hd0 : W.heap[w.heap.size + 1]? = some (.cells #[.int .i64 m, .int .i64 s1, .int .i64 s2, .int .i64 a1, .int .i64 a2, .int .i64 a3, .int .i64 a4, .int .i64 i1, .int .i64 i2] 75 (0, 0)) := by rw [← hW]; exact at_new (by simp)
 have hsz : W.heap.size = w.heap.size + 2 := by rw [← hW]; simp
 have hi75 : (Tryz.prog.info? 75).map (·.size) = some (#[.int .i64 m, .int .i64 s1, .int .i64 s2, .int .i64 a1, .int .i64 a2, .int .i64 a3, .int .i64 a4, .int .i64 i1, .int .i64 i2] : Array Value).size := by kernel_rfl
 have c0 := (g3_of hx).c0
 have c1 := (g3_of hx).c1
 have c2 := (g3_of hx).c2
 have hlt := h.lt
 have hv := h.later hb
 have hzW := hz.kept hb
 have hrf := irefusalInode_ok hv hg hn 0 (by omega)
 have hio := fun w => Mk.inode_in (G := (G : Int)) (B := B) (I := Q) (n := (n : Int)) ⟨hg.may, by omega, by exact_mod_cast hn⟩ w
 have e1 : (n : Int) / (Q : Int) * (B : Int) + 2 + (n : Int) % (Q : Int) / 4 = ((iP B Q n : Nat) : Int) := by unfold iP; push_cast; rfl
 have e2 : (n : Int) % (Q : Int) % 4 * 32 = ((iA Q n : Nat) : Int) := by unfold iA; push_cast; rfl
 rw [e1, e2] at hio
 obtain ⟨P, hPe⟩ : ∃ P, iP B Q n = P := ⟨_, rfl⟩
 obtain ⟨A, hAe⟩ : ∃ A, iA Q n = A := ⟨_, rfl⟩
 rw [hPe] at hP hio ⊢
 rw [hAe] at hA hio ⊢
 have hen := fun w => Mk.encodeDinode_yes m s1 s2 a1 a2 a3 a4 i1 i2 hd w
 have HV : Hid (Vol W v F N I l c ∧ Below w.heap.size w W ∧ (∀ k, F k → k < w.heap.size) ∧ Pt.II W q mm zs) := ⟨hv, hb, hlt, hzW⟩
 clear hv h hlt hb e1 e2 hPe hAe hz hzW
 go_enter Tryz.func32, Tryz.ntmps32
 go_wp2_with (first
  | (go_at_call 75; refine Mk.grew_at hrf ?_; intro w1 hb1; have hx1 := (hb1.block _ (Array.getElem?_eq_some_iff.1 hx).1).trans hx; have c0 := (g3_of hx1).c0; have c1 := (g3_of hx1).c1; have c2 := (g3_of hx1).c2; have hd1 := (hb1.block _ (Array.getElem?_eq_some_iff.1 hd0).1).trans hd0)
  | (refine wpList_load_row rfl 75 _ rfl (w.heap.size + 1) rfl 75 _ (0, 0) _ hd1 Tryz.underlying75 rfl hi75 ?_))
 refine Calls.mono (hen _) ?_
 rintro e w2 ⟨g, cap, rfl, hO, hb2⟩
 have hx2 := (hb2.block _ (Array.getElem?_eq_some_iff.1 hx1).1).trans hx1
 have c0 := (g3_of hx2).c0
 have c1 := (g3_of hx2).c1
 have c2 := (g3_of hx2).c2
 dsimp only
 go_wp2_with fail
 refine Mk.grew_at (hio _) ?_
 intro w3 hb3
 dsimp only
 go_wp2_with fail
 have hbW3 : Below W.heap.size W w3 := hb1.trans ((hb2.mono hb1.size).trans (hb3.mono (by have := hb1.size; have := hb2.size; omega)))
 have hO3 := hO.kept hb3
 have hby : Mk.Num.Byt (Mk.dinB m s1 s2 a1 a2 a3 a4 i1 i2) := Mk.dinB_byt m s1 s2 a1 a2 a3 a4 i1 i2
 have hbi := mk_bi (hO3.bi (by omega) hby)
 have hgl := hO.base_le
 have hch := vol_change (HV.out.1.later hbW3) hl1 P A hP (some ⟨g, 0, none⟩) 32 cap _ hbi (fun k hk e => by
  simp [Pt.blkOf] at hk
  have h1 := HV.out.2.2.1 v HV.out.1.mem
  have h2 := hb1.size
  omega) (by omega) hA q mm d zs (HV.out.2.2.2.kept hbW3) hqv hk hm
 refine Calls.mono hch ?_
 rintro e w4 ⟨rfl, F4, hv4, hst4⟩
 dsimp only
 go_wp2_with fail
 go_ret2
 exact ⟨rfl, F4, hv4, stp_after (HV.out.2.1.trans (hbW3.mono (by omega))) hst4⟩
end
end Go.Proofs.YthdlpeejmmobmaaGreat

namespace Go.Proofs.YthdlpeejmmobmaaGreat
open Go.RowKit Go.Maps
set_option linter.unusedVariables false
set_option maxRecDepth 100000
theorem mayHave_ok (i : Nat) (h : i < 4164) (w : World) : Calls Tryz.prog 78 #[.int .i64 (i : Int)] w fun e w' => e = .returned (.bool true) ∧ w' = w := by
 have h1 : (0 : Int) ≤ (i : Int) := by omega
 have h2 : (i : Int) < 4164 := by omega
 go_enter Tryz.func78, Tryz.ntmps78
 go_wp2_with fail
 go_ret
 exact ⟨rfl, rfl⟩
end Go.Proofs.YthdlpeejmmobmaaGreat

namespace Go.Proofs.YthdlpeejmmobmaaGreat.Mk
open Go.RowKit
set_option maxRecDepth 100000
set_option linter.unusedVariables false
def fanL (zs : List Int) : List Int := putsTo (zers 128) 0 2 zs 64
theorem fanL_len (zs : List Int) : (fanL zs).length = 128 := by unfold fanL; rw [putsTo_len, zers_len]
theorem ads_at {zs : List Int} (h : Ads zs) (j : Nat) : 0 ≤ zs.getD j 0 ∧ zs.getD j 0 ≤ 2047 := by
 rw [List.getD_eq_getElem?_getD]
 cases e : zs[j]? with
 | none => simp
 | some z => simpa using h z (List.mem_of_getElem? e)
end Go.Proofs.YthdlpeejmmobmaaGreat.Mk

namespace Go.Proofs.YthdlpeejmmobmaaGreat.Mk
open Go.RowKit
set_option maxRecDepth 100000
set_option linter.unusedVariables false
def fanZ (xs : List Int) : List Int := (List.range 64).map (fun j => Num.numD xs (2 * j) 2)
theorem fanZ_len (xs : List Int) : (fanZ xs).length = 64 := by simp [fanZ]
theorem fanZ_at (xs : List Int) (i : Nat) (h : i < 64) : (fanZ xs)[i]? = some (Num.numD xs (2 * i) 2) := by simp [fanZ, List.getElem?_range h]
theorem fill_at (cs : Array Value) (o : Nat) (f : Nat → Int) : ∀ (n i : Nat), i < n → o + n ≤ cs.size → (fill cs o f n)[o + i]? = some (.int .i64 (f i))
 | n + 1, i, hi, hs => by
  rw [fill]
  by_cases e : i = n
  ·subst e
   rw [Array.getElem?_setIfInBounds_self_of_lt (by rw [fill_size]; omega)]
  ·rw [Array.getElem?_setIfInBounds_ne (by omega)]
   exact fill_at cs o f n i (by omega) (by omega)
def znum (N : Nat) : List Value := List.replicate N (Value.int .i64 0)
theorem znum_at (N i : Nat) (h : i < N) : (znum N).toArray[i]? = some (Value.int .i64 0) := by simp [znum, h]
theorem znum_no (N : Nat) (x : Int) (i : Nat) : (znum N).toArray[i]? ≠ some (Value.int .u8 x) := by
 by_cases h : i < N
 ·rw [znum_at N i h]; simp
 ·simp [znum, h]
theorem znum_size (N : Nat) : (znum N).toArray.size = N := by simp [znum]
theorem made_nums (N : Nat) : (madeCells (Value.int .i64 0).cells (N * 1)).toList = znum N := by
 unfold znum
 rw [Nat.mul_one]
 apply List.ext_getElem
 ·simp [madeCells]
 ·intro i h1 h2
  simp [madeCells, Value.cells, Nat.mod_one]
def FanRead (xs : List Int) (w : World) (e : Ending) (w' : World) : Prop :=
 (Ads (fanZ xs) ∧ ∃ q d, e = .returned (.tuple #[.slice q 64 d, .int .i64 0]) ∧ II w' q 64 (fanZ xs) ∧ Below w.heap.size w w') ∨ (¬ Ads (fanZ xs) ∧ e = .returned (.tuple #[.slice none 0 0, .int .i64 6]) ∧ Below w.heap.size w w')
theorem own_row3 {w : World} {B g n : Nat} {L : List Value} (h : w.ownsRow B 3 1 (.slice (some ⟨g, 0, none⟩) n n) n L) : w.heap[g]? = some (.cells L.toArray 3 (0, 0)) := by
 rcases h.2 with ⟨h', _⟩ | ⟨g', cap', cur, h', _, hg, _, _, hcs, ht⟩
 ·simp at h'
 ·simp only [Value.slice.injEq, Option.some.injEq, Addr.mk.injEq, and_true, true_and] at h'
  obtain ⟨rfl, rfl⟩ := h'
  rw [List.take_of_length_le (by simp; omega)] at ht
  subst ht
  simpa using hg
theorem filled {p : Option Addr} (w w1 : World) (xs : List Int) (h : BI w1 p 128 xs) (c : Nat) (hown : w1.heap[w.heap.size]? = some (.cells (znum 64).toArray 3 (0, 0))) (hb : Below w.heap.size w w1) :
  Calls Tryz.prog 226 #[.slice p 128 c] w1 fun e w2 => ∃ rb, e = .returned (.pointer (some ⟨rb, 0, none⟩)) ∧ Calls Tryz.prog 235 #[.pointer (some ⟨rb, 0, none⟩), .int .i64 2, .slice (some ⟨w.heap.size, 0, none⟩) 64 64] w2 fun e w3 => e = .returned (.tuple #[]) ∧ II w3 (some ⟨w.heap.size, 0, none⟩) 64 (fanZ xs) ∧ Below w.heap.size w w3 := by
 have hlt : w.heap.size < w1.heap.size := (Array.getElem?_eq_some_iff.1 hown).1
 refine (over_ok w1 p 128 c xs h).mono ?_
 rintro e w2 ⟨rb, rfl, hlo, hr, hb2⟩
 refine ⟨rb, rfl, ?_⟩
 have hc2 : w2.heap[w.heap.size]? = some (.cells (znum 64).toArray 3 (0, 0)) := (hb2.block _ hlt).trans hown
 refine (takeAll_ok w2 rb w.heap.size 0 64 2 128 64 xs _ 3 hr hc2 ?_ (by omega) (by omega) (by omega) (by omega) (by omega) ?_).mono ?_
 ·exact fun x j => znum_no 64 x j
 ·intro j hj
  exact ⟨0, by rw [Nat.zero_add]; exact znum_at 64 j hj⟩
 ·rintro e w3 ⟨rfl, h3, _, h2⟩
  refine ⟨rfl, ⟨fanZ_len xs, by omega, fun _ => ⟨_, _, rfl, fun i hi => ?_⟩⟩, ?_⟩
  ·have := fill_at (znum 64).toArray 0 (fun j => Num.numD xs (2 * j) 2) 64 i hi (by rw [znum_size]; omega)
   rw [Nat.zero_add] at this ⊢
   rw [cell_row h3 i _ this, List.getD_eq_getElem?_getD, fanZ_at xs i hi]
   rfl
  ·have hbb := h2.below (B := w.heap.size) (by omega) (Nat.le_refl _) (Nat.le_trans hb.size hb2.size)
   exact (hb.trans (hb2.mono hb.size)).trans hbb
set_option maxRecDepth 10000 in
set_option maxHeartbeats 400000 in
theorem decodeFan_ok (p : Option Addr) (c : Nat) (xs : List Int) (w : World) (h : BI w p 128 xs) :
  Calls Tryz.prog 243 #[.slice p 128 c] w (FanRead xs w) := by
 obtain ⟨i0, hi, hz0, hz1, hz2⟩ := info_parts info3
 go_enter Tryz.func243, Tryz.ntmps243
 go_wp2_with (first
  | (at_make; (refine wpList_make_full _ rfl _ _ 49 rfl w.heap.size 3 i0 (.int .i64 0) 1 Tryz.underlying49 hi hz0 hz1 .i64 .i64 _ _ 64 rfl rfl rfl rfl (by rw [hz2]; omega) (by unfold maxLen; omega) (Nat.le_refl _) ?_; intro w1 hown1 hgrow1; have hb1 := (Below.refl _ w).grown hgrow1 (Nat.le_refl _) (by intro k hk; cases hk); have hrow := own_row3 hown1; rw [made_nums 64] at hrow; have hf := filled w w1 xs (h.kept hb1) c hrow hb1; clear hown1 hgrow1 hrow))
  | (go_at_call 226; refine Calls.mono hf ?_; rintro e w2 ⟨rb, rfl, hf2⟩)
  | (go_at_call 235; refine Calls.mono hf2 ?_; rintro e w3 ⟨rfl, hii, hb3⟩; have ha := areAd_ok _ 64 64 _ w3 hii))
 by_cases hA : Ads (fanZ xs)
 ·rw [decide_eq_true hA] at ha
  refine same_at ha ?_
  go_wp2_with fail
  go_ret2
  exact Or.inl ⟨hA, _, _, rfl, hii, hb3⟩
 ·rw [decide_eq_false hA] at ha
  refine same_at ha ?_
  go_wp2_with fail
  go_ret2
  exact Or.inr ⟨hA, rfl, hb3⟩
end Go.Proofs.YthdlpeejmmobmaaGreat.Mk

namespace Go.Proofs.YthdlpeejmmobmaaGreat
open Go.RowKit Go.Maps
set_option linter.unusedVariables false
set_option maxRecDepth 100000
section
variable [Inhabited Past] {w w' : World} {v : Nat} {F : Nat → Prop} {N : Nat} {I : Nat → List Int} {l c G B Q : Nat}
set_option maxHeartbeats 2000000 in
theorem readFan_ok (h : Vol w v F N I l c) (b : Nat) (hb : b < N) (hc : c < 4611686018427387904) :
  Calls Tryz.prog 161 #[.pointer (some ⟨v, 0, none⟩), .int .i64 (b : Int)] w fun e w' => ∃ F', Vol w' v F' N I l (c + 1) ∧ Pt.Stp F F' w w' ∧
   ((Mk.Ads (Mk.fanZ (I b)) ∧ ∃ q d, e = .returned (.tuple #[.slice q 64 d, .int .i64 0]) ∧ Mk.II w' q 64 (Mk.fanZ (I b))) ∨ (¬ Mk.Ads (Mk.fanZ (I b)) ∧ e = .returned (.tuple #[.slice none 0 0, .int .i64 6]))) := by
 have hrd := vol_read h b hb hc
 have hsec := (h.sect b).2
 clear h
 go_enter Tryz.func161, Tryz.ntmps161
 go_wp2_with fail
 refine Calls.mono hrd ?_
 rintro e w1 ⟨q, cap, F2, rfl, hO, hq, hv1, hst1⟩
 dsimp only
 go_wp2_with fail
 refine Calls.mono (Mk.decodeFan_ok _ cap _ w1 (bi_mk (hO.bi (by omega) hsec))) ?_
 intro e w2 hf
 rcases hf with ⟨hA, q2, d2, rfl, hII, hb2⟩ | ⟨hA, rfl, hb2⟩
 ·dsimp only
  go_wp2_with fail
  go_ret2
  exact ⟨F2, hv1.later hb2, stp_grown hst1 hb2, .inl ⟨hA, q2, d2, rfl, hII⟩⟩
 ·dsimp only
  go_wp2_with fail
  go_ret2
  exact ⟨F2, hv1.later hb2, stp_grown hst1 hb2, .inr ⟨hA, rfl⟩⟩
end
end Go.Proofs.YthdlpeejmmobmaaGreat

namespace Go.Proofs.YthdlpeejmmobmaaGreat
open Go.RowKit Go.Maps
set_option linter.unusedVariables false
set_option maxRecDepth 100000
theorem fieldAddr_ok (x o : Nat) (a : Int) (u : Value) (w : World) (h : w.cell? ⟨x, o, none⟩ = some (.int .i64 a)) : Calls Tryz.prog 336 #[.agg #[.pointer (some ⟨x, o, none⟩)], u] w fun e w' => e = .returned (.tuple #[.int .i64 a, .int .i64 0]) ∧ Below w.heap.size w w' := by
 have hb := Mk.grew_alloc w (.cells #[.pointer (some ⟨x, o, none⟩)] 239)
 have h2 := Mk.cell_kept h hb
 go_enter Tryz.func336, Tryz.ntmps336
 go_wp2_with fail
 go_ret2
 exact ⟨rfl, hb⟩
section
variable [Inhabited Past] {w w' : World} {v : Nat} {F : Nat → Prop} {N : Nat} {I : Nat → List Int} {l c G B Q : Nat}
set_option maxHeartbeats 2000000 in
theorem leafAddr_ok (h : Vol w v F N I l c) (b k : Nat) (hb : b < N) (hk : k < 64) (hA : Mk.Ads (Mk.fanZ (I b))) (hc : c < 4611686018427387904) :
  Calls Tryz.prog 341 #[.agg #[.int .i64 (b : Int), .int .i64 (k : Int)], .pointer (some ⟨v, 0, none⟩)] w fun e w' => e = .returned (.tuple #[.int .i64 ((Mk.fanZ (I b)).getD k 0), .int .i64 0]) ∧ ∃ F', Vol w' v F' N I l (c + 1) ∧ Pt.Stp F F' w w' := by
 obtain ⟨W, hW⟩ : ∃ W, w.alloc (.cells #[.int .i64 (b : Int), .int .i64 (k : Int)] 346) = W := ⟨_, rfl⟩
 have hbW : Below w.heap.size w W := by rw [← hW]; exact Mk.grew_alloc _ _
 have hr : W.heap[w.heap.size]? = some (.cells #[.int .i64 (b : Int), .int .i64 (k : Int)] 346 (0, 0)) := by rw [← hW]; exact at_new rfl
 have c0 := cell_of_row _ _ 0 _ _ _ hr
 have c1 := cell_of_row _ _ 1 _ _ _ hr
 have hrd := readFan_ok (h.later hbW) b hb hc
 have hlt := h.lt
 clear h
 go_enter Tryz.func341, Tryz.ntmps341
 go_wp2_with fail
 refine Calls.mono hrd ?_
 rintro e w1 ⟨F2, hv1, hst1, ⟨_, q, d, rfl, hII⟩ | ⟨hn, rfl⟩⟩
 ·have hr1 := (hst1.fr.block _ (Array.getElem?_eq_some_iff.1 hr).1 (fun hf => by have := hlt _ hf; omega)).trans hr
  have c0' := cell_of_row _ _ 0 _ _ _ hr1
  have c1' := cell_of_row _ _ 1 _ _ _ hr1
  obtain ⟨qb, qo, rfl, hcl⟩ := hII.cells (by omega)
  have hck := hcl k hk
  have hkI : (k : Int) < 64 := by omega
  dsimp only
  go_wp2_with fail
  go_ret2
  exact ⟨rfl, F2, hv1, stp_after hbW hst1⟩
 ·exact absurd hA hn
end
end Go.Proofs.YthdlpeejmmobmaaGreat

namespace Go.Proofs.YthdlpeejmmobmaaGreat
open Go.RowKit Go.Maps
set_option linter.unusedVariables false
set_option maxRecDepth 100000
theorem isLast_ok (x : Value) (hx : x.oneCell' = true) (q : Option Addr) (n d : Nat) (w : World) : Calls Tryz.prog 148 #[.agg #[x, .slice q n d]] w fun e w' => e = .returned (.bool (decide (n = 0))) ∧ Below w.heap.size w w' := by
 have hb := Mk.grew_alloc w (.cells #[x, .slice q n d] 154)
 have c1 : (w.alloc (.cells #[x, .slice q n d] 154)).cell? ⟨w.heap.size, 1, none⟩ = some (.slice q n d) := cell_of_row _ _ 1 _ _ _ (at_new rfl)
 go_enter Tryz.func148, Tryz.ntmps148
 go_wp2_with fail
 have e : ((n : Int) == 0) = decide (n = 0) := by
  by_cases h : n = 0
  ·subst h; rfl
  ·rw [decide_eq_false h, beq_eq_false_iff_ne]; omega
 rw [e]
 go_ret
 exact ⟨rfl, hb⟩
end Go.Proofs.YthdlpeejmmobmaaGreat

namespace Go.Proofs.YthdlpeejmmobmaaGreat
open Go.RowKit Go.Maps
set_option linter.unusedVariables false
set_option maxRecDepth 100000
structure Full (P : List Pt.Pv) (L : Nat) : Prop where
 srt : P.Pairwise (fun p q => p.id < q.id)
 ids : ∀ p ∈ P, 1 ≤ p.id ∧ p.id ≤ L
 len : P.length = L
theorem Full.ge {P : List Pt.Pv} {L : Nat} (h : Full P L) : ∀ (i : Nat) (hi : i < P.length), i + 1 ≤ P[i].id
 | 0, hi => (h.ids _ (List.getElem_mem hi)).1
 | i + 1, hi => by
  have h1 := h.ge i (by omega)
  have h2 := List.pairwise_iff_getElem.1 h.srt i (i + 1) (by omega) hi (by omega)
  omega
theorem Full.le {P : List Pt.Pv} {L : Nat} (h : Full P L) : ∀ (j i : Nat) (hi : i < P.length), i + j + 1 = L → P[i].id + j ≤ L
 | 0, i, hi, _ => (h.ids _ (List.getElem_mem hi)).2
 | j + 1, i, hi, e => by
  have hl := h.len
  have h1 := h.le j (i + 1) (by omega) (by omega)
  have h2 := List.pairwise_iff_getElem.1 h.srt i (i + 1) (by omega) (by omega) (by omega)
  omega
theorem Full.at_ {P : List Pt.Pv} {L : Nat} (h : Full P L) (i : Nat) (hi : i < P.length) : P[i].id = i + 1 := by
 have h1 := h.ge i hi
 have hl := h.len
 have h2 := h.le (L - 1 - i) i hi (by omega)
 omega
theorem Full.some {P : List Pt.Pv} {L : Nat} (h : Full P L) (k : Int) (h0 : 0 < k) (h1 : k ≤ (L : Int)) : (Pt.fP P k).isSome = true := by
 have hl := h.len
 have hi : (k - 1).toNat < P.length := by omega
 unfold Pt.fP
 rw [List.find?_isSome]
 refine ⟨_, List.getElem_mem hi, ?_⟩
 rw [h.at_ _ hi]
 simp; omega
theorem Full.up {P : List Pt.Pv} {L : Nat} (h : Full P L) (m : Nat) : Pt.upP P m = P.take m := by
 unfold Pt.upP
 rw [← List.take_append_drop m P, List.filter_append, List.filter_eq_self.2, List.filter_eq_nil_iff.2, List.append_nil, List.take_append_drop]
 ·intro p hp
  obtain ⟨i, hi, e⟩ := List.getElem_of_mem hp
  rw [List.getElem_drop] at e
  rw [← e, h.at_]
  simp; omega
 ·intro p hp
  obtain ⟨i, hi, e⟩ := List.getElem_of_mem hp
  rw [List.length_take] at hi
  rw [List.getElem_take] at e
  rw [← e, h.at_]
  simp; omega
theorem full_of {g : Int} {B : Nat} {w : World} {A : At} {T : Vs} (h : VI g B w A T) (hl : T.P.length = T.last) : Full T.P T.last :=
 ⟨h.ps.srt, fun p hp => ⟨(h.ps.ids p hp).1, (h.ps.ids p hp).2.1⟩, hl⟩
def markOf (l : Nat) (I : Nat → List Int) : Past := ⟨some (l, I)⟩
section
variable {w w' : World} {v : Nat} {F : Nat → Prop} {N : Nat} {I J : Nat → List Int} {l m c : Nat}
theorem vol_mark (h : Vol w v F N I l c) : @Vol ⟨markOf l I⟩ w v F N I l c := by
 obtain ⟨B, A, T, hv, e1, e2, e3, hx, hY, e4, rfl, hP, e5, _⟩ := h.ex
 refine @Vol.mk ⟨markOf T.last I⟩ _ _ _ _ _ _ _ ⟨B, A, T, hv, e1, e2, e3, hx, hY, e4, rfl, hP, e5, ?_⟩
 intro m J hp
 have hp' : some (T.last, I) = some (m, J) := hp
 cases hp'
 refine ⟨Nat.le_refl _, ?_⟩
 rw [(full_of hv hP).up, List.take_of_length_le (by omega), e4]
theorem vol_plain {U : Inhabited Past} (h : @Vol U w v F N I l c) : @Vol noPast w v F N I l c := by
 obtain ⟨B, A, T, hv, e1, e2, e3, hx, hY, e4, rfl, hP, e5, _⟩ := @Vol.ex U _ _ _ _ _ _ _ h
 exact @Vol.mk noPast _ _ _ _ _ _ _ ⟨B, A, T, hv, e1, e2, e3, hx, hY, e4, rfl, hP, e5, fun m J h => by cases h⟩
theorem vol_undo (h : @Vol ⟨markOf m J⟩ w v F N I l c) :
  Calls Tryz.prog 84 #[.pointer (some ⟨v, 0, none⟩), .int .i64 (m : Int)] w fun e w' => e = .returned (.int .i64 0) ∧ ∃ F', Vol w' v F' N J m c ∧ Pt.Stp F F' w w' := by
 obtain ⟨B, A, T, hv, rfl, rfl, rfl, hx, hY, rfl, rfl, hP, rfl, hM⟩ := @Vol.ex ⟨markOf m J⟩ _ _ _ _ _ _ _ h
 obtain ⟨hm, hJ⟩ := hM m J rfl
 have hf := full_of hv hP
 refine (vUndo_ok hv hY m hm (fun k h1 h2 => hf.some k (by omega) h2)).mono ?_
 rintro e w1 ⟨rfl, K', hv1, hst⟩
 refine ⟨rfl, _, ⟨B, A, _, hv1, rfl, rfl, rfl, hx, hY, hJ.symm, rfl, ?_, rfl, fun m J h => by cases h⟩, hst⟩
 show (Pt.upP T.P m).length = m
 rw [hf.up, List.length_take]
 omega
end
end Go.Proofs.YthdlpeejmmobmaaGreat

namespace Go.Proofs.YthdlpeejmmobmaaGreat
set_option linter.unusedVariables false
def kid (j p : Nat) : Nat := if j = 4 then 6 + p else if j = 5 then 70 + p else 134 + 64 * (j - 70) + p
def inner (j : Nat) : Prop := j = 4 ∨ j = 5 ∨ (70 ≤ j ∧ j < 134)
theorem kid_lt {j p : Nat} (hj : inner j) (hp : p < 64) : 6 ≤ kid j p ∧ kid j p < 4230 ∧ kid j p ≠ j := by
 unfold kid
 rcases hj with rfl | rfl | hj
 ·simp; omega
 ·simp; omega
 ·rw [if_neg (by omega), if_neg (by omega)]; omega
def updV (val : Nat → Nat) (s b : Nat) : Nat → Nat := fun i => if i = s then b else val i
theorem updV_same (val : Nat → Nat) (s b : Nat) : updV val s b s = b := if_pos rfl
theorem updV_ne (val : Nat → Nat) {s i : Nat} (b : Nat) (h : i ≠ s) : updV val s b i = val i := if_neg h
structure Tre (A : Nat → Nat → Int) (val : Nat → Nat) : Prop where
 live : ∀ j, inner j → val j ≠ 0 → ∀ p, p < 64 → A (val j) p = (val (kid j p) : Int)
 dead : ∀ j, inner j → val j = 0 → ∀ p, p < 64 → val (kid j p) = 0
 inj : ∀ i j, i < 4230 → j < 4230 → val i ≠ 0 → val i = val j → i = j
theorem inner_lt {j : Nat} (h : inner j) : j < 4230 := by unfold inner at h; omega
theorem Tre.step {A A' : Nat → Nat → Int} {val : Nat → Nat} (h : Tre A val) {s b : Nat} (hs : s < 4230) (h0 : val s = 0) (hb : b ≠ 0) (hf : ∀ i, i < 4230 → val i ≠ b)
  (hp : ∀ j p, inner j → p < 64 → kid j p = s → val j ≠ 0) (hz : ∀ p, p < 64 → A' b p = 0) (hl : ∀ j p, inner j → p < 64 → kid j p = s → A' (val j) p = (b : Int))
  (he : ∀ j p, inner j → val j ≠ 0 → p < 64 → kid j p ≠ s → A' (val j) p = A (val j) p) : Tre A' (updV val s b) := by
 refine ⟨fun j hj hv p hp6 => ?_, fun j hj hv p hp6 => ?_, fun i j hi hj hv e => ?_⟩
 ·have hk := kid_lt hj hp6
  by_cases hjs : j = s
  ·subst hjs
   rw [updV_same, updV_ne _ _ hk.2.2, hz p hp6, h.dead j hj h0 p hp6]; rfl
  ·rw [updV_ne _ _ hjs] at hv ⊢
   by_cases hks : kid j p = s
   ·rw [hks, updV_same]; exact hl j p hj hp6 hks
   ·rw [updV_ne _ _ hks, he j p hj hv hp6 hks]; exact h.live j hj hv p hp6
 ·by_cases hjs : j = s
  ·subst hjs
   rw [updV_same] at hv; exact absurd hv hb
  ·rw [updV_ne _ _ hjs] at hv
   have hks : kid j p ≠ s := fun e => hp j p hj hp6 e hv
   rw [updV_ne _ _ hks]; exact h.dead j hj hv p hp6
 ·by_cases his : i = s
  ·subst his
   by_cases hjs : j = i
   ·exact hjs.symm
   ·rw [updV_same, updV_ne _ _ hjs] at e
    exact absurd e.symm (hf j hj)
  ·rw [updV_ne _ _ his] at hv e
   by_cases hjs : j = s
   ·subst hjs
    rw [updV_same] at e
    exact absurd e (hf i hi)
   ·rw [updV_ne _ _ hjs] at e
    exact h.inj i j hi hj hv e
def slotOf (n : Nat) : Nat := if n < 4 then n else if n < 68 then n + 2 else n + 66
end Go.Proofs.YthdlpeejmmobmaaGreat

namespace Go.Proofs.YthdlpeejmmobmaaGreat.Mk.Num
open Go.RowKit
set_option linter.unusedVariables false
theorem sum_congr {xs ys : List Int} (m : Nat) (h : ∀ i, i < m → xs.getD i 0 = ys.getD i 0) : ∀ k, k ≤ m → lo xs k = lo ys k ∧ hi xs k = hi ys k := by
 intro k
 induction k with
 | zero => intro _; exact ⟨rfl, rfl⟩
 | succ k ih =>
  intro hk
  obtain ⟨i1, i2⟩ := ih (by omega)
  have e : lo xs (k + 1) = lo ys (k + 1) := by
   show (lo xs k + xs.getD k 0) % 65521 = (lo ys k + ys.getD k 0) % 65521
   rw [i1, h k (by omega)]
  refine ⟨e, ?_⟩
  show (hi xs k + lo xs (k + 1)) % 65521 = (hi ys k + lo ys (k + 1)) % 65521
  rw [i2, e]
theorem sum_same {xs ys : List Int} (m : Nat) (h : ∀ i, i < m → xs.getD i 0 = ys.getD i 0) : sum xs m = sum ys m := by
 obtain ⟨h1, h2⟩ := sum_congr m h m (Nat.le_refl _)
 unfold sum
 rw [h1, h2]
end Go.Proofs.YthdlpeejmmobmaaGreat.Mk.Num
namespace Go.Proofs.YthdlpeejmmobmaaGreat.Mk
open Go.RowKit
theorem num_out (xs : List Int) (b m : Nat) (v : Int) (a k : Nat) (h : a + k ≤ b ∨ b + m ≤ a) : Num.numD (Num.putTo xs b v m) a k = Num.numD xs a k :=
 Num.numD_congr k a fun i hi => Num.putTo_out xs b v m (a + i) (by omega)
theorem num_outs (xs : List Int) (b m : Nat) (zs : List Int) (n : Nat) (a k : Nat) (h : a + k ≤ b ∨ b + m * n ≤ a) : Num.numD (putsTo xs b m zs n) a k = Num.numD xs a k := by
 induction n with
 | zero => rfl
 | succ n ih =>
  rw [Nat.mul_succ] at h
  rw [putsTo, num_out _ _ _ _ _ _ (by omega), ih (by omega)]
theorem num_ins (xs : List Int) (b m : Nat) (zs : List Int) (n j : Nat) (hj : j < n) (hl : b + m * n ≤ xs.length) (h0 : 0 ≤ zs.getD j 0) (h1 : zs.getD j 0 < 256 ^ m) : Num.numD (putsTo xs b m zs n) (b + m * j) m = zs.getD j 0 := by
 induction n with
 | zero => omega
 | succ n ih =>
  rw [Nat.mul_succ] at hl
  rw [putsTo]
  by_cases e : j = n
  ·subst e
   exact Num.num_put _ _ _ _ (by rw [putsTo_len]; omega) h0 h1
  ·have : m * (j + 1) ≤ m * n := Nat.mul_le_mul_left m (by omega)
   rw [Nat.mul_succ] at this
   rw [num_out _ _ _ _ _ _ (by omega), ih (by omega) (by omega)]
theorem ads_of {zs : List Int} (h : Ads zs) (j : Nat) : 0 ≤ zs.getD j 0 ∧ zs.getD j 0 < 256 ^ 2 := by
 have := ads_at h j
 omega
theorem seal_seals (xs : List Int) (n : Nat) (hn : 4 ≤ n) (hl : xs.length = n) :
  (Num.numD (Num.putTo xs (n - 4) (Num.sum xs (n - 4)) 4) (n - 4) 4 == Num.sum (Num.putTo xs (n - 4) (Num.sum xs (n - 4)) 4) (n - 4)) = true := by
 have hs := Num.sum_bd xs (n - 4)
 rw [Num.num_put xs (n - 4) _ 4 (by omega) hs.1 (by simpa using hs.2), Num.sum_same (n - 4) (fun i hi => Num.putTo_out xs (n - 4) (Num.sum xs (n - 4)) 4 i (by omega))]
 simp
theorem din_says {m l s a b c d i j : Int} (h : UMay l s a b c d i j) (hm : 0 ≤ m ∧ m < 256) : Num.numD (dinS m l s a b c d i j) 0 1 = m ∧ rdV (dinS m l s a b c d i j) = dinV m l s a b c d i j ∧ (Num.numD (dinS m l s a b c d i j) 28 4 == Num.sum (dinS m l s a b c d i j) 28) = true := by
 have hl := dinL_len m l s a b c d i j
 have e : dinS m l s a b c d i j = Num.putTo (dinL m l s a b c d i j) 28 (Num.sum (dinL m l s a b c d i j) 28) 4 := by unfold dinS sealL; rw [hl]
 have hi := ads_of h.2.2.2 0
 have hj := ads_of h.2.2.2 1
 have z0 : (zers 32).length = 32 := zers_len 32
 have e0 : Num.numD (dinS m l s a b c d i j) 0 1 = m := by
  rw [e, num_out _ _ _ _ _ _ (by omega)]
  unfold dinL
  rw [num_out _ _ _ _ _ _ (by omega), num_out _ _ _ _ _ _ (by omega), num_outs _ _ _ _ _ _ _ (by omega), num_out _ _ _ _ _ _ (by omega), num_out _ _ _ _ _ _ (by omega)]
  exact Num.num_put _ _ _ _ (by omega) hm.1 (by omega)
 have e1 : Num.numD (dinS m l s a b c d i j) 2 2 = l := by
  rw [e, num_out _ _ _ _ _ _ (by omega)]
  unfold dinL
  rw [num_out _ _ _ _ _ _ (by omega), num_out _ _ _ _ _ _ (by omega), num_outs _ _ _ _ _ _ _ (by omega), num_out _ _ _ _ _ _ (by omega)]
  exact Num.num_put _ _ _ _ (by rw [Num.putTo_length]; omega) h.1.1 (by have := h.1.2; omega)
 have e2 : Num.numD (dinS m l s a b c d i j) 4 4 = s := by
  rw [e, num_out _ _ _ _ _ _ (by omega)]
  unfold dinL
  rw [num_out _ _ _ _ _ _ (by omega), num_out _ _ _ _ _ _ (by omega), num_outs _ _ _ _ _ _ _ (by omega)]
  exact Num.num_put _ _ _ _ (by simp only [Num.putTo_length]; omega) h.2.1.1 (by have := h.2.1.2; omega)
 have ej : ∀ k, k < 4 → Num.numD (dinS m l s a b c d i j) (8 + 2 * k) 2 = [a, b, c, d].getD k 0 := by
  intro k hk
  have hv := ads_of h.2.2.1 k
  rw [e, num_out _ _ _ _ _ _ (by omega)]
  unfold dinL
  rw [num_out _ _ _ _ _ _ (by omega), num_out _ _ _ _ _ _ (by omega)]
  exact num_ins _ _ _ _ _ _ hk (by simp only [Num.putTo_length]; omega) hv.1 hv.2
 have e8 : Num.numD (dinS m l s a b c d i j) 16 2 = i := by
  rw [e, num_out _ _ _ _ _ _ (by omega)]
  unfold dinL
  rw [num_out _ _ _ _ _ _ (by omega)]
  exact Num.num_put _ _ _ _ (by rw [putsTo_len]; simp only [Num.putTo_length]; omega) hi.1 hi.2
 have e9 : Num.numD (dinS m l s a b c d i j) 18 2 = j := by
  rw [e, num_out _ _ _ _ _ _ (by omega)]
  unfold dinL
  exact Num.num_put _ _ _ _ (by rw [Num.putTo_length, putsTo_len]; simp only [Num.putTo_length]; omega) hj.1 hj.2
 refine ⟨e0, ?_, ?_⟩
 ·unfold rdV
  rw [e0, e1, e2, e8, e9, show Num.numD (dinS m l s a b c d i j) 8 2 = a from ej 0 (by omega), show Num.numD (dinS m l s a b c d i j) 10 2 = b from ej 1 (by omega), show Num.numD (dinS m l s a b c d i j) 12 2 = c from ej 2 (by omega), show Num.numD (dinS m l s a b c d i j) 14 2 = d from ej 3 (by omega)]
 ·have := seal_seals (dinL m l s a b c d i j) 32 (by omega) hl
  rw [e]
  exact this
theorem dinode_back {m l s a b c d i j : Int} (h : DMay m l s a b c d i j) : ddE 32 (dinB m l s a b c d i j) = 0 ∧ ddV 32 (dinB m l s a b c d i j) = dinV m l s a b c d i j := by
 by_cases h0 : m = 0
 ·subst h0
  obtain ⟨rfl, rfl, rfl, rfl, rfl, rfl, rfl, rfl⟩ := dmay_zero h
  have e : dinB 0 0 0 0 0 0 0 0 0 = zers 32 := by unfold dinB; rw [if_pos rfl]
  rw [e]
  have hE : ddE 32 (zers 32) = 0 := by unfold ddE; rw [if_neg (by omega), if_pos rfl]
  refine ⟨hE, ?_⟩
  unfold ddV
  rw [if_pos hE]
  unfold rdV
  simp only [numD_zers]
 ·have e : dinB m l s a b c d i j = dinS m l s a b c d i j := by unfold dinB; rw [if_neg h0]
  have hU : UMay l s a b c d i j := by
   unfold DMay at h
   rcases h with h | h | h
   ·exact absurd h.1 h0
   ·exact h.2
   ·exact h.2.1
  have hm : 0 ≤ m ∧ m < 256 := by unfold DMay at h; omega
  obtain ⟨e0, eV, eS⟩ := din_says hU hm
  rw [e]
  have hz : ¬ dinS m l s a b c d i j = zers 32 := by
   intro k
   rw [k, numD_zers] at e0
   exact h0 e0.symm
  have hR : RGood (dinS m l s a b c d i j) := by
   unfold RGood
   unfold rdV at eV
   have := eV
   simp only [Value.agg.injEq, Array.mk.injEq, List.cons.injEq, Value.int.injEq, true_and, and_true] at this
   obtain ⟨q0, q1, q2, q3, q4, q5, q6, q7, q8⟩ := this
   rw [q0, q1, q2, q3, q4, q5, q6, q7, q8]
   exact ⟨h, e⟩
  have hE : ddE 32 (dinS m l s a b c d i j) = 0 := by
   unfold ddE
   rw [if_neg (by omega), if_neg hz, if_neg (by rw [eS]; simp), if_pos hR]
  refine ⟨hE, ?_⟩
  unfold ddV
  rw [if_pos hE, eV]
end Go.Proofs.YthdlpeejmmobmaaGreat.Mk

namespace Go.Proofs.YthdlpeejmmobmaaGreat
open Go.RowKit Go.Maps
open Mk.Al (putY rowOf fN eN lo zc)
set_option maxRecDepth 100000
set_option linter.unusedVariables false
def zn (p : Nat → Bool) (f : Nat) : Nat → Nat
 | 0 => 0
 | k + 1 => zn p f k + if p (f + k) then 0 else 1
theorem zn_le (p : Nat → Bool) (f : Nat) : ∀ k, zn p f k ≤ k
 | 0 => Nat.le_refl _
 | k + 1 => by
  have := zn_le p f k
  simp only [zn]
  split <;> omega
theorem zc_zn (xs : List Int) (f : Nat) : ∀ k, zc xs f (f + k) = (zn (Mk.Bit.on xs) f k : Int)
 | 0 => by simp [zc, zn]
 | k + 1 => by
  have ih := zc_zn xs f k
  unfold zc at ih ⊢
  have hc : Mk.Bit.count xs (f + (k + 1)) = Mk.Bit.count xs (f + k) + (if Mk.Bit.on xs (f + k) then 1 else 0) := rfl
  have hz : zn (Mk.Bit.on xs) f (k + 1) = zn (Mk.Bit.on xs) f k + (if Mk.Bit.on xs (f + k) then 0 else 1) := rfl
  rw [hc, hz]
  cases Mk.Bit.on xs (f + k) <;> simp <;> omega
theorem zn_congr {p q : Nat → Bool} {f : Nat} : ∀ {k}, (∀ j, f ≤ j → j < f + k → p j = q j) → zn p f k = zn q f k
 | 0, _ => rfl
 | k + 1, h => by
  simp only [zn]
  rw [zn_congr (k := k) (fun j h1 h2 => h j h1 (by omega)), h (f + k) (by omega) (by omega)]
def fre (H : Nat → List Int) (r : Bool) (B Q n : Nat) : Nat := zn (Mk.Bit.on (rowOf r (H n))) (fN r Q n) (eN r B Q - fN r Q n)
theorem fre_zc {G B Q n : Nat} (hm : Mk.Gm.May (G : Int) B Q) (H : Nat → List Int) (r : Bool) : zc (rowOf r (H n)) (fN r Q n) (eN r B Q) = (fre H r B Q n : Int) := by
 have := (Mk.Al.fe_lt hm r n).1
 unfold fre
 rw [← zc_zn]
 congr 1
 omega
def tot (H : Nat → List Int) (r : Bool) (B Q : Nat) : Nat → Nat
 | 0 => 0
 | k + 1 => tot H r B Q k + fre H r B Q k
theorem tot_le {H : Nat → List Int} {r : Bool} {B Q : Nat} (hB : eN r B Q ≤ 256) : ∀ {k}, tot H r B Q k ≤ 256 * k
 | 0 => Nat.le_refl _
 | k + 1 => by
  have h1 := tot_le (H := H) (r := r) (B := B) (Q := Q) hB (k := k)
  have h2 := zn_le (Mk.Bit.on (rowOf r (H k))) (fN r Q k) (eN r B Q - fN r Q k)
  simp only [tot]
  unfold fre
  omega
end Go.Proofs.YthdlpeejmmobmaaGreat

namespace Go.Proofs.YthdlpeejmmobmaaGreat
open Go.RowKit Go.Maps
set_option maxRecDepth 100000
set_option linter.unusedVariables false
theorem heap_setCells (b : Nat) : ∀ (vs : List Value) (o : Nat) (w : World), (w.setCells b o vs).heap.size = w.heap.size ∧ (w.setCells b o vs).os = w.os ∧ (w.setCells b o vs).tape = w.tape ∧ (w.setCells b o vs).output = w.output ∧ ∀ k, k ≠ b → (w.setCells b o vs).heap[k]? = w.heap[k]?
 | [], o, w => ⟨rfl, rfl, rfl, rfl, fun _ _ => rfl⟩
 | v :: r, o, w => by
  obtain ⟨h1, h2, h3, h4, h5⟩ := heap_setCells b r (o + 1) (w.setCell ⟨b, o, none⟩ v)
  refine ⟨h1.trans (by simp [World.setCell]), h2.trans rfl, h3.trans rfl, h4.trans rfl, fun k hk => (h5 k hk).trans ?_⟩
  simp only [World.setCell, Array.getElem?_modify]
  rw [if_neg (fun e => hk e.symm)]
theorem below_setCells {B : Nat} {a w : World} (h : Below B a w) (b : Nat) (hb : B ≤ b) (o : Nat) (vs : List Value) : Below B a (w.setCells b o vs) := by
 obtain ⟨h1, h2, h3, h4, h5⟩ := heap_setCells b vs o w
 exact ⟨h2.trans h.os, h3.trans h.tape, h4.trans h.output, by rw [h1]; exact h.size, fun k hk => (h5 k (by omega)).trans (h.block k hk)⟩
structure Hrow (w : World) (b G k : Nat) (H : Nat → List Int) : Prop where
 there : w.there b 0 (41 * G)
 row : ∀ n, n < k → w.rangeAt b (n * 41) (Mk.groupA n (H n)).toList
theorem Hrow.keep {w w' : World} {b G k : Nat} {H : Nat → List Int} (h : Hrow w b G k H) (hb : w'.heap[b]? = w.heap[b]?) : Hrow w' b G k H :=
 ⟨fun j hj => by have := h.there j hj; simp only [World.cell?, World.frozen?, hb] at this ⊢; exact this, fun n hn j v hv => by have := h.row n hn j v hv; simp only [World.cell?, hb] at this ⊢; exact this⟩
theorem Hrow.put {w : World} {b G k : Nat} {H : Nat → List Int} (h : Hrow w b G k H) (hk : k < G) (hl : ∀ n, n ≤ k → (H n).length = 40) : Hrow (w.setCells b (k * 41) (Mk.groupA k (H k)).toList) b G (k + 1) H := by
 have hs : ∀ n, n ≤ k → (Mk.groupA n (H n)).toList.length = 41 := fun n hn => by rw [Array.length_toList]; exact Mk.groupA_size _ _ (hl n hn)
 refine ⟨World.there_setCells h.there _ _ _, fun n hn => ?_⟩
 by_cases e : n = k
 ·subst e
  exact World.rangeAt_setCells_same _ _ _ _ (fun j hj => by
   have := hs n (Nat.le_refl _)
   have h2 := h.there (n * 41 + j) (by omega)
   rw [Nat.zero_add] at h2
   exact h2)
 ·exact World.rangeAt_setCells_apart (h.row n (by omega)) _ _ _ (.inr (.inl (by rw [hs n (by omega)]; omega)))
theorem Hrow.at_ {w : World} {b G k : Nat} {H : Nat → List Int} (h : Hrow w b G k H) (hk : k < G) : w.there b (k * 41) 41 := fun j hj => by
 have h2 := h.there (k * 41 + j) (by omega)
 rw [Nat.zero_add] at h2
 exact h2
theorem hrow_new {w : World} {b G : Nat} {Z : Array Value} (h : w.heap[b]? = some (.cells Z 64 (0, 0))) (hz : Z.size = 41 * G) (H : Nat → List Int) : Hrow w b G 0 H :=
 ⟨fun j hj => by
  have hj' : j < Z.size := by omega
  simp [World.cell?, World.frozen?, h, Array.getElem?_eq_getElem hj'], fun n hn => absurd hn (by omega)⟩
theorem info64 : (Tryz.prog.info? 64).map (fun i => (i.zero, i.size, i.bytes)) = some (some (Mk.groupV 0 (Mk.zers 40)), 41, 48) := by kernel_rfl
theorem made_hdrs {G : Nat} (hG : G ≤ 8) : ∃ Z, Z.size = 41 * G ∧ ∀ w : World, (Instr.makeSlice 131 (.int .i64 (G : Int)) (.int .i64 (G : Int))).run Tryz.prog w = .ok (.slice (some ⟨w.heap.size, 0, none⟩) G G) (w.alloc (.cells Z 64)) := by
 obtain ⟨i0, hi, hz0, hz1, hz2⟩ := Mk.info_partsS info64
 refine ⟨madeCells (Mk.groupV 0 (Mk.zers 40)).cells (G * i0.size), by rw [size_madeCells, hz1]; omega, fun w => ?_⟩
 have h := run_make (P := Tryz.prog) w 131 64 i0 _ Tryz.underlying131 hi hz0 .i64 .i64 (G : Int) (G : Int) (by omega) (by omega) (by rw [hz2]; omega) (by omega)
 simpa using h
end Go.Proofs.YthdlpeejmmobmaaGreat
