/- A12 AO B0 B0b -/
import Derived.Test.YthdlpeejmmobmaaGreatAn39
import Derived.Test.YthdlpeejmmobmaaGreatRows
import Derived.Test.YthdlpeejmmobmaaGreatAn04
import Derived.Deep.Slices
import Derived.Deep.Grids
import Derived.ProofKit
import Derived.OpenShut
import Derived.ShutString
import Derived.ChangeOld
import Derived.SizedLaws
import Derived.Lib.SmallJoins

/- A new volume by its blocks and headers; a header turned. -/
namespace Go.Proofs.YthdlpeejmmobmaaGreat
open Go.RowKit Go.Maps
set_option linter.unusedVariables false
set_option maxRecDepth 100000

/-- A new volume's blocks now. -/
def nimg (g b i : Nat) : Nat → List Int := nowOf (T0 g b i)
theorem nimg_at {g b i k : Nat} (hk : k < g * b) : nimg g b i k = Mk.img g b i k := by
 have e : nimg g b i k = Pt.ovrs (Pt.ofB [] (k : Int)) (part (imgL (Mk.img g b i) (g * b)) (g * b) k) := rfl
 rw [e]
 have e2 : part (imgL (Mk.img g b i) (g * b)) (g * b) k = Mk.img g b i k := by
  unfold part imgL
  rw [if_pos hk, List.getD_eq_getElem?_getD, List.getElem?_map, List.getElem?_range hk]
  rfl
 rw [e2]
 rfl
theorem img_head {g b i n : Nat} (hm : Mk.Gm.May (g : Int) b i) (hn : n < g) : Mk.img g b i (n * b + 1) = Mk.groupL (n : Int) (Mk.hdY i n) := by
 have := hm.all
 have hb : 1 < b := by omega
 have h1 : (n * b + 1) % b = 1 := by rw [Nat.add_comm, Nat.add_mul_mod_self_right]; exact Nat.mod_eq_of_lt hb
 have h2 : (n * b + 1) / b = n := by rw [Nat.add_comm, Nat.add_mul_div_right _ _ (by omega), Nat.div_eq_of_lt hb]; omega
 have h3 : n * b + 1 ≠ 2 ∧ n * b + 1 ≠ 2 + i / 4 := by
  rcases Nat.eq_zero_or_pos n with rfl | hp
  ·omega
  ·have : b ≤ n * b := Nat.le_mul_of_pos_left b hp
   omega
 unfold Mk.img Mk.rtL
 rw [if_neg h3.1, if_neg h3.2]
 unfold Mk.blF
 rw [h1, if_pos rfl, h2]
theorem geo_of {g b i : Nat} (hm : Mk.Gm.May (g : Int) b i) : Geo g b i (g * b) := ⟨hm, rfl⟩
theorem hds_new {g b i : Nat} (hm : Mk.Gm.May (g : Int) b i) : Hds (nimg g b i) g b (Mk.hdY i) :=
 ⟨fun n hn => (nimg_at (by have := (geo_of hm).hd hn (show 1 < b by have := hm.all; omega); exact this)).trans (img_head hm hn), fun n _ => Mk.hdY_len i n, fun n _ => Mk.hdY_byt i n⟩
/-- What Fresh leaves. -/
theorem fr_vol {w w' : World} {g b i : Nat} {e : Ending} (h : FrP w g b i e w') : ∃ p v F, ∃ pd px py : Value, e = .returned (.tuple #[.pointer (some ⟨p, 0, none⟩), Mk.geomV g b i, .bool true]) ∧ w'.heap[p]? = some (.cells #[pd, .pointer (some ⟨v, 0, none⟩), px, py] 33 (0, 0)) ∧ Vol w' v F (g * b) (nimg g b i) 0 0 ∧ (∀ k, F k → w.heap.size ≤ k ∧ k ≠ p) ∧ w.heap.size ≤ p ∧ Below w.heap.size w w' := by
 obtain ⟨p, xd, y, A, B, e1, hp, hV, hF, hlo, hb⟩ := h
 exact ⟨p, A.v, _, _, _, _, e1, hp, ⟨B, A, _, hV, rfl, rfl, rfl, rfl, rfl, rfl, rfl, rfl, rfl⟩, hF, hlo, hb⟩

/-- The headers with one written over. -/
def updH (H : Nat → List Int) (n : Nat) (ys : List Int) : Nat → List Int := fun k => if k = n then ys else H k
theorem hds_put {I : Nat → List Int} {G B : Nat} {H : Nat → List Int} (h : Hds I G B H) (hB : 1 < B) (n : Nat) {ys : List Int} (hl : ys.length = 40) (hy : Mk.Num.Byt ys) : Hds (putH I B n ys) G B (updH H n ys) := by
 refine ⟨fun k hk => ?_, fun k hk => ?_, fun k hk => ?_⟩
 ·unfold putH updH
  by_cases e : k = n
  ·subst e
   rw [if_pos rfl, if_pos rfl]
  ·have : k * B + 1 ≠ n * B + 1 := fun h9 => e (Nat.eq_of_mul_eq_mul_right (show 0 < B by omega) (by omega))
   rw [if_neg this, if_neg e]
   exact h.at_ k hk
 ·unfold updH
  split
  ·exact hl
  ·exact h.len k hk
 ·unfold updH
  split
  ·exact hy
  ·exact h.byt k hk
end Go.Proofs.YthdlpeejmmobmaaGreat

/- What the rows of this seat lean on; a geometry that came in as an argument is three numbers. -/
namespace Go.Proofs.YthdlpeejmmobmaaGreat
open Go.ChangeShapes Go.WideShapes Go.ChangeAt Go.RowKit Go.Joins
set_option linter.unusedVariables false
set_option maxRecDepth 100000

theorem ownKnob_none : ownKnob Tryz.prog.godebug = none := by kernel_rfl
theorem laid_out : laidOutB Tryz.prog = true := by kernel_rfl
theorem cells23 : Tryz.prog.cellsOf 23 = 3 := by kernel_rfl

theorem open_geom {H : Type} {enc : TypeId × Value → H} {W : World} {base : Nat} {v : Value} {d : DataW H} {p : List MemPlace} (hv : Value.okWide Tryz.prog W .any base 23 v)
  (h : DataW.Trod enc Tryz.prog W 0 (fun _ => true) true 23 v d p) : ∃ G B I, v = Mk.geomV G B I := by
 obtain ⟨c0, c1, c2, y0, y1, y2, m, rfl, rfl, rfl, hy0, hy1, hy2⟩ := open_agg3 Tryz.underlying23 (by kernel_rfl) cells23 hv h
 obtain ⟨a, e0, _, _⟩ := DataW.trod_int Tryz.underlying3 hy0
 obtain ⟨b, e1, _, _⟩ := DataW.trod_int Tryz.underlying3 hy1
 obtain ⟨c, e2, _, _⟩ := DataW.trod_int Tryz.underlying3 hy2
 simp at e0 e1 e2
 subst e0 e1 e2
 exact ⟨a, b, c, rfl⟩

theorem bytes3 : Tryz.prog.bytesOf 3 = 8 := by kernel_rfl
theorem cells3 : Tryz.prog.cellsOf 3 = 1 := by kernel_rfl

theorem rng_of_wf {x : Int} (h : (Lit.int .i64 x).wf = true) : -9223372036854775808 ≤ x ∧ x ≤ 9223372036854775807 := by
 simp [Lit.wf, IntKind.min, IntKind.max, IntKind.signed, IntKind.bits] at h
 omega

theorem weightsAll_mem {H : Type} {P : Program} {e : TypeId} {d : DataW H} {x : Nat} (hx : x ∈ d.weights P e) : ∀ {l : List (DataW H)}, d ∈ l → x ∈ DataW.weightsAll P e l
 | [], h => by cases h
 | y :: r, h => by
  simp only [DataW.weightsAll, List.mem_append]
  rcases List.mem_cons.1 h with rfl | h'
  ·exact .inl hx
  ·exact .inr (weightsAll_mem hx h')

section
variable {H : Type} {enc : TypeId × Value → H} {W : World}

/-- One cell that reads as bytes. -/
theorem open_ii {v : Value} {d : DataW H} {pl : List MemPlace} {n : Nat} (h : DataW.trod enc Tryz.prog W 0 (fun _ => true) true n 49 [v] = some (d, pl)) (hw : ∀ x ∈ d.weights Tryz.prog 49, x ≤ reachBytes) :
  ∃ p m c xs, v = .slice p m c ∧ m ≤ c ∧ c ≤ 9223372036854775807 ∧ m * 8 ≤ 140737488351232 ∧ Pt.II W p m xs := by
 rcases open_ints Tryz.underlying49 Tryz.underlying3 cells3 h with ⟨hcs, _⟩ | ⟨x, l, c, zs, hcs, _, hl, hm, hz, hx, hcell, hwz⟩
 ·simp at hcs
  subst hcs
  exact ⟨none, 0, 0, [], rfl, Nat.le_refl _, by omega, by omega, ⟨rfl, by omega, by simp, fun h => by omega⟩⟩
 ·simp at hcs
  subst hcs
  simp only [Prod.mk.injEq] at hx
  obtain ⟨rfl, _⟩ := hx
  simp only [if_true] at hz
  have hw1 := hw (((lits IntKind.i64 (zs.take l) : List (DataW H)).length + (lits IntKind.i64 (zs.drop l) : List (DataW H)).length) * 8) (by simp [DataW.weights, Tryz.underlying49, bytes3])
  simp only [lits, List.length_map, List.length_take, List.length_drop, reachBytes] at hw1
  unfold maxLen at hm
  refine ⟨some x, l, c, zs.take l, rfl, hl, by omega, by omega, ⟨by rw [List.length_take]; omega, by omega, fun y hy => rng_of_wf (hwz y (List.mem_of_mem_take hy)), fun hn => ?_⟩⟩
  obtain ⟨b, off, spot⟩ := x
  have hc := hcell 0 (by omega)
  have hspot : spot = none := by simpa [Addr.add] using World.cell?_spot hc
  subst hspot
  refine ⟨b, off, rfl, fun i hi => ?_⟩
  have hci := hcell i (by omega)
  rw [Addr.add_mid] at hci
  rw [hci, getD_take _ _ _ hi]

theorem open_i {v : Value} {d : DataW H} {pl : List MemPlace} {n : Nat} (h : DataW.trod enc Tryz.prog W 0 (fun _ => true) true n 3 [v] = some (d, pl)) : ∃ x, v = .int .i64 x ∧ -9223372036854775808 ≤ x ∧ x ≤ 9223372036854775807 := by
 obtain ⟨x, e, _, hw⟩ := DataW.trod_int Tryz.underlying3 h
 simp at e
 exact ⟨x, e, rng_of_wf hw⟩

set_option maxRecDepth 10000 in
/-- Six cells that read as a call. -/
theorem open_nums {a0 : Option Addr} {len0 cap0 : Nat} {d0 : DataW H} {p0 : List MemPlace} {ts : List TypeId} {ds : List (DataW H)} {j : Nat}
  (h0 : DataW.Trod enc Tryz.prog W 0 (fun _ => true) true 49 (.slice a0 len0 cap0) d0 p0)
  (hsz : (DataW.weightsEach Tryz.prog ts ds).all (· ≤ reachBytes) = true) (ht : ts[j]? = some 49) (hd : ds[j]? = some d0) : ∃ xs, Pt.II W a0 len0 xs := by
 obtain ⟨fuel, hf⟩ := h0
 have hall : ∀ x ∈ d0.weights Tryz.prog 49, x ≤ reachBytes := fun x hx => by
  have := List.all_eq_true.1 hsz x (DataW.weights_mem_each ht hd x hx)
  simpa using this
 obtain ⟨p, m, c, xs, e, _, _, _, h⟩ := open_ii (v := .slice a0 len0 cap0) (by simpa [Value.cells] using hf) hall
 obtain ⟨rfl, rfl, rfl⟩ := Value.slice.inj e
 exact ⟨xs, h⟩
end
end Go.Proofs.YthdlpeejmmobmaaGreat

/- Bytes that differ; a row of rows as it is read. -/
namespace Go.Proofs.YthdlpeejmmobmaaGreat
open Go.RowKit Go.Maps
set_option linter.unusedVariables false
set_option maxRecDepth 100000

/-- How many of the first m bytes differ. -/
def df (xs ys : List Int) : Nat → Nat
 | 0 => 0
 | m + 1 => df xs ys m + if xs.getD m 0 = ys.getD m 0 then 0 else 1
/-- How many bytes of the first k blocks differ. -/
def dfI (I J : Nat → List Int) : Nat → Nat
 | 0 => 0
 | k + 1 => dfI I J k + df (I k) (J k) 128
theorem df_le (xs ys : List Int) : ∀ m, df xs ys m ≤ m
 | 0 => Nat.le_refl _
 | m + 1 => by
  have := df_le xs ys m
  unfold df
  split <;> omega
theorem dfI_le (I J : Nat → List Int) : ∀ k, dfI I J k ≤ 128 * k
 | 0 => Nat.le_refl _
 | k + 1 => by
  have := dfI_le I J k
  have := df_le (I k) (J k) 128
  unfold dfI
  omega
theorem df_same (xs : List Int) : ∀ m, df xs xs m = 0
 | 0 => rfl
 | m + 1 => by unfold df; rw [df_same xs m, if_pos rfl]
theorem df_one {xs ys : List Int} {p : Nat} (hne : xs.getD p 0 ≠ ys.getD p 0) (he : ∀ j, j ≠ p → xs.getD j 0 = ys.getD j 0) : ∀ m, df xs ys m = if p < m then 1 else 0
 | 0 => by rw [if_neg (Nat.not_lt_zero _)]; rfl
 | m + 1 => by
  unfold df
  rw [df_one hne he m]
  by_cases h : m = p
  ·subst h
   rw [if_neg (Nat.lt_irrefl _), if_neg hne, if_pos (Nat.lt_succ_self _)]
  ·rw [if_pos (he m h)]
   by_cases h2 : p < m
   ·rw [if_pos h2, if_pos (by omega)]
   ·rw [if_neg h2, if_neg (by omega)]
theorem dfI_same {I J : Nat → List Int} : ∀ k, (∀ q, q < k → I q = J q) → dfI I J k = 0
 | 0, _ => rfl
 | k + 1, h => by
  unfold dfI
  rw [dfI_same k (fun q hq => h q (by omega)), h k (by omega), df_same]
theorem dfI_one {I J : Nat → List Int} {p : Nat} (h1 : df (I p) (J p) 128 = 1) (he : ∀ q, q ≠ p → I q = J q) : ∀ k, p < k → dfI I J k = 1
 | 0, h => absurd h (Nat.not_lt_zero _)
 | k + 1, h => by
  unfold dfI
  by_cases e : p = k
  ·subst e
   rw [dfI_same p (fun q hq => he q (by omega)), h1]
  ·rw [dfI_one h1 he k (by omega), he k (by omega), df_same]
theorem df_put {xs : List Int} (hx : Mk.Num.Byt xs) {i : Nat} (hi : i / 8 < xs.length) (h128 : xs.length = 128) (ho : Mk.Bit.on xs i = false) : df (Mk.Bit.put xs i true) xs 128 = 1 := by
 have hon := Mk.Bit.put_on hx hi true
 have e : df (Mk.Bit.put xs i true) xs 128 = if i / 8 < 128 then 1 else 0 := by
  refine df_one (fun he => ?_) (fun j hj => ?_) 128
  ·have : Mk.Bit.on (Mk.Bit.put xs i true) i = Mk.Bit.on xs i := by unfold Mk.Bit.on; rw [he]
   rw [hon, ho] at this
   cases this
  ·unfold Mk.Bit.put
   simp only [List.getD_eq_getElem?_getD]
   rw [List.getElem?_set_ne (by omega)]
 rw [e, if_pos (by omega)]
/-- One byte turns when a bit of a header is set. -/
theorem dfI_put {I : Nat → List Int} {G B Q N : Nat} (hg : Geo G B Q N) {H : Nat → List Int} (hH : Hds I G B H) (hs : ∀ k, Sect (I k)) {n i : Nat} (hn : n < G) (hi : i < Mk.Al.eN false B Q) (ho : Mk.Bit.on (Mk.Al.rowOf false (H n)) i = false) :
  dfI (putH I B n (Mk.Al.putY false (H n) i true)) I N = 1 := by
 have hfit := hg.fit
 have hfe := Mk.Al.fe_lt hg.may false n
 have hi8 : i / 8 < Mk.Al.rLen false := by omega
 have hgm : Mk.GMay (n : Int) := by unfold Mk.GMay; omega
 have hat := hH.at_ n hn
 have hsec := hs (n * B + 1)
 refine dfI_one (p := n * B + 1) ?_ (fun q hq => ?_) N (hg.hd hn (show 1 < B by omega))
 ·have e : putH I B n (Mk.Al.putY false (H n) i true) (n * B + 1) = Mk.groupL (n : Int) (Mk.Al.putY false (H n) i true) := by unfold putH; rw [if_pos rfl]
  rw [e, Mk.Al.groupL_put (n : Int) false (hH.len n hn) hgm hi8 true, hat]
  rw [hat] at hsec
  have hk : Mk.Al.kAt false i / 8 < 128 := by rw [Mk.Al.kAt_div]; unfold Mk.Al.rAt; unfold Mk.Al.rLen at hi8; simp at hi8 ⊢; omega
  exact df_put hsec.2 (by rw [hsec.1]; exact hk) hsec.1 (by rw [Mk.Al.on_row (n : Int) false (hH.len n hn) hgm hi8]; exact ho)
 ·unfold putH
  rw [if_neg hq]

/-- Rows of 128 bytes as they are read, one behind the other. -/
structure IMG (w : World) (ga o : Nat) (N : Nat) (I : Nat → List Int) : Prop where
 row : ∀ k, k < N → ∃ q qo d, w.cell? ⟨ga, o + k, none⟩ = some (.slice (some ⟨q, qo, none⟩) 128 d) ∧ ∀ j, j < 128 → w.cell? ⟨q, qo + j, none⟩ = some (.int .u8 ((I k).getD j 0))
theorem IMG.kept {w w' : World} {ga o N : Nat} {I : Nat → List Int} (h : IMG w ga o N I) (hb : Below w.heap.size w w') : IMG w' ga o N I := ⟨fun k hk => by
 obtain ⟨q, qo, d, h1, h2⟩ := h.row k hk
 exact ⟨q, qo, d, (hb.cell (p := ⟨ga, o + k, none⟩) (lt_of_cell h1)).trans h1, fun j hj => (hb.cell (p := ⟨q, qo + j, none⟩) (lt_of_cell (h2 j hj))).trans (h2 j hj)⟩⟩
theorem PI.img {B : Nat} {w : World} {v : Value} {N : Nat} {vs : List Value} {I : Nat → List Int} (h : PI B w v N vs (imgL I N)) (hN : 1 ≤ N ∧ N ≤ 2048) (hs : ∀ k, Sect (I k)) : ∃ ga o d, v = .slice (some ⟨ga, o, none⟩) N d ∧ IMG w ga o N I := by
 obtain ⟨p, c, e, hib⟩ := h.ib (by omega)
 obtain ⟨ga, o, rfl, hc⟩ := hib.cells (by omega)
 refine ⟨ga, o, c, e, ⟨fun k hk => ?_⟩⟩
 obtain ⟨q, m, d, h1, h2⟩ := hc k (I k) (by unfold imgL; rw [List.getElem?_map, List.getElem?_range hk]; rfl)
 have hl := h2.len
 have hl2 := (hs k).1
 obtain ⟨qb, qo, rfl, h3⟩ := h2.cells (by omega)
 have : m = 128 := by omega
 subst this
 exact ⟨qb, qo, d, h1, h3⟩
end Go.Proofs.YthdlpeejmmobmaaGreat

/- A bit asked for by shifting; where the nearest block lies. -/
namespace Go.Proofs.YthdlpeejmmobmaaGreat
open Go.RowKit Go.Maps
set_option linter.unusedVariables false
set_option maxRecDepth 100000

theorem and1_all : ∀ x : Fin 256, ∀ k : Fin 8, (bits BinOp.and .u8 ((x.val : Int) / 2 ^ k.val) 1 == 0) = !decide ((x.val : Int) / 2 ^ k.val % 2 = 1) := by decide +kernel
theorem and1_at {x : Int} (h0 : 0 ≤ x) (h1 : x < 256) (i : Nat) : (bits BinOp.and .u8 (x / 2 ^ (i % 8)) 1 == 0) = !decide (x / 2 ^ (i % 8) % 2 = 1) := by
 have h := and1_all ⟨x.toNat, by omega⟩ ⟨i % 8, by omega⟩
 have e : ((x.toNat : Nat) : Int) = x := by omega
 simp only [e] at h
 exact h
theorem on_shift {ys : List Int} (hl : ys.length = 40) (hy : Mk.Num.Byt ys) {f : Nat} (hf : f / 8 < 32) : (bits BinOp.and .u8 (ys.getD (8 + f / 8) 0 / 2 ^ (f % 8)) 1 == 0) = !Mk.Bit.on (Mk.Al.rowOf false ys) f := by
 have hb := hy (8 + f / 8)
 rw [and1_at hb.1 (by have := hb.2; omega)]
 unfold Mk.Bit.on
 rw [Mk.Al.row_getD false hl (by unfold Mk.Al.rLen; simpa using hf)]
 rfl
theorem lo_none_step (xs : List Int) (f k : Nat) : (Mk.Al.lo xs f (k + 1)).isNone = ((Mk.Al.lo xs f k).isNone && Mk.Bit.on xs (f + k)) := by
 simp only [Mk.Al.lo]
 cases Mk.Al.lo xs f k with
 | some x => rfl
 | none => cases Mk.Bit.on xs (f + k) <;> rfl
theorem nst_first {H : Nat → List Int} {r : Bool} {G B Q near n i : Nat} (hn : near < G) (h : nst H r G B Q near G = some (n, i)) :
  (frs H r B Q near).isSome = decide (n = near) := by
 have h0 : nst H r G B Q near (0 + 1) = (frs H r B Q near).map fun i => (near, i) := by
  show (match nst H r G B Q near 0 with | some x => some x | none => (frs H r B Q ((near + 0) % G)).map fun i => ((near + 0) % G, i)) = _
  rw [Nat.add_zero, Nat.mod_eq_of_lt hn]
  rfl
 cases e : frs H r B Q near with
 | some j =>
  rw [e] at h0
  have := nst_stays h0 (show 0 + 1 ≤ G by omega)
  rw [h] at this
  have h2 : n = near := congrArg Prod.fst (Option.some.inj this)
  rw [h2]
  simp
 | none =>
  have h3 := (nst_some (by omega) h).2
  have : n ≠ near := fun e2 => by rw [e2, e] at h3; cases h3
  simp [this]
end Go.Proofs.YthdlpeejmmobmaaGreat
