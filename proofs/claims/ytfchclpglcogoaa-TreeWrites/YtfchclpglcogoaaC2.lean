/- A piece of a file: put into its map. -/
import Derived.Test.YtfchclpglcogoaaC1
import Derived.Deep.RegionHeld3
import Derived.DeepKeys2
import Derived.Laws.Tables
import Derived.Laws.CopyRow
namespace Go.Proofs.Ytfchclpglcogoaa
open Go.RowKit Go.Maps
set_option linter.unusedVariables false
set_option maxRecDepth 100000

/-- A row of bytes as cells. -/
def aP (p : List Int) : Array Value := (p.map (Value.int .u8)).toArray
theorem aP_size {p : List Int} (h : p.length = 128) : (aP p).size = 128 := by simp [aP, h]
theorem aP_one (p : List Int) : (aP p).all (·.oneCell') = true := by
  rw [Array.all_eq_true_iff_forall_mem]
  intro v hv
  have hv' : v ∈ p.map (Value.int .u8) := by simpa [aP] using hv
  exact one_cells p v hv'
theorem cells94 : Try.prog.cellsOf 94 = 128 := by kernel_rfl
theorem info94 : (Try.prog.info? 94).map (·.size) = some 128 := by kernel_rfl
theorem guard94 : Try.prog.eqGuardType Try.prog.depth 94 = false := by kernel_rfl
theorem cells5' : Try.prog.cellsOf 5 = 1 := by kernel_rfl
theorem map_byte_inj : ∀ {xs ys : List Int}, xs.map (Value.int .u8) = ys.map (Value.int .u8) → xs = ys
  | [], [], _ => rfl
  | [], _ :: _, h => by simp at h
  | _ :: _, [], h => by simp at h
  | x :: xs, y :: ys, h => by
    simp only [List.map_cons, List.cons.injEq] at h
    rw [map_byte_inj h.2]
    have := h.1
    injection this with _ e
    rw [e]
theorem lit_byte (d : Nat) (v : Int) (h : 0 ≤ v ∧ v < 256) : Try.prog.keyLits (d + 1) 5 [.int .u8 v] = some [Lit.int .u8 v] := by
  unfold Program.keyLits
  simp only [Try.underlying5]
  rw [if_pos ⟨trivial, by simp [Lit.wf, IntKind.min, IntKind.max, IntKind.signed, IntKind.bits]; omega⟩]
theorem mapM_some {α β : Type} (f : α → Option β) : ∀ l : List α, (∀ x ∈ l, ∃ y, f x = some y) → ∃ ys, l.mapM f = some ys
  | [], _ => ⟨[], rfl⟩
  | x :: l, h => by
    obtain ⟨y, hy⟩ := h x (by simp)
    obtain ⟨ys, hys⟩ := mapM_some f l (fun z hz => h z (by simp [hz]))
    exact ⟨y :: ys, by rw [List.mapM_cons, hy, hys]; rfl⟩

theorem lits_bytes {t : TypeId} {n : Nat} (ht : Try.prog.underlying t = some (.array n 5)) (hc : Try.prog.cellsOf t = n) (d : Nat) (ys : List Int) (hl : ys.length = n) (hy : Num.Byt ys) : ∃ l, Try.prog.keyLits (d + 2) t (ys.map (Value.int .u8)) = some l := by
  rw [show d + 2 = (d + 1) + 1 from rfl]
  unfold Program.keyLits
  simp only [ht]
  rw [if_pos (by rw [hc, List.length_map, hl])]
  obtain ⟨ls, hls⟩ := mapM_some (fun i => Try.prog.keyLits (d + 1) 5 (((ys.map (Value.int .u8)).drop (i * Try.prog.cellsOf 5)).take (Try.prog.cellsOf 5))) (List.range n) (by
    intro i hi
    have hi := List.mem_range.1 hi
    rw [cells5', Nat.mul_one]
    have e : ((ys.map (Value.int .u8)).drop i).take 1 = [Value.int .u8 (ys.getD i 0)] := by
      rw [List.drop_eq_getElem_cons (by simp; omega)]
      simp [List.getD_eq_getElem?_getD, List.getElem?_eq_getElem (show i < ys.length by omega)]
    rw [e]
    exact ⟨_, lit_byte d _ (hy i)⟩)
  rw [hls]
  exact ⟨_, rfl⟩

theorem eq94 (xs ys : List Int) (hx : xs.length = 128) (hy : ys.length = 128) (bx : Num.Byt xs) (by_ : Num.Byt ys) (w : World) : (Op.equalIn 10000 94 (.agg (aP xs)) (.agg (aP ys))).run Try.prog w = .ok (decide (xs = ys)) w := by
  unfold aP
  obtain ⟨l, h⟩ := lits_bytes Try.underlying94 cells94 0 xs hx bx
  obtain ⟨l', h'⟩ := lits_bytes Try.underlying94 cells94 0 ys hy by_
  have hf : ∀ zs : List Int, zs.length = 128 → (Value.agg (zs.map (Value.int .u8)).toArray).formed Try.prog 94 = true := by
    intro zs hz
    simp [Value.formed, Try.underlying94, cells94, hz]
  obtain ⟨r, hr, he⟩ := run_equalIn_deep (P := Try.prog) 9998 2 94 (by kernel_rfl) w _ _ _ _ l l' (hf xs hx) (hf ys hy) h h'
  suffices hrr : r = decide (xs = ys) by rw [hr, hrr]
  rw [Bool.eq_iff_iff, he, decide_eq_true_iff]
  constructor
  · rintro rfl
    have t : Try.prog.tiled 2 94 = true := by kernel_rfl
    exact map_byte_inj ((cells_of_lits 2 94 t _ _ _ h).trans (cells_of_lits 2 94 t _ _ _ h').symm)
  · rintro rfl
    rw [h] at h'
    exact Option.some.inj h'

theorem zero94 : Try.zeroCells94 = aP zz := by rfl
theorem aP_vR (p : List Int) : ∃ d, vR (.agg (aP p)) = some (d, []) := by
  have h : ∃ l, cellsD (aP p).toList = some l := by
    unfold aP
    rw [List.toList_toArray]
    induction p with
    | nil => exact ⟨[], rfl⟩
    | cons x p ih =>
      obtain ⟨l, hl⟩ := ih
      exact ⟨_, by rw [List.map_cons]; unfold cellsD; rw [hl]; rfl⟩
  obtain ⟨l, hl⟩ := h
  refine ⟨.ptr (.agg l), ?_⟩
  show (cellsD (aP p).toList).map _ = _
  rw [hl]
  rfl
theorem range_row {w : World} {g : Nat} {p : List Int} {t : TypeId} (h : w.heap[g]? = some (.cells (aP p) t (0, 0))) : w.rangeAt g 0 (p.map (Value.int .u8)) := by
  intro j v hv
  rw [Nat.zero_add, cell_of_row w g j _ t _ h]
  simpa [aP] using hv
theorem below_grown {w w1 w2 : World} {r : Option Nat} (h : Below w.heap.size w w1) (hg : w1.grownBy w2 r) : w.grownBy w2 r := ⟨hg.os.trans h.os, hg.tape.trans h.tape, hg.output.trans h.output, Nat.le_trans h.size hg.size, fun k hk hn => (hg.block k (Nat.lt_of_lt_of_le hk h.size) hn).trans (h.block k hk)⟩
/-- A piece as a map's value. -/
def pV (p : List Int) : Option Value := if p = zz then none else some (.agg (aP p))

set_option maxHeartbeats 1000000 in
theorem put_ok (w : World) (f pm N : Nat) (K : Int → Option Value) (hc : w.cell? ⟨f, 5, none⟩ = some (.map (some pm))) (hM : Mf kI w pm N K) (hN : N < 900000000000) (a : Nat) (ha : a ≤ 100000) (p : List Int) (hp : p.length = 128) (hb : Num.Byt p) :
    Calls Try.prog 52 #[.pointer (some ⟨f, 4, none⟩), .int .i64 (a : Int), .agg (aP p)] w fun e w' => e = .returned (.tuple #[]) ∧ Mf kI w' pm (N + 1) (fput K (a : Int) (pV p)) ∧ w.grownBy w' (some pm) := by
  have hs := aP_size hp
  have hi94 : (Try.prog.info? 94).map (·.size) = some (aP p).size := by rw [hs]; exact info94
  have hrow : (w.alloc (.cells (aP p) 94)).heap[w.heap.size]? = some (.cells (aP p) 94 (0, 0)) := at_new rfl
  obtain ⟨W1, hW1⟩ : ∃ W1, w.alloc (.cells (aP p) 94) = W1 := ⟨_, rfl⟩
  rw [hW1] at hrow
  have hb1 : Below w.heap.size w W1 := by rw [← hW1]; exact (Below.refl _ _).alloc (Nat.le_refl _) _
  have hc1 : W1.cell? ⟨f, 5, none⟩ = some (.map (some pm)) := (hb1.cell (p := ⟨f, 5, none⟩) (lt_of_cell hc)).trans hc
  have hM1 : Mf kI W1 pm N K := hM.kept (hb1.block pm hM.lt)
  have hq := eq94 p zz hp (by simp [zz]) hb (fun i => by unfold zz; rw [List.getD_eq_getElem?_getD, List.getElem?_replicate]; split <;> simp) W1
  have hg94 := guard94
  rw [← zero94] at hq
  have hI : kI.ok (a : Int) := ⟨by omega, by omega⟩
  have HB : Hid (Below w.heap.size w W1) := hb1
  have HS : Hid (W1.heap.size = w.heap.size + 1) := by show _ = _; rw [← hW1]; simp
  by_cases hz : p = zz
  · rw [decide_eq_true hz] at hq
    obtain ⟨w2, hdel, hM2, hg2⟩ := hM1.del (t := 54) (e := 94) Try.underlying54 (a : Int) hI 0
    simp only [kI] at hdel
    have HP : Hid (pV p = none) := by show _ = _; unfold pV; rw [if_pos hz]
    have HM : Hid (Mf kI w2 pm N (fput K (a : Int) none)) := hM2
    clear hz hM hM1 hM2 hb hb1
    go_enter Try.func52, Try.ntmps52
    go_wp2_with (first | (refine wpList_load_row rfl 94 (.tmp 5) rfl w.heap.size rfl 94 _ (0, 0) _ hrow Try.underlying94 rfl hi94 ?_))
    refine bodyPost_ret (results_none rfl _ _ _) rfl ?_
    obtain ⟨D, h1, h2, h3⟩ := HM.out
    refine ⟨rfl, by rw [HP.out]; exact ⟨D, h1, by omega, h3⟩, below_grown HB.out hg2⟩
  · rw [decide_eq_false hz] at hq
    obtain ⟨d, hd⟩ := aP_vR p
    obtain ⟨w2, hup, hM2, hg2⟩ := (show Mf kI W1.drew pm N K from hM1.kept rfl).put (by omega) (t := 54) (e := 94) Try.underlying54 (a : Int) hI (.agg (aP p)) hd
    simp only [kI] at hup
    have hup2 : (Instr.mapUpdate 54 (.map (some pm)) (.int .i64 (a : Int)) (.agg (p.map (Value.int .u8)).toArray)).run Try.prog W1.drew = .ok () w2 := hup
    have HP : Hid (pV p = some (.agg (aP p))) := by show _ = _; unfold pV; rw [if_neg hz]
    have HM : Hid (Mf kI w2 pm (N + 1) (fput K (a : Int) (some (.agg (aP p))))) := by
      obtain ⟨D, h1, h2, h3⟩ := hM2
      refine ⟨D, h1, ?_, h3⟩
      split at h2 <;> omega
    have hc1d : W1.drew.cell? ⟨f, 5, none⟩ = some (.map (some pm)) := hc1
    have hrg : W1.drew.rangeAt w.heap.size 0 (p.map (Value.int .u8)) := range_row (w := W1.drew) hrow
    have hfp : f ≠ pm := by
      rintro rfl
      obtain ⟨es, c, h⟩ := hM.isMap
      simp [World.cell?, h] at hc
    have hfl := lt_of_cell hc1
    have hpm := hM.lt
    have hc2 : w2.cell? ⟨f, 5, none⟩ = some (.map (some pm)) := (World.cell?_of_block (w := W1.drew) (hg2.block f hfl (fun e => hfp (Option.some.inj e)))).trans hc1d
    have hrw2 : w2.heap[w.heap.size]? = some (.cells (aP p) 94 (0, 0)) := (hg2.block w.heap.size (Array.getElem?_eq_some_iff.1 hrow).1 (fun e => by have := Option.some.inj e; omega)).trans hrow
    have hrg2 : w2.rangeAt w.heap.size 0 (p.map (Value.int .u8)) := range_row hrw2
    have hu94 := Try.underlying94
    have hi94' : (Try.prog.info? 94).map (·.size) = some (p.map (Value.int .u8)).length := by rw [List.length_map, hp]; exact info94
    have HG : Hid (W1.grownBy w2 (some pm)) := ⟨hg2.os, hg2.tape, hg2.output, hg2.size, hg2.block⟩
    clear hz hM hM1 hM2 hb hb1 hd hg2 hfp hfl hpm hrw2
    go_enter Try.func52, Try.ntmps52
    go_wp2_with (first | (refine wpList_load_row rfl 94 (.tmp 5) rfl w.heap.size rfl 94 _ (0, 0) _ hrow Try.underlying94 rfl hi94 ?_))
    go_region_held3 (fun w' => w'.cell? ⟨f, 5, none⟩ = some (.map (some pm)) ∧ w'.rangeAt w.heap.size 0 (p.map (Value.int .u8))) (refine ⟨?_, ?_⟩ <;> assumption) (fail)
    go_wp2_with fail
    go_end0
    refine ⟨rfl, by rw [HP.out]; exact HM.out, below_grown HB.out HG.out⟩
end Go.Proofs.Ytfchclpglcogoaa
