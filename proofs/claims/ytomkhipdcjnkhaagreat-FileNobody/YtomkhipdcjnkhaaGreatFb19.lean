/- L5 KDZ L6 N1 -/
import Derived.Test.YtomkhipdcjnkhaaGreatFb18
import Derived.Test.YtomkhipdcjnkhaaGreatFb09
import Derived.Deep.MidRow
import Derived.Test.YtomkhipdcjnkhaaGreatFb14

/- A set of patches that has none: Now; a new volume's read. -/
namespace Go.Proofs.YtomkhipdcjnkhaaGreat
open Go.RowKit Go.Maps Go.MuLone
set_option linter.unusedVariables false
set_option maxRecDepth 100000

def slZ : Value → Option (DataW Unit × List MemPlace)
  | .slice none 0 0 => some (nilD, [])
  | _ => none
theorem slZ_inv {v : Value} {y : DataW Unit × List MemPlace} (h : slZ v = some y) : v = .slice none 0 0 := by
  unfold slZ at h
  split at h
  · rfl
  · cases h
theorem zero84 (w : World) : (zeroValue 84).run Tryz.prog w = .ok (.slice none 0 0) w := by kernel_rfl
theorem slmap_of {w : World} {mc : Nat} (h : w.heap[mc]? = some (.map #[] 0)) : w.ownsMap Tryz.prog 3 slZ mc 0 (.map []) := by
  have hlt := (Array.getElem?_eq_some_iff.1 h).1
  have e : ({ w with heap := w.heap.extract 0 mc } : World).heap.size = mc := by simp; omega
  have hb := World.ownsMap_made ({ w with heap := w.heap.extract 0 mc } : World) Tryz.prog 3 slZ
  rw [e] at hb
  obtain ⟨es, c, ho, r⟩ := hb
  exact ⟨es, c, (h.trans (at_new (w := { w with heap := w.heap.extract 0 mc }) e.symm).symm).trans ho, r⟩
theorem look_none {w : World} {mc : Nat} (h : w.heap[mc]? = some (.map #[] 0)) (b : Nat) (hb : b < 2048) : (Instr.lookup 418 (.map (some mc)) (.int .i64 (b : Int)) false).run Tryz.prog w = .ok (.slice none 0 0) w := by
  obtain ⟨v, ps, hr, hv⟩ := (slmap_of h).lookup keyed3 Tryz.underlying418 (zero84 w) (show slZ (.slice none 0 0) = some (nilD, []) from rfl) (key_of (b := b) (by omega))
  rw [hr, slZ_inv hv]

set_option maxHeartbeats 1000000 in
theorem each_none {w : World} {s p1 p2 : Nat} (hs : w.heap[s]? = some (.cells #[.int .i64 0, .map (some p1), .map (some p2)] 420 (0, 0))) (h2 : w.heap[p2]? = some (.map #[] 0)) (b : Nat) (hb : b < 2048) (f : Value) : Calls Tryz.prog 315 #[.pointer (some ⟨s, 0, none⟩), .int .i64 (b : Int), f] w fun e w' => e = .returned (.tuple #[]) ∧ w' = w := by
  have c2 : w.cell? ⟨s, 2, none⟩ = some (.map (some p2)) := cell_of_row _ _ 2 _ 420 _ hs
  have hlk := look_none h2 b hb
  clear hs h2
  go_enter Tryz.func315, Tryz.ntmps315
  go_wp2_with fail
  go_loopw [15] (fun iv wr => iv = .int .i64 0 ∧ wr = w) (fun iv _ => 0)
  case atStart => exact ⟨rfl, rfl⟩
  case round =>
    obtain ⟨rfl, rfl⟩ := hrel
    go_wp2_with fail
    refine bodyPost_end (results_none rfl _ _ _) rfl ?_
    exact ⟨rfl, rfl⟩

set_option maxHeartbeats 400000 in
theorem pmade_ok {w : World} {s p1 p2 : Nat} (hs : w.heap[s]? = some (.cells #[.int .i64 0, .map (some p1), .map (some p2)] 420 (0, 0))) : Calls Tryz.prog 333 #[.pointer (some ⟨s, 0, none⟩)] w fun e w' => e = .returned (.bool true) ∧ w' = w := by
  have c1 : w.cell? ⟨s, 1, none⟩ = some (.map (some p1)) := cell_of_row _ _ 1 _ 420 _ hs
  have hq := fun w r => run_neq_map_nil (P := Tryz.prog) w 417 3 429 r Tryz.underlying417
  clear hs
  go_enter Tryz.func333, Tryz.ntmps333
  go_wp2
  go_ret
  exact ⟨rfl, rfl⟩
set_option maxHeartbeats 400000 in
theorem prefusal_ok {w : World} {s p1 p2 : Nat} (hs : w.heap[s]? = some (.cells #[.int .i64 0, .map (some p1), .map (some p2)] 420 (0, 0))) (q : Option Addr) (cc : Nat) : Calls Tryz.prog 314 #[.pointer (some ⟨s, 0, none⟩), .slice q 128 cc] w fun e w' => e = .returned (.int .i64 0) ∧ w' = w := by
  have hm := pmade_ok hs
  clear hs
  go_enter Tryz.func314, Tryz.ntmps314
  go_wp2_with (first | (go_at_call 333; refine same_at hm ?_))
  go_ret
  exact ⟨rfl, rfl⟩
set_option maxHeartbeats 2000000 in
theorem now_none {w : World} {s p1 p2 : Nat} (hs : w.heap[s]? = some (.cells #[.int .i64 0, .map (some p1), .map (some p2)] 420 (0, 0))) (h2 : w.heap[p2]? = some (.map #[] 0)) (b : Nat) (hb : b < 2048) (a : Addr) (cc : Nat) (xs : List Int) (hx : BI w (some a) 128 xs) :
    Calls Tryz.prog 223 #[.pointer (some ⟨s, 0, none⟩), .int .i64 (b : Int), .slice (some a) 128 cc] w fun e w' => ∃ x cap, e = .returned (.tuple #[.slice (some ⟨x, 0, none⟩) 128 cap, .int .i64 0]) ∧ Own w.heap.size w' x 128 cap xs ∧ Below w.heap.size w w' := by
  have hr := prefusal_ok hs (some a) cc
  have hcl := sclone_some a 128 cc xs w hx
  have HS : Hid (w.heap[s]? = some (.cells #[.int .i64 0, .map (some p1), .map (some p2)] 420 (0, 0)) ∧ w.heap[p2]? = some (.map #[] 0)) := ⟨hs, h2⟩
  clear hs h2 hx
  go_enter Tryz.func223, Tryz.ntmps223
  go_wp2_with (first | (go_at_call 314; refine same_at hr ?_))
  refine Calls.mono hcl ?_
  rintro e w2 ⟨x, cap, rfl, ho, hb2⟩
  obtain ⟨W3, hW3⟩ : ∃ W3, (w2.alloc (.cells #[.slice none 0 0] 38)).setCell ⟨w2.heap.size, 0, none⟩ (.slice (some ⟨x, 0, none⟩) 128 cap) = W3 := ⟨_, rfl⟩
  have hb3 : Below w2.heap.size w2 W3 := by rw [← hW3]; exact ((Below.refl _ _).alloc (Nat.le_refl _) _).setCell (Nat.le_refl _) _
  have hr3 : W3.heap[w2.heap.size]? = some (.cells #[.slice (some ⟨x, 0, none⟩) 128 cap] 38 (0, 0)) := by rw [← hW3]; exact heap_setCell_same _ _ 0 _ 38 _ (at_new rfl)
  have k0 : W3.cell? ⟨w2.heap.size, 0, none⟩ = some (.slice (some ⟨x, 0, none⟩) 128 cap) := cell_of_row _ _ 0 _ 38 _ hr3
  have hB := Mk.grew_trans hb2 hb3
  have hea := each_none (kept_row HS.out.1 hB) (kept_row HS.out.2 hB) b hb
  have HX : Hid (Own w.heap.size W3 x 128 cap xs ∧ Below w.heap.size w W3) := ⟨ho.kept hb3, hB⟩
  clear hcl hr ho hb2 hb3 hr3 hB
  dsimp only
  go_wp2_with (first | (go_at_call 315; refine same_at (hea _) ?_))
  go_ret2
  exact ⟨x, cap, rfl, HX.out.1, HX.out.2⟩

set_option maxHeartbeats 400000 in
theorem vhas_ok {w : World} {v d : Nat} {k : Int} (hv : w.cell? ⟨v, 2, none⟩ = some (.pointer (some ⟨d, 0, none⟩))) (hd : w.cell? ⟨d, 0, none⟩ = some (.int .i64 k)) (b : Nat) (hb : (b : Int) < k) : Calls Tryz.prog 221 #[.pointer (some ⟨v, 0, none⟩), .int .i64 (b : Int)] w fun e w' => e = .returned (.bool true) ∧ w' = w := by
  have hbl := blocks_some w d k hd
  have d1 : (0 : Int) ≤ (b : Int) := by omega
  go_enter Tryz.func221, Tryz.ntmps221
  go_wp2_with (first | (go_at_call 112; refine same_at hbl ?_))
  go_ret
  exact ⟨rfl, rfl⟩

theorem FV.notD {B : Nat} {w : World} {v d c s m mc p1 p2 dm df : Nat} {xo : Option Addr} {S : St} (h : FV w v d c s m mc p1 p2 xo) (hD : DI B w d dm df (.slice none 0 0) S) : ∀ k, foot d dm df (.slice none 0 0) k → k ≠ v ∧ k ≠ c := by
  obtain ⟨D1, ⟨es1, k1, hm1, _⟩, _⟩ := hD.secs.ex
  obtain ⟨D2, ⟨es2, k2, hm2, _⟩, _⟩ := hD.fls.ex
  have hv := h.row
  unfold VRow at hv
  rintro k (rfl | rfl | rfl | hk)
  · exact ⟨row_ne2 hD.row hv (by simp), row_ne2 hD.row h.cac (by simp)⟩
  · exact ⟨row_ne2 hm1 hv (by simp), row_ne2 hm1 h.cac (by simp)⟩
  · exact ⟨row_ne2 hm2 hv (by simp), row_ne2 hm2 h.cac (by simp)⟩
  · simp [Value.ownBlock] at hk

set_option maxHeartbeats 2000000 in
theorem vrd_new {B : Nat} {w : World} {v d c s mc p1 p2 dm df : Nat} {S : St} (hv : w.cell? ⟨v, 2, none⟩ = some (.pointer (some ⟨d, 0, none⟩))) (v3 : w.cell? ⟨v, 3, none⟩ = some (.pointer (some ⟨c, 0, none⟩))) (v4 : w.cell? ⟨v, 4, none⟩ = some (.pointer (some ⟨s, 0, none⟩)))
    (hc : w.heap[c]? = some (cRow d mc 0 0)) (hm : w.heap[mc]? = some (.map #[] 0)) (hs : w.heap[s]? = some (.cells #[.int .i64 0, .map (some p1), .map (some p2)] 420 (0, 0))) (h2 : w.heap[p2]? = some (.map #[] 0)) (hp2 : p2 ≠ mc) (hvc : v ≠ c ∧ v ≠ mc)
    (hD : DI B w d dm df (.slice none 0 0) S) (hcd : ¬ foot d dm df (.slice none 0 0) c) (b : Nat) (hb : b < S.N) (h0 : S.fl b = 0) (hsx : Sect (S.f b)) :
    Calls Tryz.prog 125 #[.pointer (some ⟨v, 0, none⟩), .int .i64 (b : Int)] w fun e w' => ∃ x cap, e = .returned (.tuple #[.slice (some ⟨x, 0, none⟩) 128 cap, .int .i64 0]) ∧ Own w.heap.size w' x 128 cap (S.f b) ∧ Frame (fun k => k = c ∨ k = mc) w w' := by
  have hN := hD.N2
  have hh := vhas_ok hv hD.c0 b (by omega)
  have hge := get_new hc hm hD hcd b hb h0 hsx
  have hsc : s ≠ c := row_ne2 hs hc (by simp)
  have hsm : s ≠ mc := row_ne2 hs hm (by simp)
  have hpc : p2 ≠ c := row_ne2 h2 hc (by simp)
  have HS : Hid (w.heap[s]? = some (.cells #[.int .i64 0, .map (some p1), .map (some p2)] 420 (0, 0)) ∧ w.heap[p2]? = some (.map #[] 0)) := ⟨hs, h2⟩
  have hvl := lt_of_cell v4
  clear hc hm hs h2 hD hcd
  go_enter Tryz.func125, Tryz.ntmps125
  go_wp2_with (first | (go_at_call 221; refine same_at hh ?_))
  refine Calls.mono hge ?_
  rintro e w2 ⟨x, cap, rfl, ho, hfr⟩
  have kk : ∀ {k : Nat} {o : Obj}, w.heap[k]? = some o → k ≠ c → k ≠ mc → w2.heap[k]? = some o := fun {k o} hh h1 h2 => (hfr.block k (Array.getElem?_eq_some_iff.1 hh).1 (fun e => by rcases e with e | e; exact h1 e; exact h2 e)).trans hh
  have v42 : w2.cell? ⟨v, 4, none⟩ = some (.pointer (some ⟨s, 0, none⟩)) := by
    have hk := hfr.block v hvl (fun e => by rcases e with e | e; exact hvc.1 e; exact hvc.2 e)
    simp only [World.cell?, hk]
    simpa only [World.cell?] using v4
  have hnw := now_none (kk HS.out.1 hsc hsm) (kk HS.out.2 hpc hp2) b (by omega) ⟨x, 0, none⟩ cap (S.f b) (ho.bi (by omega) hsx.2)
  have H2 : Hid (w.heap.size ≤ w2.heap.size ∧ Frame (fun k => k = c ∨ k = mc) w w2) := ⟨hfr.size, hfr⟩
  clear hge hh ho hfr v3 v4 hv
  dsimp only
  go_wp2_with fail
  refine Calls.mono hnw ?_
  rintro e w3 ⟨x3, cap3, rfl, ho3, hb3⟩
  have H3 : Hid (Own w.heap.size w3 x3 128 cap3 (S.f b) ∧ Frame (fun k => k = c ∨ k = mc) w w3) := ⟨ho3.base H2.out.1, H2.out.2.trans (frame_of_below hb3)⟩
  clear hnw ho3 hb3
  dsimp only
  go_wp2_with fail
  go_ret2
  exact ⟨x3, cap3, rfl, H3.out.1, H3.out.2⟩
end Go.Proofs.YtomkhipdcjnkhaaGreat

/- Inodes out of bytes, by the program. -/
namespace Go.Proofs.YtomkhipdcjnkhaaGreat.Mk
open Go.RowKit
set_option linter.unusedVariables false

theorem map_byte_inj : ∀ {xs ys : List Int}, xs.map (Value.int .u8) = ys.map (Value.int .u8) → xs = ys
  | [], [], _ => rfl
  | [], _ :: _, h => by simp at h
  | _ :: _, [], h => by simp at h
  | x :: xs, y :: ys, h => by
    simp only [List.map_cons, List.cons.injEq] at h
    rw [map_byte_inj h.2]
    have := h.1
    injection this with _ e
    rw [e]

theorem eq36 (xs ys : List Int) (hx : xs.length = 32) (hy : ys.length = 32) (bx : Num.Byt xs) (by_ : Num.Byt ys) (w : World) : (Op.equalIn 10000 68 (.agg (xs.map (Value.int .u8)).toArray) (.agg (ys.map (Value.int .u8)).toArray)).run Tryz.prog w = .ok (decide (xs = ys)) w := by
  obtain ⟨l, h⟩ := lits_bytes Tryz.underlying68 cells36 0 xs hx bx
  obtain ⟨l', h'⟩ := lits_bytes Tryz.underlying68 cells36 0 ys hy by_
  have hf : ∀ zs : List Int, zs.length = 32 → (Value.agg (zs.map (Value.int .u8)).toArray).formed Tryz.prog 68 = true := by
    intro zs hz
    simp [Value.formed, Tryz.underlying68, cells36, hz]
  obtain ⟨r, hr, he⟩ := run_equalIn_deep (P := Tryz.prog) 9998 2 68 (by kernel_rfl) w _ _ _ _ l l' (hf xs hx) (hf ys hy) h h'
  suffices hrr : r = decide (xs = ys) by rw [hr, hrr]
  rw [Bool.eq_iff_iff, he, decide_eq_true_iff]
  constructor
  · rintro rfl
    have t : Tryz.prog.tiled 2 68 = true := by kernel_rfl
    exact map_byte_inj ((cells_of_lits 2 68 t _ _ _ h).trans (cells_of_lits 2 68 t _ _ _ h').symm)
  · rintro rfl
    rw [h] at h'
    exact Option.some.inj h'
theorem guard36 : Tryz.prog.eqGuardType Tryz.prog.depth 68 = false := by kernel_rfl
theorem info36 : (Tryz.prog.info? 68).map (·.size) = some 32 := by kernel_rfl
theorem zero36 : (#[.int .u8 0, .int .u8 0, .int .u8 0, .int .u8 0, .int .u8 0, .int .u8 0, .int .u8 0, .int .u8 0, .int .u8 0, .int .u8 0, .int .u8 0, .int .u8 0, .int .u8 0, .int .u8 0, .int .u8 0, .int .u8 0, .int .u8 0, .int .u8 0, .int .u8 0, .int .u8 0, .int .u8 0, .int .u8 0, .int .u8 0, .int .u8 0, .int .u8 0, .int .u8 0, .int .u8 0, .int .u8 0, .int .u8 0, .int .u8 0, .int .u8 0, .int .u8 0] : Array Value) = ((zers 32).map (Value.int .u8)).toArray := by rfl

theorem array36 (p : Option Addr) (c : Nat) (w : World) : (Instr.arrayAt 68 (.slice p 32 c)).run Tryz.prog w = .ok (.pointer p) w := by
  simp [Instr.arrayAt, Sem.run_bind, run_underlying Tryz.underlying68]

/-- What the bytes of an inode say. -/
abbrev rdV (xs : List Int) : Value := dinV (Num.numD xs 0 1) (Num.numD xs 2 2) (Num.numD xs 4 4) (Num.numD xs 8 2) (Num.numD xs 10 2) (Num.numD xs 12 2) (Num.numD xs 14 2) (Num.numD xs 16 2) (Num.numD xs 18 2)
def RGood (xs : List Int) : Prop := DGood xs (Num.numD xs 0 1) (Num.numD xs 2 2) (Num.numD xs 4 4) (Num.numD xs 8 2) (Num.numD xs 10 2) (Num.numD xs 12 2) (Num.numD xs 14 2) (Num.numD xs 16 2) (Num.numD xs 18 2)
instance (xs : List Int) : Decidable (RGood xs) := by unfold RGood; infer_instance
/-- The error that bytes tell, read as an inode. -/
def ddE (n : Nat) (xs : List Int) : Int := if n ≠ 32 then 6 else if xs = zers 32 then 0 else if ¬ (Num.numD xs 28 4 == Num.sum xs 28) = true then 30 else if RGood xs then 0 else 6
def ddV (n : Nat) (xs : List Int) : Value := if ddE n xs = 0 then rdV xs else dinV 0 0 0 0 0 0 0 0 0

set_option maxHeartbeats 1000000 in
theorem decodeDinode_len (p : Option Addr) (n c : Nat) (w : World) (hn : n ≤ 140737488355328) (h1 : ¬ n = 32) :
    Calls Tryz.prog 245 #[.slice p n c] w fun e w' => e = .returned (.tuple #[dinV 0 0 0 0 0 0 0 0 0, .int .i64 6]) ∧ Below w.heap.size w w' := by
  have HB := grew_alloc w (dinO 0 0 0 0 0 0 0 0 0)
  have hr0 := heap_new w (dinO 0 0 0 0 0 0 0 0 0)
  have hI : ¬ (n : Int) = 32 := by omega
  go_enter Tryz.func245, Tryz.ntmps245
  go_wp2_with (refine wpList_store_row rfl 146 _ _ rfl w.heap.size _ rfl rfl 146 _ hr0 info45 rfl (din_one 0 0 0 0 0 0 0 0 0) ?_)
  refine bodyPost_ret (v := .tuple #[dinV 0 0 0 0 0 0 0 0 0, .int .i64 6]) (results_cell_tmp_row (p := 2) (u := 3) (ty := 146) Tryz.results245 _ _ w.heap.size 146 _ (0, 0) _ rfl (setRow_heap _ _ _ _ _ _ hr0) Tryz.underlying146 rfl info45) rfl ?_
  exact ⟨rfl, below_setRow HB (by omega) _⟩

set_option maxRecDepth 10000 in
set_option maxHeartbeats 1000000 in
theorem decodeDinode_zero (p : Option Addr) (c : Nat) (xs : List Int) (w : World) (h : BI w p 32 xs) (hz : xs = zers 32) :
    Calls Tryz.prog 245 #[.slice p 32 c] w fun e w' => e = .returned (.tuple #[dinV 0 0 0 0 0 0 0 0 0, .int .i64 0]) ∧ Below w.heap.size w w' := by
  have HB := grew_alloc w (dinO 0 0 0 0 0 0 0 0 0)
  have hr0 := heap_new w (dinO 0 0 0 0 0 0 0 0 0)
  have h0 : BI (w.alloc (dinO 0 0 0 0 0 0 0 0 0)) p 32 xs := h.kept HB
  obtain ⟨b, o, rfl, hc⟩ := h0.cells (by omega)
  have hrg := bi_range h0
  have hq := eq36 xs (zers 32) h.len (zers_len 32) h.byt (zers_byt 32) (w.alloc (dinO 0 0 0 0 0 0 0 0 0))
  rw [decide_eq_true hz] at hq
  have hi36 : (Tryz.prog.info? 68).map (·.size) = some (xs.map (Value.int .u8)).length := by rw [List.length_map, h.len]; exact info36
  rw [← zero36] at hq
  have hat := array36
  clear hc h0 hz
  go_enter Tryz.func245, Tryz.ntmps245
  go_wp2_with (first
    | (refine wpList_load_mid rfl 68 _ rfl b o rfl _ _ hrg Tryz.underlying68 rfl hi36 ?_)
    | (refine wpList_eql_wanted (by rfl) 68 (.tmp 12) (.tmp 13) rfl _ _ rfl rfl guard36 _ hq ?_)
    | (refine wpList_store_row rfl 146 _ _ rfl w.heap.size _ rfl rfl 146 _ hr0 info45 rfl (din_one 0 0 0 0 0 0 0 0 0) ?_))
  refine bodyPost_ret (v := .tuple #[dinV 0 0 0 0 0 0 0 0 0, .int .i64 0]) (results_cell_tmp_row (p := 2) (u := 3) (ty := 146) Tryz.results245 _ _ w.heap.size 146 _ (0, 0) _ rfl (setRow_heap _ _ _ _ _ _ hr0) Tryz.underlying146 rfl info45) rfl ?_
  exact ⟨rfl, below_setRow HB (by omega) _⟩
end Go.Proofs.YtomkhipdcjnkhaaGreat.Mk

/- volume.Read of a new volume's block; inode.Get and file.used of a free inode. -/
namespace Go.Proofs.YtomkhipdcjnkhaaGreat
open Go.RowKit Go.Maps Go.MuLone
set_option linter.unusedVariables false
set_option maxRecDepth 100000

set_option maxHeartbeats 2000000 in
theorem vread_new {B B0 : Nat} {w : World} {v d c s m mc p1 p2 dm df : Nat} {xo : Option Addr} {S : St} (h : FV w v d c s m mc p1 p2 xo) (hLo : FLo B0 v c s m mc p1 p2) (hD : DI B w d dm df (.slice none 0 0) S) (b : Nat) (hb : b < S.N) (h0 : S.fl b = 0) (hsx : Sect (S.f b)) :
    Calls Tryz.prog 60 #[.pointer (some ⟨v, 0, none⟩), .int .i64 (b : Int)] w fun e w' => ∃ x cap, e = .returned (.tuple #[.slice (some ⟨x, 0, none⟩) 128 cap, .int .i64 0]) ∧ Own w.heap.size w' x 128 cap (S.f b) ∧ Frame (fun k => k = v ∨ k = c ∨ k = mc) w w' := by
  have hm := vmade_ok h.row.made
  have hlk := h.row.lock
  have hH := h.row.held
  have hnd := h.notD hD
  have hrow := h.row
  unfold VRow at hrow
  have hcv : c ≠ v := row_ne2 h.cac hrow (by simp)
  have hmv : mc ≠ v := row_ne2 h.cm hrow (by simp)
  have hsv : s ≠ v := row_ne2 h.set hrow (by simp)
  have hpv : p2 ≠ v := row_ne2 h.pm2 hrow (by simp)
  have hdv : d ≠ v := row_ne2 hD.row hrow (by simp)
  obtain ⟨WL, hWL⟩ : ∃ WL, w.setCell ⟨v, 0, none⟩ (.int .i32 1) = WL := ⟨_, rfl⟩
  have so : ∀ k, k ≠ v → WL.heap[k]? = w.heap[k]? := fun k hk => by rw [← hWL]; exact Below.heap_setCell _ _ _ _ hk
  have hsz : WL.heap.size = w.heap.size := by rw [← hWL]; simp
  rw [hWL] at hlk hH
  have hDL : DI B WL d dm df (.slice none 0 0) S := hD.kept (fun k hk => so k (hnd k hk).1)
  have hrd := vrd_new (v := v) (cell_of_row _ _ 2 _ 55 _ hH) (cell_of_row _ _ 3 _ 55 _ hH) (cell_of_row _ _ 4 _ 55 _ hH) ((so c hcv).trans h.cac) ((so mc hmv).trans h.cm) ((so s hsv).trans h.set) ((so p2 hpv).trans h.pm2) hLo.2.2.2.2.2.2.2 ⟨hcv.symm, hmv.symm⟩ hDL (fun e => (hnd c e).2 rfl) b hb h0 hsx
  have hvl : v < WL.heap.size := (Array.getElem?_eq_some_iff.1 hH).1
  have HL : Hid (VHeld WL v d c s m xo ∧ Frame (fun k => k = v ∨ k = c ∨ k = mc) w WL ∧ WL.heap.size = w.heap.size ∧ c ≠ v ∧ mc ≠ v ∧ v < WL.heap.size) := ⟨hH, by rw [← hWL]; exact Frame.setCell _ _ (.inl rfl), hsz, hcv, hmv, hvl⟩
  clear h hD hDL so hnd hH hrow hWL hcv hmv hsv hpv hdv hLo hsz hvl
  go_enter_defers Tryz.func60, Tryz.ntmps60
  go_wp2_with (first
    | (go_at_call 111; refine same_at hm ?_)
    | (go_at_call 46; refine Calls.mono hlk ?_; rintro e w' ⟨rfl, hw'⟩; have hw2 := hw'.symm; subst hw2; clear hw')
    | (go_at_call 125; refine Calls.mono hrd ?_; rintro e w2 ⟨x, cap, rfl, ho, hfr⟩))
  obtain ⟨hH, hfL, hsz, hcv, hmv, hvl⟩ := HL.out
  have hH2 : VHeld w2 v d c s m xo := (hfr.block v hvl (fun e => by rcases e with e | e; exact hcv e.symm; exact hmv e.symm)).trans hH
  refine leaves_cons (f := 47) (args := #[.pointer (some ⟨v, 0, none⟩)]) (by simp) (by simp [go_sem]) ?_
  refine (hH2.unlock .returning).mono ?_
  rintro e u' w'' ⟨rfl, rfl, rfl⟩
  refine ⟨_, results_tmp2 rfl _ _ _, x, cap, rfl, ?_, ?_⟩
  · have hxv : x ≠ v := by
      intro e
      obtain ⟨cs, hc⟩ := own_ty ho (k := x) rfl
      have h1 := hH2
      unfold VHeld at h1
      rw [e, h1] at hc
      simp at hc
    rw [← hsz]
    exact ownsRow_kept ho (fun k hk => by cases hk; exact Below.heap_setCell _ _ _ _ hxv)
  · exact (hfL.trans (hfr.mono (fun k _ hk => .inr hk))).trans (Frame.setCell _ _ (.inl rfl))
end Go.Proofs.YtomkhipdcjnkhaaGreat

/- inode and names: of a volume that no call made each call tells that there is none. -/
namespace Go.Proofs.YtomkhipdcjnkhaaGreat
open Go.RowKit Go.Maps Go.MuLone
set_option linter.unusedVariables false
set_option maxRecDepth 100000

abbrev dnZ : Array Value := #[.int .i64 0, .int .i64 0, .int .i64 0, .int .i64 0, .int .i64 0, .int .i64 0, .int .i64 0, .int .i64 0, .int .i64 0]
theorem dnZ_one : dnZ.all (·.oneCell') = true := by simp [dnZ, Value.oneCell']
abbrev spZ : Array Value := #[.int .i64 0, .int .i64 0, .int .i64 0]
theorem spZ_one : spZ.all (·.oneCell') = true := by simp [spZ, Value.oneCell']
theorem info168 : (Tryz.prog.info? 168).map (·.size) = some 3 := by kernel_rfl

section
variable {w : World} {v : Value} {G B I : Int}
set_option maxHeartbeats 400000 in
theorem irefusal_void (h : VVoid w v) : Calls Tryz.prog 246 #[v, Mk.geomV G B I] w fun e w' => e = .returned (.int .i64 2) ∧ Below w.heap.size w w' := by
  have hb1 : Below w.heap.size w (w.alloc (Mk.geomO G B I)) := Mk.grew_alloc _ _
  have hv := vblocks_void (h.kept hb1)
  go_enter Tryz.func246, Tryz.ntmps246
  go_wp2_with (first | (go_at_call 53; refine same_at hv ?_))
  go_ret
  exact ⟨rfl, hb1⟩
set_option maxHeartbeats 400000 in
theorem irefusalInode_void (h : VVoid w v) (n m : Int) : Calls Tryz.prog 244 #[v, Mk.geomV G B I, .int .i64 n, .int .i64 m] w fun e w' => e = .returned (.int .i64 2) ∧ Below w.heap.size w w' := by
  obtain ⟨W1, hW1⟩ : ∃ W1, w.alloc (Mk.geomO G B I) = W1 := ⟨_, rfl⟩
  have hb1 : Below w.heap.size w W1 := by rw [← hW1]; exact Mk.grew_alloc _ _
  have hg1 : W1.heap[w.heap.size]? = some (Mk.geomO G B I) := by rw [← hW1]; exact at_new rfl
  have hv := irefusal_void (G := G) (B := B) (I := I) (h.kept hb1)
  go_enter Tryz.func244, Tryz.ntmps244
  go_wp2_with (first
    | (refine wpList_load_row rfl 34 (.tmp 5) rfl w.heap.size rfl 34 _ (0, 0) _ hg1 Tryz.underlying34 rfl Mk.info23 ?_))
  refine Mk.grew_at hv ?_
  intro w2 hb2
  have HB : Hid (Below w.heap.size w w2) := Mk.grew_trans hb1 hb2
  clear hv hg1 hb1 hb2
  dsimp only
  go_wp2_with fail
  go_ret
  exact ⟨rfl, HB.out⟩
set_option maxHeartbeats 1000000 in
theorem iget_void (h : VVoid w v) (n : Int) : Calls Tryz.prog 139 #[v, Mk.geomV G B I, .int .i64 n] w fun e w' => e = .returned (.tuple #[.agg dnZ, .int .i64 2]) ∧ Below w.heap.size w w' := by
  obtain ⟨W1, hW1⟩ : ∃ W1, (w.alloc (Mk.geomO G B I)).alloc (.cells dnZ 146) = W1 := ⟨_, rfl⟩
  have hb1 : Below w.heap.size w W1 := by rw [← hW1]; exact ((Below.refl _ w).alloc (Nat.le_refl _) _).alloc (by simp) _
  have hg1 : W1.heap[w.heap.size]? = some (Mk.geomO G B I) := by rw [← hW1]; exact at_old (at_new rfl)
  have hr1 : W1.heap[w.heap.size + 1]? = some (.cells dnZ 146 (0, 0)) := by rw [← hW1]; exact at_new (by simp)
  have hv := irefusalInode_void (G := G) (B := B) (I := I) (h.kept hb1) n 0
  go_enter Tryz.func139, Tryz.ntmps139
  go_wp2_with (first
    | (refine wpList_load_row rfl 34 (.tmp 4) rfl w.heap.size rfl 34 _ (0, 0) _ hg1 Tryz.underlying34 rfl Mk.info23 ?_))
  refine Mk.grew_at hv ?_
  intro w2 hb2
  have hr2 := kept_row hr1 hb2
  have HB : Hid (Below w.heap.size w w2) := Mk.grew_trans hb1 hb2
  clear hv hg1 hb1 hb2 hr1
  dsimp only
  go_wp2_with (first
    | (refine wpList_store_row rfl 146 (.tmp 6) _ rfl (w.heap.size + 1) dnZ rfl rfl 146 _ hr2 Mk.info45 rfl dnZ_one ?_))
  refine bodyPost_ret (v := .tuple #[.agg dnZ, .int .i64 2]) (Mk.results_cell_tmp_row (p := 6) (u := 7) (ty := 146) Tryz.results139 _ _ (w.heap.size + 1) 146 _ (0, 0) _ rfl (setRow_heap _ _ _ _ 146 _ hr2) Tryz.underlying146 rfl Mk.info45) rfl ?_
  exact ⟨rfl, belowRow HB.out (Nat.le_succ _) _⟩
set_option maxHeartbeats 1000000 in
theorem ispan_void (h : VVoid w v) : Calls Tryz.prog 149 #[v, Mk.geomV G B I, .agg dnZ] w fun e w' => e = .returned (.tuple #[.slice none 0 0, .int .i64 2]) ∧ Below w.heap.size w w' := by
  obtain ⟨W1, hW1⟩ : ∃ W1, (w.alloc (Mk.geomO G B I)).alloc (.cells dnZ 146) = W1 := ⟨_, rfl⟩
  have hb1 : Below w.heap.size w W1 := by rw [← hW1]; exact ((Below.refl _ w).alloc (Nat.le_refl _) _).alloc (by simp) _
  have hg1 : W1.heap[w.heap.size]? = some (Mk.geomO G B I) := by rw [← hW1]; exact at_old (at_new rfl)
  have hv := irefusal_void (G := G) (B := B) (I := I) (h.kept hb1)
  go_enter Tryz.func149, Tryz.ntmps149
  go_wp2_with (first
    | (refine wpList_load_row rfl 34 (.tmp 4) rfl w.heap.size rfl 34 _ (0, 0) _ hg1 Tryz.underlying34 rfl Mk.info23 ?_))
  refine Mk.grew_at hv ?_
  intro w2 hb2
  have HB : Hid (Below w.heap.size w w2) := Mk.grew_trans hb1 hb2
  clear hv hg1 hb1 hb2
  dsimp only
  go_wp2_with fail
  go_ret2
  exact ⟨rfl, HB.out⟩
set_option maxHeartbeats 400000 in
theorem nrefusal_void (h : VVoid w v)  : Calls Tryz.prog 84 #[v, Mk.geomV G B I] w fun e w' => e = .returned (.int .i64 2) ∧ Below w.heap.size w w' := by
  obtain ⟨W1, hW1⟩ : ∃ W1, w.alloc (Mk.geomO G B I) = W1 := ⟨_, rfl⟩
  have hb1 : Below w.heap.size w W1 := by rw [← hW1]; exact Mk.grew_alloc _ _
  have hg1 : W1.heap[w.heap.size]? = some (Mk.geomO G B I) := by rw [← hW1]; exact at_new rfl
  have hv := ispan_void (G := G) (B := B) (I := I) (h.kept hb1)
  go_enter Tryz.func84, Tryz.ntmps84
  go_wp2_with (first
    | (refine wpList_load_row rfl 34 (.tmp 3) rfl w.heap.size rfl 34 _ (0, 0) _ hg1 Tryz.underlying34 rfl Mk.info23 ?_))
  refine Mk.grew_at hv ?_
  intro w2 hb2
  have HB : Hid (Below w.heap.size w w2) := Mk.grew_trans hb1 hb2
  clear hv hg1 hb1 hb2
  dsimp only
  go_wp2_with fail
  go_ret
  exact ⟨rfl, HB.out⟩
set_option maxHeartbeats 1000000 in
theorem nopen_void (h : VVoid w v) (n : Int) : Calls Tryz.prog 87 #[v, Mk.geomV G B I, .int .i64 n] w fun e w' => e = .returned (.tuple #[.pointer none, .int .i64 2]) ∧ Below w.heap.size w w' := by
  obtain ⟨W1, hW1⟩ : ∃ W1, w.alloc (Mk.geomO G B I) = W1 := ⟨_, rfl⟩
  have hb1 : Below w.heap.size w W1 := by rw [← hW1]; exact Mk.grew_alloc _ _
  have hg1 : W1.heap[w.heap.size]? = some (Mk.geomO G B I) := by rw [← hW1]; exact at_new rfl
  have hv := iget_void (G := G) (B := B) (I := I) (h.kept hb1) n
  go_enter Tryz.func87, Tryz.ntmps87
  go_wp2_with (first
    | (refine wpList_load_row rfl 34 (.tmp 4) rfl w.heap.size rfl 34 _ (0, 0) _ hg1 Tryz.underlying34 rfl Mk.info23 ?_))
  refine Mk.grew_at hv ?_
  intro w2 hb2
  have HB : Hid (Below w.heap.size w ((w2.alloc (.cells dnZ 146)).setRow w2.heap.size dnZ)) := by
    have hb := Mk.grew_trans hb1 hb2
    exact belowRow (hb.alloc hb.size _) hb.size _
  clear hv hg1 hb1 hb2
  dsimp only
  go_wp2_with (first
    | (refine wpList_store_row rfl 146 (.tmp 8) _ rfl w2.heap.size dnZ rfl rfl 146 _ (at_new rfl) Mk.info45 rfl dnZ_one ?_))
  go_ret2
  exact ⟨rfl, HB.out⟩
set_option maxHeartbeats 1000000 in
theorem nseek_void (h : VVoid w v) (n : Int) (s : Value) : Calls Tryz.prog 86 #[v, Mk.geomV G B I, .int .i64 n, s] w fun e w' => e = .returned (.tuple #[.pointer none, .agg spZ, .int .i64 2]) ∧ Below w.heap.size w w' := by
  obtain ⟨W1, hW1⟩ : ∃ W1, (w.alloc (Mk.geomO G B I)).alloc (.cells spZ 168) = W1 := ⟨_, rfl⟩
  have hb1 : Below w.heap.size w W1 := by rw [← hW1]; exact ((Below.refl _ w).alloc (Nat.le_refl _) _).alloc (by simp) _
  have hg1 : W1.heap[w.heap.size]? = some (Mk.geomO G B I) := by rw [← hW1]; exact at_old (at_new rfl)
  have hr1 : W1.heap[w.heap.size + 1]? = some (.cells spZ 168 (0, 0)) := by rw [← hW1]; exact at_new (by simp)
  have hv := nopen_void (G := G) (B := B) (I := I) (h.kept hb1) n
  go_enter Tryz.func86, Tryz.ntmps86
  go_wp2_with (first
    | (refine wpList_load_row rfl 34 (.tmp 5) rfl w.heap.size rfl 34 _ (0, 0) _ hg1 Tryz.underlying34 rfl Mk.info23 ?_))
  refine Mk.grew_at hv ?_
  intro w2 hb2
  have hr2 := kept_row hr1 hb2
  have HB : Hid (Below w.heap.size w w2) := Mk.grew_trans hb1 hb2
  clear hv hg1 hb1 hb2 hr1
  dsimp only
  go_wp2_with (first
    | (refine wpList_store_row rfl 168 (.tmp 9) _ rfl (w.heap.size + 1) spZ rfl rfl 168 _ hr2 info168 rfl spZ_one ?_))
  refine bodyPost_ret (v := .tuple #[.pointer none, .agg spZ, .int .i64 2]) (results_tct (a := 8) (p := 9) (u := 10) (ty := 168) Tryz.results86 _ _ (w.heap.size + 1) 168 _ (0, 0) _ rfl (setRow_heap _ _ _ _ 168 _ hr2) Tryz.underlying168 rfl info168) rfl ?_
  exact ⟨rfl, belowRow HB.out (Nat.le_succ _) _⟩
set_option maxHeartbeats 400000 in
theorem nwalk_void (h : VVoid w v) (p : Value) : Calls Tryz.prog 29 #[v, Mk.geomV G B I, p] w fun e w' => e = .returned (.tuple #[.int .i64 0, .int .i64 2]) ∧ Below w.heap.size w w' := by
  obtain ⟨W1, hW1⟩ : ∃ W1, w.alloc (Mk.geomO G B I) = W1 := ⟨_, rfl⟩
  have hb1 : Below w.heap.size w W1 := by rw [← hW1]; exact Mk.grew_alloc _ _
  have hg1 : W1.heap[w.heap.size]? = some (Mk.geomO G B I) := by rw [← hW1]; exact at_new rfl
  have hv := nrefusal_void (G := G) (B := B) (I := I) (h.kept hb1)
  go_enter Tryz.func29, Tryz.ntmps29
  go_wp2_with (first
    | (refine wpList_load_row rfl 34 (.tmp 4) rfl w.heap.size rfl 34 _ (0, 0) _ hg1 Tryz.underlying34 rfl Mk.info23 ?_))
  refine Mk.grew_at hv ?_
  intro w2 hb2
  have HB : Hid (Below w.heap.size w w2) := Mk.grew_trans hb1 hb2
  clear hv hg1 hb1 hb2
  dsimp only
  go_wp2_with fail
  go_ret2
  exact ⟨rfl, HB.out⟩
set_option maxHeartbeats 1000000 in
theorem nlookup_void (h : VVoid w v) (n : Int) (s : Value) : Calls Tryz.prog 30 #[v, Mk.geomV G B I, .int .i64 n, s] w fun e w' => e = .returned (.tuple #[.int .i64 0, .int .i64 2]) ∧ Below w.heap.size w w' := by
  obtain ⟨W1, hW1⟩ : ∃ W1, w.alloc (Mk.geomO G B I) = W1 := ⟨_, rfl⟩
  have hb1 : Below w.heap.size w W1 := by rw [← hW1]; exact Mk.grew_alloc _ _
  have hg1 : W1.heap[w.heap.size]? = some (Mk.geomO G B I) := by rw [← hW1]; exact at_new rfl
  have hv := nseek_void (G := G) (B := B) (I := I) (h.kept hb1) n s
  go_enter Tryz.func30, Tryz.ntmps30
  go_wp2_with (first
    | (refine wpList_load_row rfl 34 (.tmp 5) rfl w.heap.size rfl 34 _ (0, 0) _ hg1 Tryz.underlying34 rfl Mk.info23 ?_))
  refine Mk.grew_at hv ?_
  intro w2 hb2
  obtain ⟨W3, hW3⟩ : ∃ W3, (w2.alloc (.cells spZ 168)).setRow w2.heap.size spZ = W3 := ⟨_, rfl⟩
  have hr3 : W3.heap[w2.heap.size]? = some (.cells spZ 168 (0, 0)) := by rw [← hW3]; exact setRow_heap _ _ _ _ 168 _ (at_new rfl)
  have c2 : W3.cell? ⟨w2.heap.size, 2, none⟩ = some (.int .i64 0) := cell_of_row _ _ 2 _ 168 _ hr3
  have HB : Hid (Below w.heap.size w W3) := by
    have hb := Mk.grew_trans hb1 hb2
    show Below _ _ _
    rw [← hW3]
    exact belowRow (hb.alloc hb.size _) hb.size _
  have H3 : Hid ((w2.alloc (.cells spZ 168)).setRow w2.heap.size spZ = W3) := hW3
  clear hv hg1 hb1 hb2 hW3 hr3
  dsimp only
  go_wp2_with (first
    | (refine wpList_store_row rfl 168 (.tmp 11) _ rfl w2.heap.size spZ rfl rfl 168 _ (at_new rfl) info168 rfl spZ_one ?_; rw [H3.out]))
  go_ret2
  exact ⟨rfl, HB.out⟩
set_option maxHeartbeats 1000000 in
theorem nremove_void (h : VVoid w v) (n : Int) (s q : Value) : Calls Tryz.prog 32 #[v, Mk.geomV G B I, .int .i64 n, s, q] w fun e w' => e = .returned (.tuple #[.int .i64 0, .int .i64 2]) ∧ Below w.heap.size w w' := by
  obtain ⟨W1, hW1⟩ : ∃ W1, w.alloc (Mk.geomO G B I) = W1 := ⟨_, rfl⟩
  have hb1 : Below w.heap.size w W1 := by rw [← hW1]; exact Mk.grew_alloc _ _
  have hg1 : W1.heap[w.heap.size]? = some (Mk.geomO G B I) := by rw [← hW1]; exact at_new rfl
  have hv := nseek_void (G := G) (B := B) (I := I) (h.kept hb1) n s
  go_enter Tryz.func32, Tryz.ntmps32
  go_wp2_with (first
    | (refine wpList_load_row rfl 34 (.tmp 6) rfl w.heap.size rfl 34 _ (0, 0) _ hg1 Tryz.underlying34 rfl Mk.info23 ?_))
  refine Mk.grew_at hv ?_
  intro w2 hb2
  obtain ⟨W3, hW3⟩ : ∃ W3, (w2.alloc (.cells spZ 168)).setRow w2.heap.size spZ = W3 := ⟨_, rfl⟩
  have hr3 : W3.heap[w2.heap.size]? = some (.cells spZ 168 (0, 0)) := by rw [← hW3]; exact setRow_heap _ _ _ _ 168 _ (at_new rfl)
  have c2 : W3.cell? ⟨w2.heap.size, 2, none⟩ = some (.int .i64 0) := cell_of_row _ _ 2 _ 168 _ hr3
  have HB : Hid (Below w.heap.size w W3) := by
    have hb := Mk.grew_trans hb1 hb2
    show Below _ _ _
    rw [← hW3]
    exact belowRow (hb.alloc hb.size _) hb.size _
  have H3 : Hid ((w2.alloc (.cells spZ 168)).setRow w2.heap.size spZ = W3) := hW3
  clear hv hg1 hb1 hb2 hW3 hr3
  dsimp only
  go_wp2_with (first
    | (refine wpList_store_row rfl 168 (.tmp 13) _ rfl w2.heap.size spZ rfl rfl 168 _ (at_new rfl) info168 rfl spZ_one ?_; rw [H3.out]))
  go_ret2
  exact ⟨rfl, HB.out⟩
set_option maxHeartbeats 1000000 in
theorem nset_void (h : VVoid w v) (n k : Int) (s q : Value) : Calls Tryz.prog 33 #[v, Mk.geomV G B I, .int .i64 n, s, .int .i64 k, q] w fun e w' => e = .returned (.tuple #[.int .i64 0, .int .i64 2]) ∧ Below w.heap.size w w' := by
  obtain ⟨W1, hW1⟩ : ∃ W1, w.alloc (Mk.geomO G B I) = W1 := ⟨_, rfl⟩
  have hb1 : Below w.heap.size w W1 := by rw [← hW1]; exact Mk.grew_alloc _ _
  have hg1 : W1.heap[w.heap.size]? = some (Mk.geomO G B I) := by rw [← hW1]; exact at_new rfl
  have hv := nseek_void (G := G) (B := B) (I := I) (h.kept hb1) n s
  go_enter Tryz.func33, Tryz.ntmps33
  go_wp2_with (first
    | (refine wpList_load_row rfl 34 (.tmp 7) rfl w.heap.size rfl 34 _ (0, 0) _ hg1 Tryz.underlying34 rfl Mk.info23 ?_))
  refine Mk.grew_at hv ?_
  intro w2 hb2
  obtain ⟨W3, hW3⟩ : ∃ W3, (w2.alloc (.cells spZ 168)).setRow w2.heap.size spZ = W3 := ⟨_, rfl⟩
  have hr3 : W3.heap[w2.heap.size]? = some (.cells spZ 168 (0, 0)) := by rw [← hW3]; exact setRow_heap _ _ _ _ 168 _ (at_new rfl)
  have c2 : W3.cell? ⟨w2.heap.size, 2, none⟩ = some (.int .i64 0) := cell_of_row _ _ 2 _ 168 _ hr3
  have HB : Hid (Below w.heap.size w W3) := by
    have hb := Mk.grew_trans hb1 hb2
    show Below _ _ _
    rw [← hW3]
    exact belowRow (hb.alloc hb.size _) hb.size _
  have H3 : Hid ((w2.alloc (.cells spZ 168)).setRow w2.heap.size spZ = W3) := hW3
  clear hv hg1 hb1 hb2 hW3 hr3
  dsimp only
  go_wp2_with (first
    | (refine wpList_store_row rfl 168 (.tmp 15) _ rfl w2.heap.size spZ rfl rfl 168 _ (at_new rfl) info168 rfl spZ_one ?_; rw [H3.out]))
  go_ret2
  exact ⟨rfl, HB.out⟩
set_option maxHeartbeats 400000 in
theorem nlist_void (h : VVoid w v) (n : Int) : Calls Tryz.prog 34 #[v, Mk.geomV G B I, .int .i64 n] w fun e w' => e = .returned (.tuple #[.slice none 0 0, .int .i64 2]) ∧ Below w.heap.size w w' := by
  obtain ⟨W1, hW1⟩ : ∃ W1, w.alloc (Mk.geomO G B I) = W1 := ⟨_, rfl⟩
  have hb1 : Below w.heap.size w W1 := by rw [← hW1]; exact Mk.grew_alloc _ _
  have hg1 : W1.heap[w.heap.size]? = some (Mk.geomO G B I) := by rw [← hW1]; exact at_new rfl
  have hv := nopen_void (G := G) (B := B) (I := I) (h.kept hb1) n
  go_enter Tryz.func34, Tryz.ntmps34
  go_wp2_with (first
    | (refine wpList_load_row rfl 34 (.tmp 4) rfl w.heap.size rfl 34 _ (0, 0) _ hg1 Tryz.underlying34 rfl Mk.info23 ?_))
  refine Mk.grew_at hv ?_
  intro w2 hb2
  have HB : Hid (Below w.heap.size w w2) := Mk.grew_trans hb1 hb2
  clear hv hg1 hb1 hb2
  dsimp only
  go_wp2_with fail
  go_ret2
  exact ⟨rfl, HB.out⟩
set_option maxHeartbeats 400000 in
theorem nempty_void (h : VVoid w v) (n : Int) : Calls Tryz.prog 35 #[v, Mk.geomV G B I, .int .i64 n] w fun e w' => e = .returned (.tuple #[.bool false, .int .i64 2]) ∧ Below w.heap.size w w' := by
  obtain ⟨W1, hW1⟩ : ∃ W1, w.alloc (Mk.geomO G B I) = W1 := ⟨_, rfl⟩
  have hb1 : Below w.heap.size w W1 := by rw [← hW1]; exact Mk.grew_alloc _ _
  have hg1 : W1.heap[w.heap.size]? = some (Mk.geomO G B I) := by rw [← hW1]; exact at_new rfl
  have hv := nopen_void (G := G) (B := B) (I := I) (h.kept hb1) n
  go_enter Tryz.func35, Tryz.ntmps35
  go_wp2_with (first
    | (refine wpList_load_row rfl 34 (.tmp 4) rfl w.heap.size rfl 34 _ (0, 0) _ hg1 Tryz.underlying34 rfl Mk.info23 ?_))
  refine Mk.grew_at hv ?_
  intro w2 hb2
  have HB : Hid (Below w.heap.size w w2) := Mk.grew_trans hb1 hb2
  clear hv hg1 hb1 hb2
  dsimp only
  go_wp2_with fail
  go_ret2
  exact ⟨rfl, HB.out⟩
set_option maxHeartbeats 400000 in
theorem nbelow_void (h : VVoid w v) (n k : Int) : Calls Tryz.prog 36 #[v, Mk.geomV G B I, .int .i64 n, .int .i64 k] w fun e w' => e = .returned (.tuple #[.bool false, .int .i64 2]) ∧ Below w.heap.size w w' := by
  obtain ⟨W1, hW1⟩ : ∃ W1, w.alloc (Mk.geomO G B I) = W1 := ⟨_, rfl⟩
  have hb1 : Below w.heap.size w W1 := by rw [← hW1]; exact Mk.grew_alloc _ _
  have hg1 : W1.heap[w.heap.size]? = some (Mk.geomO G B I) := by rw [← hW1]; exact at_new rfl
  have hv := nopen_void (G := G) (B := B) (I := I) (h.kept hb1) n
  go_enter Tryz.func36, Tryz.ntmps36
  go_wp2_with (first
    | (refine wpList_load_row rfl 34 (.tmp 5) rfl w.heap.size rfl 34 _ (0, 0) _ hg1 Tryz.underlying34 rfl Mk.info23 ?_))
  refine Mk.grew_at hv ?_
  intro w2 hb2
  have HB : Hid (Below w.heap.size w w2) := Mk.grew_trans hb1 hb2
  clear hv hg1 hb1 hb2
  dsimp only
  go_wp2_with fail
  go_ret2
  exact ⟨rfl, HB.out⟩
set_option maxHeartbeats 1000000 in
theorem nadd_void (h : VVoid w v) (n k : Int) (x : ByteArray) (q : Value) : Calls Tryz.prog 31 #[v, Mk.geomV G B I, .int .i64 n, .agg #[.int .i64 k, .string x], q] w fun e w' => e = .returned (.tuple #[.int .i64 0, .int .i64 2]) ∧ Below w.heap.size w w' := by
  obtain ⟨W1, hW1⟩ : ∃ W1, (w.alloc (Mk.geomO G B I)).alloc (.cells #[.int .i64 k, .string x] 93) = W1 := ⟨_, rfl⟩
  have hb1 : Below w.heap.size w W1 := by rw [← hW1]; exact ((Below.refl _ w).alloc (Nat.le_refl _) _).alloc (by simp) _
  have hg1 : W1.heap[w.heap.size]? = some (Mk.geomO G B I) := by rw [← hW1]; exact at_old (at_new rfl)
  have hv := nopen_void (G := G) (B := B) (I := I) (h.kept hb1) n
  go_enter Tryz.func31, Tryz.ntmps31
  go_wp2_with (first
    | (refine wpList_load_row rfl 34 (.tmp 6) rfl w.heap.size rfl 34 _ (0, 0) _ hg1 Tryz.underlying34 rfl Mk.info23 ?_))
  refine Mk.grew_at hv ?_
  intro w2 hb2
  have HB : Hid (Below w.heap.size w w2) := Mk.grew_trans hb1 hb2
  clear hv hg1 hb1 hb2
  dsimp only
  go_wp2_with fail
  go_ret2
  exact ⟨rfl, HB.out⟩
end
end Go.Proofs.YtomkhipdcjnkhaaGreat
