/- A set of patches that has none: Now; a new volume's read. -/
import Derived.Test.YtijbbkkapimljaaGreatG3
namespace Go.Proofs.YtijbbkkapimljaaGreat
open Go.RowKit Go.Maps Go.MuLone
set_option linter.unusedVariables false
set_option maxRecDepth 100000

theorem kept_row {w w' : World} {b : Nat} {o : Obj} (h : w.heap[b]? = some o) (hb : Below w.heap.size w w') : w'.heap[b]? = some o := (hb.block b (Array.getElem?_eq_some_iff.1 h).1).trans h
theorem row_ne2 {w : World} {b b' : Nat} {o o' : Obj} (h : w.heap[b]? = some o) (h' : w.heap[b']? = some o') (hn : o ≠ o') : b ≠ b' := by
  rintro rfl
  rw [h] at h'
  cases h'
  exact hn rfl
theorem grew_trans' {w0 w w1 : World} (h : Below w0.heap.size w0 w) (hb : Below w.heap.size w w1) : Below w0.heap.size w0 w1 := h.trans (hb.mono h.size)
def slZ : Value → Option (DataW Unit × List MemPlace)
  | .slice none 0 0 => some (nilD, [])
  | _ => none
theorem slZ_inv {v : Value} {y : DataW Unit × List MemPlace} (h : slZ v = some y) : v = .slice none 0 0 := by
  unfold slZ at h
  split at h
  · rfl
  · cases h
theorem zero84 (w : World) : (zeroValue 42).run Tryz.prog w = .ok (.slice none 0 0) w := by kernel_rfl
theorem slmap_of {w : World} {mc : Nat} (h : w.heap[mc]? = some (.map #[] 0)) : w.ownsMap Tryz.prog (3) slZ mc 0 (.map []) := by
  have hlt := (Array.getElem?_eq_some_iff.1 h).1
  have e : ({ w with heap := w.heap.extract 0 mc } : World).heap.size = mc := by simp; omega
  have hb := World.ownsMap_made ({ w with heap := w.heap.extract 0 mc } : World) Tryz.prog (3) slZ
  rw [e] at hb
  obtain ⟨es, c, ho, r⟩ := hb
  exact ⟨es, c, (h.trans (at_new (w := { w with heap := w.heap.extract 0 mc }) e.symm).symm).trans ho, r⟩
theorem look_none {w : World} {mc : Nat} (h : w.heap[mc]? = some (.map #[] 0)) (b : Nat) (hb : b < 2048) : (Instr.lookup 146 (.map (some mc)) (.int .i64 (b : Int)) false).run Tryz.prog w = .ok (.slice none 0 0) w := by
  obtain ⟨v, ps, hr, hv⟩ := (slmap_of h).lookup keyed3 Tryz.underlying146 (zero84 w) (show slZ (.slice none 0 0) = some (nilD, []) from rfl) (key_of (b := b) (by omega))
  rw [hr, slZ_inv hv]

set_option maxHeartbeats 1000000 in
theorem each_none {w : World} {s p1 p2 : Nat} (hs : w.heap[s]? = some (.cells #[.int .i64 0, .map (some p1), .map (some p2)] 149 (0, 0))) (h2 : w.heap[p2]? = some (.map #[] 0)) (b : Nat) (hb : b < 2048) (f : Value) : Calls Tryz.prog 163 #[.pointer (some ⟨s, 0, none⟩), .int .i64 (b : Int), f] w fun e w' => e = .returned (.tuple #[]) ∧ w' = w := by
  have c2 : w.cell? ⟨s, 2, none⟩ = some (.map (some p2)) := cell_of_row _ _ 2 _ 149 _ hs
  have hlk := look_none h2 b hb
  clear hs h2
  go_enter Tryz.func163, Tryz.ntmps163
  go_wp2_with fail
  go_loopw [15] (fun iv wr => iv = .int .i64 0 ∧ wr = w) (fun iv _ => 0)
  case atStart => exact ⟨rfl, rfl⟩
  case round =>
    obtain ⟨rfl, rfl⟩ := hrel
    go_wp2_with fail
    refine bodyPost_end (results_none rfl _ _ _) rfl ?_
    exact ⟨rfl, rfl⟩

set_option maxHeartbeats 400000 in
theorem pmade_ok {w : World} {s p1 p2 : Nat} (hs : w.heap[s]? = some (.cells #[.int .i64 0, .map (some p1), .map (some p2)] 149 (0, 0))) : Calls Tryz.prog 69 #[.pointer (some ⟨s, 0, none⟩)] w fun e w' => e = .returned (.bool true) ∧ w' = w := by
  have c1 : w.cell? ⟨s, 1, none⟩ = some (.map (some p1)) := cell_of_row _ _ 1 _ 149 _ hs
  have hq := fun w r => run_neq_map_nil (P := Tryz.prog) w 147 3 238 r Tryz.underlying147
  clear hs
  go_enter Tryz.func69, Tryz.ntmps69
  go_wp2
  go_ret
  exact ⟨rfl, rfl⟩
set_option maxHeartbeats 400000 in
theorem prefusal_ok {w : World} {s p1 p2 : Nat} (hs : w.heap[s]? = some (.cells #[.int .i64 0, .map (some p1), .map (some p2)] 149 (0, 0))) (q : Option Addr) (cc : Nat) : Calls Tryz.prog 161 #[.pointer (some ⟨s, 0, none⟩), .slice q 128 cc] w fun e w' => e = .returned (.int .i64 0) ∧ w' = w := by
  have hm := pmade_ok hs
  clear hs
  go_enter Tryz.func161, Tryz.ntmps161
  go_wp2_with (first | (go_at_call 69; refine same_at hm ?_))
  go_ret
  exact ⟨rfl, rfl⟩
set_option maxHeartbeats 2000000 in
theorem now_none {w : World} {s p1 p2 : Nat} (hs : w.heap[s]? = some (.cells #[.int .i64 0, .map (some p1), .map (some p2)] 149 (0, 0))) (h2 : w.heap[p2]? = some (.map #[] 0)) (b : Nat) (hb : b < 2048) (a : Addr) (cc : Nat) (xs : List Int) (hx : BI w (some a) 128 xs) :
    Calls Tryz.prog 101 #[.pointer (some ⟨s, 0, none⟩), .int .i64 (b : Int), .slice (some a) 128 cc] w fun e w' => ∃ x cap, e = .returned (.tuple #[.slice (some ⟨x, 0, none⟩) 128 cap, .int .i64 0]) ∧ Own w.heap.size w' x 128 cap xs ∧ Below w.heap.size w w' := by
  have hr := prefusal_ok hs (some a) cc
  have hcl := sclone_some a 128 cc xs w hx
  have HS : Hid (w.heap[s]? = some (.cells #[.int .i64 0, .map (some p1), .map (some p2)] 149 (0, 0)) ∧ w.heap[p2]? = some (.map #[] 0)) := ⟨hs, h2⟩
  clear hs h2 hx
  go_enter Tryz.func101, Tryz.ntmps101
  go_wp2_with (first | (go_at_call 161; refine same_at hr ?_))
  refine Calls.mono hcl ?_
  rintro e w2 ⟨x, cap, rfl, ho, hb2⟩
  obtain ⟨W3, hW3⟩ : ∃ W3, (w2.alloc (.cells #[.slice none 0 0] 75)).setCell ⟨w2.heap.size, 0, none⟩ (.slice (some ⟨x, 0, none⟩) 128 cap) = W3 := ⟨_, rfl⟩
  have hb3 : Below w2.heap.size w2 W3 := by rw [← hW3]; exact ((Below.refl _ _).alloc (Nat.le_refl _) _).setCell (Nat.le_refl _) _
  have hr3 : W3.heap[w2.heap.size]? = some (.cells #[.slice (some ⟨x, 0, none⟩) 128 cap] 75 (0, 0)) := by rw [← hW3]; exact heap_setCell_same _ _ 0 _ 75 _ (at_new rfl)
  have k0 : W3.cell? ⟨w2.heap.size, 0, none⟩ = some (.slice (some ⟨x, 0, none⟩) 128 cap) := cell_of_row _ _ 0 _ 75 _ hr3
  have hB := grew_trans' hb2 hb3
  have hea := each_none (kept_row HS.out.1 hB) (kept_row HS.out.2 hB) b hb
  have HX : Hid (Own w.heap.size W3 x 128 cap xs ∧ Below w.heap.size w W3) := ⟨ho.kept hb3, hB⟩
  clear hcl hr ho hb2 hb3 hr3 hB
  dsimp only
  go_wp2_with (first | (go_at_call 163; refine same_at (hea _) ?_))
  go_ret2
  exact ⟨x, cap, rfl, HX.out.1, HX.out.2⟩

set_option maxHeartbeats 400000 in
theorem vhas_ok {w : World} {v d : Nat} {k : Int} (hv : w.cell? ⟨v, 2, none⟩ = some (.pointer (some ⟨d, 0, none⟩))) (hd : w.cell? ⟨d, 0, none⟩ = some (.int .i64 k)) (b : Nat) (hb : (b : Int) < k) : Calls Tryz.prog 99 #[.pointer (some ⟨v, 0, none⟩), .int .i64 (b : Int)] w fun e w' => e = .returned (.bool true) ∧ w' = w := by
  have hbl := blocks_some w d k hd
  have d1 : (0 : Int) ≤ (b : Int) := by omega
  go_enter Tryz.func99, Tryz.ntmps99
  go_wp2_with (first | (go_at_call 50; refine same_at hbl ?_))
  go_ret
  exact ⟨rfl, rfl⟩

theorem FV.notD {B : Nat} {w : World} {v d c s m mc p1 p2 dm df : Nat} {xo : Option Addr} {S : St} (h : FV w v d c s m mc p1 p2 xo) (hD : DI B w d dm df (.slice none 0 0) S) : ∀ k, foot d dm df (.slice none 0 0) k → k ≠ v ∧ k ≠ c := by
  obtain ⟨D1, ⟨es1, k1, hm1, _⟩, _⟩ := hD.secs.ex
  obtain ⟨D2, ⟨es2, k2, hm2, _⟩, _⟩ := hD.fls.ex
  have hv := h.row
  unfold VRow at hv
  rintro k (rfl | rfl | rfl | hk)
  · exact ⟨row_ne2 hD.row hv (by simp), row_ne2 hD.row h.cac (by simp)⟩
  · exact ⟨row_ne2 hm1 hv (by simp), row_ne2 hm1 h.cac (by simp)⟩
  · exact ⟨row_ne2 hm2 hv (by simp), row_ne2 hm2 h.cac (by simp)⟩
  · simp [Value.ownBlock] at hk

end Go.Proofs.YtijbbkkapimljaaGreat
