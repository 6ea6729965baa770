/- All that a patch needs, as it is told; Get. -/
import Derived.Test.YteapkfnklbhdfaaAn
namespace Go.Proofs.Yteapkfnklbhdfaa
open Go.RowKit Go.Maps
set_option linter.unusedVariables false

/-- All needs, patch by patch. -/
def anIs (p : Pv) : List Pv → List Int → List Int
  | [], I => I
  | q :: l, I => anIs p l (anI p q I)
theorem anIs_snoc (p : Pv) : ∀ (l : List Pv) (q : Pv) (I : List Int), anIs p (l ++ [q]) I = anI p q (anIs p l I)
  | [], _, _ => rfl
  | r :: l, q, I => by rw [List.cons_append]; exact anIs_snoc p l q _
theorem anI_len (p q : Pv) (I : List Int) : (anI p q I).length ≤ I.length + 1 := by unfold anI; split <;> simp
theorem anIs_len (p : Pv) : ∀ (l : List Pv) (I : List Int), (anIs p l I).length ≤ I.length + l.length
  | [], I => by simp [anIs]
  | q :: l, I => by
    have h1 := anI_len p q I
    have h2 := anIs_len p l (anI p q I)
    simp only [anIs, List.length_cons]
    omega
theorem anIs_mem (p : Pv) : ∀ (l : List Pv) (I : List Int) (x : Int), x ∈ anIs p l I → x ∈ I ∨ ∃ q ∈ l, (q.id : Int) = x
  | [], I, x, h => .inl h
  | q :: l, I, x, h => by
    rcases anIs_mem p l _ x h with h | ⟨r, hr, e⟩
    · unfold anI at h
      split at h
      · rcases List.mem_append.1 h with h | h
        · exact .inl h
        · exact .inr ⟨q, List.mem_cons_self, (List.mem_singleton.1 h).symm⟩
      · exact .inl h
    · exact .inr ⟨r, List.mem_cons_of_mem _ hr, e⟩

theorem Nums.base {B B' : Nat} {w : World} {v : Value} {zs : List Int} (h : Nums B w v zs) (hB : B' ≤ B) : Nums B' w v zs := by
  refine ⟨h.1, ?_⟩
  rcases h.2 with h' | ⟨g', cap', cur, h', hbg, rest⟩
  · exact .inl h'
  · exact .inr ⟨g', cap', cur, h', by omega, rest⟩
theorem Nums.slice {B : Nat} {w : World} {v : Value} {zs : List Int} (h : Nums B w v zs) : ∃ q c, v = .slice q zs.length c := by
  rcases h.2 with ⟨e, e0⟩ | ⟨g, cp, cur, e, _⟩
  · exact ⟨none, 0, by rw [e, e0]⟩
  · exact ⟨_, _, e⟩

/-- A patch's needs, as they are told. -/
def ndOf (P : List Pv) (p : Pv) : List Int := rs (anIs p (ofB P (p.blk : Int)) (still P p.nd))

set_option maxRecDepth 100000 in
set_option maxHeartbeats 2000000 in
theorem allNeeds_ok {B : Nat} {w : World} {a mp mb last : Nat} {P : List Pv} {K : Int → Option Value} (h : PS B w a mp mb last P K) (p : Pv) (hp : Tw P p) (hl : p.nd.length ≤ 1000) :
    Calls Try.prog 59 #[.pointer (some ⟨a, 0, none⟩), p.v] w fun e w' => ∃ q c, e = .returned (.slice q (ndOf P p).length c) ∧ II w' q (ndOf P p).length (ndOf P p) ∧ Plain q ∧ (∀ g, blkOf q = some g → w.heap.size ≤ g) ∧ Below w.heap.size w w' := by
  obtain ⟨W, hW⟩ : ∃ W, w.alloc (.cells p.cells 44) = W := ⟨_, rfl⟩
  have hbW : Below w.heap.size w W := by rw [← hW]; exact (Below.refl _ w).alloc (Nat.le_refl _) _
  have hrow : W.heap[w.heap.size]? = some (.cells p.cells 44 (0, 0)) := by rw [← hW]; exact at_new rfl
  have hWs : W.heap.size = w.heap.size + 1 := by rw [← hW]; simp
  obtain ⟨d0, d1, d2, d3, d4⟩ := cells5 hrow
  have hv : p.v = .agg p.cells := rfl
  have hst := stillPending_ok (h.kept hbW) p.np p.nd.length p.nc p.nd (by obtain ⟨_, _, hp⟩ := hp; have := ((h.kept hbW).nee _ hp).1; exact this) (by omega)
  have hid : 1 ≤ p.id ∧ p.id ≤ last ∧ p.blk ≤ 9223372036854775807 ∧ 1 ≤ p.bs.length ∧ p.off + p.bs.length ≤ 128 := by obtain ⟨_, _, hp⟩ := hp; have := h.ids _ hp; exact this
  have hlw : ∀ x ∈ p.nd, 1 ≤ x ∧ x < (p.id : Int) := by obtain ⟨_, _, hp⟩ := hp; have := h.low _ hp; exact this
  go_enter Try.func59, Try.ntmps59
  go_wp2_with (first | fail)
  refine hst.mono ?_
  rintro e w1 ⟨iv, rfl, hN, hb1⟩
  have hs1 := hb1.size
  obtain ⟨q0, c0, e0⟩ := hN.slice
  obtain ⟨k0, hk0⟩ : ∃ k0, k0 = (still P p.nd).length := ⟨_, rfl⟩
  rw [← hk0] at e0
  obtain ⟨W2, hW2⟩ : ∃ W2, (w1.alloc (.cells #[.slice none 0 0] 30)).setCell ⟨w1.heap.size, 0, none⟩ iv = W2 := ⟨_, rfl⟩
  have hb2 : Below w1.heap.size w1 W2 := by rw [← hW2]; exact ((Below.refl _ w1).alloc (Nat.le_refl _) _).setCell (p := ⟨w1.heap.size, 0, none⟩) (Nat.le_refl _) _
  have hbT : Below w.heap.size w W2 := hbW.trans ((hb1.trans (hb2.mono hs1)).mono (by omega))
  have hro2 : W2.heap[w.heap.size]? = some (.cells p.cells 44 (0, 0)) := by rw [(hb1.trans (hb2.mono hs1)).block w.heap.size (by omega)]; exact hrow
  have hA0 : AN B w.heap.size w W2 a mp mb last P K p w.heap.size w1.heap.size iv (still P p.nd) :=
    ⟨h, hbT, rfl, hro2, by rw [← hW2]; exact one_setCell (at_new rfl), Nums.base (hN.kept hb2) (by omega), ⟨by omega, by omega⟩⟩
  have hln : (still P p.nd).length ≤ p.nd.length := List.length_filter_le _ _
  have hPl := h.len
  have hsm := h.sml
  have hob : (ofB P (p.blk : Int)).length ≤ P.length := List.length_filter_le _ _
  have hea := each77_ok h w.heap.size w1.heap.size (fun pre w' => ∃ iv, AN B w.heap.size w w' a mp mb last P K p w.heap.size w1.heap.size iv (anIs p pre (still P p.nd))) (p.blk : Int) ⟨by omega, by omega⟩ (fun pre w' hj => hj.choose_spec.bel)
    (fun pre q w' hj hq hpl => by
      obtain ⟨iv, hj⟩ := hj
      have hal := anIs_len p pre (still P p.nd)
      refine (an1_ok hj hp q hq (by omega)).mono ?_
      rintro e w2 ⟨rfl, iv', hj'⟩
      exact ⟨rfl, iv', by rw [anIs_snoc]; exact hj'⟩) ⟨iv, hA0⟩
  obtain ⟨Z, hZ⟩ : ∃ Z, Z = anIs p (ofB P (p.blk : Int)) (still P p.nd) := ⟨_, rfl⟩
  have hZl : Z.length ≤ 3000 := by have := anIs_len p (ofB P (p.blk : Int)) (still P p.nd); rw [hZ]; omega
  have hZf : ∀ x ∈ Z, I64 x := by
    intro x hx
    rw [hZ] at hx
    rcases anIs_mem p _ _ x hx with hx | ⟨q, hq, rfl⟩
    · have := hlw x (List.mem_filter.1 hx).1
      exact ⟨by omega, by omega⟩
    · have := h.ids q (List.mem_filter.1 hq).1
      exact ⟨by omega, by omega⟩
  have HZ : Hid (ndOf P p = rs Z) := by show _ = _; rw [hZ]; rfl
  rw [← hZ] at hea
  have c1 : W2.cell? ⟨w.heap.size, 1, none⟩ = some (.int .i64 (p.blk : Int)) := (cells5 hro2).2.1
  have HK0 : Hid _ := hk0
  subst e0
  clear hk0
  clear hZ hA0 hro2 hb2 hN hb1 hst hbT d0 d1 d2 d3 d4 hrow hbW
  go_wp2_with fail
  refine hea.mono ?_
  rintro e w3 ⟨rfl, iv3, hI⟩
  have ci : w3.cell? ⟨w1.heap.size, 0, none⟩ = some iv3 := by rw [cell_of_row _ _ 0 _ 30 _ hI.ri]; rfl
  have hri := rising_ok hI.ids hI.hT (by omega) hZf
  have hbel : Below w.heap.size w w3 := hI.bel
  have HN : Hid _ := hI.ids
  clear hI hea c1
  go_wp2_with fail
  refine hri.mono ?_
  rintro e w4 ⟨q, c, rfl, hii, hpl, how, hb4⟩
  rw [← HZ.out] at hii
  have HII : Hid _ := hii
  have HQ : Hid (∀ g, blkOf q = some g → w.heap.size ≤ g) := fun g hg => (World.ownsRow.lt HN.out g (how g hg)).1
  have hb5 := hbel.trans hb4
  rw [← HZ.out]
  clear hri hii how hb4 hZf
  go_wp2_with fail
  go_ret
  exact ⟨q, c, rfl, HII.out, hpl, HQ.out, hb5⟩

theorem results_cell_tmp_row {P : Program} {fn : Func} {p u : Tmp} {ty : TypeId} (h : fn.results = #[.cell p ty, .tmp u]) (tmps : Array Value) (w : World) (g : Nat) (t : TypeId) (cs : Array Value) (fr : Nat × Nat) (d : TypeDesc)
    (hp : tmps.getD p undef = .pointer (some ⟨g, 0, none⟩)) (hg : w.heap[g]? = some (.cells cs t fr))
    (hu : P.underlying ty = some d) (hd : (match d with | .struct _ | .array _ _ => true | _ => false) = true) (hi : (P.info? ty).map (·.size) = some cs.size) :
    (results fn tmps).run P w = .ok (.tuple #[.agg cs, tmps.getD u undef]) w := by
  rw [results_cell_tmp h, hp]
  simp [asAddr, run_loadVar_row w g t ty cs fr d hg hu hd hi]

theorem anIs_tw (p : Pv) (bp : Option Addr) (bc : Nat) : ∀ (l : List Pv) (I : List Int), anIs { p with bp := bp, bc := bc } l I = anIs p l I
  | [], _ => rfl
  | q :: l, I => anIs_tw p bp bc l (anI p q I)
theorem ndOf_tw (P : List Pv) (p : Pv) (bp : Option Addr) (bc : Nat) : ndOf P { p with bp := bp, bc := bc } = ndOf P p := by
  unfold ndOf
  rw [anIs_tw]
theorem II.keptAt {w w' : World} {q : Option Addr} {n : Nat} {zs : List Int} (h : II w q n zs) (hb : ∀ g, blkOf q = some g → w'.heap[g]? = w.heap[g]?) : II w' q n zs := by
  refine ⟨h.len, h.big, h.fit, fun hn => ?_⟩
  obtain ⟨b, o, rfl, hc⟩ := h.cells hn
  refine ⟨b, o, rfl, fun i hi => ?_⟩
  rw [← hc i hi]
  simp only [World.cell?, hb b rfl]

def zc : Array Value := #[.int .i64 0, .int .i64 0, .int .i64 0, .slice none 0 0, .slice none 0 0]
theorem get_no {B : Nat} {w : World} {a mp mb last : Nat} {P : List Pv} {K : Int → Option Value} (h : PS B w a mp mb last P K) (k : Int) (hk : I64 k) (hf : fP P k = none) :
    Calls Try.prog 20 #[.pointer (some ⟨a, 0, none⟩), .int .i64 k] w fun e w' => e = .returned (.tuple #[zp, .int .i64 70]) ∧ Below w.heap.size w w' := by
  obtain ⟨W, hW⟩ : ∃ W, w.alloc (.cells #[.int .i64 0, .int .i64 0, .int .i64 0, .slice none 0 0, .slice none 0 0] 44) = W := ⟨_, rfl⟩
  have hbW : Below w.heap.size w W := by rw [← hW]; exact (Below.refl _ w).alloc (Nat.le_refl _) _
  have hrow : W.heap[w.heap.size]? = some (.cells zc 44 (0, 0)) := by rw [← hW]; exact at_new rfl
  have hWs : W.heap.size = w.heap.size + 1 := by rw [← hW]; simp
  have hm := made_ok (h.kept hbW)
  have hp := isPending_ok (h.kept hbW) k hk
  rw [hf] at hp
  have hp' : Calls Try.prog 47 #[.pointer (some ⟨a, 0, none⟩), .int .i64 k] W fun e w' => e = .returned (.bool false) ∧ Below W.heap.size W w' := hp
  clear h hp
  go_enter Try.func20, Try.ntmps20
  go_wp2_with (first | (go_at_call 45; refine same_at hm ?_) | (go_at_call 47; refine below_at hp' ?_; intro wn hbn; have hrn : wn.heap[w.heap.size]? = some (.cells zc 44 (0, 0)) := (by rw [hbn.block _ (by omega)]; exact hrow)) | (refine wpList_store_row rfl 44 _ _ rfl w.heap.size zc rfl rfl 44 _ hrn info44 rfl zp_one ?_))
  refine bodyPost_ret (v := .tuple #[zp, .int .i64 70]) (results_cell_tmp_row (p := 4) (u := 5) (ty := 44) Try.results20 _ _ w.heap.size 44 _ (0, 0) _ rfl (setRow_heap _ _ _ _ _ _ hrn) Try.underlying44 rfl info44) rfl ?_
  exact ⟨rfl, below_setRow (hbW.trans (hbn.mono (by omega))) _ (Nat.le_refl _) _⟩

set_option maxRecDepth 100000 in
set_option maxHeartbeats 2000000 in
theorem get_ok {B : Nat} {w : World} {a mp mb last : Nat} {P : List Pv} {K : Int → Option Value} (h : PS B w a mp mb last P K) (k : Int) (hk : I64 k) (p : Pv) (hf : fP P k = some p) (hl : p.nd.length ≤ 1000) :
    Calls Try.prog 20 #[.pointer (some ⟨a, 0, none⟩), .int .i64 k] w fun e w' => ∃ g cap q c, e = .returned (.tuple #[.agg #[.int .i64 (p.id : Int), .int .i64 (p.blk : Int), .int .i64 (p.off : Int), .slice (some ⟨g, 0, none⟩) p.bs.length cap, .slice q (ndOf P p).length c], .int .i64 0]) ∧ Own w.heap.size w' g p.bs.length cap p.bs ∧ II w' q (ndOf P p).length (ndOf P p) ∧ Plain q ∧ (∀ g, blkOf q = some g → w.heap.size ≤ g) ∧ Below w.heap.size w w' := by
  obtain ⟨W, hW⟩ : ∃ W, w.alloc (.cells #[.int .i64 0, .int .i64 0, .int .i64 0, .slice none 0 0, .slice none 0 0] 44) = W := ⟨_, rfl⟩
  have hbW : Below w.heap.size w W := by rw [← hW]; exact (Below.refl _ w).alloc (Nat.le_refl _) _
  have hrow : W.heap[w.heap.size]? = some (.cells zc 44 (0, 0)) := by rw [← hW]; exact at_new rfl
  have hWs : W.heap.size = w.heap.size + 1 := by rw [← hW]; simp
  have hm := made_ok (h.kept hbW)
  have hp := isPending_ok (h.kept hbW) k hk
  rw [hf] at hp
  have hp' : Calls Try.prog 47 #[.pointer (some ⟨a, 0, none⟩), .int .i64 k] W fun e w' => e = .returned (.bool true) ∧ Below W.heap.size W w' := hp
  have hv : p.v = .agg p.cells := rfl
  clear hp
  have hpP := (fP_some hf).1
  have hid := h.ids p hpP
  go_enter Try.func20, Try.ntmps20
  go_wp2_with (first
    | (go_at_call 45; refine same_at hm ?_)
    | (go_at_call 47; refine below_at hp' ?_; intro wn hbn; have hrn : wn.heap[w.heap.size]? = some (.cells zc 44 (0, 0)) := (by rw [hbn.block _ (by omega)]; exact hrow); have hps := (h.kept hbW).kept hbn; have c1' := hps.c1; have hg2 := hps.get k hk; rw [hf] at hg2; have hg3 : (Instr.lookup 67 (.map (some mp)) (.int .i64 k) false).run Try.prog wn = .ok p.v wn := hg2; clear hg2)
    | (refine wpList_store_row rfl 44 _ _ rfl wn.heap.size p.cells rfl rfl 44 zc (at_new rfl) info44 rfl (pv_one p) ?_; have hr1 := setRow_heap (wn.alloc (.cells #[.int .i64 0, .int .i64 0, .int .i64 0, .slice none 0 0, .slice none 0 0] 44)) wn.heap.size zc p.cells 44 (0, 0) (at_new rfl); have hb1 := below_setRow ((Below.refl wn.heap.size wn).alloc (Nat.le_refl _) (.cells #[.int .i64 0, .int .i64 0, .int .i64 0, .slice none 0 0, .slice none 0 0] 44)) wn.heap.size (Nat.le_refl _) p.cells; generalize (wn.alloc (.cells #[.int .i64 0, .int .i64 0, .int .i64 0, .slice none 0 0, .slice none 0 0] 44)).setRow wn.heap.size p.cells = W1 at *; have d3 := (cells5 hr1).2.2.2.1; have hps1 := hps.kept hb1; have hcl := bclone_ok p.bp p.bs.length p.bc p.bs W1 (hps1.byt p hpP).1 hid.2.2.2.1))
  refine hcl.mono ?_
  rintro e w2 ⟨g, cap, rfl, hO, hb2⟩
  obtain ⟨p', hp'e⟩ : ∃ p' : Pv, p' = { p with bp := some ⟨g, 0, none⟩, bc := cap } := ⟨_, rfl⟩
  have hs0 := hbn.size
  have hs1 := hb1.size
  have hs2 := hb2.size
  have hlt1 : wn.heap.size < W1.heap.size := (Array.getElem?_eq_some_iff.1 hr1).1
  have hr2 : w2.heap[wn.heap.size]? = some (.cells p.cells 44 (0, 0)) := by rw [hb2.block _ hlt1]; exact hr1
  obtain ⟨W3, hW3⟩ : ∃ W3, w2.setCell ⟨wn.heap.size, 3, none⟩ (.slice (some ⟨g, 0, none⟩) p.bs.length cap) = W3 := ⟨_, rfl⟩
  have hr3 : W3.heap[wn.heap.size]? = some (.cells p'.cells 44 (0, 0)) := by
    rw [← hW3, heap_setCell_same _ _ _ _ _ _ hr2, hp'e]; rfl
  have hb3 : Below wn.heap.size wn W3 := by rw [← hW3]; exact (hb1.trans (hb2.mono (by omega))).setCell (p := ⟨wn.heap.size, 3, none⟩) (Nat.le_refl _) _
  have hs3 : W3.heap.size = w2.heap.size := by rw [← hW3]; simp
  obtain ⟨cs5, h5⟩ := own_row5 hO
  have hgw : g ≠ wn.heap.size := own_ne h5 hr2 (by decide)
  have hO3 : Own W1.heap.size W3 g p.bs.length cap p.bs := hO.keptAt (by rw [← hW3]; exact Below.heap_setCell _ _ _ _ hgw)
  have hps3 := hps.kept hb3
  have hall := allNeeds_ok hps3 p' ⟨p.bp, p.bc, by rw [hp'e]; exact hpP⟩ (by rw [hp'e]; exact hl)
  have hnd : ndOf P p' = ndOf P p := by rw [hp'e]; exact ndOf_tw P p _ _
  rw [hnd] at hall
  have d3' : w2.cell? ⟨wn.heap.size, 3, none⟩ = some (.slice p.bp p.bs.length p.bc) := (cells5 hr2).2.2.2.1
  have f3' : w2.frozen? ⟨wn.heap.size, 3, none⟩ = false := by simp [World.frozen?, hr2]
  have hv' : p'.v = .agg p'.cells := rfl
  rw [hv'] at hall
  have hrw3 : W3.heap[w.heap.size]? = some (.cells zc 44 (0, 0)) := by rw [hb3.block _ (by omega)]; exact hrn
  have HP : Hid _ := hp'e
  clear hp'e
  clear hcl hm hp' d3 hnd hv hv' hps1 hr1 hrow c1' hg3
  go_wp2_with (first
    | (refine wpList_load_row rfl 44 _ rfl wn.heap.size rfl 44 p'.cells (0, 0) _ hr3 Try.underlying44 rfl info44 ?_))
  refine hall.mono ?_
  rintro e w4 ⟨q, c, rfl, hii, hpl, hqb, hb4⟩
  have hs4 := hb4.size
  have hlt3 : wn.heap.size < W3.heap.size := (Array.getElem?_eq_some_iff.1 hr3).1
  have hr4 : w4.heap[wn.heap.size]? = some (.cells p'.cells 44 (0, 0)) := by rw [hb4.block _ hlt3]; exact hr3
  have hrw4 : w4.heap[w.heap.size]? = some (.cells zc 44 (0, 0)) := by rw [hb4.block _ (by omega)]; exact hrw3
  have hO4 : Own W1.heap.size w4 g p.bs.length cap p.bs := hO3.kept hb4
  have d4' : w4.cell? ⟨wn.heap.size, 4, none⟩ = some (.slice p.np p.nd.length p.nc) := by rw [(cells5 hr4).2.2.2.2, HP.out]
  have f4' : w4.frozen? ⟨wn.heap.size, 4, none⟩ = false := by simp [World.frozen?, hr4]
  obtain ⟨W5, hW5⟩ : ∃ W5, w4.setCell ⟨wn.heap.size, 4, none⟩ (.slice q (ndOf P p).length c) = W5 := ⟨_, rfl⟩
  obtain ⟨cs, hcs⟩ : ∃ cs : Array Value, cs = #[.int .i64 (p.id : Int), .int .i64 (p.blk : Int), .int .i64 (p.off : Int), .slice (some ⟨g, 0, none⟩) p.bs.length cap, .slice q (ndOf P p).length c] := ⟨_, rfl⟩
  have hr5 : W5.heap[wn.heap.size]? = some (.cells cs 44 (0, 0)) := by
    rw [← hW5, heap_setCell_same _ _ _ _ _ _ hr4, HP.out, hcs]; rfl
  have hrw5 : W5.heap[w.heap.size]? = some (.cells zc 44 (0, 0)) := by rw [← hW5, Below.heap_setCell _ _ _ _ (show w.heap.size ≠ wn.heap.size by omega)]; exact hrw4
  have hb5 : Below wn.heap.size wn W5 := by rw [← hW5]; exact (hb3.trans (hb4.mono (by omega))).setCell (p := ⟨wn.heap.size, 4, none⟩) (Nat.le_refl _) _
  have hcs1 : cs.all (·.oneCell') = true := by rw [hcs]; simp [Value.oneCell']
  have hcs5 : cs.size = 5 := by rw [hcs]; rfl
  have hi5 : (Try.prog.info? 44).map (·.size) = some cs.size := by rw [hcs5]; exact info44
  obtain ⟨W6, hW6⟩ : ∃ W6, W5.setRow w.heap.size cs = W6 := ⟨_, rfl⟩
  have hr6 : W6.heap[w.heap.size]? = some (.cells cs 44 (0, 0)) := by rw [← hW6]; exact setRow_heap _ _ _ _ _ _ hrw5
  have ho6 : ∀ k, k ≠ w.heap.size → k ≠ wn.heap.size → W6.heap[k]? = w4.heap[k]? := fun k h1 h2 => by
    rw [← hW6, setRow_other _ _ _ _ h1, ← hW5]; exact Below.heap_setCell _ _ _ _ h2
  have hgs := hO4.spot.1
  have HO : Hid (Own w.heap.size W6 g p.bs.length cap p.bs) := (hO4.keptAt (ho6 g (by omega) (by omega))).base (by omega)
  have HII : Hid (II W6 q (ndOf P p).length (ndOf P p)) := hii.keptAt (fun k hk => by have := hqb k hk; exact ho6 k (by omega) (by omega))
  have HQB : Hid (∀ g, blkOf q = some g → w.heap.size ≤ g) := fun k hk => by have := hqb k hk; omega
  have HB : Hid (Below w.heap.size w W6) := by
    show Below _ _ _
    rw [← hW6]; exact below_setRow (hbW.trans ((hbn.trans (hb5.mono hs0)).mono (by omega))) _ (Nat.le_refl _) _
  have HC : Hid _ := hcs
  clear hcs ho6 hqb hii hO4 hO3 hO hb5 hr4 hrw4 hr3 hrw3 hall hb4 hb3 hb2 hb1 hbn hps hps3 hgs
  go_wp2_with (first
    | (refine wpList_load_row rfl 44 _ rfl wn.heap.size rfl 44 cs (0, 0) _ hr5 Try.underlying44 rfl hi5 ?_)
    | (refine wpList_store_row rfl 44 _ _ rfl w.heap.size cs rfl rfl 44 zc hrw5 hi5 (by rw [hcs5]; rfl) hcs1 ?_))
  refine bodyPost_ret (v := .tuple #[.agg cs, .int .i64 0]) (results_cell_tmp_row (p := 4) (u := 5) (ty := 44) Try.results20 _ _ w.heap.size 44 _ (0, 0) _ rfl hr6 Try.underlying44 rfl hi5) rfl ?_
  refine ⟨g, cap, q, c, ?_, HO.out, HII.out, hpl, HQB.out, HB.out⟩
  rw [← HC.out]
end Go.Proofs.Yteapkfnklbhdfaa
