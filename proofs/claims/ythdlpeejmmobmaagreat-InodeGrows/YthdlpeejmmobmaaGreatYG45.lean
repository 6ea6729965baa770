/- J22 -/
import Derived.Test.YthdlpeejmmobmaaGreatYG44
import Derived.Test.YthdlpeejmmobmaaGreatYG33
import Derived.Test.YthdlpeejmmobmaaGreatYG09
import Derived.Laws.Rows

namespace Go.Proofs.YthdlpeejmmobmaaGreat
open Go.RowKit Go.Maps
set_option linter.unusedVariables false
set_option maxRecDepth 100000
section
variable {w w' : World} {v : Nat} {F : Nat → Prop} {N : Nat} {I : Nat → List Int} {l c G B Q : Nat}
set_option maxHeartbeats 4000000 in
theorem addr_ok (h : Vol w v F N I l c) (hg : Geo G B Q N) {val : Nat → Nat} (hT : Tre (adI I) val) (hR : ∀ i, i < 4230 → val i ≠ 0 → val i < N) (m ln sz : Int) {n : Nat} (hn : n < 4164) (hc : c + 20 < 4611686018427387904) :
  Calls Tryz.prog 33 #[.pointer (some ⟨v, 0, none⟩), Mk.geomV G B Q, dinW m ln sz val, .int .i64 (n : Int)] w fun e w' => e = .returned (.tuple #[.int .i64 (val (slotOf n) : Int), .int .i64 0]) ∧ ∃ F' c', c' ≤ c + 3 ∧ Vol w' v F' N I l c' ∧ Pt.Stp F F' w w' := by
 obtain ⟨W, hW⟩ : ∃ W, (w.alloc (Mk.geomO G B Q)).alloc (dinX m ln sz val) = W := ⟨_, rfl⟩
 have hb : Below w.heap.size w W := by rw [← hW]; exact ((Below.refl _ _).alloc (Nat.le_refl _) _).alloc (by simp) _
 have hgr : W.heap[w.heap.size]? = some (Mk.geomO G B Q) := by rw [← hW]; exact at_old (at_new rfl)
 have hdx : W.heap[w.heap.size + 1]? = some (dinX m ln sz val) := by rw [← hW]; exact at_new (by simp)
 have hsz : W.heap.size = w.heap.size + 2 := by rw [← hW]; simp
 have hlt := h.lt
 have hv := h.later hb
 have hrf := irefusal_ok hv hg
 have hmh := mayHave_ok n hn
 have hwt := wayTo_ok (w.heap.size + 1) n hn
 obtain ⟨hch, hen, hs6, hp2⟩ := way_chn hn
 have c0 := (g3_of hgr).c0
 have c1 := (g3_of hgr).c1
 have c2 := (g3_of hgr).c2
 have hwu : dinX m ln sz val = .cells #[.int .i64 m, .int .i64 ln, .int .i64 sz, .int .i64 (val 0 : Int), .int .i64 (val 1 : Int), .int .i64 (val 2 : Int), .int .i64 (val 3 : Int), .int .i64 (val 4 : Int), .int .i64 (val 5 : Int)] 75 (0, 0) := rfl
 have HV : Hid (Vol W v F N I l c ∧ Below w.heap.size w W ∧ (∀ k, F k → k < w.heap.size)) := ⟨hv, hb, hlt⟩
 rw [hwu] at hW
 have edw : dinW m ln sz val = Mk.dinV m ln sz (val 0 : Int) (val 1 : Int) (val 2 : Int) (val 3 : Int) (val 4 : Int) (val 5 : Int) := rfl
 rw [edw]
 clear edw hv h hb hlt
 go_enter Tryz.func33, Tryz.ntmps33
 go_wp2_with fail
 refine Mk.grew_at hrf ?_
 intro w1 hb1
 have hdx1 := (hb1.block _ (by omega)).trans hdx
 have hs1 := hb1.size
 dsimp only
 go_wp2_with (first
  | (go_at_call 78; refine same_at (hmh _) ?_))
 refine Calls.mono (hwt _) ?_
 rintro e w2 ⟨q, rfl, hq, hqw, hb2⟩
 have hs2 := hb2.size
 have hb12 : Below W.heap.size W w2 := hb1.trans (hb2.mono hs1)
 have hdx2 := (hb12.block _ (by omega)).trans hdx
 obtain ⟨hvW, hbW, hltF⟩ := HV.out
 have hv2 := hvW.later hb12
 have hfo := follow_ok hv2 hT hR (dino_of hdx2) (fun hf => by have := hltF _ hf; omega) hch (fun h9 => by omega) q hq (fun k hk => ⟨fun hf => by have := hltF _ hf; have := (hqw k hk).1; omega, (hqw k hk).2⟩) (by omega)
 have es : slotV (w.heap.size + 1) val (wayS n) = .iface 239 (.agg #[.pointer (some ⟨w.heap.size + 1, 3 + wayS n, none⟩)]) := if_pos hs6
 rw [es] at hfo
 have hval := hT.fol_end hch
 rw [hen] at hval
 obtain ⟨s3, ps3, hfe⟩ : ∃ s3 ps3, fol val (wayS n) (wayP n) = (s3, ps3) := ⟨_, _, rfl⟩
 rw [hfe] at hfo hval
 clear hch hen hwt hq es hfe
 dsimp only at hfo hval
 dsimp only
 go_wp2_with fail
 refine Calls.mono hfo ?_
 rintro e w3 ⟨q3, rfl, hq3, hqq3, hch3, hup3, hnil3, F3, c3, hc3, hv3, hst3⟩
 have hstw : Pt.Stp F F3 w w3 := stp_after hbW (stp_after hb12 hst3)
 have HS : Hid (Pt.Stp F F3 w w3 ∧ val s3 = val (slotOf n)) := ⟨hstw, hval⟩
 clear hval hstw hst3 hfo hv2 hvW hdx2 hdx1 hdx hgr hnil3 c0 c1 c2 hmh hrf hltF hbW hb12 hup3 hch3 hqw hqq3
 have hsv : (slotV (w.heap.size + 1) val s3).oneCell' = true := by unfold slotV; split <;> simp [Value.oneCell']
 obtain ⟨W4, hW4⟩ : ∃ W4, w3.alloc (Obj.cells #[.nilIface, .slice none 0 0, .int .i64 0] 156) = W4 := ⟨_, rfl⟩
 have hb4 : Below w3.heap.size w3 W4 := by rw [← hW4]; exact Mk.grew_alloc _ _
 have hn4 : W4.heap[w3.heap.size]? = some (.cells #[.nilIface, .slice none 0 0, .int .i64 0] 156 (0, 0)) := by rw [← hW4]; exact at_new rfl
 obtain ⟨W5, hW5⟩ : ∃ W5, W4.setRow w3.heap.size #[slotV (w.heap.size + 1) val s3, .slice q3 ps3.length ps3.length, .int .i64 (val s3 : Int)] = W5 := ⟨_, rfl⟩
 have hn5 : W5.heap[w3.heap.size]? = some (.cells #[slotV (w.heap.size + 1) val s3, .slice q3 ps3.length ps3.length, .int .i64 (val s3 : Int)] 156 (0, 0)) := by rw [← hW5]; exact setRow_heap _ _ _ _ _ _ hn4
 have hb5 : Below w3.heap.size w3 W5 := by rw [← hW5]; exact below_setRow hb4 (Nat.le_refl _) _
 have hv5 := hv3.later hb5
 have e2 := cell_of_row _ _ 2 _ _ _ hn5
 have HB5 : Hid (Below w3.heap.size w3 W5) := hb5
 clear hb4 hb5 hv3 hq3
 dsimp only
 go_wp2_with (first
  | (refine wpList_store_row rfl 156 _ _ rfl w3.heap.size #[slotV (w.heap.size + 1) val s3, .slice q3 ps3.length ps3.length, .int .i64 (val s3 : Int)] rfl rfl 156 _ hn4 info156 rfl (one3 hsv rfl rfl) ?_; rw [hW5]))
 go_ret2
 refine ⟨by rw [← HS.out.2]; rfl, F3, c3, hc3, hv5, stp_grown HS.out.1 HB5.out⟩
end
theorem stp_out {D D' : Nat → Prop} {w w' : World} (h : Pt.Stp D D' w w') {k : Nat} (hk : k < w.heap.size) (hn : ¬ D k) : w'.heap[k]? = w.heap[k]? ∧ ¬ D' k ∧ k < w'.heap.size :=
 ⟨h.fr.block k hk hn, fun hd => (h.new k hd).elim hn (fun h9 => by omega), by have := h.fr.size; omega⟩
theorem R4.stp {D D' : Nat → Prop} {w w' : World} {x p v g b i : Nat} {pd px py : Value} (h : R4 w x p v g b i pd px py) (hs : Pt.Stp D D' w w') (hn : ¬ D x ∧ ¬ D p) : R4 w' x p v g b i pd px py ∧ ¬ D' x ∧ ¬ D' p := by
 obtain ⟨a1, a2, _⟩ := stp_out hs h.lt.1 hn.1
 obtain ⟨b1, b2, _⟩ := stp_out hs h.lt.2 hn.2
 exact ⟨h.keptIf a1 b1, a2, b2⟩
theorem stp_row {D D' : Nat → Prop} {w w1 w2 : World} {m : Nat} (h : Pt.Stp D D' w w1) (hg : w1.grownBy w2 (some m)) (hm : D m ∨ w.heap.size ≤ m) : Pt.Stp D D' w w2 :=
 ⟨⟨hg.os.trans h.fr.os, hg.tape.trans h.fr.tape, hg.output.trans h.fr.output, Nat.le_trans h.fr.size hg.size, fun k hk hn => (hg.block k (by have := h.fr.size; omega) (fun e => by cases e; exact hm.elim hn (fun h9 => by omega))).trans (h.fr.block k hk hn)⟩, h.new⟩
theorem ii_row {w w' : World} {q : Option Addr} {n : Nat} {zs : List Int} {mb : Nat} {es : Array MapEntry} {cl : Nat} (h : Pt.II w q n zs) (hm : w.heap[mb]? = some (.map es cl)) (hg : w.grownBy w' (some mb)) : Pt.II w' q n zs := by
 refine ⟨h.len, h.big, h.fit, fun h0 => ?_⟩
 obtain ⟨b, o, rfl, hc⟩ := h.cells h0
 have hne : b ≠ mb := fun e => by
  have := hc 0 h0
  rw [e] at this
  simp [World.cell?, hm] at this
 exact ⟨b, o, rfl, fun k hk => (cell_keq (hg.block b (Mk.lt_of_cell (hc k hk)) (fun e => by cases e; exact hne rfl))).trans (hc k hk)⟩
theorem wpList_load_wanted {P : Program} {ops : Array Oper} {rest : List Oper} {o : Oper} {a : Act} {w : World} {Q : Exit → Act → World → Prop} (hwant : Region.wanted o (yielded ops a.tmps) = true) (ty : TypeId) (x : Operand) (ho : o.op = .load ty x)
  (g : Nat) (hx : a.eval x = .pointer (some ⟨g, 0, none⟩)) (t : TypeId) (cs : Array Value) (fr : Nat × Nat) (d : TypeDesc) (hg : w.heap[g]? = some (.cells cs t fr))
  (hu : P.underlying ty = some d) (hd : (match d with | .struct _ | .array _ _ => true | _ => false) = true) (hi : (P.info? ty).map (·.size) = some cs.size)
  (h : wpList P ops Q rest (a.put o.dst (.agg cs)) w) : wpList P ops Q (o :: rest) a w :=
 wpList_step fun K hK => by rw [if_pos hwant]; exact wp_load_row ty x ho g hx t cs fr d hg hu hd hi (hK _ _ h)
theorem wpList_neq_wanted {P : Program} {ops : Array Oper} {rest : List Oper} {o : Oper} {a : Act} {w : World} {Q : Exit → Act → World → Prop} (hwant : Region.wanted o (yielded ops a.tmps) = true) (t : TypeId) (x y : Operand) (ho : o.op = .binOp .neq t x y t)
  (A B : Array Value) (hx : a.eval x = .agg A) (hy : a.eval y = .agg B) (hg : P.eqGuardType P.depth t = false) (r : Bool) (hr : (Op.equalIn 10000 t (.agg A) (.agg B)).run P w = .ok r w)
  (h : wpList P ops Q rest (a.put o.dst (.bool (!r))) w) : wpList P ops Q (o :: rest) a w :=
 wpList_step fun K hK => by
  rw [if_pos hwant]
  unfold Oper.wp
  have h1 := run_eqGuard_agg (P := P) (w := w) BinOp.neq t x y A B hg
  have h2 := run_neq_struct (P := P) (w := w) t A B
  rw [hr] at h2
  simp [execOp, ho, hx, hy, h1, h2, Result.andThen]
  exact hK _ _ h
theorem span_slot {A : Nat → Nat → Int} {val : Nat → Nat} (h : Tre A val) {s : Nat} (hs : s < 4230) (h0 : val s ≠ 0) : (nlist (span val)).contains (val s : Int) = true := by
 rw [List.contains_iff_mem]
 exact List.mem_map.2 ⟨val s, (span_iff h (val s)).2 ⟨s, hs, h0, rfl⟩, rfl⟩
theorem contains_ok {w : World} {q : Option Addr} {n c : Nat} {zs : List Int} (h : Pt.II w q n zs) (x : Int) : Calls Tryz.prog 35 #[.slice q n c, .int .i64 x] w fun e w' => e = .returned (.bool (zs.contains x)) ∧ w' = w := by
 have hl := h.len
 have hb := h.big
 by_cases h0 : 0 < n
 ·obtain ⟨b, o, rfl, hc⟩ := h.cells h0
  have := Pt.sh_slices_Contains_int b o n c zs x w (by omega) (by omega) (fun j hj => hc j (by omega))
  rw [List.take_of_length_le (by omega)] at this
  exact this
 ·obtain rfl : n = 0 := by omega
  have hz : zs = [] := List.length_eq_zero_iff.1 hl
  subst hz
  exact Pt.sh_slices_Contains_int_empty q c x w
theorem vol_grown {w w' : World} {v : Nat} {F : Nat → Prop} {N : Nat} {I : Nat → List Int} {l c m : Nat} (h : Vol w v F N I l c) (hg : w.grownBy w' (some m)) (hm : ¬ F m) : Vol w' v F N I l c :=
 h.else hg.size (fun q hq => hg.block q (h.lt q hq) (fun e => hm (by rw [← Option.some.inj e]; exact hq)))
theorem R4.grown {w w' : World} {x p v g b i m : Nat} {pd px py : Value} (h : R4 w x p v g b i pd px py) (hg : w.grownBy w' (some m)) (h1 : x ≠ m) (h2 : p ≠ m) : R4 w' x p v g b i pd px py :=
 h.keptIf (hg.block _ h.lt.1 (fun e => h1 (Option.some.inj e))) (hg.block _ h.lt.2 (fun e => h2 (Option.some.inj e)))
theorem row_grown {w w' : World} {k m : Nat} {o : Obj} (h : w.heap[k]? = some o) (hg : w.grownBy w' (some m)) (hk : k ≠ m) : w'.heap[k]? = some o :=
 (hg.block k (Array.getElem?_eq_some_iff.1 h).1 (fun e => hk (Option.some.inj e))).trans h
theorem row_below {w w' : World} {k : Nat} {o : Obj} (h : w.heap[k]? = some o) (hb : Below w.heap.size w w') : w'.heap[k]? = some o :=
 (hb.block k (Array.getElem?_eq_some_iff.1 h).1).trans h
end Go.Proofs.YthdlpeejmmobmaaGreat
