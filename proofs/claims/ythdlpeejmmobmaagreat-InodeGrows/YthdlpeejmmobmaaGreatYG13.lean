/- PRem PDone -/
import Derived.Test.YthdlpeejmmobmaaGreatYG12

namespace Go.Proofs.YthdlpeejmmobmaaGreat.Pt
open Go.RowKit Go.Maps
set_option maxRecDepth 100000
set_option linter.unusedVariables false
def kpP (P : List Pv) (zs : List Int) : List Pv := P.filter (fun p => !decide ((p.id : Int) ∈ zs))
theorem mem_kpP {P : List Pv} {zs : List Int} {p : Pv} : p ∈ kpP P zs ↔ p ∈ P ∧ (p.id : Int) ∉ zs := by
 unfold kpP; rw [List.mem_filter]; simp
theorem fP_kp (P : List Pv) (zs : List Int) (k : Int) : fP (kpP P zs) k = if k ∈ zs then none else fP P k := by
 unfold fP kpP
 rw [List.find?_filter]
 by_cases h : k ∈ zs
 ·rw [if_pos h, List.find?_eq_none]
  intro p _
  by_cases e : (p.id : Int) = k
  ·simp [e, h]
  ·simp [e]
 ·rw [if_neg h]
  congr 1
  funext p
  by_cases e : (p.id : Int) = k
  ·simp [e, h]
  ·simp [e]
def bq (P : List Pv) (k : Int) : Int := ((fP P k).map (fun p => (p.blk : Int))).getD 0
theorem fld1 (n c m d : Nat) (q r : Option Addr) (v0 v2 : Value) (x : Int) (w : World) : (Instr.field 218 (.agg #[v0, .int .i64 x, v2, .slice q n c, .slice r m d]) 1).run Tryz.prog w = .ok (.int .i64 x) w := by
 unfold Instr.field
 simp [asAgg, Go.part, isAgg]
theorem still_mem {P : List Pv} {zs : List Int} {k : Int} (h : k ∈ still P zs) : ∃ p, fP P k = some p := by
 unfold still at h
 exact Option.isSome_iff_exists.1 (List.mem_filter.1 h).2
theorem still_len (P : List Pv) (zs : List Int) : (still P zs).length ≤ zs.length := List.length_filter_le _ _
def fdel (f : Int → Option Value) (l : List Int) : Int → Option Value := fun k => if k ∈ l then none else f k
theorem fdel_snoc (f : Int → Option Value) (l : List Int) (y : Int) (k : Int) : fput (fdel f l) y none k = fdel f (l ++ [y]) k := by
 unfold fput fdel
 by_cases h : k = y
 ·simp [h]
 ·by_cases h2 : k ∈ l <;> simp [h, h2]
structure RS (B : Nat) (w wr : World) (a mp mb last : Nat) (P P' : List Pv) (K : Int → Option Value) (nd : Int → Bool) (Kj : Int → Option Value) : Prop where
 row : wr.heap[a]? = some (.cells #[.int .i64 (last : Int), .map (some mp), .map (some mb)] 215 (0, 0))
 pm : Mf wr mp last (fun k => (fP P' k).map Pv.v)
 bm : Mf wr mb P.length Kj
 rows : ∀ b v, Kj b = some v → I64 b ∧ wr.ownsRow B 3 1 v (if nd b then idsOf P' b else idsOf P b).length ((if nd b then idsOf P' b else idsOf P b).map (Value.int .i64)) ∧ (if nd b then idsOf P' b else idsOf P b) ≠ []
 away : ∀ b, I64 b → Kj b = none → (if nd b then idsOf P' b else idsOf P b) = []
 two : ∀ b b' v v', Kj b = some v → Kj b' = some v' → v.ownBlock = v'.ownBlock → b = b'
 new : ∀ b v g, Kj b = some v → v.ownBlock = some g → K b = some v ∨ w.heap.size ≤ g
 fr : Frame (fun k => k = mp ∨ k = mb) w wr
theorem nums_own {B : Nat} {w : World} {v : Value} {zs : List Int} (h : Nums B w v zs) (hz : zs ≠ []) : ∃ g, v.ownBlock = some g := by
 rcases h.2 with ⟨_, e⟩ | ⟨g, cap, cur, e, _⟩
 ·exact absurd (List.length_eq_zero_iff.1 e) hz
 ·exact ⟨g, by rw [e]; rfl⟩
theorem RS.step {B : Nat} {w wr w5 w6 : World} {a mp mb last : Nat} {P P' : List Pv} {K : Int → Option Value} {nd nd' : Int → Bool} {Kj : Int → Option Value} (h : RS B w wr a mp mb last P P' K nd Kj) (hne : mp ≠ mb)
  (hb : Below wr.heap.size wr w5) (hg : w5.grownBy w6 (some mb)) (b : Int) (hI : I64 b) (u : Option Value) (hM : Mf w6 mb P.length (fput Kj b u))
  (hu : (u = none ∧ idsOf P' b = []) ∨ ∃ v, u = some v ∧ Nums wr.heap.size w5 v (idsOf P' b) ∧ idsOf P' b ≠ []) (hnd : ∀ x, nd' x = if x = b then true else nd x) (hB : B ≤ wr.heap.size) :
  RS B w w6 a mp mb last P P' K nd' (fput Kj b u) := by
 obtain ⟨eb, cb, hmb⟩ := h.bm.isMap
 have hmb5 : w5.heap[mb]? = some (.map eb cb) := by rw [hb.block mb h.bm.lt]; exact hmb
 have hkp : ∀ k, k < wr.heap.size → k ≠ mb → w6.heap[k]? = wr.heap[k]? := fun k hk hn => by
  rw [hg.block k (Nat.lt_of_lt_of_le hk hb.size) (fun e => hn (by cases e; rfl)), hb.block k hk]
 have hz := h.fr.size
 have hnb : nd' b = true := by rw [hnd, if_pos rfl]
 have hno : ∀ x, x ≠ b → nd' x = nd x := fun x hx => by rw [hnd, if_neg hx]
 have hcell : ∀ {g : Nat} {cs : Array Value} {t : TypeId} {fr : Nat × Nat}, w5.heap[g]? = some (.cells cs t fr) → g ≠ mb := fun hc e => by
  subst e; rw [hmb5] at hc; cases hc
 refine ⟨?_, ?_, hM, ?_, ?_, ?_, ?_, ?_⟩
 ·rw [hkp a (Array.getElem?_eq_some_iff.1 h.row).1 (map_ne h.row hmb)]; exact h.row
 ·exact h.pm.kept (hkp mp h.pm.lt hne)
 ·intro x v hv
  by_cases e : x = b
  ·subst e
   rw [fput_same] at hv
   rcases hu with ⟨hu, _⟩ | ⟨v2, hu, hN, hne2⟩
   ·rw [hu] at hv; cases hv
   ·rw [hu] at hv
    cases hv
    rw [hnb]
    simp only [if_true]
    refine ⟨hI, ?_, hne2⟩
    refine row_keptIf (hN.base hB) (fun g hg' => ?_)
    obtain ⟨cs, hc⟩ := row_ty hN hg'
    exact hg.block g (World.ownsRow.lt hN g hg').2 (fun e => hcell hc (by cases e; rfl))
  ·rw [fput_other _ e] at hv
   rw [hno x e]
   obtain ⟨h1, h2, h3⟩ := h.rows x v hv
   refine ⟨h1, row_keptIf h2 (fun g hg' => ?_), h3⟩
   obtain ⟨cs, hc⟩ := row_ty h2 hg'
   exact hkp g (h2.lt g hg').2 (fun e => by subst e; rw [hmb] at hc; cases hc)
 ·intro x hx hn
  by_cases e : x = b
  ·subst e
   rw [fput_same] at hn
   rw [hnb]
   simp only [if_true]
   rcases hu with ⟨_, hu⟩ | ⟨v2, hu, _⟩
   ·exact hu
   ·rw [hu] at hn; cases hn
  ·rw [fput_other _ e] at hn
   rw [hno x e]
   exact h.away x hx hn
 ·have key : ∀ x v v2, x ≠ b → Kj x = some v → u = some v2 → v.ownBlock ≠ v2.ownBlock := fun x v v2 hx hv hu2 eq => by
   rcases hu with ⟨hu, _⟩ | ⟨v3, hu, hN, hne2⟩
   ·rw [hu] at hu2; cases hu2
   ·rw [hu] at hu2
    cases hu2
    obtain ⟨g, hg'⟩ := nums_own hN hne2
    have h1 := (World.ownsRow.lt hN g hg').1
    have h2 := ((h.rows x v hv).2.1.lt g (by rw [eq]; exact hg')).2
    omega
  intro x y v v2 hv hv2 eq
  by_cases e : x = b
  ·by_cases e2 : y = b
   ·rw [e, e2]
   ·rw [e, fput_same] at hv
    rw [fput_other _ e2] at hv2
    exact absurd eq.symm (key y v2 v e2 hv2 hv)
  ·by_cases e2 : y = b
   ·rw [e2, fput_same] at hv2
    rw [fput_other _ e] at hv
    exact absurd eq (key x v v2 e hv hv2)
   ·rw [fput_other _ e] at hv
    rw [fput_other _ e2] at hv2
    exact h.two x y v v2 hv hv2 eq
 ·intro x v g hv hg'
  by_cases e : x = b
  ·subst e
   rw [fput_same] at hv
   rcases hu with ⟨hu, _⟩ | ⟨v2, hu, hN, _⟩
   ·rw [hu] at hv; cases hv
   ·rw [hu] at hv
    cases hv
    exact .inr (Nat.le_trans hz (World.ownsRow.lt hN g hg').1)
  ·rw [fput_other _ e] at hv
   exact h.new x v g hv hg'
 ·refine h.fr.trans ⟨hg.os.trans hb.os, hg.tape.trans hb.tape, hg.output.trans hb.output, Nat.le_trans hb.size hg.size, fun k hk hn => hkp k hk (fun e => hn (.inr e))⟩
theorem RS.later {B : Nat} {w wr w5 : World} {a mp mb last : Nat} {P P' : List Pv} {K : Int → Option Value} {nd : Int → Bool} {Kj : Int → Option Value} (h : RS B w wr a mp mb last P P' K nd Kj) {row : Option Nat} (hg : wr.grownBy w5 row)
  (hr : ∀ r, row = some r → w.heap.size ≤ r ∧ ∃ o : Obj, wr.heap[r]? = some o ∧ ∀ es ck, o ≠ .map es ck ∧ ∀ cs t fr, o ≠ .cells cs t fr) : RS B w w5 a mp mb last P P' K nd Kj := by
 have hc : ∀ {k : Nat} {cs : Array Value} {t : TypeId} {fr : Nat × Nat}, wr.heap[k]? = some (.cells cs t fr) → w5.heap[k]? = wr.heap[k]? := fun {k cs t fr} hk => hg.block k (Array.getElem?_eq_some_iff.1 hk).1 (fun e => by
  obtain ⟨_, o, ho, hn⟩ := hr k e.symm
  rw [hk] at ho
  exact (hn #[] 0).2 _ _ _ (Option.some.inj ho).symm)
 have hm : ∀ {k : Nat} {es : Array MapEntry} {ck : Nat}, wr.heap[k]? = some (.map es ck) → w5.heap[k]? = wr.heap[k]? := fun {k es ck} hk => hg.block k (Array.getElem?_eq_some_iff.1 hk).1 (fun e => by
  obtain ⟨_, o, ho, hn⟩ := hr k e.symm
  rw [hk] at ho
  exact (hn _ _).1 (Option.some.inj ho).symm)
 obtain ⟨ep, cp, hmp⟩ := h.pm.isMap
 obtain ⟨eb, cb, hmb⟩ := h.bm.isMap
 refine ⟨by rw [hc h.row]; exact h.row, h.pm.kept (hm hmp), h.bm.kept (hm hmb), fun b v hv => ?_, h.away, h.two, h.new, ⟨hg.os.trans h.fr.os, hg.tape.trans h.fr.tape, hg.output.trans h.fr.output, Nat.le_trans h.fr.size hg.size, fun k hk hn => (hg.block k (Nat.lt_of_lt_of_le hk h.fr.size) (fun e => by have := (hr k e.symm).1; omega)).trans (h.fr.block k hk hn)⟩⟩
 ·obtain ⟨h1, h2, h3⟩ := h.rows b v hv
  refine ⟨h1, row_keptIf h2 (fun g hg' => ?_), h3⟩
  obtain ⟨cs, hcs⟩ := row_ty h2 hg'
  exact hc hcs
theorem RS.fin {B : Nat} {w wr : World} {a mp mb last : Nat} {P : List Pv} {zs : List Int} {K : Int → Option Value} {nd : Int → Bool} {Kj : Int → Option Value} (h0 : PS B w a mp mb last P K) (h : RS B w wr a mp mb last P (kpP P zs) K nd Kj)
  (hnd : ∀ b, nd b = false → idsOf (kpP P zs) b = idsOf P b) : PS B wr a mp mb last (kpP P zs) Kj ∧ Stp (dm a mp mb P K) (dm a mp mb (kpP P zs) Kj) w wr := by
 have hid : ∀ b, (if nd b then idsOf (kpP P zs) b else idsOf P b) = idsOf (kpP P zs) b := fun b => by
  cases e : nd b with
  | true => rfl
  | false => exact (hnd b e).symm
 have hsub : ∀ p ∈ kpP P zs, p ∈ P := fun p hp => (mem_kpP.1 hp).1
 have hbl : ∀ p ∈ P, ∀ k, (blkOf p.np = some k ∨ blkOf p.bp = some k) → wr.heap[k]? = w.heap[k]? := fun p hp k hk => by
  obtain ⟨h1, h2, h3, h4, _⟩ := h0.apart p hp k hk
  exact h.fr.block k h1 (fun e => by rcases e with e | e; exact h3 e; exact h4 e)
 have hrows : ∀ b v, Kj b = some v → I64 b ∧ wr.ownsRow B 3 1 v (idsOf (kpP P zs) b).length ((idsOf (kpP P zs) b).map (Value.int .i64)) ∧ idsOf (kpP P zs) b ≠ [] := fun b v hv => by
  have := h.rows b v hv
  rw [hid b] at this
  exact this
 have hmemb : ∀ b, idsOf (kpP P zs) b ≠ [] → b ∈ (kpP P zs).map (fun p => (p.blk : Int)) := fun b hb => by
  obtain ⟨x, hx⟩ := List.exists_mem_of_ne_nil _ hb
  unfold idsOf at hx
  obtain ⟨p, hp, _⟩ := List.mem_map.1 hx
  obtain ⟨hp1, hp2⟩ := List.mem_filter.1 hp
  exact List.mem_map.2 ⟨p, hp1, of_decide_eq_true hp2⟩
 refine ⟨⟨h.row, h.pm, ?_, fun p hp => ⟨(h0.byt p (hsub p hp)).1.keptIf (fun g hg _ => hbl p (hsub p hp) g (.inr hg)), (h0.byt p (hsub p hp)).2⟩, fun p hp => ⟨(h0.nee p (hsub p hp)).1.keptIf (fun g hg _ => hbl p (hsub p hp) g (.inl hg)), (h0.nee p (hsub p hp)).2⟩, hrows, fun b hb hn => ?_, h.two, fun p hp k hk => ?_, fun p hp => h0.ids p (hsub p hp), h0.srt.filter _, fun p hp => h0.low p (hsub p hp), h0.sml, h0.base⟩, ?_, ?_⟩
 ·have := h.bm.count ((kpP P zs).map (fun p => (p.blk : Int))) (fun b hb hn => by
   obtain ⟨v, hv⟩ := Option.ne_none_iff_exists'.1 hn
   exact hmemb b (hrows b v hv).2.2)
  rw [List.length_map] at this
  exact this
 ·have := h.away b hb hn
  rw [hid b] at this
  exact this
 ·obtain ⟨h1, h2, h3, h4, h5⟩ := h0.apart p (hsub p hp) k hk
  refine ⟨Nat.lt_of_lt_of_le h1 h.fr.size, h2, h3, h4, fun b v hv e => ?_⟩
  rcases h.new b v k hv e with h6 | h6
  ·exact h5 b v h6 e
  ·omega
 ·exact h.fr.mono (fun k _ hk => by
   rcases hk with rfl | rfl
   ·exact .inr (.inl rfl)
   ·exact .inr (.inr (.inl rfl)))
 ·rintro k (e | e | e | ⟨b, v, hv, hk⟩ | ⟨p, hp, hk⟩)
  ·exact .inl (.inl e)
  ·exact .inl (.inr (.inl e))
  ·exact .inl (.inr (.inr (.inl e)))
  ·rcases h.new b v k hv hk with h6 | h6
   ·exact .inl (.inr (.inr (.inr (.inl ⟨b, v, h6, hk⟩))))
   ·exact .inr h6
  ·exact .inl (.inr (.inr (.inr (.inr ⟨p, hsub p hp, hk⟩))))
theorem grown_below {w w' : World} (hb : Below w.heap.size w w') (row : Option Nat) : w.grownBy w' row := ⟨hb.os, hb.tape, hb.output, hb.size, fun k hk _ => hb.block k hk⟩
theorem still_ids (P : List Pv) (hs : P.Pairwise (fun p q => p.id < q.id)) (zs : List Int) (b : Int) : still (kpP P zs) (idsOf P b) = idsOf (kpP P zs) b := by
 unfold still idsOf
 rw [List.filter_map]
 have e : ∀ p ∈ P, ((fun k => (fP (kpP P zs) k).isSome) ∘ fun p : Pv => (p.id : Int)) p = !decide ((p.id : Int) ∈ zs) := fun p hp => by
  show (fP (kpP P zs) (p.id : Int)).isSome = _
  rw [fP_kp, fP_mem hs hp]
  by_cases h : (p.id : Int) ∈ zs <;> simp [h]
 have e2 : (kpP P zs).filter (fun p => decide ((p.blk : Int) = b)) = (P.filter (fun p => decide ((p.blk : Int) = b))).filter (fun p => !decide ((p.id : Int) ∈ zs)) := by
  unfold kpP
  rw [List.filter_filter, List.filter_filter]
  congr 1
  funext p
  exact Bool.and_comm _ _
 rw [e2]
 congr 1
 apply List.filter_congr
 intro p hp
 exact e p (List.mem_filter.1 hp).1
set_option maxRecDepth 100000 in
set_option maxHeartbeats 4000000 in
theorem remove_ok {B : Nat} {w : World} {a mp mb last : Nat} {P : List Pv} {K : Int → Option Value} (h : PS B w a mp mb last P K) (p : Option Addr) (n c : Nat) (zs : List Int) (hz : II w p n zs) (hn8 : n * 8 ≤ 140737488355328) :
  Calls Tryz.prog 236 #[.pointer (some ⟨a, 0, none⟩), .slice p n c] w fun e w' => e = .returned (.tuple #[]) ∧ ∃ K', PS B w' a mp mb last (kpP P zs) K' ∧ Stp (dm a mp mb P K) (dm a mp mb (kpP P zs) K') w w' := by
 have hmm := @run_makeMap Tryz.prog
 obtain ⟨W1, hW1⟩ : ∃ W1, w.alloc (.map #[] 0) = W1 := ⟨_, rfl⟩
 have hbW : Below w.heap.size w W1 := by rw [← hW1]; exact (Below.refl _ w).alloc (Nat.le_refl _) _
 have hNs : Ns W1 w.heap.size (P.map (fun p => (p.blk : Int))) [] := by rw [← hW1]; exact ns_made w _
 have hsW : W1.heap.size = w.heap.size + 1 := by rw [← hW1]; simp
 have hst := stillPending_ok (h.kept hbW) p n c zs (hz.kept hbW) (by omega)
 have hPl := h.len
 have hsm := h.sml
 have hzl := hz.len
 have hsl := still_len P zs
 go_enter Tryz.func236, Tryz.ntmps236
 go_wp2_with (first | (go_at_call 126; refine hst.mono ?_; rintro _ w2 ⟨v1, rfl, hN1, hb2⟩; obtain ⟨q1, c1, hv1, hI1, hpl1⟩ := hN1.ii (by omega) (fun x hx => by obtain ⟨p, hp⟩ := still_mem hx; have := h.ids p (fP_some hp).1; have := (fP_some hp).2; exact ⟨by omega, by omega⟩); subst hv1))
 have hq1 : ∀ g, blkOf q1 = some g → w.heap.size < g := fun g hg => by
  have : (Value.slice q1 (still P zs).length c1).ownBlock = some g := by
   rcases hpl1 with rfl | ⟨b, o, rfl⟩
   ·cases hg
   ·rcases hN1.2 with ⟨e, _⟩ | ⟨g', cap', cur, e, _⟩
    ·cases e
    ·cases e; exact hg
  have := (World.ownsRow.lt hN1 g this).1
  omega
 have hmL : ∀ k ∈ still P zs, ∃ p, fP P k = some p := fun k hk => still_mem hk
 have hb2' : Below w.heap.size w w2 := hbW.trans (hb2.mono (by omega))
 have hNs2 := hNs.kept hb2
 have HC : Hid (∀ x, x ∈ (still P zs).map (bq P) ↔ ∃ p ∈ P, (p.id : Int) ∈ zs ∧ (p.blk : Int) = x) := fun x => by
  rw [List.mem_map]
  constructor
  ·rintro ⟨k, hk, rfl⟩
   obtain ⟨p, hp⟩ := still_mem hk
   refine ⟨p, (fP_some hp).1, ?_, ?_⟩
   ·rw [(fP_some hp).2]; exact (List.mem_filter.1 hk).1
   ·unfold bq; rw [hp]; rfl
  ·rintro ⟨p, hp, hi, rfl⟩
   refine ⟨(p.id : Int), List.mem_filter.2 ⟨hi, by rw [fP_mem h.srt hp]; rfl⟩, ?_⟩
   unfold bq; rw [fP_mem h.srt hp]; rfl
 clear hN1 hb2 hst hNs hpl1 hmm
 generalize still P zs = L at *
 go_loopw [16] (fun i wr => ∃ j : Nat, j ≤ L.length ∧ i = .int .i64 (j : Int) ∧ Ns wr w.heap.size (P.map (fun p => (p.blk : Int))) ((L.take j).map (bq P)) ∧ II wr q1 L.length L ∧ Below w.heap.size w wr) (fun i _ => L.length - (intOf i).toNat)
 case atStart => exact ⟨0, by omega, rfl, hNs2, hI1, hb2'⟩
 case round =>
  clear hNs2 hI1 hb2'
  obtain ⟨j, hj, rfl, hN, hI, hb⟩ := hrel
  by_cases hlt : j < L.length
  ·obtain ⟨b1, o1, hq, hc1⟩ := hI.cells (by omega)
   have e1 := hc1 j hlt
   have hps := h.kept hb
   obtain ⟨p', hp'⟩ := hmL (L.getD j 0) (getD_mem' hlt)
   have hpi := h.ids p' (fP_some hp').1
   have hbi : bq P (L.getD j 0) = (p'.blk : Int) := by unfold bq; rw [hp']; rfl
   have hgt := hps.get (L.getD j 0) (hI.fitAt j)
   rw [hp'] at hgt
   have hgt' : (Instr.lookup 212 (.map (some mp)) (.int .i64 (L.getD j 0)) false).run Tryz.prog wr = .ok p'.v wr := hgt
   have hfl : ∀ W, (Instr.field 218 p'.v 1).run Tryz.prog W = .ok (.int .i64 (p'.blk : Int)) W := fun W => fld1 _ _ _ _ _ _ _ _ _ W
   have c1' := hps.c1
   have hbA : Below wr.heap.size wr (wr.alloc (.cells #[.int .i64 (p'.blk : Int)] 3)) := (Below.refl _ _).alloc (Nat.le_refl _) _
   have hII1 : II (wr.alloc (.cells #[.int .i64 (p'.blk : Int)] 3)) (some ⟨wr.heap.size, 0, none⟩) 1 [(p'.blk : Int)] :=
    ⟨rfl, by omega, (fun x hx => by simp only [List.mem_singleton] at hx; subst hx; exact ⟨by omega, by omega⟩), fun _ => ⟨wr.heap.size, 0, rfl, fun i hi => by
     obtain rfl : i = 0 := by omega
     rw [cell_of_row _ _ 0 _ 3 _ (at_new rfl)]; rfl⟩⟩
   have hlw := Mf.lt hN
   have hadd := add_ok (hN.kept hbA) (by rw [List.length_map]; omega) (some ⟨wr.heap.size, 0, none⟩) 1 1 [(p'.blk : Int)] hII1 (fun x hx => by simp only [List.mem_singleton] at hx; subst hx; exact List.mem_map.2 ⟨p', (fP_some hp').1, rfl⟩) (by show some wr.heap.size ≠ some w.heap.size; intro e; have := Option.some.inj e; omega)
   have HT : Hid (L.take (j + 1) = L.take j ++ [L.getD j 0]) := take_one hlt
   have HBI : Hid _ := hbi
   have hjI : (j : Int) < (L.length : Int) := by omega
   have hj0 : (0 : Int) ≤ (j : Int) := by omega
   subst hq
   clear hc1 hgt hp' hpi hbi hps
   generalize p'.v = pv at *
   generalize hyy : L.getD j 0 = y at *
   clear hyy
   go_wp2_with (first | (go_at_call 281; refine hadd.mono ?_; rintro _ w4 ⟨rfl, hN4, hF4⟩))
   have hsA : (wr.alloc (.cells #[.int .i64 (p'.blk : Int)] 3)).heap.size = wr.heap.size + 1 := by simp
   go_roundw
   case rel =>
    refine ⟨j + 1, by omega, by go_num, ?_, ?_, ?_⟩
    ·rw [HT.out, List.map_append, List.map_singleton, HBI.out]; exact hN4
    ·exact (hI.kept hbA).keptIf (fun g hg hl => hF4.block g hl (by have := hq1 g hg; omega))
    ·exact frame_below (hb.trans (hbA.mono hb.size)) (by have := hb.size; omega) hF4 (Nat.le_refl _)
   case measure => simp [intOf]; omega
  ·obtain rfl : j = L.length := by omega
   rw [List.take_of_length_le (Nat.le_refl _)] at hN
   have HN : Hid _ := hN
   clear hN hI hq1 hmL
   go_wp2_with fail
   obtain ⟨w3, hw3⟩ : ∃ w3, w3 = wr := ⟨_, rfl⟩
   rw [← hw3] at HN hb ⊢
   clear hw3
   have hps3 := h.kept hb
   obtain ⟨ep, cp, hmp⟩ := hps3.pm.isMap
   have nap : a ≠ mp := map_ne hps3.row hmp
   go_loopw [33] (fun i wr => ∃ j : Nat, j ≤ n ∧ i = .int .i64 (j : Int) ∧ Mf wr mp last (fdel (fun k => (fP P k).map Pv.v) (zs.take j)) ∧ Frame (fun k => k = mp) w3 wr) (fun i _ => n - (intOf i).toNat)
   case atStart => exact ⟨0, by omega, rfl, hps3.pm.congr (fun k _ => by simp [fdel]), Frame.refl _ _⟩
   case round =>
    obtain ⟨j, hj, rfl, hM, hF⟩ := hrel
    by_cases hlt : j < n
    ·obtain ⟨b1, o1, hq, hc1⟩ := (hz.kept hb).cells (by omega)
     have e1 := hc1 j hlt
     have hb1 : b1 ≠ mp := fun e => by
      subst e
      simp [World.cell?, hmp] at e1
     have e1' : wr.cell? ⟨b1, o1 + j, none⟩ = some (.int .i64 (zs.getD j 0)) := by
      rw [World.cell?_of_block (a := ⟨b1, o1 + j, none⟩) (hF.block b1 (lt_of_cell e1) hb1)]; exact e1
     have c1' : wr.cell? ⟨a, 1, none⟩ = some (.map (some mp)) := by
      rw [World.cell?_of_block (a := ⟨a, 1, none⟩) (hF.block a hps3.lt nap)]; exact hps3.c1
     have HT : Hid (zs.take (j + 1) = zs.take j ++ [zs.getD j 0]) := take_one (by omega)
     obtain ⟨w5, hr5, hM5, hg5⟩ := hM.del Tryz.underlying212 (zs.getD j 0) (hz.fitAt j) 0
     have hjI : (j : Int) < (n : Int) := by omega
     have hj0 : (0 : Int) ≤ (j : Int) := by omega
     have HM5 : Hid (Mf w5 mp last (fput (fdel (fun k => (fP P k).map Pv.v) (zs.take j)) (zs.getD j 0) none)) := hM5
     have HF5 : Hid (Frame (fun k => k = mp) w3 w5) := hF.trans (frame_of_grown hg5 (fun k hk => by cases hk; rfl))
     subst hq
     clear hc1 e1 hM hM5 hg5 hF
     generalize zs.getD j 0 = y at *
     go_wp2_with fail
     go_roundw
     case rel =>
      refine ⟨j + 1, by omega, by go_num, ?_, HF5.out⟩
      rw [HT.out]
      exact Mf.congr HM5.out (fun k _ => (fdel_snoc _ _ _ k).symm)
     case measure => simp [intOf]; omega
    ·obtain rfl : j = n := by omega
     rw [List.take_of_length_le (by omega)] at hM
     have hM' : Mf wr mp last (fun k => (fP (kpP P zs) k).map Pv.v) := hM.congr (fun k _ => by rw [fP_kp]; unfold fdel; split <;> rfl)
     have hsz3 := hb.size
     have hnbmp : w.heap.size ≠ mp := fun e => by have := h.pm.lt; omega
     obtain ⟨eb, cb, hmb3⟩ := hps3.bm.isMap
     have nab : a ≠ mb := map_ne hps3.row hmb3
     have hk3 : ∀ k, k < w3.heap.size → k ≠ mp → wr.heap[k]? = w3.heap[k]? := fun k hk hn => hF.block k hk hn
     have hRS : RS B w wr a mp mb last P (kpP P zs) K (fun _ => false) K := by
      refine ⟨by rw [hk3 a hps3.lt nap]; exact hps3.row, hM', hps3.bm.kept (hk3 mb hps3.bm.lt h.base.2.symm), fun b v hv => ?_, fun b hb hn => by simpa using h.away b hb hn, h.two, fun b v g hv _ => .inl hv, ?_⟩
      ·obtain ⟨h1, h2, h3⟩ := hps3.rows b v hv
       refine ⟨h1, by
        simp only [Bool.false_eq_true, if_false]
        exact row_keptIf h2 (fun g hg' => by
         obtain ⟨cs, hcs⟩ := row_ty h2 hg'
         exact hk3 g (h2.lt g hg').2 (fun e => by subst e; rw [hmp] at hcs; cases hcs)), by simpa using h3⟩
      ·exact ⟨hF.os.trans hb.os, hF.tape.trans hb.tape, hF.output.trans hb.output, Nat.le_trans hb.size hF.size, fun k hk hn => (hF.block k (by omega) (fun e => hn (.inl e))).trans (hb.block k hk)⟩
     have hNr : Ns wr w.heap.size (P.map (fun p => (p.blk : Int))) (L.map (bq P)) := Mf.kept HN.out (hk3 _ (Mf.lt HN.out) hnbmp)
     obtain ⟨D0, hown, hszD, hpD⟩ := hNr
     have HPD : Hid _ := hpD
     clear hM hM' hpD
     go_wp2_with (first
      | (at_range; refine wpList_range_own _ rfl _ 391 rfl 3 86 keyed3 Tryz.underlying391 vR w.heap.size (size D0) D0 rfl hown ?_; intro w0 hrg0 hg0 hs0))
     have hmemC : ∀ x ∈ L.map (bq P), ∃ p ∈ P, (p.blk : Int) = x := fun x hx => by
      obtain ⟨p, hp, _, e⟩ := (HC.out x).1 hx
      exact ⟨p, hp, e⟩
     have hCI : ∀ x ∈ L.map (bq P), I64 x := fun x hx => by
      obtain ⟨p, hp, e⟩ := hmemC x hx
      have := h.ids p hp
      exact ⟨by omega, by omega⟩
     have hCn : ∀ x ∈ L.map (bq P), idsOf P x ≠ [] := fun x hx e => by
      obtain ⟨p, hp, e1⟩ := hmemC x hx
      have : (p.id : Int) ∈ idsOf P x := List.mem_map.2 ⟨p, List.mem_filter.2 ⟨hp, decide_eq_true e1⟩, rfl⟩
      rw [e] at this
      cases this
     have hfinC : ∀ b, b ∉ L.map (bq P) → idsOf (kpP P zs) b = idsOf P b := fun b hb => by
      unfold idsOf kpP
      rw [List.filter_filter]
      congr 1
      apply List.filter_congr
      intro p hp
      by_cases e1 : (p.blk : Int) = b
      ·have : (p.id : Int) ∉ zs := fun h2 => hb ((HC.out b).2 ⟨p, hp, h2, e1⟩)
       simp [e1, this]
      ·simp [e1]
     have HCI : Hid _ := hCI
     have HCN : Hid _ := hCn
     have HFC : Hid _ := hfinC
     have hRS0 := hRS.later hg0 (fun r e => by cases e)
     have hnd0 : (fun b => decide (b ∈ L.map (bq P)) && !has D0 (ikey b)) = fun _ => false := by
      funext b
      by_cases hb : b ∈ L.map (bq P)
      ·have := ((HPD.out b (hCI b hb)).2 (.agg #[]) (by unfold nf; rw [if_pos hb])).1
       rw [this]; simp
      ·simp [hb]
     rw [← hnd0] at hRS0
     have hw4 : w.heap.size ≤ wr.heap.size := by have := hF.size; omega
     obtain ⟨r, hr⟩ : ∃ r, r = wr.heap.size := ⟨_, rfl⟩
     rw [← hr] at hrg0 hw4 ⊢
     have hnbmb : w.heap.size ≠ mb := fun e => by have := h.bm.lt; omega
     have hrmb : r ≠ mb := fun e => by have := h.bm.lt; omega
     clear hRS hmemC hCI hCn hfinC hk3 hF hown hg0 hs0 hnd0 hps3 hr hmp hmb3 HN
     go_frame
     go_loopw [9] (fun _ wz => ∃ (left : Lit → Bool) (cnt : Nat) (Kj : Int → Option Value), wz.ranges Tryz.prog 3 vR w.heap.size r (size D0) D0 left cnt ∧ RS B w wz a mp mb last P (kpP P zs) K (fun b => decide (b ∈ L.map (bq P)) && !left (ikey b)) Kj) (fun _ wz => wz.rangeLeft w.heap.size r)
     case atStart => exact ⟨_, _, K, hrg0, hRS0⟩
     case round =>
      clear hrg0 hRS0
      obtain ⟨left, cnt, Kj, hrg, hR⟩ := hrel
      go_wp2_with (first
       | (at_next; refine wpList_next_ranges _ rfl _ rfl 3 keyed3 vR (Value.int .i64) id (fun key kl hk => by obtain ⟨x, hx, _⟩ := Maps.keyOf_int_inv Tryz.underlying3 hk; exact ⟨x, hx⟩) (fun v y hv => ⟨v, rfl⟩) w.heap.size r (size D0) D0 left cnt rfl hrg ?_ ?_))
      ·intro hc0 hl0
       have hfin := RS.fin h hR (fun b hb => HFC.out b (fun hbc => by simp [hbc, hl0] at hb))
       have HFin : Hid _ := hfin
       clear hfin hR
       go_wp2
       go_end0
       exact ⟨rfl, Kj, HFin.out⟩
      ·intro x cc kl yd yp w5 cnt5 hkey hlk hv hat hrg5 hlt5 hg5 hs5 hen
       obtain ⟨x', ex, ekl, hwf⟩ := Maps.keyOf_int_inv Tryz.underlying3 hkey
       obtain rfl : x = x' := by cases ex; rfl
       have hIx : I64 x := by
        have h1 : IntKind.i64.min = -9223372036854775808 := by decide
        have h2 : IntKind.i64.max = 9223372036854775807 := by decide
        simp only [Lit.wf, h1, h2] at hwf
        simpa [I64] using hwf
       have hkx : kl = ikey x := ekl
       subst hkx
       have hxC : x ∈ L.map (bq P) := by
        by_cases hx : x ∈ L.map (bq P)
        ·exact hx
        ·have h1 := (HPD.out x hIx).1 (by unfold nf; rw [if_neg hx])
         rw [Maps.has_true_of_atKey hat] at h1
         cases h1
       have hobj : ∃ o : Obj, wr.heap[r]? = some o ∧ ∀ es ck, o ≠ .map es ck ∧ ∀ cs t fr, o ≠ .cells cs t fr := by
        obtain ⟨_, _, _, _, _, _, _, _, _, hr, _⟩ := hrg
        exact ⟨_, hr, fun es ck => ⟨by simp, by simp⟩⟩
       have hR5 := hR.later hg5 (fun r' e => by cases e; exact ⟨hw4, hobj⟩)
       have hndx : (decide (x ∈ L.map (bq P)) && !left (ikey x)) = false := by rw [hlk]; simp
       obtain ⟨v, hKv⟩ : ∃ v, Kj x = some v := by
        cases e : Kj x with
        | some v => exact ⟨v, rfl⟩
        | none =>
         have := hR5.away x hIx e
         simp only [hndx, Bool.false_eq_true, if_false] at this
         exact absurd this (HCN.out x hxC)
       obtain ⟨_, hrow5, hne5⟩ := hR5.rows x v hKv
       simp only [hndx, Bool.false_eq_true, if_false] at hrow5 hne5
       have hNv : Nums B w5 v (idsOf P x) := hrow5
       have hidl : (idsOf P x).length ≤ 10000 := by
        have h3 : (ofB P x).length ≤ P.length := List.length_filter_le _ _
        rw [idsOf_eq, List.length_map]
        omega
       have hidI : ∀ y ∈ idsOf P x, I64 y := fun y hy => by
        obtain ⟨p, hp, rfl⟩ := List.mem_map.1 hy
        have := h.ids p (List.mem_filter.1 hp).1
        exact ⟨by omega, by omega⟩
       obtain ⟨q5, c5, hv5, hI5, hpl5⟩ := hNv.ii (by omega) hidI
       subst hv5
       obtain ⟨dz, hdz⟩ := zero30_D
       have hlook := hR5.bm.get Tryz.underlying213 (zero30 w5) hdz x hIx
       rw [hKv] at hlook
       have hlook' : (Instr.lookup 213 (.map (some mb)) (.int .i64 x) false).run Tryz.prog w5 = .ok (.slice q5 (idsOf P x).length c5) w5 := hlook
       have c25 : w5.cell? ⟨a, 2, none⟩ = some (.map (some mb)) := by rw [cell_of_row _ _ 2 _ 215 _ hR5.row]; rfl
       have hPM : PM w5 a mp last (kpP P zs) := ⟨by rw [cell_of_row _ _ 1 _ 215 _ hR5.row]; rfl, hR5.pm⟩
       have hst5 := stillPendingM_ok hPM q5 (idsOf P x).length c5 (idsOf P x) hI5 (by omega)
       rw [still_ids P h.srt zs x] at hst5
       have hz5 := hR5.fr.size
       have hBz : B ≤ w5.heap.size := by have := h.base.1.1; have := h.lt; omega
       have hnd' : ∀ y, (fun b => decide (b ∈ L.map (bq P)) && !(left (ikey b) && !(ikey b).sameKey (ikey x))) y = if y = x then true else (fun b => decide (b ∈ L.map (bq P)) && !left (ikey b)) y := fun y => by
        by_cases e : y = x
        ·subst e
         rw [if_pos rfl]
         simp only [decide_eq_true hxC, WideAt.sameKey_self (ikey_is y)]
         simp
        ·rw [if_neg e]
         have : (ikey y).sameKey (ikey x) = false := by
          rw [← Bool.not_eq_true, WideAt.sameKey_iff (ikey_is x)]
          exact ikey_ne e
         simp [this]
       have hidl' : (idsOf (kpP P zs) x).length ≤ 10000 := by
        have := still_len (kpP P zs) (idsOf P x)
        rw [still_ids P h.srt zs x] at this
        omega
       have HR5 : Hid _ := hR5
       have HND : Hid _ := hnd'
       have HKV : Hid _ := hKv
       clear hR hR5 hPM hlook hnd' hndx hI5 hNv hrow5 hne5 hidI hat hkey ex ekl hwf hg5 hv hKv hpl5 hobj
       generalize hids : idsOf (kpP P zs) x = ids at *
       have HID : Hid _ := hids
       clear hids
       cases ids with
       | nil =>
        go_wp2_with (first | (go_at_call 126; refine hst5.mono ?_; rintro _ w6 ⟨v6, rfl, hN6, hb6⟩; obtain ⟨q6, c6, hv6, _⟩ := hN6.ii (by simp) (by simp); subst hv6; have c26 : w6.cell? ⟨a, 2, none⟩ = some (.map (some mb)) := (by rw [hb6.cell (p := ⟨a, 2, none⟩) (lt_of_cell c25)]; exact c25); obtain ⟨w7, hr7, hM7, hg7⟩ := (HR5.out.bm.kept (hb6.block mb HR5.out.bm.lt)).del Tryz.underlying213 x hIx 0))
        have hR7 := HR5.out.step h.base.2 hb6 hg7 x hIx none hM7 (.inl ⟨rfl, HID.out⟩) HND.out hBz
        have hrg7 := (hrg5.kept (grown_below hb6 none) (by simp) (by simp)).kept hg7 (by simp [hnbmb]) (by simp [hrmb])
        go_roundw
        case rel => exact ⟨_, cnt5, _, hrg7, hR7⟩
        case measure => rw [hrg7.left_eq, hrg.left_eq]; exact hlt5
       | cons i0 rest =>
        obtain ⟨nn, hnn⟩ : ∃ nn, nn = (i0 :: rest).length := ⟨_, rfl⟩
        have hnp : 1 ≤ nn := by rw [hnn]; simp
        have HI6 : Hid (∀ y ∈ i0 :: rest, I64 y) := fun y hy => by
         rw [← HID.out] at hy
         obtain ⟨p, hp, rfl⟩ := List.mem_map.1 hy
         have := h.ids p (mem_kpP.1 (List.mem_filter.1 hp).1).1
         exact ⟨by omega, by omega⟩
        generalize hids2 : i0 :: rest = ids at *
        have hnl : ids ≠ [] := by rw [← hids2]; simp
        clear hids2
        have hpI : (0 : Int) < (nn : Int) := by omega
        have hn1 : nn ≤ 10000 := by omega
        have HNN : Hid _ := hnn
        clear hnn
        go_wp2_with (first | (go_at_call 126; refine hst5.mono ?_; rintro _ w6 ⟨v6, rfl, hN6, hb6⟩; obtain ⟨q6, c6, hv6, _, hpl6⟩ := hN6.ii (by omega) HI6.out; subst hv6; rw [← HNN.out] at hN6 ⊢; have c26 : w6.cell? ⟨a, 2, none⟩ = some (.map (some mb)) := (by rw [hb6.cell (p := ⟨a, 2, none⟩) (lt_of_cell c25)]; exact c25); obtain ⟨d6, hd6⟩ := slice_D hpl6 nn c6; have hd6' : vR (.slice q6 nn c6) = some (d6, []) := (by show (cellD (.slice q6 nn c6)).map (fun d => (d, [])) = _; rw [hd6]; rfl); obtain ⟨w7, hr7, hM7, hg7⟩ := (HR5.out.bm.kept (hb6.block mb HR5.out.bm.lt)).put (by omega) Tryz.underlying213 x hIx (.slice q6 nn c6) hd6'; rw [HKV.out] at hM7))
        have hR7 := HR5.out.step h.base.2 hb6 hg7 x hIx (some (.slice q6 nn c6)) hM7 (.inr ⟨_, rfl, by rw [HID.out]; exact hN6, by rw [HID.out]; exact hnl⟩) HND.out hBz
        have hrg7 := (hrg5.kept (grown_below hb6 none) (by simp) (by simp)).kept hg7 (by simp [hnbmb]) (by simp [hrmb])
        go_roundw
        case rel => exact ⟨_, cnt5, _, hrg7, hR7⟩
        case measure => rw [hrg7.left_eq, hrg.left_eq]; exact hlt5
end Go.Proofs.YthdlpeejmmobmaaGreat.Pt

namespace Go.Proofs.YthdlpeejmmobmaaGreat.Pt
open Go.RowKit Go.Maps
set_option maxRecDepth 100000
set_option linter.unusedVariables false
theorem add_zero (nb : Nat) (p : Option Addr) (c : Nat) (w : World) : Calls Tryz.prog 281 #[.map (some nb), .slice p 0 c] w fun e w' => e = .returned (.tuple #[]) ∧ w' = w := by
 go_enter Tryz.func281, Tryz.ntmps281
 go_wp2_with fail
 go_loopw [8] (fun i wr => i = .int .i64 0 ∧ wr = w) (fun i _ => 0)
 case atStart => exact ⟨rfl, rfl⟩
 case round =>
  obtain ⟨rfl, rfl⟩ := hrel
  go_wp2
  go_end0
  exact ⟨rfl, rfl⟩
end Go.Proofs.YthdlpeejmmobmaaGreat.Pt
