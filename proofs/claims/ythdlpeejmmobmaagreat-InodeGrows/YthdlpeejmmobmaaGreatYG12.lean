/- PGrow PCnt PClo PClos PClo2 -/
import Derived.Test.YthdlpeejmmobmaaGreatYG11
import Derived.Test.YthdlpeejmmobmaaGreatYG09
import Derived.Maps.RangeWalk
import Derived.Deep.RegionHeld3

namespace Go.Proofs.YthdlpeejmmobmaaGreat.Pt
open Go.RowKit Go.Maps
set_option maxRecDepth 100000
set_option linter.unusedVariables false
def dm (a mp mb : Nat) (P : List Pv) (K : Int → Option Value) (k : Nat) : Prop :=
 k = a ∨ k = mp ∨ k = mb ∨ (∃ b v, K b = some v ∧ v.ownBlock = some k) ∨ ∃ p ∈ P, blkOf p.np = some k ∨ blkOf p.bp = some k
structure Stp (D D' : Nat → Prop) (w w' : World) : Prop where
 fr : Frame D w w'
 new : ∀ k, D' k → D k ∨ w.heap.size ≤ k
theorem Stp.refl (D : Nat → Prop) (w : World) : Stp D D w w := ⟨Frame.refl _ _, fun _ h => .inl h⟩
theorem Stp.trans {D D' D'' : Nat → Prop} {w w' w'' : World} (h : Stp D D' w w') (k : Stp D' D'' w' w'') : Stp D D'' w w'' :=
 ⟨⟨k.fr.os.trans h.fr.os, k.fr.tape.trans h.fr.tape, k.fr.output.trans h.fr.output, Nat.le_trans h.fr.size k.fr.size, fun i hi hx => (k.fr.block i (Nat.lt_of_lt_of_le hi h.fr.size) (fun hd => by
   rcases h.new i hd with h' | h'
   ·exact hx h'
   ·omega)).trans (h.fr.block i hi hx)⟩, fun i hi => by
  rcases k.new i hi with h1 | h1
  ·exact h.new i h1
  ·exact .inr (Nat.le_trans h.fr.size h1)⟩
theorem stp_below {D : Nat → Prop} {w w' : World} (h : Below w.heap.size w w') : Stp D D w w' := ⟨frame_of_below h, fun _ h => .inl h⟩
theorem II.keptIf {w w' : World} {q : Option Addr} {n : Nat} {zs : List Int} (h : II w q n zs) (hb : ∀ g, blkOf q = some g → g < w.heap.size → w'.heap[g]? = w.heap[g]?) : II w' q n zs := by
 refine ⟨h.len, h.big, h.fit, fun hn => ?_⟩
 obtain ⟨b, o, rfl, hc⟩ := h.cells hn
 refine ⟨b, o, rfl, fun i hi => ?_⟩
 rw [World.cell?_of_block (a := ⟨b, o + i, none⟩) (hb b rfl (lt_of_cell (hc i hi)))]
 exact hc i hi
theorem BI.keptIf {w w' : World} {q : Option Addr} {n : Nat} {zs : List Int} (h : BI w q n zs) (hb : ∀ g, blkOf q = some g → g < w.heap.size → w'.heap[g]? = w.heap[g]?) : BI w' q n zs := by
 refine ⟨h.len, h.big, h.byt, fun hn => ?_⟩
 obtain ⟨b, o, rfl, hc⟩ := h.cells hn
 refine ⟨b, o, rfl, fun i hi => ?_⟩
 rw [World.cell?_of_block (a := ⟨b, o + i, none⟩) (hb b rfl (lt_of_cell (hc i hi)))]
 exact hc i hi
theorem row_keptIf {w w' : World} {base : Nat} {e : TypeId} {size : Nat} {v : Value} {n : Nat} {xs : List Value} (h : w.ownsRow base e size v n xs) (hb : ∀ g, v.ownBlock = some g → w'.heap[g]? = w.heap[g]?) : w'.ownsRow base e size v n xs := by
 refine ⟨h.1, ?_⟩
 rcases h.2 with h' | ⟨g', cap', cur, h', hbg, hg, rest⟩
 ·exact .inl h'
 ·exact .inr ⟨g', cap', cur, h', hbg, by rw [hb g' (by rw [h']; rfl)]; exact hg, rest⟩
theorem PS.else {B : Nat} {w w' : World} {a mp mb last : Nat} {P : List Pv} {K : Int → Option Value} (h : PS B w a mp mb last P K) (hs : w.heap.size ≤ w'.heap.size) (hb : ∀ k, dm a mp mb P K k → k < w.heap.size → w'.heap[k]? = w.heap[k]?) : PS B w' a mp mb last P K := by
 refine ⟨?_, h.pm.kept (hb _ (.inr (.inl rfl)) h.pm.lt), h.bm.kept (hb _ (.inr (.inr (.inl rfl))) h.bm.lt), fun p hp => ⟨(h.byt p hp).1.keptIf (fun g hg hl => hb g (.inr (.inr (.inr (.inr ⟨p, hp, .inr hg⟩)))) hl), (h.byt p hp).2⟩, fun p hp => ⟨(h.nee p hp).1.keptIf (fun g hg hl => hb g (.inr (.inr (.inr (.inr ⟨p, hp, .inl hg⟩)))) hl), (h.nee p hp).2⟩, fun b v hv => ?_, h.away, h.two, fun p hp k hk => ⟨Nat.lt_of_lt_of_le (h.apart p hp k hk).1 hs, (h.apart p hp k hk).2⟩, h.ids, h.srt, h.low, h.sml, h.base⟩
 ·rw [hb a (.inl rfl) h.lt]; exact h.row
 ·obtain ⟨h1, h2, h3⟩ := h.rows b v hv
  exact ⟨h1, row_keptIf h2 (fun g hg => hb g (.inr (.inr (.inr (.inl ⟨b, v, hv, hg⟩)))) (h2.lt g hg).2), h3⟩
theorem PS.dm_lt {B : Nat} {w : World} {a mp mb last : Nat} {P : List Pv} {K : Int → Option Value} (h : PS B w a mp mb last P K) {k : Nat} (hk : dm a mp mb P K k) : k < w.heap.size := by
 rcases hk with rfl | rfl | rfl | ⟨b, v, hv, hk⟩ | ⟨p, hp, hk⟩
 ·exact h.lt
 ·exact h.pm.lt
 ·exact h.bm.lt
 ·exact ((h.rows b v hv).2.1.lt k hk).2
 ·exact (h.apart p hp k hk).1
theorem fP_snoc {P : List Pv} {pn : Pv} {last : Nat} (hP : ∀ p ∈ P, p.id ≤ last) (hid : pn.id = last + 1) (k : Int) : fP (P ++ [pn]) k = fput (fP P) ((last + 1 : Nat) : Int) (some pn) k := by
 unfold fput fP
 rw [List.find?_append]
 by_cases e : k = ((last + 1 : Nat) : Int)
 ·rw [if_pos e]
  have hn : List.find? (fun p => decide ((p.id : Int) = k)) P = none := by
   rw [List.find?_eq_none]
   intro p hp
   have := hP p hp
   simp
   omega
  rw [hn]
  have hd : decide ((pn.id : Int) = k) = true := decide_eq_true (by omega)
  simp [hd]
 ·rw [if_neg e]
  have hd : decide ((pn.id : Int) = k) = false := decide_eq_false (by omega)
  simp [hd]
theorem idsOf_snoc (P : List Pv) (pn : Pv) (b : Int) : idsOf (P ++ [pn]) b = if (pn.blk : Int) = b then idsOf P b ++ [(pn.id : Int)] else idsOf P b := by
 unfold idsOf
 rw [List.filter_append]
 by_cases e : (pn.blk : Int) = b
 ·rw [if_pos e]; simp [e]
 ·rw [if_neg e]; simp [e]
theorem row_ty {w : World} {base : Nat} {e : TypeId} {size : Nat} {v : Value} {n : Nat} {xs : List Value} (h : w.ownsRow base e size v n xs) {g : Nat} (hg : v.ownBlock = some g) : ∃ cs, w.heap[g]? = some (.cells cs e (0, 0)) := by
 rcases h.2 with ⟨h', _⟩ | ⟨g', cap', cur, h', hbg, hh, rest⟩
 ·rw [h'] at hg; cases hg
 ·rw [h'] at hg; cases hg
  exact ⟨_, hh⟩
theorem row_nil {v : Value} {w : World} {base : Nat} {e : TypeId} {size : Nat} {n : Nat} {xs : List Value} (h : w.ownsRow base e size v n xs) (hn : v.ownBlock = none) : v = .slice none 0 0 := by
 rcases h.2 with ⟨h', _⟩ | ⟨g', cap', cur, h', hbg, hh, rest⟩
 ·exact h'
 ·rw [h'] at hn; cases hn
theorem PS.grow {B : Nat} {w w9 w10 w11 : World} {a mp mb last : Nat} {P : List Pv} {K : Int → Option Value} (h : PS B w a mp mb last P K) (pn : Pv) (hid : pn.id = last + 1) (hblk : pn.blk ≤ 9223372036854775807)
  (hof : 1 ≤ pn.bs.length ∧ pn.off + pn.bs.length ≤ 128) (hlow : ∀ x ∈ pn.nd, 1 ≤ x ∧ x < (pn.id : Int)) (hsml : last + 1 ≤ 10000)
  (hby : BI w pn.bp pn.bs.length pn.bs) (hbp : Plain pn.bp) (hnd : II w pn.np pn.nd.length pn.nd) (hnp : Plain pn.np) (hfr : ∀ k, (blkOf pn.np = some k ∨ blkOf pn.bp = some k) → ¬ dm a mp mb P K k)
  {o : Obj} {v' : Value} (h9 : Mf w9 mp (last + 1) (fput (fun k => (fP P k).map Pv.v) ((last + 1 : Nat) : Int) (some pn.v))) (g9 : w.grownBy w9 (some mp))
  (g10 : (w9.alloc o).grownBy w10 ((K (pn.blk : Int)).getD (.slice none 0 0)).ownBlock)
  (r10 : w10.ownsRow B 3 1 v' ((idsOf P (pn.blk : Int)).length + 1) ((idsOf P (pn.blk : Int)).map (Value.int .i64) ++ [.int .i64 (pn.id : Int)]))
  (e10 : v'.ownBlock = ((K (pn.blk : Int)).getD (.slice none 0 0)).ownBlock ∨ v'.ownBlock = some (w9.alloc o).heap.size)
  (h11 : Mf w11 mb (P.length + 1) (fput K (pn.blk : Int) (some v'))) (g11 : w10.grownBy w11 (some mb)) (hlt : ∀ k, blkOf pn.np = some k ∨ blkOf pn.bp = some k → k < w.heap.size) :
  PS B (w11.setCell ⟨a, 0, none⟩ (.int .i64 ((last + 1 : Nat) : Int))) a mp mb (last + 1) (P ++ [pn]) (fput K (pn.blk : Int) (some v')) ∧
   Frame (dm a mp mb P K) w (w11.setCell ⟨a, 0, none⟩ (.int .i64 ((last + 1 : Nat) : Int))) ∧
   ∀ k, dm a mp mb (P ++ [pn]) (fput K (pn.blk : Int) (some v')) k → dm a mp mb P K k ∨ w.heap.size ≤ k ∨ blkOf pn.np = some k ∨ blkOf pn.bp = some k := by
 obtain ⟨F, hF⟩ : ∃ F, w11.setCell ⟨a, 0, none⟩ (.int .i64 ((last + 1 : Nat) : Int)) = F := ⟨_, rfl⟩
 obtain ⟨v, hv⟩ : ∃ v, (K (pn.blk : Int)).getD (.slice none 0 0) = v := ⟨_, rfl⟩
 rw [hv] at g10 e10
 have z9 := g9.size
 have z10 : (w9.alloc o).heap.size ≤ w10.heap.size := g10.size
 have z11 := g11.size
 rw [World.size_alloc] at z10
 have zF : F.heap.size = w11.heap.size := by rw [← hF]; simp
 have hI : I64 (pn.blk : Int) := ⟨by omega, by omega⟩
 -- the row that is appended to is the set's
 have hvd : ∀ k, v.ownBlock = some k → K (pn.blk : Int) = some v := fun k hk => by
  cases e : K (pn.blk : Int) with
  | none => rw [e] at hv; rw [← hv] at hk; cases hk
  | some u => rw [e] at hv; rw [← hv]; rfl
 have hvrow : ∀ k, v.ownBlock = some k → ∃ cs, w.heap[k]? = some (.cells cs 3 (0, 0)) := fun k hk => row_ty (h.rows _ _ (hvd k hk)).2.1 hk
 obtain ⟨ep, cp, hmp⟩ := h.pm.isMap
 obtain ⟨eb, cb, hmb⟩ := h.bm.isMap
 have nap : a ≠ mp := map_ne h.row hmp
 have nab : a ≠ mb := map_ne h.row hmb
 have npb : mp ≠ mb := h.base.2
 have nvp : v.ownBlock ≠ some mp := fun e => by obtain ⟨cs, hc⟩ := hvrow _ e; rw [hmp] at hc; cases hc
 have nvb : v.ownBlock ≠ some mb := fun e => by obtain ⟨cs, hc⟩ := hvrow _ e; rw [hmb] at hc; cases hc
 have nva : v.ownBlock ≠ some a := fun e => by obtain ⟨cs, hc⟩ := hvrow _ e; rw [h.row] at hc; cases hc
 have hk10 : ∀ k, k < w9.heap.size → v.ownBlock ≠ some k → w10.heap[k]? = w9.heap[k]? := fun k hk hne => by
  rw [g10.block k (by simp; omega) (fun e => hne e.symm)]
  exact Below.heap_alloc _ _ _ hk
 have hkF : ∀ k, k ≠ a → F.heap[k]? = w11.heap[k]? := fun k hk => by rw [← hF]; exact Below.heap_setCell _ _ _ _ hk
 have hkAll : ∀ k, k < w.heap.size → k ≠ a → k ≠ mp → k ≠ mb → v.ownBlock ≠ some k → F.heap[k]? = w.heap[k]? := fun k hk h1 h2 h3 h4 => by
  rw [hkF k h1, g11.block k (by omega) (fun e => h3 (by cases e; rfl)), hk10 k (by omega) h4, g9.block k hk (fun e => h2 (by cases e; rfl))]
 have hmpF : F.heap[mp]? = w9.heap[mp]? := by
  rw [hkF mp nap.symm, g11.block mp (by have := h.pm.lt; omega) (fun e => npb (by cases e; rfl)), hk10 mp (by have := h.pm.lt; omega) nvp]
 have hmbF : F.heap[mb]? = w11.heap[mb]? := hkF mb nab.symm
 have hrowA : w11.heap[a]? = some (.cells #[.int .i64 (last : Int), .map (some mp), .map (some mb)] 215 (0, 0)) := by
  rw [g11.block a (by have := h.lt; omega) (fun e => nab (by cases e; rfl)), hk10 a (by have := h.lt; omega) nva, g9.block a h.lt (fun e => nap (by cases e; rfl))]
  exact h.row
 -- the row behind
 have hv'row : ∀ k, v'.ownBlock = some k → v.ownBlock = some k ∨ k = w9.heap.size + 1 := fun k hk => by
  rcases e10 with e | e
  ·exact .inl (by rw [← e]; exact hk)
  ·rw [e] at hk; cases hk; right; simp
 have hv'F : ∀ k, v'.ownBlock = some k → F.heap[k]? = w10.heap[k]? := fun k hk => by
  have hkl := (r10.lt k hk).2
  have n1 : k ≠ a := fun e => by
   rcases hv'row k hk with h1 | h1
   ·exact nva (by rw [h1, e])
   ·have := h.lt; omega
  have n2 : k ≠ mb := fun e => by
   rcases hv'row k hk with h1 | h1
   ·exact nvb (by rw [h1, e])
   ·have := h.bm.lt; omega
  rw [hkF k n1, g11.block k hkl (fun e => n2 (by cases e; rfl))]
 have hdom : ∀ k, dm a mp mb (P ++ [pn]) (fput K (pn.blk : Int) (some v')) k → dm a mp mb P K k ∨ w.heap.size ≤ k ∨ blkOf pn.np = some k ∨ blkOf pn.bp = some k := by
  rintro k (rfl | rfl | rfl | ⟨b, u, hu, hk⟩ | ⟨p, hp, hk⟩)
  ·exact .inl (.inl rfl)
  ·exact .inl (.inr (.inl rfl))
  ·exact .inl (.inr (.inr (.inl rfl)))
  ·by_cases e : b = (pn.blk : Int)
   ·subst e
    rw [fput_same] at hu
    cases hu
    rcases hv'row k hk with h1 | h1
    ·exact .inl (.inr (.inr (.inr (.inl ⟨_, v, hvd k h1, h1⟩))))
    ·exact .inr (.inl (by omega))
   ·rw [fput_other _ e] at hu
    exact .inl (.inr (.inr (.inr (.inl ⟨b, u, hu, hk⟩))))
  ·rcases List.mem_append.1 hp with hp | hp
   ·exact .inl (.inr (.inr (.inr (.inr ⟨p, hp, hk⟩))))
   ·simp only [List.mem_singleton] at hp
    subst hp
    exact .inr (.inr hk)
 have hown : ∀ k, (∃ p ∈ P, blkOf p.np = some k ∨ blkOf p.bp = some k) → k < w.heap.size → F.heap[k]? = w.heap[k]? := fun k ⟨p, hp, hk⟩ hl => by
  obtain ⟨_, n1, n2, n3, n4⟩ := h.apart p hp k hk
  exact hkAll k hl n1 n2 n3 (fun e => n4 _ v (hvd k e) e)
 have hnew : ∀ k, (blkOf pn.np = some k ∨ blkOf pn.bp = some k) → k < w.heap.size → F.heap[k]? = w.heap[k]? := fun k hk hl => by
  have hn := hfr k hk
  exact hkAll k hl (fun e => hn (.inl e)) (fun e => hn (.inr (.inl e))) (fun e => hn (.inr (.inr (.inl e)))) (fun e => hn (.inr (.inr (.inr (.inl ⟨_, v, hvd k e, e⟩)))))
 rw [hF]
 refine ⟨⟨?_, ?_, ?_, ?_, ?_, ?_, ?_, ?_, ?_, ?_, ?_, ?_, hsml, h.base⟩, ?_, hdom⟩
 ·rw [← hF, heap_setCell_same _ _ _ _ _ _ hrowA]; rfl
 ·refine (h9.kept hmpF).congr (fun k hk => ?_)
  rw [fP_snoc (fun p hp => (h.ids p hp).2.1) hid k]
  unfold fput
  split <;> rfl
 ·rw [List.length_append]
  exact h11.kept hmbF
 ·intro p hp
  rcases List.mem_append.1 hp with hp | hp
  ·exact ⟨(h.byt p hp).1.keptIf (fun g hg hl => hown g ⟨p, hp, .inr hg⟩ hl), (h.byt p hp).2⟩
  ·simp only [List.mem_singleton] at hp
   subst hp
   exact ⟨hby.keptIf (fun g hg hl => hnew g (.inr hg) hl), hbp⟩
 ·intro p hp
  rcases List.mem_append.1 hp with hp | hp
  ·exact ⟨(h.nee p hp).1.keptIf (fun g hg hl => hown g ⟨p, hp, .inl hg⟩ hl), (h.nee p hp).2⟩
  ·simp only [List.mem_singleton] at hp
   subst hp
   exact ⟨hnd.keptIf (fun g hg hl => hnew g (.inl hg) hl), hnp⟩
 ·intro b u hu
  rw [idsOf_snoc]
  by_cases e : b = (pn.blk : Int)
  ·subst e
   rw [fput_same] at hu
   cases hu
   rw [if_pos rfl]
   refine ⟨hI, ?_, by simp⟩
   rw [List.length_append, List.map_append]
   exact row_keptIf r10 hv'F
  ·rw [fput_other _ e] at hu
   rw [if_neg (Ne.symm e)]
   obtain ⟨h1, h2, h3⟩ := h.rows b u hu
   refine ⟨h1, row_keptIf h2 (fun g hg => ?_), h3⟩
   obtain ⟨cs, hc⟩ := row_ty h2 hg
   exact hkAll g (h2.lt g hg).2 (fun e' => by subst e'; rw [h.row] at hc; cases hc) (fun e' => by subst e'; rw [hmp] at hc; cases hc) (fun e' => by subst e'; rw [hmb] at hc; cases hc) (fun e' => e (h.two _ _ _ _ hu (hvd g e') (by rw [hg, e'])))
 ·intro b hb hn
  rw [idsOf_snoc]
  by_cases e : b = (pn.blk : Int)
  ·subst e
   rw [fput_same] at hn
   cases hn
  ·rw [fput_other _ e] at hn
   rw [if_neg (Ne.symm e)]
   exact h.away b hb hn
 ·have key : ∀ b u, b ≠ (pn.blk : Int) → K b = some u → u.ownBlock ≠ v'.ownBlock := fun b u e hu eq => by
   have h2 := (h.rows b u hu).2.1
   cases hx : u.ownBlock with
   | none =>
    have := row_nil r10 (by rw [← eq]; exact hx)
    have h3 := r10.1
    rcases r10.2 with ⟨_, h4⟩ | ⟨g', cap', cur, h', _⟩
    ·omega
    ·rw [this] at h'; cases h'
   | some g =>
    rw [hx] at eq
    rcases hv'row g eq.symm with h1 | h1
    ·exact e (h.two _ _ _ _ hu (hvd g h1) (by rw [hx, h1]))
    ·have := (h2.lt g hx).2; omega
  intro b b' u u' hu hu' eq
  by_cases e : b = (pn.blk : Int)
  ·by_cases e' : b' = (pn.blk : Int)
   ·rw [e, e']
   ·rw [e, fput_same] at hu
    rw [fput_other _ e'] at hu'
    cases hu
    exact absurd eq.symm (key b' u' e' hu')
  ·by_cases e' : b' = (pn.blk : Int)
   ·rw [e', fput_same] at hu'
    rw [fput_other _ e] at hu
    cases hu'
    exact absurd eq (key b u e hu)
   ·rw [fput_other _ e] at hu
    rw [fput_other _ e'] at hu'
    exact h.two _ _ _ _ hu hu' eq
 ·intro p hp k hk
  have hkl : k < w.heap.size := by
   rcases List.mem_append.1 hp with hp | hp
   ·exact (h.apart p hp k hk).1
   ·simp only [List.mem_singleton] at hp
    subst hp
    exact hlt k hk
  have hnd' : ¬ (k = a ∨ k = mp ∨ k = mb ∨ ∃ b v, K b = some v ∧ v.ownBlock = some k) ∧ k ≠ w9.heap.size + 1 := by
   rcases List.mem_append.1 hp with hp | hp
   ·obtain ⟨_, n1, n2, n3, n4⟩ := h.apart p hp k hk
    refine ⟨?_, fun e => ?_⟩
    ·rintro (e | e | e | ⟨b, u, hu, e⟩)
     ·exact n1 e
     ·exact n2 e
     ·exact n3 e
     ·exact n4 b u hu e
    ·omega
   ·simp only [List.mem_singleton] at hp
    subst hp
    have hn := hfr k hk
    refine ⟨?_, fun e => ?_⟩
    ·rintro (e | e | e | e)
     ·exact hn (.inl e)
     ·exact hn (.inr (.inl e))
     ·exact hn (.inr (.inr (.inl e)))
     ·exact hn (.inr (.inr (.inr (.inl e))))
    ·omega
  refine ⟨by omega, fun e => hnd'.1 (.inl e), fun e => hnd'.1 (.inr (.inl e)), fun e => hnd'.1 (.inr (.inr (.inl e))), fun b u hu e => ?_⟩
  by_cases eb : b = (pn.blk : Int)
  ·subst eb
   rw [fput_same] at hu
   cases hu
   rcases hv'row k e with h1 | h1
   ·exact hnd'.1 (.inr (.inr (.inr ⟨_, v, hvd k h1, h1⟩)))
   ·exact hnd'.2 h1
  ·rw [fput_other _ eb] at hu
   exact hnd'.1 (.inr (.inr (.inr ⟨b, u, hu, e⟩)))
 ·intro p hp
  rcases List.mem_append.1 hp with hp | hp
  ·have := h.ids p hp
   exact ⟨this.1, by omega, this.2.2⟩
  ·simp only [List.mem_singleton] at hp
   subst hp
   exact ⟨by omega, by omega, hblk, hof⟩
 ·rw [List.pairwise_append]
  refine ⟨h.srt, by simp, fun p hp q hq => ?_⟩
  simp only [List.mem_singleton] at hq
  subst hq
  have := (h.ids p hp).2.1
  omega
 ·intro p hp
  rcases List.mem_append.1 hp with hp | hp
  ·exact h.low p hp
  ·simp only [List.mem_singleton] at hp
   subst hp
   exact hlow
 ·refine ⟨?_, ?_, ?_, by omega, fun k hk hn => hkAll k hk (fun e => hn (.inl e)) (fun e => hn (.inr (.inl e))) (fun e => hn (.inr (.inr (.inl e)))) (fun e => hn (.inr (.inr (.inr (.inl ⟨_, v, hvd k e, e⟩)))))⟩
  ·rw [← hF]; exact (g11.os.trans g10.os).trans g9.os
  ·rw [← hF]; exact (g11.tape.trans g10.tape).trans g9.tape
  ·rw [← hF]; exact (g11.output.trans g10.output).trans g9.output
end Go.Proofs.YthdlpeejmmobmaaGreat.Pt

namespace Go.Proofs.YthdlpeejmmobmaaGreat.Pt
open Go.RowKit Go.Maps Go.WideShapes Go.ChangeMaps Go.MapKept
open Go.WideElems (Fit rg rd_key rg_of)
set_option maxRecDepth 100000
set_option linter.unusedVariables false
theorem nodup_sub_len {α : Type} [DecidableEq α] : ∀ (l L : List α), l.Nodup → (∀ x ∈ l, x ∈ L) → l.length ≤ L.length
 | [], L, _, _ => Nat.zero_le _
 | x :: l, L, hn, h => by
  have hx := h x (by simp)
  have hn' := List.nodup_cons.1 hn
  have := nodup_sub_len l (L.erase x) hn'.2 (fun y hy => by
   rw [List.mem_erase_of_ne (show y ≠ x from fun e => hn'.1 (by rw [← e]; exact hy))]
   exact h y (by simp [hy]))
  rw [List.length_erase_of_mem hx] at this
  have := List.length_pos_of_mem hx
  simp
  omega
theorem keys_lit {P : Program} {k : TypeId} {R : Value → Option (DataW Unit × List MemPlace)} (K : Keyed P k) (hku : P.underlying k = some (.int .i64)) {w : World} {mb N : Nat} {D : DataW Unit} (h : w.ownsMap P k R mb N D) : ∃ es, D = .map es ∧ es.Pairwise (fun p q => p.1 ≠ q.1) ∧ ∀ p ∈ es, ∃ x, p.1 = .int .i64 x ∧ (Lit.int .i64 x).wf = true := by
 obtain ⟨es, clock, _, F, _, rfl⟩ := h
 refine ⟨_, rfl, ((sorted_perm _).pairwise_iff (fun {_ _} hne => Ne.symm hne)).2 (Maps.fit_apart K F), fun p hp => ?_⟩
 obtain ⟨x, hx, rfl⟩ := List.mem_map.1 (mem_sorted.1 hp)
 obtain ⟨y, hy⟩ := F.reads x hx
 rw [rg_of hy]
 obtain ⟨z, _, e, hw⟩ := Maps.keyOf_int_inv hku (rd_key hy)
 exact ⟨z, e, hw⟩
theorem keys_int {w : World} {mb : Nat} {N : Nat} {D : DataW Unit} (h : w.ownsMap Tryz.prog 3 vR mb N D) : ∃ es, D = .map es ∧ es.Pairwise (fun p q => p.1 ≠ q.1) ∧ ∀ p ∈ es, ∃ x, I64 x ∧ p.1 = ikey x := by
 obtain ⟨es, h1, h2, h3⟩ := keys_lit keyed3 Tryz.underlying3 h
 refine ⟨es, h1, h2, fun p hp => ?_⟩
 obtain ⟨z, e, hw⟩ := h3 p hp
 refine ⟨z, ?_, e⟩
 have h1 : IntKind.i64.min = -9223372036854775808 := by decide
 have h2 : IntKind.i64.max = 9223372036854775807 := by decide
 simp only [Lit.wf, h1, h2] at hw
 simpa [I64] using hw
theorem Mf.count {w : World} {mb N : Nat} {f : Int → Option Value} (h : Mf w mb N f) (L : List Int) (hL : ∀ k, I64 k → f k ≠ none → k ∈ L) : Mf w mb L.length f := by
 obtain ⟨D, ho, hs, hp⟩ := h
 refine ⟨D, ho, ?_, hp⟩
 obtain ⟨es, rfl, hpw, hk⟩ := keys_int ho
 have hlen : size (DataW.map es) = es.length := size_eq es
 rw [hlen]
 have hn : (es.map (fun p => p.1)).Nodup := List.pairwise_map.2 hpw
 have hsub : ∀ x ∈ es.map (fun p => p.1), x ∈ L.map ikey := fun x hx => by
  obtain ⟨p, hpe, rfl⟩ := List.mem_map.1 hx
  obtain ⟨z, hz, e⟩ := hk p hpe
  rw [e]
  refine List.mem_map.2 ⟨z, hL z hz (fun hn => ?_), rfl⟩
  have h1 := (hp z hz).1 hn
  have h2 : has (DataW.map es) (ikey z) = true := by
   rw [← e]
   exact List.any_eq_true.2 ⟨p, hpe, by rw [e]; exact WideAt.sameKey_self (ikey_is z)⟩
  rw [h1] at h2
  cases h2
 classical
 have := nodup_sub_len _ _ hn hsub
 simpa using this
structure PM (w : World) (a mp N : Nat) (P : List Pv) : Prop where
 c1 : w.cell? ⟨a, 1, none⟩ = some (.map (some mp))
 pm : Mf w mp N (fun k => (fP P k).map Pv.v)
theorem PM.kept {w w' : World} {a mp N : Nat} {P : List Pv} (h : PM w a mp N P) (hb : Below w.heap.size w w') : PM w' a mp N P :=
 ⟨by rw [hb.cell (p := ⟨a, 1, none⟩) (lt_of_cell h.c1)]; exact h.c1, h.pm.kept (hb.block _ h.pm.lt)⟩
theorem PM.look {w : World} {a mp N : Nat} {P : List Pv} (h : PM w a mp N P) (k : Int) (hk : I64 k) :
  (Instr.lookup 212 (.map (some mp)) (.int .i64 k) true).run Tryz.prog w = .ok (.tuple #[((fP P k).map Pv.v).getD zp, .bool (fP P k).isSome]) w := by
 obtain ⟨d, hd⟩ := zero44_D
 have := h.pm.look Tryz.underlying212 (zero44 w) hd k hk
 rw [this]
 simp [zp]
set_option maxHeartbeats 400000 in
theorem isPendingM_ok {w : World} {a mp N : Nat} {P : List Pv} (h : PM w a mp N P) (k : Int) (hk : I64 k) : Calls Tryz.prog 214 #[.pointer (some ⟨a, 0, none⟩), .int .i64 k] w fun e w' => e = .returned (.bool (fP P k).isSome) ∧ Below w.heap.size w w' := by
 have c1 := h.c1
 have hl := h.look k hk
 obtain ⟨cs, hcs, h1, h5⟩ : ∃ cs : Array Value, ((fP P k).map Pv.v).getD zp = .agg cs ∧ cs.all (·.oneCell') = true ∧ cs.size = 5 := by
  cases e : fP P k with
  | none => exact ⟨_, rfl, zp_one, rfl⟩
  | some p => exact ⟨p.cells, rfl, pv_one p, rfl⟩
 rw [hcs] at hl
 have hb := (Below.refl w.heap.size w).alloc (Nat.le_refl _) (Obj.cells #[.int .i64 0, .int .i64 0, .int .i64 0, .slice none 0 0, .slice none 0 0] 218)
 have hr0 : (w.alloc (Obj.cells #[.int .i64 0, .int .i64 0, .int .i64 0, .slice none 0 0, .slice none 0 0] 218)).heap[w.heap.size]? = some (.cells #[.int .i64 0, .int .i64 0, .int .i64 0, .slice none 0 0, .slice none 0 0] 218 (0, 0)) := World.alloc_heap_new w _
 clear h hcs
 go_enter Tryz.func214, Tryz.ntmps214
 go_wp2_with (refine wpList_store_row rfl 218 _ _ rfl w.heap.size cs rfl rfl 218 _ hr0 (by rw [h5]; exact info44) (by rw [h5]; rfl) h1 ?_)
 go_ret
 exact ⟨rfl, below_setRow hb _ (Nat.le_refl _) _⟩
set_option maxHeartbeats 1000000 in
theorem stillPendingM_ok {w : World} {a mp N : Nat} {P : List Pv} (h : PM w a mp N P) (p : Option Addr) (n c : Nat) (zs : List Int) (hz : II w p n zs) (h8 : n * 8 ≤ 140737488355328) :
  Calls Tryz.prog 126 #[.pointer (some ⟨a, 0, none⟩), .slice p n c] w fun e w' => ∃ v, e = .returned v ∧ Nums w.heap.size w' v (still P zs) ∧ Below w.heap.size w w' := by
 obtain ⟨i0, hi, hz0, hz1, hz2⟩ := info_parts info3
 have hl := hz.len
 have hg := hz.big
 go_enter Tryz.func126, Tryz.ntmps126
 go_wp2_with fail
 go_loopw [5, 10] (fun s i wr => ∃ j : Nat, j ≤ n ∧ i = .int .i64 (j : Int) ∧ Nums w.heap.size wr s (still P (zs.take j)) ∧ Below w.heap.size w wr) (fun s i _ => n - (intOf i).toNat)
 case atStart => exact ⟨0, by omega, rfl, Nums.nil _ _, Below.refl _ _⟩
 case round =>
  obtain ⟨j, hj, rfl, hN, hb⟩ := hrel
  by_cases hlt : j < n
  ·obtain ⟨b1, o1, rfl, hc1⟩ := (hz.kept hb).cells (by omega)
   have e1 := hc1 j hlt
   have hp := isPendingM_ok (h.kept hb) (zs.getD j 0) (hz.fitAt j)
   have hjI : (j : Int) < (n : Int) := by omega
   have hj0 : (0 : Int) ≤ (j : Int) := by omega
   have HT : Hid _ := take_one (zs := zs) (j := j) (by omega)
   have hlen : (still P (zs.take j)).length ≤ j := Nat.le_trans (List.length_filter_le _ _) (by simp; omega)
   clear hc1
   generalize zs.getD j 0 = y at e1 hp HT
   cases hy : (fP P y).isSome with
   | true =>
    rw [hy] at hp
    have HS : Hid (still P (zs.take (j + 1)) = still P (zs.take j) ++ [y]) := by
     show _ = _
     unfold still
     rw [HT.out, List.filter_append]
     simp [hy]
    clear hy
    go_wp2_with (first
     | (go_at_call 214; refine below_at hp ?_; intro w1 hb1; have hN2 := hN.kept hb1; have hb2 := below_on hb hb1)
     | (at_builtin; refine wpList_append_own _ rfl _ _ 49 rfl w.heap.size 3 i0 (.int .i64 0) 1 8 Tryz.underlying49 hi hz0 hz1 hz2 rfl (by decide) _ _ _ rfl (World.ownsRow.alloc hN2 _) ⟨w1.heap.size, 0, none⟩ 1 1 [.int .i64 y] rfl rfl (cell_one_new _ _ _) (by simp [Value.oneCell']) (by unfold maxLen; omega) (by omega) (by have := hb2.size; simp; omega) ?_; intro v' w3 hown hgrow _; have hown := Nums.snoc hown; obtain ⟨g', cap', rfl⟩ := Nums.succ hown))
    have hb3 := (hb2.alloc (by have := hb2.size; omega) _).grown hgrow (by have := hb2.size; simp; omega) (by intro k hk; exact (World.ownsRow.lt hN2 k hk).1)
    go_roundw
    case rel => exact ⟨j + 1, by omega, by go_num, by rw [HS.out]; exact hown, hb3⟩
    case measure => simp [intOf]; omega
   | false =>
    rw [hy] at hp
    have HS : Hid (still P (zs.take (j + 1)) = still P (zs.take j)) := by
     show _ = _
     unfold still
     rw [HT.out, List.filter_append]
     simp [hy]
    clear hy
    go_wp2_with (first | (go_at_call 214; refine below_at hp ?_; intro w1 hb1))
    go_roundw
    case rel => exact ⟨j + 1, by omega, by go_num, by rw [HS.out]; exact hN.kept hb1, below_on hb hb1⟩
    case measure => simp [intOf]; omega
  ·obtain rfl : j = n := by omega
   rw [List.take_of_length_le (by omega)] at hN
   go_wp2
   go_ret
   exact ⟨_, rfl, hN, hb⟩
end Go.Proofs.YthdlpeejmmobmaaGreat.Pt

namespace Go.Proofs.YthdlpeejmmobmaaGreat.Pt
open Go.RowKit Go.Maps
set_option maxRecDepth 100000
set_option linter.unusedVariables false
structure CI (B T : Nat) (w0 w : World) (a mp mb last : Nat) (P : List Pv) (K : Int → Option Value) (gs gc gi nb : Nat) (iv : Value) (U C I : List Int) : Prop where
 ps : PS B w0 a mp mb last P K
 bel : Below T w0 w
 sz : w0.heap.size = T
 rs : w.heap[gs]? = some (.cells #[.pointer (some ⟨a, 0, none⟩)] 94 (0, 0))
 rc : w.heap[gc]? = some (.cells #[.map (some nb)] 391 (0, 0))
 ri : w.heap[gi]? = some (.cells #[iv] 49 (0, 0))
 ns : Ns w nb U C
 ids : Nums T w iv I
 lo : T ≤ gs ∧ T ≤ gc ∧ T ≤ gi ∧ T ≤ nb
section
variable {B T : Nat} {w0 w w' : World} {a mp mb last : Nat} {P : List Pv} {K : Int → Option Value} {gs gc gi nb : Nat} {iv : Value} {U C I : List Int}
theorem CI.hT (h : CI B T w0 w a mp mb last P K gs gc gi nb iv U C I) : T ≤ w.heap.size := by have := h.bel.size; rw [h.sz] at this; exact this
theorem CI.add (h : CI B T w0 w a mp mb last P K gs gc gi nb iv U C I) {C' : List Int} (hn : Ns w' nb U C') (F : Frame (fun k => k = nb) w w') : CI B T w0 w' a mp mb last P K gs gc gi nb iv U C' I := by
 have lt : ∀ {g : Nat} {o : Obj}, w.heap[g]? = some o → g < w.heap.size := fun e => (Array.getElem?_eq_some_iff.1 e).1
 obtain ⟨es, c, hm⟩ := Mf.isMap h.ns
 refine ⟨h.ps, frame_below h.bel h.hT F h.lo.2.2.2, h.sz, ?_, ?_, ?_, hn, ?_, h.lo⟩
 ·rw [F.block gs (lt h.rs) (map_ne h.rs hm)]; exact h.rs
 ·rw [F.block gc (lt h.rc) (map_ne h.rc hm)]; exact h.rc
 ·rw [F.block gi (lt h.ri) (map_ne h.ri hm)]; exact h.ri
 ·refine h.ids.keptAt (fun g hg => ?_)
  obtain ⟨ds, h3⟩ := nums_row h.ids hg
  exact F.block g (lt h3) (map_ne h3 hm)
end
def nxC (P : List Pv) (I : List Int) (k : Int) : List Int := if (fP P k).isSome && !decide (k ∈ I) then I ++ [k] else I
end Go.Proofs.YthdlpeejmmobmaaGreat.Pt

namespace Go.Proofs.YthdlpeejmmobmaaGreat.Pt
open Go.RowKit Go.Maps
set_option maxRecDepth 100000
set_option linter.unusedVariables false
inductive Rch (P : List Pv) (zs : List Int) : Int → Prop
 | base {x : Int} : x ∈ zs → (fP P x).isSome = true → Rch P zs x
 | step {x y : Int} {p : Pv} : Rch P zs y → fP P y = some p → x ∈ p.nd → (fP P x).isSome = true → Rch P zs x
theorem Rch.pend {P : List Pv} {zs : List Int} {x : Int} (h : Rch P zs x) : (fP P x).isSome = true := by cases h <;> assumption
theorem nodup_len : ∀ (n : Nat) (l : List Int), l.Nodup → (∀ x ∈ l, 1 ≤ x ∧ x ≤ (n : Int)) → l.length ≤ n
 | 0, l, _, h => by
  cases l with
  | nil => exact Nat.le_refl _
  | cons x l => have := h x List.mem_cons_self; omega
 | n + 1, l, hn, h => by
  by_cases hm : ((n + 1 : Nat) : Int) ∈ l
  ·have h1 := nodup_len n (l.erase ((n + 1 : Nat) : Int)) (hn.erase _) (fun x hx => by
    have hx' := (List.Nodup.mem_erase_iff hn).1 hx
    have := h x hx'.2
    have := hx'.1
    omega)
   rw [List.length_erase_of_mem hm] at h1
   omega
  ·have h1 := nodup_len n l hn (fun x hx => by
    have := h x hx
    have : x ≠ ((n + 1 : Nat) : Int) := fun e => hm (e ▸ hx)
    omega)
   omega
structure Fnd (P : List Pv) (zs : List Int) (O : List Int) : Prop where
 nd : O.Nodup
 rch : ∀ x ∈ O, Rch P zs x
theorem nxC_mem (P : List Pv) (I : List Int) (k x : Int) : x ∈ nxC P I k ↔ x ∈ I ∨ (x = k ∧ (fP P k).isSome = true) := by
 unfold nxC
 by_cases h1 : (fP P k).isSome = true
 ·by_cases h2 : k ∈ I
  ·simp [h1, h2]; rintro rfl; exact h2
  ·simp [h1, h2]
 ·simp [h1]
theorem nxC_nodup {P : List Pv} {I : List Int} (h : I.Nodup) (k : Int) : (nxC P I k).Nodup := by
 unfold nxC
 split
 ·rename_i hc
  simp at hc
  rw [List.nodup_append]
  exact ⟨h, by simp, fun a ha b hb => by rw [List.mem_singleton.1 hb]; exact fun e => hc.2 (e ▸ ha)⟩
 ·exact h
def nxCs (P : List Pv) (I : List Int) (l : List Int) : List Int := l.foldl (nxC P) I
theorem nxCs_mem (P : List Pv) : ∀ (l I : List Int) (x : Int), x ∈ nxCs P I l ↔ x ∈ I ∨ (x ∈ l ∧ (fP P x).isSome = true)
 | [], I, x => by simp [nxCs]
 | k :: l, I, x => by
  have := nxCs_mem P l (nxC P I k) x
  rw [nxC_mem] at this
  rw [show nxCs P I (k :: l) = nxCs P (nxC P I k) l from rfl, this]
  constructor
  ·rintro ((h | ⟨rfl, h⟩) | ⟨h1, h2⟩)
   ·exact .inl h
   ·exact .inr ⟨List.mem_cons_self, h⟩
   ·exact .inr ⟨List.mem_cons_of_mem _ h1, h2⟩
  ·rintro (h | ⟨h1, h2⟩)
   ·exact .inl (.inl h)
   ·rcases List.mem_cons.1 h1 with rfl | h1
    ·exact .inl (.inr ⟨rfl, h2⟩)
    ·exact .inr ⟨h1, h2⟩
theorem nxCs_nodup {P : List Pv} : ∀ (l I : List Int), I.Nodup → (nxCs P I l).Nodup
 | [], _, h => h
 | k :: l, I, h => nxCs_nodup l _ (nxC_nodup h k)
def Dn (P : List Pv) (O : List Int) (j : Nat) : Prop := ∀ i, i < j → ∀ p, fP P (O.getD i 0) = some p → ∀ x ∈ p.nd, (fP P x).isSome = true → x ∈ O
theorem Fnd.all {P : List Pv} {zs O : List Int} (h : Fnd P zs O) (hz : ∀ x ∈ zs, (fP P x).isSome = true → x ∈ O) (hd : Dn P O O.length) : ∀ x, x ∈ O ↔ Rch P zs x := by
 intro x
 refine ⟨h.rch x, fun hr => ?_⟩
 induction hr with
 | base h1 h2 => exact hz _ h1 h2
 | step hy hp hx h2 ih =>
  obtain ⟨i, hi, e⟩ := List.mem_iff_getElem.1 ih
  refine hd i hi _ ?_ _ hx h2
  rw [List.getD_eq_getElem?_getD, List.getElem?_eq_getElem hi, Option.getD_some, e]
  exact hp
theorem Fnd.len {P : List Pv} {zs O : List Int} {last : Nat} (h : Fnd P zs O) (hP : ∀ p ∈ P, 1 ≤ p.id ∧ p.id ≤ last) : O.length ≤ last :=
 nodup_len last O h.nd (fun x hx => by
  obtain ⟨p, hp⟩ := Option.isSome_iff_exists.1 (h.rch x hx).pend
  obtain ⟨h1, h2⟩ := fP_some hp
  have := hP p h1
  omega)
end Go.Proofs.YthdlpeejmmobmaaGreat.Pt

namespace Go.Proofs.YthdlpeejmmobmaaGreat.Pt
open Go.RowKit Go.Maps
set_option maxRecDepth 100000
set_option linter.unusedVariables false
theorem Fnd.part {P : List Pv} {zs O : List Int} (h : Fnd P zs O) {y : Int} {p : Pv} (hy : y ∈ O) (hp : fP P y = some p) (l : List Int) (hl : ∀ x ∈ l, x ∈ p.nd) : Fnd P zs (nxCs P O l) :=
 ⟨nxCs_nodup _ _ h.nd, fun x hx => by
  rcases (nxCs_mem P l O x).1 hx with hx | ⟨h1, h2⟩
  ·exact h.rch x hx
  ·exact .step (h.rch y hy) hp (hl x h1) h2⟩
end Go.Proofs.YthdlpeejmmobmaaGreat.Pt
