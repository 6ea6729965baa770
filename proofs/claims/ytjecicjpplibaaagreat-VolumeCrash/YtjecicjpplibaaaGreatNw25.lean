/- PAn PGet -/
import Derived.Test.YtjecicjpplibaaaGreatNw23
import Derived.Test.YtjecicjpplibaaaGreatNw24

/- Of all that a patch needs: one patch beneath it. -/
namespace Go.Proofs.YtjecicjpplibaaaGreat.Pt
open Go.RowKit Go.Maps
set_option maxRecDepth 100000
set_option linter.unusedVariables false

/-- One of the set's, its bytes copied elsewhere perhaps. -/
def Tw (P : List Pv) (p : Pv) : Prop := ∃ bp bc, { p with bp := bp, bc := bc } ∈ P

/-- What allNeeds's closure stands in. -/
structure AN (B T : Nat) (w0 w : World) (a mp mb last : Nat) (P : List Pv) (K : Int → Option Value) (p : Pv) (gp gi : Nat) (iv : Value) (I : List Int) : Prop where
  ps : PS B w0 a mp mb last P K
  bel : Below T w0 w
  sz : w0.heap.size = T
  rp : w.heap[gp]? = some (.cells p.cells 134 (0, 0))
  ri : w.heap[gi]? = some (.cells #[iv] 23 (0, 0))
  ids : Nums T w iv I
  lo : T ≤ gp ∧ T ≤ gi

section
variable {B T : Nat} {w0 w w' : World} {a mp mb last : Nat} {P : List Pv} {K : Int → Option Value} {p : Pv} {gp gi : Nat} {iv : Value} {I : List Int}
theorem AN.hT (h : AN B T w0 w a mp mb last P K p gp gi iv I) : T ≤ w.heap.size := by have := h.bel.size; rw [h.sz] at this; exact this
theorem AN.kept (h : AN B T w0 w a mp mb last P K p gp gi iv I) (hb : Below w.heap.size w w') : AN B T w0 w' a mp mb last P K p gp gi iv I := by
  have lt : ∀ {g : Nat} {o : Obj}, w.heap[g]? = some o → g < w.heap.size := fun e => (Array.getElem?_eq_some_iff.1 e).1
  exact ⟨h.ps, h.bel.trans (hb.mono h.hT), h.sz, by rw [hb.block _ (lt h.rp)]; exact h.rp, by rw [hb.block _ (lt h.ri)]; exact h.ri, h.ids.kept hb, h.lo⟩
theorem AN.store {o : Obj} {w5 : World} {v' : Value} {I' : List Int} (h : AN B T w0 w a mp mb last P K p gp gi iv I)
    (hg : (w.alloc o).grownBy w5 iv.ownBlock) (hn : Nums T w5 v' I') : AN B T w0 (w5.setCell ⟨gi, 0, none⟩ v') a mp mb last P K p gp gi v' I' := by
  have hT := h.hT
  have r2 := grown_at h.ids hg h.rp (fun cs e => by simp at e)
  have r4 := grown_at h.ids hg h.ri (fun cs e => by simp at e)
  have hb5 : Below T w0 w5 := (h.bel.alloc hT o).grown hg (by simp; omega) (fun k hk => (World.ownsRow.lt h.ids k hk).1)
  have other : ∀ k, k ≠ gi → (w5.setCell ⟨gi, 0, none⟩ v').heap[k]? = w5.heap[k]? := fun k hk => Below.heap_setCell w5 ⟨gi, 0, none⟩ v' k hk
  refine ⟨h.ps, hb5.setCell (p := ⟨gi, 0, none⟩) h.lo.2 v', h.sz, ?_, one_setCell r4, ?_, h.lo⟩
  · rw [other gp (own_ne r2 r4 (by decide))]; exact r2
  · refine hn.keptAt (fun g hg => ?_)
    obtain ⟨ds, h3⟩ := nums_row hn hg
    exact other g (own_ne h3 r4 (by decide))
end

/-- Lies a patch under another one. -/
def und (p q : Pv) : Bool := decide (q.id < p.id) && (decide (p.off < endP q) && decide (q.off < endP p))
def anI (p q : Pv) (I : List Int) : List Int := if und p q then I ++ [(q.id : Int)] else I

/-- The closure's memory, and the other patch. -/
structure AQ (B T : Nat) (w0 w : World) (a mp mb last : Nat) (P : List Pv) (K : Int → Option Value) (p q : Pv) (gp gi gq : Nat) (iv : Value) (I : List Int) : Prop where
  an : AN B T w0 w a mp mb last P K p gp gi iv I
  rq : w.heap[gq]? = some (.cells q.cells 134 (0, 0))
theorem AQ.kept {B T : Nat} {w0 w w' : World} {a mp mb last : Nat} {P : List Pv} {K : Int → Option Value} {p q : Pv} {gp gi gq : Nat} {iv : Value} {I : List Int} (h : AQ B T w0 w a mp mb last P K p q gp gi gq iv I) (hb : Below w.heap.size w w') : AQ B T w0 w' a mp mb last P K p q gp gi gq iv I :=
  ⟨h.an.kept hb, by rw [hb.block _ (Array.getElem?_eq_some_iff.1 h.rq).1]; exact h.rq⟩
theorem AQ.rds {B T : Nat} {w0 w : World} {a mp mb last : Nat} {P : List Pv} {K : Int → Option Value} {p q : Pv} {gp gi gq : Nat} {iv : Value} {I : List Int} (h : AQ B T w0 w a mp mb last P K p q gp gi gq iv I) : T10 w gp gq p q := by
  obtain ⟨a0, a1, a2, a3, a4⟩ := cells5 h.an.rp
  exact ⟨a0, a1, a2, a3, a4, cells5 h.rq⟩

end Go.Proofs.YtjecicjpplibaaaGreat.Pt

/- All that a patch needs, as it is told; Get. -/
namespace Go.Proofs.YtjecicjpplibaaaGreat.Pt
open Go.RowKit Go.Maps
set_option maxRecDepth 100000
set_option linter.unusedVariables false

/-- All needs, patch by patch. -/
def anIs (p : Pv) : List Pv → List Int → List Int
  | [], I => I
  | q :: l, I => anIs p l (anI p q I)
theorem anIs_snoc (p : Pv) : ∀ (l : List Pv) (q : Pv) (I : List Int), anIs p (l ++ [q]) I = anI p q (anIs p l I)
  | [], _, _ => rfl
  | r :: l, q, I => by rw [List.cons_append]; exact anIs_snoc p l q _
theorem anI_len (p q : Pv) (I : List Int) : (anI p q I).length ≤ I.length + 1 := by unfold anI; split <;> simp
theorem anIs_len (p : Pv) : ∀ (l : List Pv) (I : List Int), (anIs p l I).length ≤ I.length + l.length
  | [], I => by simp [anIs]
  | q :: l, I => by
    have h1 := anI_len p q I
    have h2 := anIs_len p l (anI p q I)
    simp only [anIs, List.length_cons]
    omega
theorem anIs_mem (p : Pv) : ∀ (l : List Pv) (I : List Int) (x : Int), x ∈ anIs p l I → x ∈ I ∨ ∃ q ∈ l, (q.id : Int) = x
  | [], I, x, h => .inl h
  | q :: l, I, x, h => by
    rcases anIs_mem p l _ x h with h | ⟨r, hr, e⟩
    · unfold anI at h
      split at h
      · rcases List.mem_append.1 h with h | h
        · exact .inl h
        · exact .inr ⟨q, List.mem_cons_self, (List.mem_singleton.1 h).symm⟩
      · exact .inl h
    · exact .inr ⟨r, List.mem_cons_of_mem _ hr, e⟩

theorem Nums.base {B B' : Nat} {w : World} {v : Value} {zs : List Int} (h : Nums B w v zs) (hB : B' ≤ B) : Nums B' w v zs := by
  refine ⟨h.1, ?_⟩
  rcases h.2 with h' | ⟨g', cap', cur, h', hbg, rest⟩
  · exact .inl h'
  · exact .inr ⟨g', cap', cur, h', by omega, rest⟩
theorem Nums.slice {B : Nat} {w : World} {v : Value} {zs : List Int} (h : Nums B w v zs) : ∃ q c, v = .slice q zs.length c := by
  rcases h.2 with ⟨e, e0⟩ | ⟨g, cp, cur, e, _⟩
  · exact ⟨none, 0, by rw [e, e0]⟩
  · exact ⟨_, _, e⟩

/-- A patch's needs, as they are told. -/
def ndOf (P : List Pv) (p : Pv) : List Int := rs (anIs p (ofB P (p.blk : Int)) (still P p.nd))

theorem results_cell_tmp_row {P : Program} {fn : Func} {p u : Tmp} {ty : TypeId} (h : fn.results = #[.cell p ty, .tmp u]) (tmps : Array Value) (w : World) (g : Nat) (t : TypeId) (cs : Array Value) (fr : Nat × Nat) (d : TypeDesc)
    (hp : tmps.getD p undef = .pointer (some ⟨g, 0, none⟩)) (hg : w.heap[g]? = some (.cells cs t fr))
    (hu : P.underlying ty = some d) (hd : (match d with | .struct _ | .array _ _ => true | _ => false) = true) (hi : (P.info? ty).map (·.size) = some cs.size) :
    (results fn tmps).run P w = .ok (.tuple #[.agg cs, tmps.getD u undef]) w := by
  rw [results_cell_tmp h, hp]
  simp [asAddr, run_loadVar_row w g t ty cs fr d hg hu hd hi]

theorem anIs_tw (p : Pv) (bp : Option Addr) (bc : Nat) : ∀ (l : List Pv) (I : List Int), anIs { p with bp := bp, bc := bc } l I = anIs p l I
  | [], _ => rfl
  | q :: l, I => anIs_tw p bp bc l (anI p q I)
theorem ndOf_tw (P : List Pv) (p : Pv) (bp : Option Addr) (bc : Nat) : ndOf P { p with bp := bp, bc := bc } = ndOf P p := by
  unfold ndOf
  rw [anIs_tw]
theorem II.keptAt {w w' : World} {q : Option Addr} {n : Nat} {zs : List Int} (h : II w q n zs) (hb : ∀ g, blkOf q = some g → w'.heap[g]? = w.heap[g]?) : II w' q n zs := by
  refine ⟨h.len, h.big, h.fit, fun hn => ?_⟩
  obtain ⟨b, o, rfl, hc⟩ := h.cells hn
  refine ⟨b, o, rfl, fun i hi => ?_⟩
  rw [← hc i hi]
  simp only [World.cell?, hb b rfl]

def zc : Array Value := #[.int .i64 0, .int .i64 0, .int .i64 0, .slice none 0 0, .slice none 0 0]
end Go.Proofs.YtjecicjpplibaaaGreat.Pt
