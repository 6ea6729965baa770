/- The two disks together, and the two caches that 'both' makes over them. -/
import Derived.Test.YtliljdencaocaaaRCache
namespace Go.Proofs.Ytliljdencaocaaa
open Go.RowKit Go.Maps
set_option linter.unusedVariables false

theorem results_tmp5 {fn : Func} {t u v y z : Tmp} (h : fn.results = #[.tmp t, .tmp u, .tmp v, .tmp y, .tmp z]) (tmps : Array Value) (P : Program) (w : World) :
    (results fn tmps).run P w = .ok (.tuple #[tmps.getD t undef, tmps.getD u undef, tmps.getD v undef, tmps.getD y undef, tmps.getD z undef]) w := by
  simp [results, h]
theorem BI.block {w w' : World} {g n : Nat} {xs : List Int} (h : BI w (some ⟨g, 0, none⟩) n xs) (hg : w'.heap[g]? = w.heap[g]?) : BI w' (some ⟨g, 0, none⟩) n xs := by
  refine ⟨h.len, h.big, h.byt, fun hn => ?_⟩
  obtain ⟨b, o, e, hc⟩ := h.cells hn
  cases e
  exact ⟨g, 0, rfl, fun i hi => by rw [World.cell?_of_block (a := ⟨g, 0 + i, none⟩) hg]; exact hc i hi⟩

/-- The program's disk and the document's, of one state. -/
structure Tw (B : Nat) (w : World) (a mb fb : Nat) (dq : Value) (x : Nat) (bv qv fv : Value) (gB gQ : List (Nat × Nat)) (S : St) : Prop where
  d : DI B w a mb fb dq S
  r : RI B w x bv qv fv gB gQ S

section
variable {B : Nat} {w w' : World} {a mb fb : Nat} {dq : Value} {x : Nat} {bv qv fv : Value} {gB gQ : List (Nat × Nat)} {S S' : St}
theorem Tw.later (h : Tw B w a mb fb dq x bv qv fv gB gQ S) (hb : Below w.heap.size w w') : Tw B w' a mb fb dq x bv qv fv gB gQ S := ⟨h.d.later hb, h.r.later hb⟩
theorem d_keeps_r (hd : DI B w a mb fb dq S) (hr : RI B w x bv qv fv gB gQ S') (hf : Frame (foot a mb fb dq) w w') : RI B w' x bv qv fv gB gQ S' := hr.kept (fun k hk => hf.block k (hr.in hk).2 (hr.apart hd hk))
theorem r_keeps_d (hd : DI B w a mb fb dq S) (hr : RI B w x bv qv fv gB gQ S') (hf : Frame (rfoot x bv qv fv) w w') : DI B w' a mb fb dq S := hd.kept (fun k hk => hf.block k (hd.in k hk).2 (fun e => hr.apart hd (.inl e) hk))
theorem d_below (hd : DI B w a mb fb dq S) (hB : B ≤ w.heap.size) (hf : Frame (foot a mb fb dq) w w') : Below B w w' := hf.below hB (fun k hk => (hd.in k hk).1)
theorem r_below (hr : RI B w x bv qv fv gB gQ S) (hB : B ≤ w.heap.size) (hf : Frame (rfoot x bv qv fv) w w') : Below B w w' := hf.below hB (fun k hk => (hr.in (.inl hk)).1)
end

theorem twelve_mod (b : Int) : ∃ k : Nat, k < 12 ∧ wrap64 ((IntKind.u64.wrap b).tmod 12) = (k : Int) ∧ wrap64 (1 + (k : Int)) = 1 + (k : Int) := by
  have h0 : 0 ≤ IntKind.u64.wrap b := by
    simp [IntKind.wrap, IntKind.bits, IntKind.signed]
    omega
  rw [Int.tmod_eq_emod_of_nonneg h0]
  generalize IntKind.u64.wrap b = u at *
  refine ⟨(u % 12).toNat, by omega, ?_, ?_⟩ <;> unfold wrap64 <;> omega
end Go.Proofs.Ytliljdencaocaaa
