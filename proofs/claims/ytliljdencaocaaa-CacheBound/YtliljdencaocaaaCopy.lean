/- Copy: another disk with the same blocks, queue, numbers and failures. -/
import Derived.Test.YtliljdencaocaaaCrash
import Derived.Laws.Externs
namespace Go.Proofs.Ytliljdencaocaaa
open Go.RowKit Go.Maps

theorem mapIsNil {P : Program} {t k e : TypeId} (h : P.underlying t = some (.map k e)) (d : Nat) (p : Option Nat) (w : World) : (Op.equalIn (d + 1) t (.map p) (.map none)).run P w = .ok p.isNone w := by
  cases p <;> simp [Op.equalIn, run_underlying h]

theorem mapEqlNil {P : Program} {t k e : TypeId} (h : P.underlying t = some (.map k e)) (p : Option Nat) (w : World) : (binOp .eql t (.map p) (.map none)).run P w = .ok (.bool p.isNone) w := by
  have h1 := mapIsNil h 9999 p w
  have h2 : Op.equal t (.map p) (.map none) = Op.equalIn (9999 + 1) t (.map p) (.map none) := rfl
  simp only [binOp, h2]
  generalize Op.equalIn (9999 + 1) t (.map p) (.map none) = s at h1
  simp [h1]

theorem asserted {P : Program} {t k e xT : TypeId} (v : Value) (h : P.underlying t = some (.map k e)) (w : World) : (Instr.typeAssert (.iface t v) xT t false).run P w = .ok v w := by
  simp [Instr.typeAssert, run_underlying h, go_sem, Result.andThen]

theorem cloned {P : Program} {w : World} {r : Nat} {es : Array MapEntry} {clock : Nat} (t : TypeId) (hb : w.heap[r]? = some (.map es clock)) : (Extern.MapsClone.clone #[.iface t (.map (some r))]).run P w = .ok (.iface t (.map (some w.heap.size))) (w.alloc (.map es clock)) := by
  have e : Extern.MapsClone.clone #[.iface t (.map (some r))] = (getObj r >>= fun o => match o with
      | .map entries clock => (newObj (.map entries clock) >>= fun n => pure (.iface t (.map (some n))))
      | _ => stuck "maps.clone: a map expected") := rfl
  rw [e]
  simp [MapKept.run_getObj_map hb, Result.andThen, go_sem]

theorem eqlNil59 (w : World) (a : Option Addr) (n c n' c' : Nat) : (binOp .eql 59 (.slice a n c) (.slice none n' c')).run Try.prog w = .ok (.bool a.isNone) w := Lib.run_eql_slice_nil w _ _ a n c n' c' Try.underlying59

theorem Secs.moved {w w' : World} {mb mb' N : Nat} {f : Nat → List Int} (h : Secs w mb N f) {es : Array MapEntry} {clock : Nat} (hb : w.heap[mb]? = some (.map es clock)) (hb' : w'.heap[mb']? = some (.map es clock)) : Secs w' mb' N f := by
  obtain ⟨D, ⟨es1, c1, ho, r⟩, k⟩ := h.ex
  rw [ho] at hb
  cases hb
  exact ⟨⟨D, ⟨_, _, hb', r⟩, k⟩, h.all⟩

theorem Fls.moved {w w' : World} {mb mb' N : Nat} {f : Nat → Int} (h : Fls w mb N f) {es : Array MapEntry} {clock : Nat} (hb : w.heap[mb]? = some (.map es clock)) (hb' : w'.heap[mb']? = some (.map es clock)) : Fls w' mb' N f := by
  obtain ⟨D, ⟨es1, c1, ho, r⟩, k⟩ := h.ex
  rw [ho] at hb
  cases hb
  exact ⟨⟨D, ⟨_, _, hb', r⟩, k⟩, h.all⟩

section
variable {B : Nat} {w : World} {a mb fb : Nat} {qv : Value} {S : St}

theorem slice_shape {e : TypeId} {s n : Nat} {v : Value} {L : List Value} (h : w.ownsRow B e s v n L) : ∃ p c, v = .slice p n c := by
  rcases h.2 with ⟨rfl, rfl⟩ | ⟨g, cap, cur, rfl, _⟩
  · exact ⟨_, _, rfl⟩
  · exact ⟨_, _, rfl⟩

theorem DI.five (h : DI B w a mb fb qv S) : w.cell? ⟨a, 0, none⟩ = some (.int .i64 (S.N : Int)) ∧ w.cell? ⟨a, 1, none⟩ = some (.map (some mb)) ∧ w.cell? ⟨a, 2, none⟩ = some qv ∧ w.cell? ⟨a, 3, none⟩ = some (.int .i64 S.last) ∧ w.cell? ⟨a, 4, none⟩ = some (.map (some fb)) := ⟨h.c0, h.c1, h.c2, h.c3, h.c4⟩

theorem copy_fin {w0 w1 w2 w3 : World} {es es' : Array MapEntry} {c c' : Nat} {v : Value} (h : DI B w0 a mb fb qv S) (hm : w0.heap[mb]? = some (.map es c)) (hf : w0.heap[fb]? = some (.map es' c')) (e1 : w1 = w0.alloc (.map es c)) (hq : w2.ownsRow w1.heap.size 109 130 v S.q.length (flat S.q)) (hb2 : Below w1.heap.size w1 w2) (e3 : w3 = w2.alloc (.map es' c')) :
    DI w0.heap.size (w3.alloc (.cells #[.int .i64 (S.N : Int), .map (some w0.heap.size), v, .int .i64 S.last, .map (some w2.heap.size)] 61)) w3.heap.size w0.heap.size w2.heap.size v S ∧ Below w0.heap.size w0 (w3.alloc (.cells #[.int .i64 (S.N : Int), .map (some w0.heap.size), v, .int .i64 S.last, .map (some w2.heap.size)] 61)) := by
  have hs1 : w1.heap.size = w0.heap.size + 1 := by rw [e1]; simp
  have hs3 : w3.heap.size = w2.heap.size + 1 := by rw [e3]; simp
  have hs2 := hb2.size
  have b1 : Below w0.heap.size w0 w1 := by rw [e1]; exact (Below.refl _ _).alloc (Nat.le_refl _) _
  have b3 : Below w2.heap.size w2 w3 := by rw [e3]; exact (Below.refl _ _).alloc (Nat.le_refl _) _
  have b4 := (Below.refl w3.heap.size w3).alloc (Nat.le_refl _) (.cells #[.int .i64 (S.N : Int), .map (some w0.heap.size), v, .int .i64 S.last, .map (some w2.heap.size)] 61)
  have m1 : w1.heap[w0.heap.size]? = some (.map es c) := by rw [e1]; exact at_new rfl
  have m3 : w3.heap[w2.heap.size]? = some (.map es' c') := by rw [e3]; exact at_new rfl
  refine ⟨{ row := at_new rfl, secs := h.secs.moved hm ?_, que := ?_, fls := h.fls.moved hf ?_, lo := ⟨by omega, Nat.le_refl _, by omega⟩, ne := by omega, N1 := h.N1, N2 := h.N2, q64 := h.q64, qok := h.qok, lok := h.lok }, ((b1.trans (hb2.mono (by omega))).trans (b3.mono (by omega))).trans (b4.mono (by omega))⟩
  · rw [b4.block _ (by omega), b3.block _ (by omega), hb2.block _ (by omega)]
    exact m1
  · have hk := ownsRow_kept (ownsRow_kept hq (fun k hk => b3.block k (hq.lt k hk).2)) (w' := w3.alloc (.cells #[.int .i64 (S.N : Int), .map (some w0.heap.size), v, .int .i64 S.last, .map (some w2.heap.size)] 61)) (fun k hk => b4.block k (by have := (hq.lt k hk).2; omega))
    refine ⟨hk.1, ?_⟩
    rcases hk.2 with h' | ⟨g', cap', cur, h', hbg, rest⟩
    · exact .inl h'
    · exact .inr ⟨g', cap', cur, h', by omega, rest⟩
  · rw [b4.block _ (by omega)]
    exact m3

end
end Go.Proofs.Ytliljdencaocaaa
