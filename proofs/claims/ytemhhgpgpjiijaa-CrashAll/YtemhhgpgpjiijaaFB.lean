/- crash.After and crash.imageAfter of a set of the disk's own queue. -/
import Derived.Test.YtemhhgpgpjiijaaFA
namespace Go.Proofs.Ytemhhgpgpjiijaa
open Go.RowKit Go.Maps
set_option linter.unusedVariables false

/-- A disk behind a crash with these done. -/
def St.cr (S : St) (xs : List Int) : St := { S with q := [], f := xs.foldl (crash1 S.q) S.f, fl := fun _ => 0 }

theorem found_of {q : List Wr} {x : Int} (h : x ∈ q.map Wr.id) : ∃ i, q.findIdx? (fun y => y.id == x) = some i := by
  obtain ⟨y, hy, e⟩ := List.mem_map.1 h
  cases hf : q.findIdx? (fun y => y.id == x) with
  | some i => exact ⟨i, rfl⟩
  | none =>
    rw [List.findIdx?_eq_none_iff] at hf
    have := hf y hy
    simp [e] at this

theorem II.spot {w : World} {p : Option Addr} {m : Nat} {xs : List Int} (h : II w p m xs) : ∀ b o, p = some ⟨b, o, none⟩ → 0 < m → b < w.heap.size := fun b o e h0 => by
  obtain ⟨b', o', e', hc⟩ := h.cells h0
  rw [e] at e'
  cases e'
  exact lt_of_cell (hc 0 h0)

set_option maxRecDepth 10000 in
set_option maxHeartbeats 1000000 in
theorem after_ok {B : Nat} {w : World} {a mb fb : Nat} {qv : Value} {S : St} (h : DI B w a mb fb qv S) (p : Option Addr) (m c : Nat) (xs : List Int) (hx : II w p m xs) (hnd : xs.Nodup) (hsub : ∀ x ∈ xs, x ∈ S.q.map Wr.id) :
    Calls Try.prog 50 #[.pointer (some ⟨a, 0, none⟩), .slice p m c] w fun e w' => ∃ a' mb' fb', e = .returned (.tuple #[.pointer (some ⟨a', 0, none⟩), .int .i64 0]) ∧ DI w.heap.size w' a' mb' fb' (.slice none 0 0) (S.cr xs) ∧ Below w.heap.size w w' := by
  have hq64 := h.q64
  have HR := (show Hid _ from ids_rng h)
  have HS := (show Hid _ from hsub)
  have HN := (show Hid _ from hnd)
  have HP := (show Hid _ from hx.spot)
  clear hsub hnd
  go_enter Try.func50, Try.ntmps50
  go_wp2_with fail
  refine same_at (cmade_ok h) ?_
  go_wp2_with fail
  refine (numbers_ok h).mono ?_
  rintro e w1 ⟨v, rfl, ho, hb1⟩
  obtain ⟨p1, c1, rfl, hi1, _⟩ := ids_ii ho hq64 HR.out
  have CA := (show Hid _ from areOf_ok p1 _ c1 _ p m c xs w1 hi1 (hx.kept hb1) hq64 HN.out HS.out)
  clear ho hi1
  go_wp2_with fail
  refine Calls.mono CA.out ?_
  clear CA
  rintro e w2 ⟨rfl, hb2⟩
  have hb02 := hb1.trans (hb2.mono hb1.size)
  have CC := (show Hid _ from copy_ok (h.later hb02))
  clear hb1 hb2
  go_wp2_with fail
  refine Calls.mono CC.out ?_
  clear CC
  rintro e w3 ⟨a', mb', fb', qv', rfl, hd3, hb3⟩
  have hb03 := hb02.trans (hb3.mono hb02.size)
  have CK := (show Hid _ from crash_ok hd3 p m c xs (hx.kept hb03) (fun k hk b o e h0 => by have := HP.out b o e h0; have := (hd3.in k hk).1; have := hb02.size; omega) (fun id hid => found_of (HS.out id hid)))
  have HF := (show Hid _ from hd3.in)
  clear hb3 hd3
  go_wp2_with fail
  refine Calls.mono CK.out ?_
  clear CK
  rintro e w4 ⟨rfl, hd4, hf4⟩
  have hbf : Below w.heap.size w w4 := hb03.trans (hf4.below hb03.size (fun k hk => Nat.le_trans hb02.size (HF.out k hk).1))
  have hd5 : DI w.heap.size w4 a' mb' fb' (.slice none 0 0) (S.cr xs) := hd4.base hb02.size
  clear hd4 hf4
  go_wp2
  go_ret2
  exact ⟨a', mb', fb', rfl, hd5, hbf⟩

set_option maxRecDepth 10000 in
set_option maxHeartbeats 1000000 in
theorem imageAfter_ok {B : Nat} {w : World} {a mb fb : Nat} {qv : Value} {S : St} (h : DI B w a mb fb qv S) (p : Option Addr) (m c : Nat) (xs : List Int) (hx : II w p m xs) (hnd : xs.Nodup) (hsub : ∀ x ∈ xs, x ∈ S.q.map Wr.id) :
    Calls Try.prog 27 #[.pointer (some ⟨a, 0, none⟩), .slice p m c] w fun e w' => ∃ g gs, e = .returned (.slice (some ⟨g, 0, none⟩) S.N S.N) ∧ Img w.heap.size w' g S.N gs (S.cr xs).f ∧ Below w.heap.size w w' := by
  have CA := (show Hid _ from after_ok h p m c xs hx hnd hsub)
  clear hx hnd hsub
  go_enter Try.func27, Try.ntmps27
  go_wp2_with fail
  refine Calls.mono CA.out ?_
  clear CA
  rintro e w1 ⟨a', mb', fb', rfl, hd1, hb1⟩
  have CI := (show Hid _ from image_ok hd1)
  clear hd1
  go_wp2_with fail
  refine Calls.mono CI.out ?_
  clear CI
  rintro e w2 ⟨g, gs, rfl, hi2, hb2⟩
  go_wp2
  go_ret
  exact ⟨g, gs, rfl, hi2.base hb1.size, hb1.trans (hb2.mono hb1.size)⟩
end Go.Proofs.Ytemhhgpgpjiijaa
