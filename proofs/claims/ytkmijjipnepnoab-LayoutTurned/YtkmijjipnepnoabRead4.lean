/- A reader's Text and Skip, whole, and a reader that does not begin. -/
import Derived.Test.YtkmijjipnepnoabRead3
namespace Go.Proofs.Ytkmijjipnepnoab
open Go.RowKit

def NotYet (w : World) (r : Option Addr) (F : Int) : Prop := ∀ w', Below w.heap.size w w' → Calls Try.prog 85 #[.pointer r] w' fun e w'' => e = .returned (.int .i64 F) ∧ w'' = w'

theorem NotYet.later {w w' : World} {r : Option Addr} {F : Int} (h : NotYet w r F) (hb : Below w.heap.size w w') : NotYet w' r F :=
  fun w'' hb' => h w'' (hb.trans (hb'.mono hb.size))

theorem notyet_nil (w : World) : NotYet w none 2 := fun w' _ => err_nil w'
theorem notyet_plain (w : World) (rb : Nat) (v : Value) (E : Int) (h : Rd w rb v E false) : NotYet w (some ⟨rb, 0, none⟩) 2 := fun w' hb => err_plain w' rb v E (rd_kept h hb)
theorem notyet_err (w : World) (rb : Nat) (v : Value) (E : Int) (h : Rd w rb v E true) : NotYet w (some ⟨rb, 0, none⟩) E := fun w' hb => err_made w' rb v E (rd_kept h hb)

set_option maxHeartbeats 800000 in
theorem take_no (w : World) (r : Option Addr) (F k : Int) (hF : (F != 0) = true) (h : NotYet w r F) :
    Calls Try.prog 72 #[.pointer r, .int .i64 k] w fun e w' => e = .returned (.int .i64 0) ∧ Below w.heap.size w w' := by
  have hmf := makes
  obtain ⟨t0, t1, t2, t3, t4⟩ := three w (.pointer r) (.int .i64 k) (.int .i64 0) (.pointer r) 81 3 3 81
  have t2' := cell_one (at_new (w := (w.alloc (.cells #[.pointer r] 81)).alloc (.cells #[.int .i64 k] 3)) (k := w.heap.size + 1 + 1) (o := .cells #[.int .i64 0] 3) (by simp))
  have hcon := attempt_no _ r F (.func (Fn.func 82) #[] #[.pointer (some ⟨w.heap.size, 0, none⟩), .pointer (some ⟨w.heap.size + 1, 0, none⟩), .pointer (some ⟨w.heap.size + 1 + 1, 0, none⟩)]) hF (h.later t4)
  have HC := (show Hid _ from hcon)
  have HB := (show Hid _ from t4)
  clear hcon t0 t1 t2 t3 t4 h
  go_enter Try.func72, Try.ntmps72
  go_wp2_with fail
  refine Calls.mono HC.out ?_
  rintro e w' ⟨rfl, hb⟩
  have hc2 := hb.cell (p := ⟨w.heap.size + 1 + 1, 0, none⟩) (by simp)
  rw [t2'] at hc2
  have hbel : Below w.heap.size w w' := Below.trans HB.out (hb.mono (Below.size HB.out))
  clear HC HB t2' hb
  go_wp2
  go_ret
  exact ⟨rfl, hbel⟩

theorem two (w : World) (a b d : Value) (ta tb td : TypeId) :
    ((((w.alloc (.cells #[a] ta)).alloc (.cells #[b] tb)).alloc (.cells #[d] td)).heap[w.heap.size]? = some (.cells #[a] ta (0, 0))) ∧
    ((((w.alloc (.cells #[a] ta)).alloc (.cells #[b] tb)).alloc (.cells #[d] td)).heap[w.heap.size + 1]? = some (.cells #[b] tb (0, 0))) ∧
    Below w.heap.size w (((w.alloc (.cells #[a] ta)).alloc (.cells #[b] tb)).alloc (.cells #[d] td)) ∧
    Below w.heap.size w ((w.alloc (.cells #[a] ta)).alloc (.cells #[b] tb)) := by
  refine ⟨at_old (at_old (at_new rfl)), at_old (at_new (by simp)), ?_, ?_⟩
  · exact (((Below.refl _ _).alloc (Nat.le_refl _) _).alloc (by simp) _).alloc (by simp; omega) _
  · exact ((Below.refl _ _).alloc (Nat.le_refl _) _).alloc (by simp) _

set_option maxHeartbeats 800000 in
theorem skip_no (w : World) (r : Option Addr) (F k : Int) (hF : (F != 0) = true) (h : NotYet w r F) :
    Calls Try.prog 71 #[.pointer r, .int .i64 k] w fun e w' => e = .returned (.tuple #[]) ∧ Below w.heap.size w w' := by
  have hmf := makes
  obtain ⟨t0, t1, t3, t4⟩ := two w (.pointer r) (.int .i64 k) (.pointer r) 81 3 81
  have hcon := attempt_no _ r F (.func (Fn.func 80) #[] #[.pointer (some ⟨w.heap.size, 0, none⟩), .pointer (some ⟨w.heap.size + 1, 0, none⟩)]) hF (h.later t4)
  have HC := (show Hid _ from hcon)
  have HB := (show Hid _ from t4)
  clear hcon t0 t1 t3 t4 h
  go_enter Try.func71, Try.ntmps71
  go_wp2_with fail
  refine Calls.mono HC.out ?_
  rintro e w' ⟨rfl, hb⟩
  have hbel : Below w.heap.size w w' := Below.trans HB.out (hb.mono (Below.size HB.out))
  clear HC HB hb
  go_wp2
  go_end0
  exact ⟨rfl, hbel⟩

end Go.Proofs.Ytkmijjipnepnoab
