/- begun(2, nil): a volume over a disk of three blocks. -/
import Derived.Test.YtinigfidofgaiaaGreatBlk
import Derived.Test.YtinigfidofgaiaaGreatVNew
namespace Go.Proofs.YtinigfidofgaiaaGreat
open Go.RowKit Go.Maps
set_option linter.unusedVariables false

set_option maxRecDepth 100000 in
set_option maxHeartbeats 2000000 in
theorem begun2_ok (w : World) : Calls Tryz.prog 8 #[.int .i64 2, .slice none 0 0] w fun e w' => ∃ v d, e = .returned (.tuple #[.pointer (some ⟨v, 0, none⟩), .pointer (some ⟨d, 0, none⟩), .bool true]) ∧ w'.cell? ⟨v, 2, none⟩ = some (.pointer (some ⟨d, 0, none⟩)) ∧ w'.cell? ⟨d, 0, none⟩ = some (.int .i64 3) ∧ Below w.heap.size w w' := by
  go_enter Tryz.func8, Tryz.ntmps8
  go_wp2_with fail
  refine Calls.mono (blocks2_ok w) ?_
  rintro e w1 ⟨p, c, L, rfl, hL, hlen, hb1⟩
  go_wp2_with fail
  refine Calls.mono (of_ok p 3 c L w1 hL (by omega) (by omega)) ?_
  rintro e w2 ⟨hb2, h2⟩
  rcases h2 with ⟨_, a, mb, fb, rfl, hd⟩ | ⟨⟨xs, hx, hne⟩, _⟩
  rotate_left
  · exact absurd (hlen xs hx) hne
  go_wp2_with fail
  refine Calls.mono (vopen_ok hd) ?_
  rintro e w3 ⟨v, rfl, hv, hb3⟩
  have hc3 : w3.cell? ⟨a, 0, none⟩ = some (.int .i64 3) := (hb3.cell (p := ⟨a, 0, none⟩) (lt_of_cell hd.c0)).trans hd.c0
  have hbw : Below w.heap.size w w3 := (hb1.trans (hb2.mono hb1.size)).trans (hb3.mono (hb1.trans (hb2.mono hb1.size)).size)
  go_wp2_with fail
  go_loopw [36] (fun i wr => i = .int .i64 0 ∧ wr = w3) (fun _ _ => 0)
  case atStart => exact ⟨rfl, rfl⟩
  case round =>
    obtain ⟨rfl, rfl⟩ := hrel
    go_wp2
    go_ret3
    exact ⟨v, a, rfl, hv, hc3, hbw⟩
end Go.Proofs.YtinigfidofgaiaaGreat
