/- CrashNobody: the walk. -/
import Derived.Test.YtemhhgpgpjiijaaGreatZC
namespace Go.Proofs.YtemhhgpgpjiijaaGreat
open Go.RowKit
set_option linter.unusedVariables false

set_option maxRecDepth 100000 in
set_option maxHeartbeats 2000000 in
theorem crashNobody_walk (most : Int) (K : Nat) (hK : K < 18446744073709551616) (w : World) :
    Calls Tryz.prog 3 #[.int .i64 most, .int .u64 (K : Int)] w fun e w' => e = .returned (.bool true) ∧ Below w.heap.size w w' := by
  have hmk := pair_mk w
  have HK := (show Hid _ from hK)
  clear hK
  go_enter Tryz.func3, Tryz.ntmps3
  go_wp2_with fail
  go_loopw [17] (fun i wr => ∃ j : Nat, j ≤ 2 ∧ i = .int .i64 j ∧ Pair w wr) (fun i _ => 2 - (intOf i).toNat)
  case atStart => exact ⟨0, by omega, rfl, hmk⟩
  case round =>
    obtain ⟨j, hj, rfl, hp⟩ := hrel
    clear hmk
    by_cases hlt : j < 2
    · obtain ⟨d, hd, hcell⟩ : ∃ d, (∀ w', Pair w w' → Void w' d) ∧ wr.cell? ⟨w.heap.size + 1, j, none⟩ = some (.pointer d) := by
        rcases (by omega : j = 0 ∨ j = 1) with rfl | rfl
        · exact ⟨none, fun _ _ => .inl rfl, hp.c0⟩
        · exact ⟨_, fun w' h => h.void, hp.c1⟩
      have HD := (show Hid _ from hd)
      clear hd
      go_wp2_with fail
      refine same_at (after_void wr d _ (HD.out wr hp)) ?_
      go_wp2_with fail
      refine (worst_void wr d most (HD.out wr hp)).mono ?_
      rintro e w1 ⟨rfl, hb1⟩
      have hp1 := hp.later hb1
      go_wp2_with fail
      refine (csets_void w1 d most (HD.out w1 hp1)).mono ?_
      rintro e w2 ⟨p2, c2, rfl, hb2⟩
      have hp2 := hp1.later hb2
      go_wp2_with fail
      refine (images_void w2 d most (HD.out w2 hp2)).mono ?_
      rintro e w3 ⟨rfl, hb3⟩
      have hp3 := hp2.later hb3
      go_wp2_with fail
      refine (of_void w3 d K HK.out (HD.out w3 hp3)).mono ?_
      rintro e w4 ⟨p4, c4, rfl, hb4⟩
      have hp4 := hp3.later hb4
      clear hp hp1 hp2 hp3 hb1 hb2 hb3 hb4 hcell
      go_wp2
      go_roundw
      case rel => exact ⟨j + 1, by omega, by go_num, hp4⟩
      case measure => simp [intOf]; omega
    · obtain rfl : j = 2 := by omega
      go_wp2_with fail
      refine (new_ok 2 (by omega) (by omega) wr).mono ?_
      rintro e w1 ⟨a, mb, fb, rfl, hd, hb1⟩
      have hm : mst 5 (0 : Nat) = 1 := by unfold mst al; decide
      have CS := (show Hid _ from csets_ok hd 5)
      rw [show (⟨2, fun _ => zer, [], 0, fun _ => 0⟩ : St).q.length = 0 from rfl, hm] at CS
      clear hd hm
      go_wp2_with fail
      refine Calls.mono CS.out ?_
      rintro e w2 ⟨v, vs, rfl, ho, _, hb2⟩
      obtain ⟨p2, c2, rfl, _⟩ := row_case ho
      clear ho CS
      have hbw := hp.2.2.trans ((hb1.trans (hb2.mono hb1.size)).mono hp.2.2.size)
      clear hb1 hb2
      go_wp2
      go_ret
      exact ⟨by first | rfl | exact congrArg _ (congrArg _ (by simp)), hbw⟩
end Go.Proofs.YtemhhgpgpjiijaaGreat
