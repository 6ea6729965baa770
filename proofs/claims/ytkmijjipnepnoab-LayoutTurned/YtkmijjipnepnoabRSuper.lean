/- The document's superblocks as bytes. -/
import Derived.Test.YtkmijjipnepnoabConv
namespace Go.Proofs.Ytkmijjipnepnoab
open Go.RowKit

theorem bollZ : ([98, 111, 108, 108] : List Int) ++ zers 124 = splice (zers 128) 0 [98, 111, 108, 108] := by decide

set_option maxRecDepth 10000 in
set_option maxHeartbeats 1000000 in
theorem rencodeSuper_yes (G B I M : Int) (h : SMay G B I M) (w : World) : Calls Try.prog 10 #[superV G B I M] w fun e w' => ∃ g cap, e = .returned (.tuple #[.slice (some ⟨g, 0, none⟩) 128 cap, .int .i64 0]) ∧ Own w.heap.size w' g 128 cap (superS G B I M) ∧ Below w.heap.size w w' := by
  have HB := grew_alloc w (superO G B I M)
  have hm := rmay_ok G B I
  rw [decide_eq_true h.1] at hm
  have hh := h
  unfold SMay Gm.May at hh
  obtain ⟨c0, c1, c2, c3⟩ := super_cells w G B I M
  go_enter Try.func10, Try.ntmps10
  go_wp2_with (first
    | (go_at_call 44; refine grew_at (hm _) ?_; intro wn hbn; have HB := grew_trans HB hbn; have c0 := cell_kept c0 hbn; have c1 := cell_kept c1 hbn; have c2 := cell_kept c2 hbn; have c3 := cell_kept c3 hbn; obtain ⟨wl, hcv, hl, hbn⟩ := conv_lit wn [98, 111, 108, 108]; have hcv : (convert 29 29 (.slice (some ⟨wn.heap.size, 0, none⟩) 4 4)).run Try.prog (wn.alloc (.cells #[.int .u8 98, .int .u8 111, .int .u8 108, .int .u8 108] 5)) = .ok (.slice (some ⟨wn.heap.size, 0, none⟩) 4 4) wl := hcv 4 4; have HB := grew_trans HB hbn; have c0 := cell_kept c0 hbn; have c1 := cell_kept c1 hbn; have c2 := cell_kept c2 hbn; have c3 := cell_kept c3 hbn; have hbl := hl.bi (Num.byt_of_wf (by decide)) (by decide))
    | (at_builtin; refine wpList_append_grow rfl _ _ rfl wn.heap.size 4 124 [98, 111, 108, 108] rfl rfl hbl rfl (by decide) ?_))
  intro g cap w1 ho hbn
  have HB := grew_trans HB hbn; have c0 := cell_kept c0 hbn; have c1 := cell_kept c1 hbn; have c2 := cell_kept c2 hbn; have c3 := cell_kept c3 hbn
  rw [show (98 :: 111 :: 108 :: 108 :: zers 124 : List Int) = splice (zers 128) 0 [98, 111, 108, 108] from bollZ] at ho
  have hy : Num.Byt (splice (zers 128) 0 [98, 111, 108, 108]) := splice_byt (zers_byt _) (Num.byt_of_wf (by decide)) 0
  go_wp2_with (first
    | (go_at_call_of 45 G; refine Calls.mono (rnumber_ok _ 128 _ _ 4 1 G _ (ho.bi (by omega) hy) (by omega) (by omega) (by omega) (by omega) (by omega)) ?_; rintro e wm ⟨g, cap, rfl, ho, hbn⟩; have hy := Num.putTo_byt hy 4 G 1; have HB := grew_trans HB hbn; have c0 := cell_kept c0 hbn; have c1 := cell_kept c1 hbn; have c2 := cell_kept c2 hbn; have c3 := cell_kept c3 hbn)
    | (go_at_call_of 45 I; refine Calls.mono (rnumber_ok _ 128 _ _ 6 1 I _ (ho.bi (by omega) hy) (by omega) (by omega) (by omega) (by omega) (by omega)) ?_; rintro e wm ⟨g, cap, rfl, ho, hbn⟩; have hy := Num.putTo_byt hy 6 I 1; have HB := grew_trans HB hbn; have c0 := cell_kept c0 hbn; have c1 := cell_kept c1 hbn; have c2 := cell_kept c2 hbn; have c3 := cell_kept c3 hbn)
    | (go_at_call_of 45 M; refine Calls.mono (rnumber_ok _ 128 _ _ 8 4 M _ (ho.bi (by omega) hy) (by omega) (by omega) (by omega) (by omega) (by omega)) ?_; rintro e wm ⟨g, cap, rfl, ho, hbn⟩; have hy := Num.putTo_byt hy 8 M 4; have HB := grew_trans HB hbn; have c0 := cell_kept c0 hbn; have c1 := cell_kept c1 hbn; have c2 := cell_kept c2 hbn; have c3 := cell_kept c3 hbn)
    | (go_at_call 45; refine Calls.mono (rnumber_ok _ 128 _ _ 5 1 (B - 1) _ (ho.bi (by omega) hy) (by omega) (by omega) (by omega) (by omega) (by omega)) ?_; rintro e wm ⟨g, cap, rfl, ho, hbn⟩; have hy := Num.putTo_byt hy 5 (B - 1) 1; have HB := grew_trans HB hbn; have c0 := cell_kept c0 hbn; have c1 := cell_kept c1 hbn; have c2 := cell_kept c2 hbn; have c3 := cell_kept c3 hbn)
    | (go_at_call 46; refine Calls.mono (rseal_ok _ 128 _ _ _ (ho.bi (by omega) hy) ho.room.1 (by omega)) ?_; rintro e wz ⟨g2, cap2, rfl, ho2, hb⟩))
  go_ret2
  refine ⟨g2, cap2, rfl, ?_, HB.trans (hb.mono HB.size)⟩
  have ho2 := ho2.base HB.size
  unfold superS sealL superL
  simp only [Num.putTo_length, splice_len128]
  exact ho2
end Go.Proofs.Ytkmijjipnepnoab
