/- GeomCan: geom and the document call the same geometries right, and count the same. -/
import Derived.Test.YtkmijjipnepnoabGeomC
namespace Go.Proofs.Ytkmijjipnepnoab
open Go.RowKit

theorem drew_cell {w : World} {a : Addr} {v : Value} (h : w.cell? a = some v) : w.drew.cell? a = some v := h

theorem geomCan_walk (G B I : Int) (w : World) : Calls Try.prog 4 #[geomV G B I] w fun e w' => e = .returned (.bool true) ∧ Below w.heap.size w w' := by
  have HB : Below w.heap.size w (w.alloc (geomO G B I)) := (Below.refl _ _).alloc (Nat.le_refl _) _
  obtain ⟨c0, c1, c2⟩ := box_cells w G B I
  go_enter Try.func4, Try.ntmps4
  go_wp2_with fail
  generalize w.alloc (geomO G B I) = w0 at *
  have HB := HB.drew; have c0 := drew_cell c0; have c1 := drew_cell c1; have c2 := drew_cell c2
  go_region_held3 (fun w' => w'.cell? ⟨w.heap.size, 0, none⟩ = some (.int .i64 G) ∧ w'.cell? ⟨w.heap.size, 1, none⟩ = some (.int .i64 B) ∧ w'.cell? ⟨w.heap.size, 2, none⟩ = some (.int .i64 I)) (first | exact ⟨c0, c1, c2⟩ | assumption) (first | (go_at_call 16; refine grew_at (can_ok _ _ _ _) ?_; intro wn hbn; have HB := grew_trans HB hbn; have c0 := cell_kept c0 hbn; have c1 := cell_kept c1 hbn; have c2 := cell_kept c2 hbn) | (go_at_call 17; refine grew_at (rcan_ok _ _ _ _) ?_; intro wn hbn; have HB := grew_trans HB hbn; have c0 := cell_kept c0 hbn; have c1 := cell_kept c1 hbn; have c2 := cell_kept c2 hbn) | (go_at_call 18; refine grew_at (blocks_ok _ _ _ _) ?_; intro wn hbn; have HB := grew_trans HB hbn; have c0 := cell_kept c0 hbn; have c1 := cell_kept c1 hbn; have c2 := cell_kept c2 hbn) | (go_at_call 19; refine grew_at (rblocks_ok _ _ _ _) ?_; intro wn hbn; have HB := grew_trans HB hbn; have c0 := cell_kept c0 hbn; have c1 := cell_kept c1 hbn; have c2 := cell_kept c2 hbn) | (go_at_call 20; refine grew_at (inodes_ok _ _ _ _) ?_; intro wn hbn; have HB := grew_trans HB hbn; have c0 := cell_kept c0 hbn; have c1 := cell_kept c1 hbn; have c2 := cell_kept c2 hbn) | (go_at_call 21; refine grew_at (rinodes_ok _ _ _ _) ?_; intro wn hbn; have HB := grew_trans HB hbn; have c0 := cell_kept c0 hbn; have c1 := cell_kept c1 hbn; have c2 := cell_kept c2 hbn) | (go_at_call 22; refine grew_at (room_ok _ _ _ _) ?_; intro wn hbn; have HB := grew_trans HB hbn; have c0 := cell_kept c0 hbn; have c1 := cell_kept c1 hbn; have c2 := cell_kept c2 hbn) | (go_at_call 23; refine grew_at (rroom_ok _ _ _ _) ?_; intro wn hbn; have HB := grew_trans HB hbn; have c0 := cell_kept c0 hbn; have c1 := cell_kept c1 hbn; have c2 := cell_kept c2 hbn))
  all_goals
    go_wp2
    go_ret
    exact ⟨rfl, HB⟩


end Go.Proofs.Ytkmijjipnepnoab
