/- A new tree: where a name could stand. -/
import Derived.Test.YtfchclpglcogoaaC6
namespace Go.Proofs.Ytfchclpglcogoaa
open Go.RowKit Go.Maps
set_option linter.unusedVariables false
set_option maxRecDepth 100000

def sF : ByteArray := ⟨#[102]⟩
def sSF : ByteArray := ⟨#[47, 102]⟩
theorem ix_f : ixS sF = -1 := by decide
theorem cutC_f : cutC sF = false := by unfold cutC; rw [ix_f]; decide
theorem cutA_f : cutA sF = sF := by unfold cutA; rw [if_pos ix_f]
theorem nm_f : Nm sF := ⟨by decide, by decide, by unfold dots; rw [Lib.toList_data]; decide, by decide⟩
theorem rest_f : sSF.extract 1 sSF.size = sF := by decide
theorem bs_f : bs sSF = ([], sF, 0) := by
  have hc : cps sF = [sF] := by rw [cps_no cutC_f, cutA_f]
  have hok : okP sSF := ⟨by unfold slB; rw [Lib.toList_data]; decide, .inr (by rw [rest_f, hc]; intro x hx; rw [List.mem_singleton] at hx; subst hx; exact nm_f)⟩
  have hp : pts sSF = [sF] := by unfold pts; rw [if_neg (by decide), rest_f, hc]
  have hE : spE sSF = 0 := by unfold spE; rw [if_pos hok, hp]; rfl
  have hL : spL sSF = [sF] := by unfold spL; rw [if_pos ⟨hok, by rw [hp]; decide⟩, hp]
  unfold bs
  rw [if_neg (by rw [hE]; simp), hL]
  rfl

/-- A tree with a root alone. -/
structure NT (w : World) (a mb n nm : Nat) : Prop where
  row : w.heap[a]? = some (.cells (treeC mb 1 noF) 44 (0, 0))
  nodes : Mf kI w mb 1 (fput (fun _ => none) 1 (some (.pointer (some ⟨n, 0, none⟩))))
  root : w.heap[n]? = some (.cells (dirC nm) 58 (0, 0))
  names : Mf kS w nm 0 (fun _ => none)
section
variable {w w' : World} {a mb n nm : Nat}
theorem NT.kept (h : NT w a mb n nm) (hb : Below w.heap.size w w') : NT w' a mb n nm :=
  ⟨(hb.block a (Array.getElem?_eq_some_iff.1 h.row).1).trans h.row, h.nodes.kept (hb.block mb h.nodes.lt), (hb.block n (Array.getElem?_eq_some_iff.1 h.root).1).trans h.root, h.names.kept (hb.block nm h.names.lt)⟩
theorem NT.a0 (h : NT w a mb n nm) : w.cell? ⟨a, 0, none⟩ = some (.map (some mb)) := (cell_of_row w a 0 _ 44 _ h.row).trans (by simp [treeC, noF])
theorem NT.a1 (h : NT w a mb n nm) : w.cell? ⟨a, 1, none⟩ = some (.int .i64 1) := (cell_of_row w a 1 _ 44 _ h.row).trans (by simp [treeC, noF])
theorem NT.a2 (h : NT w a mb n nm) : w.cell? ⟨a, 2, none⟩ = some (.int .i64 0) := (cell_of_row w a 2 _ 44 _ h.row).trans (by simp [treeC, noF])
theorem NT.n0 (h : NT w a mb n nm) : w.cell? ⟨n, 0, none⟩ = some (.int .i64 2) := (cell_of_row w n 0 _ 58 _ h.root).trans rfl
theorem NT.n2 (h : NT w a mb n nm) : w.cell? ⟨n, 2, none⟩ = some (.map (some nm)) := (cell_of_row w n 2 _ 58 _ h.root).trans rfl
theorem NT.look (h : NT w a mb n nm) : (Instr.lookup 41 (.map (some mb)) (.int .i64 1) false).run Try.prog w = .ok (.pointer (some ⟨n, 0, none⟩)) w := by
  have hl := h.nodes.get (t := 41) (e := 39) Try.underlying41 (zeroV39 w) (zd := .agg []) rfl (1 : Int) ⟨by omega, by omega⟩
  rw [fput_same] at hl
  exact hl

set_option maxHeartbeats 1000000 in
theorem walk_root (a : Nat) (q : Option Addr) (d : Nat) (w : World) : Calls Try.prog 50 #[.pointer (some ⟨a, 0, none⟩), .slice q 0 d] w fun e w' => e = .returned (.tuple #[.slice (some ⟨w.heap.size, 0, none⟩) 1 1, .int .i64 0]) ∧ w' = w.alloc (.cells #[.int .i64 1] 3) := by
  go_enter Try.func50, Try.ntmps50
  go_wp2_with fail
  go_loopw [15, 6] (fun iv v wr => iv = .int .i64 0 ∧ v = .slice (some ⟨w.heap.size, 0, none⟩) 1 1 ∧ wr = w.alloc (.cells #[.int .i64 1] 3)) (fun _ _ _ => 0)
  case atStart => exact ⟨rfl, rfl, rfl⟩
  case round =>
    obtain ⟨rfl, rfl, hwr⟩ := hrel
    subst hwr
    go_wp2_with fail
    go_ret2
    exact ⟨rfl, rfl⟩

set_option maxHeartbeats 1000000 in
theorem dir_ok (g : Nat) (s : ByteArray) (hc : w.cell? ⟨g, 0, none⟩ = some (.int .i64 1)) : Calls Try.prog 25 #[.agg #[.slice (some ⟨g, 0, none⟩) 1 1, .string s]] w fun e w' => e = .returned (.int .i64 1) ∧ Below w.heap.size w w' := by
  obtain ⟨W1, hW1⟩ : ∃ W1, w.alloc (.cells #[.slice (some ⟨g, 0, none⟩) 1 1, .string s] 61) = W1 := ⟨_, rfl⟩
  have hb1 : Below w.heap.size w W1 := by rw [← hW1]; exact (Below.refl _ _).alloc (Nat.le_refl _) _
  have hr1 : W1.heap[w.heap.size]? = some (.cells #[.slice (some ⟨g, 0, none⟩) 1 1, .string s] 61 (0, 0)) := by rw [← hW1]; exact at_new rfl
  have k0 : W1.cell? ⟨w.heap.size, 0, none⟩ = some (.slice (some ⟨g, 0, none⟩) 1 1) := (cell_of_row _ _ 0 _ 61 _ hr1).trans rfl
  have hc1 : W1.cell? ⟨g, 0, none⟩ = some (.int .i64 1) := (hb1.cell (p := ⟨g, 0, none⟩) (lt_of_cell hc)).trans hc
  go_enter Try.func25, Try.ntmps25
  go_wp2_with fail
  go_ret
  exact ⟨rfl, hb1⟩

set_option maxHeartbeats 400000 in
theorem isDir_ok (b : Nat) (m : Int) (hc : w.cell? ⟨b, 0, none⟩ = some (.int .i64 m)) : Calls Try.prog 32 #[.pointer (some ⟨b, 0, none⟩)] w fun e w' => e = .returned (.bool (m == 2)) ∧ w' = w := by
  go_enter Try.func32, Try.ntmps32
  go_wp2
  go_ret
  exact ⟨rfl, rfl⟩

/-- A spot in the root. -/
def spotC (g : Nat) : Array Value := #[.slice (some ⟨g, 0, none⟩) 1 1, .string sF]
theorem info61 : (Try.prog.info? 61).map (·.size) = some 2 := by kernel_rfl

set_option maxHeartbeats 2000000 in
theorem parent_ok (h : NT w a mb n nm) : Calls Try.prog 40 #[.pointer (some ⟨a, 0, none⟩), .string sSF] w fun e w' => ∃ g, e = .returned (.tuple #[.agg (spotC g), .int .i64 0]) ∧ w'.cell? ⟨g, 0, none⟩ = some (.int .i64 1) ∧ w.heap.size ≤ g ∧ Below w.heap.size w w' := by
  obtain ⟨W1, hW1⟩ : ∃ W1, w.alloc (.cells #[.slice none 0 0, .string ⟨#[]⟩] 61) = W1 := ⟨_, rfl⟩
  have hb1 : Below w.heap.size w W1 := by rw [← hW1]; exact (Below.refl _ _).alloc (Nat.le_refl _) _
  have hs1 : W1.heap.size = w.heap.size + 1 := by rw [← hW1]; simp
  have hr1 : W1.heap[w.heap.size]? = some (.cells #[.slice none 0 0, .string ⟨#[]⟩] 61 (0, 0)) := by rw [← hW1]; exact at_new rfl
  have hba := Base_ok sSF W1 (by decide)
  go_enter Try.func40, Try.ntmps40
  go_wp2_with fail
  refine Calls.mono hba ?_
  rintro e w2 ⟨q, d, he, _, hb2⟩
  rw [bs_f] at he
  subst he
  have hwk := walk_root a q d w2
  clear hba
  dsimp only
  go_wp2_with fail
  refine Calls.mono hwk ?_
  rintro e w3 ⟨rfl, hw3⟩
  have hb3 : Below w2.heap.size w2 w3 := by rw [hw3]; exact grew_alloc w2 _
  have hg3 : w3.heap[w2.heap.size]? = some (.cells #[.int .i64 1] 3 (0, 0)) := by rw [hw3]; exact at_new rfl
  obtain ⟨g, hg⟩ : ∃ g, g = w2.heap.size := ⟨_, rfl⟩
  rw [← hg] at hg3 ⊢
  obtain ⟨W4, hW4⟩ : ∃ W4, w3.alloc (.cells #[.slice (some ⟨g, 0, none⟩) 1 1, .string sF] 61) = W4 := ⟨_, rfl⟩
  have hb4 : Below w3.heap.size w3 W4 := by rw [← hW4]; exact grew_alloc w3 _
  have hr4 : W4.heap[w3.heap.size]? = some (.cells #[.slice (some ⟨g, 0, none⟩) 1 1, .string sF] 61 (0, 0)) := by rw [← hW4]; exact at_new rfl
  have hB4 : Below w.heap.size w W4 := ((hb1.trans (hb2.mono hb1.size)).trans (hb3.mono (Nat.le_trans hb1.size hb2.size))).trans (hb4.mono (Nat.le_trans hb1.size (Nat.le_trans hb2.size hb3.size)))
  have h4 := h.kept hB4
  have hgl : g < w3.heap.size := (Array.getElem?_eq_some_iff.1 hg3).1
  have c4 : W4.drew.cell? ⟨g, 0, none⟩ = some (.int .i64 1) := (cell_of_row W4.drew g 0 _ 3 _ ((hb4.block g hgl).trans hg3)).trans rfl
  have a4 : W4.drew.cell? ⟨a, 0, none⟩ = some (.map (some mb)) := h4.a0
  have k0 : W4.drew.cell? ⟨w3.heap.size, 0, none⟩ = some (.slice (some ⟨g, 0, none⟩) 1 1) := (cell_of_row W4.drew _ 0 _ 61 _ hr4).trans rfl
  have k1 : W4.drew.cell? ⟨w3.heap.size, 1, none⟩ = some (.string sF) := (cell_of_row W4.drew _ 1 _ 61 _ hr4).trans rfl
  have h4d : NT W4.drew a mb n nm := ⟨h4.row, h4.nodes.kept rfl, h4.root, h4.names.kept rfl⟩
  have l4 := h4d.look
  have hdi := dir_ok g sF c4
  have hrz : W4.drew.heap[w.heap.size]? = some (.cells #[.slice none 0 0, .string ⟨#[]⟩] 61 (0, 0)) := by
    have hB14 : Below W1.heap.size W1 W4 := (hb2.trans (hb3.mono hb2.size)).trans (hb4.mono (Nat.le_trans hb2.size hb3.size))
    exact (hB14.block w.heap.size (by omega)).trans hr1
  have hr4d : W4.drew.heap[w3.heap.size]? = some (.cells #[.slice (some ⟨g, 0, none⟩) 1 1, .string sF] 61 (0, 0)) := hr4
  have HG : Hid (w.heap.size ≤ g ∧ w.heap.size < g) := by show _ ∧ _; have := hb2.size; omega
  have HB4 : Hid (Below w.heap.size w W4.drew) := hB4.trans ((Below.refl _ _).drew.mono hB4.size)
  have hi61 : (Try.prog.info? 61).map (·.size) = some (#[Value.slice (some ⟨g, 0, none⟩) 1 1, .string sF] : Array Value).size := info61
  have ho61 : (#[Value.slice (some ⟨g, 0, none⟩) 1 1, .string sF] : Array Value).all (·.oneCell') = true := by simp [Value.oneCell']
  clear hwk hg hw3 hb3 hg3 hb4 hr4 hB4 h4 hgl hb2 hr1 hs1 hb1
  dsimp only
  go_wp2_with fail
  go_region_held3 (fun w' => w'.cell? ⟨a, 0, none⟩ = some (.map (some mb)) ∧ w'.cell? ⟨w3.heap.size, 0, none⟩ = some (.slice (some ⟨g, 0, none⟩) 1 1) ∧ w'.cell? ⟨w3.heap.size, 1, none⟩ = some (.string sF) ∧ (Instr.lookup 41 (.map (some mb)) (.int .i64 1) false).run Try.prog w' = .ok (.pointer (some ⟨n, 0, none⟩)) w')
    (first | exact ⟨a4, k0, k1, l4⟩ | exact ⟨a5, k05, k15, l5⟩)
    (first
      | (go_at_call 25; refine Calls.mono hdi ?_; rintro e w5 ⟨rfl, hb5⟩; have h5 := h4d.kept hb5; have a5 := h5.a0; have l5 := h5.look; have k05 := (hb5.cell (p := ⟨w3.heap.size, 0, none⟩) (lt_of_cell k0)).trans k0; have k15 := (hb5.cell (p := ⟨w3.heap.size, 1, none⟩) (lt_of_cell k0)).trans k1)
      | (go_at_call 32; refine same_at (isDir_ok n 2 h5.n0) ?_))
  have hr5 := (hb5.block w3.heap.size (Array.getElem?_eq_some_iff.1 hr4d).1).trans hr4d
  have hz5 := (hb5.block w.heap.size (Array.getElem?_eq_some_iff.1 hrz).1).trans hrz
  have c5 := (hb5.cell (p := ⟨g, 0, none⟩) (lt_of_cell c4)).trans c4
  go_wp2_with (first
    | (refine wpList_load_row rfl 61 (.tmp 10) rfl w3.heap.size rfl 61 _ (0, 0) _ hr5 Try.underlying61 rfl hi61 ?_)
    | (refine wpList_store_row rfl 61 (.tmp 4) _ rfl w.heap.size #[.slice (some ⟨g, 0, none⟩) 1 1, .string sF] rfl rfl 61 _ hz5 hi61 rfl ho61 ?_))
  refine bodyPost_ret (v := .tuple #[.agg (spotC g), .int .i64 0]) (results_cell_tmp_row (p := 4) (u := 5) (ty := 61) Try.results40 _ _ w.heap.size 61 _ (0, 0) _ rfl (setRow_heap _ _ _ _ _ _ hz5) Try.underlying61 rfl hi61) rfl ?_
  refine ⟨g, rfl, ?_, HG.out.1, below_setRow (HB4.out.trans (hb5.mono HB4.out.size)) (Nat.le_refl _) _⟩
  rw [World.cell?_of_block (setRow_other _ _ _ _ (Nat.ne_of_gt HG.out.2))]
  exact c5
end
end Go.Proofs.Ytfchclpglcogoaa
