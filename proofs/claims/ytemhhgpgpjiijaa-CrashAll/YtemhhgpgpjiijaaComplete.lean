/- Complete: a write of the queue is done, or fails. -/
import Derived.Test.YtemhhgpgpjiijaaWrite
import Derived.Test.YtemhhgpgpjiijaaQueue
import Derived.Test.YtemhhgpgpjiijaaDelete
namespace Go.Proofs.Ytemhhgpgpjiijaa
open Go.RowKit Go.Maps

def St.done (S : St) (i : Nat) (x : Wr) (ok : Bool) : St := { S with q := S.q.eraseIdx i, f := if ok then upd S.f x.block x.bytes else S.f }

section
variable {B : Nat} {w : World} {a mb fb : Nat} {qv : Value} {S : St}

set_option maxHeartbeats 400000 in
theorem complete_none (h : DI B w a mb fb qv S) (id : Int) (ok : Bool) (hi : S.q.findIdx? (fun y => y.id == id) = none) : Calls Try.prog 15 #[.pointer (some ⟨a, 0, none⟩), .int .i64 id, .bool ok] w fun e w' => e = .returned (.int .i64 20) ∧ Below w.heap.size w w' := by
  have c := place_ok h id
  rw [idx_none hi] at c
  have HC := (show Hid _ from c)
  clear c
  go_enter Try.func15, Try.ntmps15
  go_wp2_with fail
  refine same_at (made_ok h) ?_
  go_wp2_with fail
  refine Calls.mono HC.out ?_
  rintro e w1 ⟨rfl, hb1⟩
  go_wp2
  go_ret
  exact ⟨rfl, hb1⟩

/-- Behind Delete, and the store of what it gave: the disk with one write less. -/
theorem DI.erase (h : DI B w a mb fb qv S) {g n cap i : Nat} (hqv : qv = .slice (some ⟨g, 0, none⟩) n cap) (hn : n = S.q.length) {w' : World} (hown : w'.ownsRow B 71 130 (.slice (some ⟨g, 0, none⟩) (n - 1) cap) (n - 1) (flat (S.q.eraseIdx i))) (hi : i < n) (hg : w.grownBy w' (some g)) :
    DI B (w'.setCell ⟨a, 2, none⟩ (.slice (some ⟨g, 0, none⟩) (n - 1) cap)) a mb fb (.slice (some ⟨g, 0, none⟩) (n - 1) cap) { S with q := S.q.eraseIdx i } := by
  subst hqv
  obtain ⟨n1, n2, n3, n4, n5⟩ := h.apart
  simp only [Value.ownBlock, ne_eq, Option.some.injEq] at n3 n4 n5
  have ho : ∀ k, k < w.heap.size → k ≠ a → k ≠ g → (w'.setCell ⟨a, 2, none⟩ (.slice (some ⟨g, 0, none⟩) (n - 1) cap)).heap[k]? = w.heap[k]? := fun k hk h1 h2 => (Below.heap_setCell w' ⟨a, 2, none⟩ _ k h1).trans (hg.block k hk (by simpa using h2))
  have hrow : w'.heap[a]? = w.heap[a]? := hg.block a (Array.getElem?_eq_some_iff.1 h.row).1 (by simp; omega)
  have hlen : (S.q.eraseIdx i).length = n - 1 := by rw [List.length_eraseIdx_of_lt (by omega)]; omega
  have hq := h.q64
  refine { row := row_set2 (hrow.trans h.row) _, secs := h.secs.kept (ho mb h.secs.lt n1.symm (by omega)), que := ?_, fls := h.fls.kept (ho fb h.fls.lt n2.symm (by omega)), lo := h.lo, ne := h.ne, N1 := h.N1, N2 := h.N2, q64 := ?_, qok := ?_, lok := h.lok }
  · show World.ownsRow _ B 71 130 _ (S.q.eraseIdx i).length (flat (S.q.eraseIdx i))
    rw [hlen]
    exact ownsRow_kept hown (fun k hk => by cases hk; exact Below.heap_setCell w' ⟨a, 2, none⟩ _ g n3)
  · show (S.q.eraseIdx i).length ≤ 64
    omega
  · intro x hx
    exact h.qok x (List.mem_of_mem_eraseIdx hx)

theorem DI.turnSec (h : DI B w a mb fb qv S) {w' : World} {f' : Nat → List Int} (hs : Secs w' mb S.N f') (hg : w.grownBy w' (some mb)) : DI B w' a mb fb qv { S with f := f' } := by
  obtain ⟨n1, n2, n3, n4, n5⟩ := h.apart
  have ho : ∀ k, k < w.heap.size → k ≠ mb → w'.heap[k]? = w.heap[k]? := fun k hk h1 => hg.block k hk (by simpa using h1)
  exact { row := (ho a (Array.getElem?_eq_some_iff.1 h.row).1 n1).trans h.row, secs := hs, que := ownsRow_kept h.que (fun k hk => ho k (h.que.lt k hk).2 (by rintro rfl; exact n4 hk)), fls := h.fls.kept (ho fb h.fls.lt h.ne.symm), lo := h.lo, ne := h.ne, N1 := h.N1, N2 := h.N2, q64 := h.q64, qok := h.qok, lok := h.lok }

theorem wr_c1 {T : Nat} {x : Wr} (h : w.heap[T]? = some (.cells (wrA x) 71 (0, 0))) : w.cell? ⟨T, 1, none⟩ = some (.int .i64 (x.block : Int)) := by rw [cell_of_row w T 1 _ _ _ h]; exact wrA_1 x
theorem wr_c0 {T : Nat} {x : Wr} (h : w.heap[T]? = some (.cells (wrA x) 71 (0, 0))) : w.cell? ⟨T, 0, none⟩ = some (.int .i64 x.id) := by rw [cell_of_row w T 0 _ _ _ h]; exact wrA_0 x
theorem wr_c2 {T : Nat} {x : Wr} (h : w.heap[T]? = some (.cells (wrA x) 71 (0, 0))) : w.rangeAt T 2 (x.bytes.map (Value.int .u8)) := by
  intro i v hv
  rw [cell_of_row w T (2 + i) _ _ _ h]
  simp only [wrA, Wr.cells, List.getElem?_toArray]
  rw [Nat.add_comm]
  exact hv

set_option maxRecDepth 10000 in
set_option maxHeartbeats 1000000 in
theorem complete_some (h : DI B w a mb fb qv S) (id : Int) (ok : Bool) (i : Nat) (x : Wr) (hi : S.q.findIdx? (fun y => y.id == id) = some i) (hx : S.q[i]? = some x) :
    Calls Try.prog 15 #[.pointer (some ⟨a, 0, none⟩), .int .i64 id, .bool ok] w fun e w' => ∃ qv', e = .returned (.int .i64 (if ok then 0 else 4)) ∧ DI B w' a mb fb qv' (S.done i x ok) ∧ Frame (foot a mb fb qv) w w' ∧ qv'.ownBlock = qv.ownBlock := by
  have c := place_ok h id
  rw [idx_some hi] at c
  have HC := (show Hid _ from c)
  clear c
  have hil := (List.getElem?_eq_some_iff.1 hx).1
  have hxm := List.mem_of_getElem? hx
  have hxs := h.sects x hxm
  have hxb := (h.qok x hxm).1
  obtain ⟨g, cap, hqv⟩ : ∃ g cap, qv = .slice (some ⟨g, 0, none⟩) S.q.length cap := by
    rcases h.qcase with ⟨_, e⟩ | e
    · rw [e] at hil; simp at hil
    · exact e
  obtain ⟨n, hn⟩ : ∃ n, n = S.q.length := ⟨_, rfl⟩
  rw [← hn] at hqv
  subst hqv
  have h64 := h.q64
  rw [← hn] at h64 hil
  have hzr : ∀ w, (zeroValue 71).run Try.prog w = .ok (.agg zwr.toArray) w := zero_wr
  have hZ : zwr.toArray.size = 130 := by simp [zwr_len]
  generalize zwr.toArray = Z at hzr hZ
  have hAs := wrA_size x hxs
  have hsz : (Try.prog.info? 71).map (·.size) = some x.cells.length := by rw [cells_len x hxs]; exact info86
  have hp0 : (i : Int) < (n : Int) := by omega
  go_enter Try.func15, Try.ntmps15
  go_wp2_with fail
  refine same_at (made_ok h) ?_
  go_wp2_with fail
  refine Calls.mono HC.out ?_
  rintro e w1 ⟨rfl, hb1⟩
  have h1 := h.later hb1
  have hc2 := h1.c2
  have hq1 := h1.que
  rw [← hn] at hq1
  have hr := range_at hq1 hn.symm h1.sects hx
  clear HC
  have hc2a : (w1.alloc (.cells Z 71)).cell? ⟨a, 2, none⟩ = some (.slice (some ⟨g, 0, none⟩) n cap) := (h1.later ((Below.refl _ _).alloc (Nat.le_refl _) _)).c2
  have hb6 : Below w1.heap.size w1 ((w1.alloc (.cells Z 71)).setRow w1.heap.size (wrA x)) := below_setRow ((Below.refl _ _).alloc (Nat.le_refl _) _) (Nat.le_refl _) _
  have hc2b : ((w1.alloc (.cells Z 71)).setRow w1.heap.size (wrA x)).cell? ⟨a, 2, none⟩ = some (.slice (some ⟨g, 0, none⟩) n cap) := (h1.later hb6).c2
  have hr6 : ((w1.alloc (.cells Z 71)).setRow w1.heap.size (wrA x)).heap[w1.heap.size]? = some (.cells (wrA x) 71 (0, 0)) := setRow_heap _ _ Z _ 71 _ (at_new rfl)
  have hs6 : ((w1.alloc (.cells Z 71)).setRow w1.heap.size (wrA x)).heap.size = w1.heap.size + 1 := by simp
  go_wp2_with (first
    | (refine wpList_load_mid rfl 71 _ rfl g (i * 130) rfl x.cells _ hr Try.underlying71 rfl hsz ?_)
    | (refine wpList_store_row rfl 71 _ _ rfl w1.heap.size (wrA x) rfl rfl 71 Z (at_new rfl) (by rw [hAs]; exact info86) (by rw [hZ, hAs]) (all_oneCell_toArray (wr_one' x)) ?_))
  generalize (w1.alloc (.cells Z 71)).setRow w1.heap.size (wrA x) = w6 at hb6 hc2b hr6 hs6 ⊢
  have h6 := h1.later hb6
  have hq6 := h6.que
  rw [← hn] at hq6
  clear hc2 hc2a hr hq1 hsz hAs hzr hZ
  subst hn
  refine (delete_ok hq6 rfl h6.sects i hil h64).mono ?_
  rintro e w7 ⟨rfl, hown7, hg7⟩
  have n3 := h6.apart.2.2.1
  simp only [Value.ownBlock, ne_eq, Option.some.injEq] at n3
  have ha6 := (Array.getElem?_eq_some_iff.1 h6.row).1
  have hrow7 : w7.heap[a]? = _ := (hg7.block a ha6 (by simp; omega)).trans h6.row
  have hc7 := cell_of_row w7 a 2 _ _ _ hrow7
  simp at hc7
  have hf7 := row_froz hrow7 2
  have h8 := h6.erase rfl rfl hown7 hil hg7
  have hgT : g ≠ w1.heap.size := by have := (h1.in g (.inr (.inr (.inr rfl)))).2; omega
  have haT : a ≠ w1.heap.size := by have := (Array.getElem?_eq_some_iff.1 h1.row).1; omega
  have hT8 : (w7.setCell ⟨a, 2, none⟩ (.slice (some ⟨g, 0, none⟩) (S.q.length - 1) cap)).heap[w1.heap.size]? = some (.cells (wrA x) 71 (0, 0)) := by
    rw [Below.heap_setCell w7 ⟨a, 2, none⟩ _ _ (by show w1.heap.size ≠ a; omega), hg7.block _ (by omega) (by simp; omega)]
    exact hr6
  have hf8 : Frame (foot a mb fb (.slice (some ⟨g, 0, none⟩) S.q.length cap)) w (w7.setCell ⟨a, 2, none⟩ (.slice (some ⟨g, 0, none⟩) (S.q.length - 1) cap)) :=
    (((frame_of_below hb1).trans (frame_of_below hb6)).trans (frame_of_grown hg7 (fun k hk => .inr (.inr (.inr hk))))).trans (Frame.setCell w7 _ (.inl rfl))
  clear hown7 hg7 hrow7 hr6 hc2b h6 hq6 hb6 ha6
  cases ok with
  | false =>
    go_wp2
    go_ret
    first | exact ⟨_, rfl, h8, hf8, rfl⟩ | exact ⟨rfl, _, h8, hf8, rfl⟩
  | true =>
    go_wp2_with fail
    generalize w7.setCell ⟨a, 2, none⟩ (.slice (some ⟨g, 0, none⟩) (S.q.length - 1) cap) = w8 at h8 hT8 hf8 ⊢
    have h8d : DI B w8.drew a mb fb (.slice (some ⟨g, 0, none⟩) (S.q.length - 1) cap) { S with q := S.q.eraseIdx i } := h8.kept (fun _ _ => rfl)
    obtain ⟨w9, hrun, hs9, hg9⟩ := h8d.secs.update h8d.N2 x.block hxb x.bytes hxs
    have hmu : (Instr.mapUpdate 63 (.map (some mb)) (.int .i64 (x.block : Int)) (.agg (List.map (Value.int .u8) x.bytes).toArray)).run Try.prog w8.drew = .ok () w9 := hrun
    have h9 := h8d.turnSec hs9 hg9
    have hf9 : Frame (foot a mb fb (.slice (some ⟨g, 0, none⟩) S.q.length cap)) w w9 := (frame_drew hf8).trans (frame_of_grown hg9 (fun k hk => .inr (.inl (by cases hk; rfl))))
    have hmT : mb ≠ w1.heap.size := by have := h1.secs.lt; omega
    obtain ⟨T, hT⟩ : ∃ T, w1.heap.size = T := ⟨_, rfl⟩
    rw [hT] at hT8 hmT ⊢
    have hT9 : w9.heap[T]? = some (.cells (wrA x) 71 (0, 0)) := (hg9.block T (Array.getElem?_eq_some_iff.1 hT8).1 (by simp; omega)).trans hT8
    have c1 := h8d.c1
    have c1' := h9.c1
    have k1 := wr_c1 (w := w8.drew) hT8
    have k1' := wr_c1 hT9
    have k2 := wr_c2 (w := w8.drew) hT8
    have k2' := wr_c2 hT9
    have hu79 := Try.underlying69
    have hi79 : (Try.prog.info? 69).map (·.size) = some (x.bytes.map (Value.int .u8)).length := by rw [List.length_map, hxs.1]; exact info79
    clear h8 h8d hT8 hT9 hs9 hg9 hrun h1 h hb1 hf7 hc7
    go_region_held3 (fun w' => w'.cell? ⟨a, 1, none⟩ = some (.map (some mb)) ∧ w'.cell? ⟨T, 1, none⟩ = some (.int .i64 (x.block : Int)) ∧ w'.rangeAt T 2 (x.bytes.map (Value.int .u8))) (refine ⟨?_, ?_, ?_⟩ <;> assumption) (fail)
    go_wp2
    go_ret
    first | exact ⟨_, rfl, h9, hf9, rfl⟩ | exact ⟨rfl, _, h9, hf9, rfl⟩
end
end Go.Proofs.Ytemhhgpgpjiijaa
