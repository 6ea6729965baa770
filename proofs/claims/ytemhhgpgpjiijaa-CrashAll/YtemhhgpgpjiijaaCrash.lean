/- Crash: some writes of the queue are done, the others are lost. -/
import Derived.Test.YtemhhgpgpjiijaaComplete
import Derived.Test.YtemhhgpgpjiijaaScript
namespace Go.Proofs.Ytemhhgpgpjiijaa
open Go.RowKit Go.Maps

theorem find_of_idx {t : Wr → Bool} : ∀ {q : List Wr} {i : Nat}, q.findIdx? t = some i → ∃ x, q[i]? = some x ∧ q.find? t = some x
  | [], i, h => by simp at h
  | y :: r, i, h => by
    rw [List.findIdx?_cons] at h
    by_cases hy : t y = true
    · rw [if_pos hy] at h
      cases h
      exact ⟨y, rfl, by simp [hy]⟩
    · rw [if_neg hy] at h
      obtain ⟨k, hk, rfl⟩ := Option.map_eq_some_iff.1 h
      obtain ⟨x, h1, h2⟩ := find_of_idx hk
      exact ⟨x, by simpa using h1, by simp [hy, h2]⟩

/-- One number of those that are done. -/
def crash1 (q : List Wr) (f : Nat → List Int) (id : Int) : Nat → List Int := match q.find? (fun y => y.id == id) with | some x => upd f x.block x.bytes | none => f

section
variable {B : Nat} {w : World} {a mb fb : Nat} {qv : Value} {S : St}

theorem wpList_clear_map {P : Program} {ops : Array Oper} {rest : List Oper} {o : Oper} {a : Act} {w : World} {Q : Exit → Act → World → Prop} (hgd : o.guard = none) (x : Operand) (t k e : TypeId) (hop : o.op = Op.call { callee := Callee.builtin Builtin.clear, args := #[x], argTypes := #[t] })
    (ht : P.underlying t = some (.map k e)) (r : Nat) (es : Array MapEntry) (clock : Nat) (hb : w.heap[r]? = some (.map es clock)) (hx : a.eval x = .map (some r))
    (hK : wpList P ops Q rest (a.put o.dst (.tuple #[])) (Go.ChangeMaps.setBlock w r (.map #[] clock))) : wpList P ops Q (o :: rest) a w := by
  refine wpList_plain hgd fun K hK' => ?_
  unfold Oper.wp
  simp [execOp, hop, resolve, invoke, builtin, hx, Builtin.clear_, run_underlying ht, MapKept.run_getObj_map hb, MapKept.run_setObj_map _ hb, Result.andThen]
  exact hK' _ _ hK

theorem DI.noQueue (h : DI B w a mb fb qv S) : DI B (w.setCell ⟨a, 2, none⟩ (.slice none 0 0)) a mb fb (.slice none 0 0) { S with q := [] } := by
  obtain ⟨n1, n2, n3, n4, n5⟩ := h.apart
  have ho : ∀ k, k ≠ a → (w.setCell ⟨a, 2, none⟩ (.slice none 0 0)).heap[k]? = w.heap[k]? := fun k hk => Below.heap_setCell w ⟨a, 2, none⟩ _ k hk
  exact { row := row_set2 h.row _, secs := h.secs.kept (ho mb n1.symm), que := World.ownsRow_nil _ _ _ _, fls := h.fls.kept (ho fb n2.symm), lo := h.lo, ne := h.ne, N1 := h.N1, N2 := h.N2, q64 := by simp, qok := by simp, lok := h.lok }

theorem DI.noFails (h : DI B w a mb fb qv S) : ∃ es clock, w.heap[fb]? = some (.map es clock) ∧ DI B (Go.ChangeMaps.setBlock w fb (.map #[] clock)) a mb fb qv { S with fl := fun _ => 0 } ∧ w.grownBy (Go.ChangeMaps.setBlock w fb (.map #[] clock)) (some fb) := by
  obtain ⟨n1, n2, n3, n4, n5⟩ := h.apart
  obtain ⟨D, ⟨es, clock, hb, _⟩, _⟩ := h.fls.ex
  have ho : ∀ k, k ≠ fb → (Go.ChangeMaps.setBlock w fb (.map #[] clock)).heap[k]? = w.heap[k]? := fun k hk => Go.ChangeMaps.heap_setBlock_other hb _ hk
  refine ⟨es, clock, hb, { row := (ho a n2).trans h.row, secs := h.secs.kept (ho mb h.ne), que := ownsRow_kept h.que (fun k hk => ho k (by rintro rfl; exact n5 hk)), fls := ?_, lo := h.lo, ne := h.ne, N1 := h.N1, N2 := h.N2, q64 := h.q64, qok := h.qok, lok := h.lok }, ⟨rfl, rfl, rfl, by simp [Go.ChangeMaps.setBlock], fun k _ hk => ho k (by simpa using hk)⟩⟩
  refine ⟨⟨.map [], ⟨#[], clock, Go.ChangeMaps.heap_setBlock_same hb _, ⟨by simp, Go.MapKept.stamped_empty clock, by simp⟩, Nat.zero_le _, rfl⟩, ?_, fun b _ => rfl⟩, fun _ => ⟨Int.le_refl _, by show (0 : Int) ≤ 1000; omega⟩⟩
  have := List.length_filter_le (fun b => !has (.map [] : DataW Unit) (key b)) (List.range S.N)
  rw [List.length_range] at this
  show 0 + miss (.map []) S.N ≤ S.N
  unfold miss
  omega

set_option maxRecDepth 10000 in
set_option maxHeartbeats 4000000 in
theorem crash_ok (h : DI B w a mb fb qv S) (p : Option Addr) (n c : Nat) (ids : List Int) (hI : II w p n ids) (hII : ∀ k, foot a mb fb qv k → ∀ b o, p = some ⟨b, o, none⟩ → 0 < n → b ≠ k) (hall : ∀ id ∈ ids, ∃ i, S.q.findIdx? (fun y => y.id == id) = some i) :
    Calls Try.prog 10 #[.pointer (some ⟨a, 0, none⟩), .slice p n c] w fun e w' => e = .returned (.int .i64 0) ∧ DI B w' a mb fb (.slice none 0 0) { S with q := [], f := ids.foldl (crash1 S.q) S.f, fl := fun _ => 0 } ∧ Frame (foot a mb fb qv) w w' := by
  have hbig := hI.big
  have hlen := hI.len
  go_enter Try.func10, Try.ntmps10
  go_wp2_with fail
  refine same_at (made_ok h) ?_
  go_wp2_with fail
  go_loopw [15] (fun i wr => ∃ j : Nat, j ≤ n ∧ i = .int .i64 (j : Int) ∧ Below w.heap.size w wr) (fun i _ => n - (intOf i).toNat)
  case atStart => exact ⟨0, by omega, rfl, Below.refl _ _⟩
  case round =>
    obtain ⟨j, hj, rfl, hb⟩ := hrel
    by_cases hlt : j < n
    · obtain ⟨bb, oo, rfl, hic⟩ := hI.cells (by omega)
      have hid := (hb.cell (p := ⟨bb, oo + j, none⟩) (lt_of_cell (hic j hlt))).trans (hic j hlt)
      obtain ⟨id, hide⟩ : ∃ id, ids.getD j 0 = id := ⟨_, rfl⟩
      rw [hide] at hid
      obtain ⟨i, hfi⟩ := hall id (by rw [← hide, List.getD_eq_getElem?_getD, List.getElem?_eq_getElem (by omega)]; exact List.getElem_mem _)
      clear hide
      go_wp2_with fail
      refine Calls.mono (place_ok (h.later hb) id) ?_
      rintro e w3 ⟨rfl, hb3⟩
      rw [idx_some hfi]
      have hi0 : (0 : Int) ≤ (i : Int) := by omega
      go_wp2
      go_roundw
      case rel => exact ⟨j + 1, by omega, by go_num, hb.trans (hb3.mono hb.size)⟩
      case measure => simp [intOf]; omega
    · obtain rfl : j = n := by omega
      go_wp2_with fail
      have h0 : DI B wr a mb fb qv { S with f := (ids.take 0).foldl (crash1 S.q) S.f } := h.later hb
      have hf0 : Frame (foot a mb fb qv) w wr := frame_of_below hb
      clear hb
      go_loopw [26] (fun i wr => ∃ k : Nat, k ≤ j ∧ i = .int .i64 (k : Int) ∧ DI B wr a mb fb qv { S with f := (ids.take k).foldl (crash1 S.q) S.f } ∧ Frame (foot a mb fb qv) w wr) (fun i _ => j - (intOf i).toNat)
      case atStart => exact ⟨0, by omega, rfl, h0, hf0⟩
      case round =>
        clear h0 hf0
        obtain ⟨k, hk, rfl, hd, hf⟩ := hrel
        by_cases hlt2 : k < j
        · obtain ⟨bb, oo, rfl, hic⟩ := hI.cells (by omega)
          have hid : wr.cell? ⟨bb, oo + k, none⟩ = _ := (World.cell?_of_block (w := w) (hf.block bb (lt_of_cell (hic k hlt2)) (fun hx => hII bb hx bb oo rfl (by omega) rfl))).trans (hic k hlt2)
          obtain ⟨id, hide⟩ : ∃ id, ids.getD k 0 = id := ⟨_, rfl⟩
          rw [hide] at hid
          have hidk : ids[k]? = some id := by rw [← hide, List.getD_eq_getElem?_getD, List.getElem?_eq_getElem (by omega)]; rfl
          obtain ⟨i, hfi⟩ := hall id (List.mem_of_getElem? hidk)
          obtain ⟨x, hx, hfx⟩ := find_of_idx hfi
          clear hide hic
          have hil := (List.getElem?_eq_some_iff.1 hx).1
          have hxm := List.mem_of_getElem? hx
          have hxs := h.sects x hxm
          have hxb := (h.qok x hxm).1
          obtain ⟨g, cap, hqv⟩ : ∃ g cap, qv = .slice (some ⟨g, 0, none⟩) S.q.length cap := by
            rcases h.qcase with ⟨_, e⟩ | e
            · rw [e] at hil; simp at hil
            · exact e
          subst hqv
          have hzr : ∀ w, (zeroValue 71).run Try.prog w = .ok (.agg zwr.toArray) w := zero_wr
          have hZ : zwr.toArray.size = 130 := by simp [zwr_len]
          generalize zwr.toArray = Z at hzr hZ
          have hAs := wrA_size x hxs
          have hsz : (Try.prog.info? 71).map (·.size) = some x.cells.length := by rw [cells_len x hxs]; exact info86
          have hnx : (ids.take (k + 1)).foldl (crash1 S.q) S.f = upd ((ids.take k).foldl (crash1 S.q) S.f) x.block x.bytes := by
            rw [List.take_add_one, hidk]
            simp [List.foldl_append, crash1, hfx]
          generalize hF : (ids.take k).foldl (crash1 S.q) S.f = F at hd hnx
          have hdd : DI B wr.drew a mb fb (.slice (some ⟨g, 0, none⟩) S.q.length cap) { S with f := F } := hd.kept (fun _ _ => rfl)
          have hc2 := hdd.c2
          have hr := range_at hdd.que rfl hdd.sects hx
          have hgl : g < wr.drew.heap.size := (hdd.in g (.inr (.inr (.inr rfl)))).2
          have hp0 : (i : Int) < (S.q.length : Int) := by omega
          go_wp2_with fail
          refine wp_region_noPanic ?_
          refine wp_region_held_drew (S := fun w' => w'.cell? ⟨a, 2, none⟩ = some (.slice (some ⟨g, 0, none⟩) S.q.length cap) ∧ w'.rangeAt g (i * 130) x.cells) (by kernel_rfl) ⟨hc2, hr⟩ (fun hHeld => ?_)
          refine wpAnyH_take (i := 0) (oi := { dst := some 30, op := Op.move (Operand.tmp 0), type := 25, pos := "queue.go:69", after := #[], guard := none }) (v := ?_) rfl (by kernel_rfl) (by kernel_rfl) (by kernel_rfl) (fun _ _ _ h => h) (Or.inl ⟨by rfl, ?_⟩) (by assumption) ?_
          rotate_left
          · (intro w hSw; (try dsimp only at hSw); go_simp; try (with_reducible rfl))
          simp only [Act.put, List.setIfInBounds_toArray, List.set_cons_zero, List.set_cons_succ]
          refine wpAnyH_take (i := 1) (oi := { dst := some 31, op := Op.nilCheck (Operand.tmp 30), type := 0, pos := "queue.go:69", after := #[{ on := 0, ground := Ground.data }], guard := none }) (v := ?_) rfl (by kernel_rfl) (by kernel_rfl) (by kernel_rfl) (fun _ _ _ h => h) (Or.inl ⟨by rfl, ?_⟩) (by assumption) ?_
          rotate_left
          · (intro w hSw; (try dsimp only at hSw); go_simp; try (with_reducible rfl))
          simp only [Act.put, List.setIfInBounds_toArray, List.set_cons_zero, List.set_cons_succ]
          refine wpAnyH_take (i := 2) (oi := { dst := some 32, op := Op.fieldAddr 67 (Operand.tmp 31) 2, type := 0, pos := "queue.go:69", after := #[{ on := 1, ground := Ground.data }], guard := none }) (v := ?_) rfl (by kernel_rfl) (by kernel_rfl) (by kernel_rfl) (fun _ _ _ h => h) (Or.inl ⟨by rfl, ?_⟩) (by assumption) ?_
          rotate_left
          · (intro w hSw; (try dsimp only at hSw); go_simp; try (with_reducible rfl))
          simp only [Act.put, List.setIfInBounds_toArray, List.set_cons_zero, List.set_cons_succ]
          refine wpAnyH_take (i := 3) (oi := { dst := some 33, op := Op.load 64 (Operand.tmp 32), type := 64, pos := "queue.go:69", after := #[{ on := 2, ground := Ground.data }], guard := none }) (v := ?_) rfl (by kernel_rfl) (by kernel_rfl) (by kernel_rfl) (fun _ _ _ h => h) (Or.inl ⟨by rfl, ?_⟩) (by assumption) ?_
          rotate_left
          · (intro w hSw; (try dsimp only at hSw); go_simp; try (with_reducible rfl))
          simp only [Act.put, List.setIfInBounds_toArray, List.set_cons_zero, List.set_cons_succ]
          refine wpAnyH_take (i := 4) (oi := { dst := some 34, op := Op.move (Operand.tmp 0), type := 25, pos := "queue.go:69", after := #[], guard := none }) (v := ?_) rfl (by kernel_rfl) (by kernel_rfl) (by kernel_rfl) (fun _ _ _ h => h) (Or.inl ⟨by rfl, ?_⟩) (by assumption) ?_
          rotate_left
          · (intro w hSw; (try dsimp only at hSw); go_simp; try (with_reducible rfl))
          simp only [Act.put, List.setIfInBounds_toArray, List.set_cons_zero, List.set_cons_succ]
          refine wpAnyH_take (i := 5) (oi := { dst := some 35, op := Op.move (Operand.tmp 8), type := 3, pos := "queue.go:69", after := #[], guard := none }) (v := ?_) rfl (by kernel_rfl) (by kernel_rfl) (by kernel_rfl) (fun _ _ _ h => h) (Or.inl ⟨by rfl, ?_⟩) (by assumption) ?_
          rotate_left
          · (intro w hSw; (try dsimp only at hSw); go_simp; try (with_reducible rfl))
          simp only [Act.put, List.setIfInBounds_toArray, List.set_cons_zero, List.set_cons_succ]
          refine wpAnyH_ready (rs := [6, 9]) (by kernel_rfl) (by simp) ?_
          refine AllReadyH.cons (o := { dst := some 36, op := Op.call { callee := Callee.value (Operand.func 33), args := #[Operand.tmp 34, Operand.tmp 35], argTypes := #[25, 3] }, type := 3, pos := "queue.go:69", after := #[{ on := 4, ground := Ground.data }, { on := 5, ground := Ground.data }], guard := none }) rfl (fun K hK => ?_) (AllReadyH.cons (o := { dst := some 9, op := Op.alloc 71, type := 0, pos := "queue.go:69", after := #[], guard := none }) rfl (fun K hK => ?_) AllReadyH.nil)
          · rw [if_pos (by rfl)]
            go_simp
            refine Calls.mono (place_ok hdd id) ?_
            rintro e w4 ⟨rfl, hb4⟩
            rw [idx_some hfi]
            dsimp only
            have hd4 := hdd.later hb4
            have c4 := hd4.c2
            have r4 := range_later hb4 hgl hr
            refine hK.out _ _ ⟨c4, r4⟩ (fun hHeld => ?_)
            clear hK K
            try simp only [Act.put, List.setIfInBounds_toArray, List.set_cons_zero, List.set_cons_succ]
            refine wpAnyH_take (i := 7) (oi := { dst := some 37, op := Op.indexAddr 64 (Operand.tmp 33) (Operand.tmp 36), type := 0, pos := "queue.go:69", after := #[{ on := 3, ground := Ground.data }, { on := 6, ground := Ground.data }], guard := none }) (v := .pointer (some ⟨g, i * 130, none⟩)) rfl (by kernel_rfl) (by kernel_rfl) (by kernel_rfl) (fun _ _ _ h => h) (Or.inl ⟨by rfl, ?_⟩) (by assumption) ?_
            · (intro w hSw; (try dsimp only at hSw); go_simp)
            simp only [Act.put, List.setIfInBounds_toArray, List.set_cons_zero, List.set_cons_succ]
            refine wpAnyH_take (i := 8) (oi := { dst := some 38, op := Op.load 71 (Operand.tmp 37), type := 71, pos := "queue.go:69", after := #[{ on := 7, ground := Ground.data }], guard := none }) (v := .agg x.cells.toArray) rfl (by kernel_rfl) (by kernel_rfl) (by kernel_rfl) (fun _ _ _ h => h) (yieldsIf_load_mid (by rfl) _ _ rfl g (i * 130) rfl x.cells _ (fun w hw => hw.2) Try.underlying71 rfl hsz) (by assumption) ?_
            simp only [Act.put, List.setIfInBounds_toArray, List.set_cons_zero, List.set_cons_succ]
            refine wpAnyH_ready (rs := [9]) (by kernel_rfl) (by simp) ?_
            refine AllReadyH.cons (o := { dst := some 9, op := Op.alloc 71, type := 0, pos := "queue.go:69", after := #[], guard := none }) rfl (fun K hK => ?_) AllReadyH.nil
            rw [if_pos (by rfl)]
            go_simp
            refine hK.out _ _ ⟨(hd4.later ((Below.refl _ _).alloc (Nat.le_refl _) _)).c2, range_later ((Below.refl _ _).alloc (Nat.le_refl _) _) (Nat.lt_of_lt_of_le hgl hb4.size) r4⟩ (fun hHeld => ?_)
            clear hK K
            try simp only [Act.put, List.setIfInBounds_toArray, List.set_cons_zero, List.set_cons_succ]
            refine wpAnyH_ready (rs := [10]) (by kernel_rfl) (by simp) ?_
            refine AllReadyH.cons (o := { dst := none, op := Op.store 71 (Operand.tmp 9) (Operand.tmp 38), type := 0, pos := "queue.go:69", after := #[{ on := 9, ground := Ground.data }, { on := 8, ground := Ground.data }, { on := 6, ground := Ground.chain }, { on := 0, ground := Ground.phase }, { on := 1, ground := Ground.phase }, { on := 2, ground := Ground.phase }, { on := 3, ground := Ground.phase }, { on := 4, ground := Ground.phase }, { on := 5, ground := Ground.phase }, { on := 6, ground := Ground.phase }, { on := 7, ground := Ground.phase }, { on := 8, ground := Ground.phase }, { on := 9, ground := Ground.phase }], guard := none }) rfl (fun K hK => ?_) AllReadyH.nil
            rw [if_pos (by rfl)]
            refine wp_store_row 71 (.tmp 9) (.tmp 38) rfl w4.heap.size (wrA x) rfl rfl 71 Z (at_new rfl) (by rw [hAs]; exact info86) (by rw [hZ, hAs]) (all_oneCell_toArray (wr_one' x)) ?_
            have hb5' : Below w4.heap.size w4 ((w4.alloc (.cells Z 71)).setRow w4.heap.size (wrA x)) := below_setRow ((Below.refl _ _).alloc (Nat.le_refl _) _) (Nat.le_refl _) _
            have hT5 : ((w4.alloc (.cells Z 71)).setRow w4.heap.size (wrA x)).heap[w4.heap.size]? = some (.cells (wrA x) 71 (0, 0)) := setRow_heap _ _ Z _ 71 _ (at_new rfl)
            have hb5 : Below wr.heap.size wr ((w4.alloc (.cells Z 71)).setRow w4.heap.size (wrA x)) := ((Below.refl wr.heap.size wr).drew.trans hb4).trans (hb5'.mono hb4.size)
            refine hK.out _ _ ⟨(hd4.later hb5').c2, range_later hb5' (Nat.lt_of_lt_of_le hgl hb4.size) r4⟩ (fun hHeld => ?_)
            clear hK K
            refine wpAnyH_done (by kernel_rfl) ?_ _
            refine NoPanic.normal ?_
            generalize hW5 : (w4.alloc (.cells Z 71)).setRow w4.heap.size (wrA x) = w5 at hT5 hb5
            obtain ⟨T, hT⟩ : ∃ T, w4.heap.size = T := ⟨_, rfl⟩
            rw [hT] at hT5 ⊢
            have hTl : wr.heap.size ≤ T := by rw [← hT]; exact hb4.size
            clear hHeld
            have hd5 := hd.later hb5
            go_wp2_with fail
            have h8d : DI B w5.drew a mb fb (.slice (some ⟨g, 0, none⟩) S.q.length cap) { S with f := F } := hd5.kept (fun _ _ => rfl)
            obtain ⟨w9, hrun, hs9, hg9⟩ := h8d.secs.update h8d.N2 x.block hxb x.bytes hxs
            have hmu : (Instr.mapUpdate 63 (.map (some mb)) (.int .i64 (x.block : Int)) (.agg (List.map (Value.int .u8) x.bytes).toArray)).run Try.prog w5.drew = .ok () w9 := hrun
            have h9 := h8d.turnSec hs9 hg9
            have hf9 : Frame (foot a mb fb (.slice (some ⟨g, 0, none⟩) S.q.length cap)) w w9 := (frame_drew (hf.trans (frame_of_below hb5))).trans (frame_of_grown hg9 (fun k hk => .inr (.inl (by cases hk; rfl))))
            have hmT : mb ≠ T := by have := hd.secs.lt; omega
            have hT9 : w9.heap[T]? = some (.cells (wrA x) 71 (0, 0)) := (hg9.block T (Array.getElem?_eq_some_iff.1 hT5).1 (by simp; omega)).trans hT5
            have c1 := h8d.c1
            have c1' := h9.c1
            have k1 := wr_c1 (w := w5.drew) hT5
            have k1' := wr_c1 hT9
            have k2 := wr_c2 (w := w5.drew) hT5
            have k2' := wr_c2 hT9
            have hu79 := Try.underlying69
            have hi79 : (Try.prog.info? 69).map (·.size) = some (x.bytes.map (Value.int .u8)).length := by rw [List.length_map, hxs.1]; exact info79
            have hrel : DI B w9 a mb fb (.slice (some ⟨g, 0, none⟩) S.q.length cap) { S with f := (ids.take (k + 1)).foldl (crash1 S.q) S.f } := by rw [hnx]; exact h9
            have HR := (show Hid _ from hrel)
            clear hrel hnx hd5 h8d hT5 hT9 hs9 hg9 hrun hdd hd hc2 hr hsz hAs hzr hZ hW5 hb5 hall hfi hfx hx
            go_region_held3 (fun w' => w'.cell? ⟨a, 1, none⟩ = some (.map (some mb)) ∧ w'.cell? ⟨T, 1, none⟩ = some (.int .i64 (x.block : Int)) ∧ w'.rangeAt T 2 (x.bytes.map (Value.int .u8))) (refine ⟨?_, ?_, ?_⟩ <;> assumption) (fail)
            go_wp2
            go_roundw
            case rel => exact ⟨k + 1, by omega, by go_num, HR.out, hf9⟩
            case measure => simp [intOf]; omega
          · rw [if_pos (by rfl)]
            go_simp
            have hba := (Below.refl wr.drew.heap.size wr.drew).alloc (Nat.le_refl _) (.cells Z 71)
            have hda := hdd.later hba
            have ra := range_later hba hgl hr
            refine hK.out _ _ ⟨hda.c2, ra⟩ (fun hHeld => ?_)
            clear hK K
            try simp only [Act.put, List.setIfInBounds_toArray, List.set_cons_zero, List.set_cons_succ]
            refine wpAnyH_ready (rs := [6]) (by kernel_rfl) (by simp) ?_
            refine AllReadyH.cons (o := { dst := some 36, op := Op.call { callee := Callee.value (Operand.func 33), args := #[Operand.tmp 34, Operand.tmp 35], argTypes := #[25, 3] }, type := 3, pos := "queue.go:69", after := #[{ on := 4, ground := Ground.data }, { on := 5, ground := Ground.data }], guard := none }) rfl (fun K hK => ?_) AllReadyH.nil
            rw [if_pos (by rfl)]
            go_simp
            refine Calls.mono (place_ok hda id) ?_
            rintro e w4 ⟨rfl, hb4⟩
            rw [idx_some hfi]
            dsimp only
            have hd4 := hda.later hb4
            have c4 := hd4.c2
            have hgl' : g < (wr.drew.alloc (.cells Z 71)).heap.size := by simp only [World.size_alloc]; omega
            have r4 := range_later hb4 hgl' ra
            refine hK.out _ _ ⟨c4, r4⟩ (fun hHeld => ?_)
            clear hK K
            try simp only [Act.put, List.setIfInBounds_toArray, List.set_cons_zero, List.set_cons_succ]
            refine wpAnyH_take (i := 7) (oi := { dst := some 37, op := Op.indexAddr 64 (Operand.tmp 33) (Operand.tmp 36), type := 0, pos := "queue.go:69", after := #[{ on := 3, ground := Ground.data }, { on := 6, ground := Ground.data }], guard := none }) (v := .pointer (some ⟨g, i * 130, none⟩)) rfl (by kernel_rfl) (by kernel_rfl) (by kernel_rfl) (fun _ _ _ h => h) (Or.inl ⟨by rfl, ?_⟩) (by assumption) ?_
            · (intro w hSw; (try dsimp only at hSw); go_simp)
            simp only [Act.put, List.setIfInBounds_toArray, List.set_cons_zero, List.set_cons_succ]
            refine wpAnyH_take (i := 8) (oi := { dst := some 38, op := Op.load 71 (Operand.tmp 37), type := 71, pos := "queue.go:69", after := #[{ on := 7, ground := Ground.data }], guard := none }) (v := .agg x.cells.toArray) rfl (by kernel_rfl) (by kernel_rfl) (by kernel_rfl) (fun _ _ _ h => h) (yieldsIf_load_mid (by rfl) _ _ rfl g (i * 130) rfl x.cells _ (fun w hw => hw.2) Try.underlying71 rfl hsz) (by assumption) ?_
            simp only [Act.put, List.setIfInBounds_toArray, List.set_cons_zero, List.set_cons_succ]
            have hT4 : w4.heap[wr.heap.size]? = some (.cells Z 71 (0, 0)) := (hb4.block wr.heap.size (by simp only [World.size_alloc]; exact Nat.lt_succ_self _)).trans (at_new rfl)
            refine wpAnyH_ready (rs := [10]) (by kernel_rfl) (by simp) ?_
            refine AllReadyH.cons (o := { dst := none, op := Op.store 71 (Operand.tmp 9) (Operand.tmp 38), type := 0, pos := "queue.go:69", after := #[{ on := 9, ground := Ground.data }, { on := 8, ground := Ground.data }, { on := 6, ground := Ground.chain }, { on := 0, ground := Ground.phase }, { on := 1, ground := Ground.phase }, { on := 2, ground := Ground.phase }, { on := 3, ground := Ground.phase }, { on := 4, ground := Ground.phase }, { on := 5, ground := Ground.phase }, { on := 6, ground := Ground.phase }, { on := 7, ground := Ground.phase }, { on := 8, ground := Ground.phase }, { on := 9, ground := Ground.phase }], guard := none }) rfl (fun K hK => ?_) AllReadyH.nil
            rw [if_pos (by rfl)]
            refine wp_store_row 71 (.tmp 9) (.tmp 38) rfl wr.heap.size (wrA x) rfl rfl 71 Z hT4 (by rw [hAs]; exact info86) (by rw [hZ, hAs]) (all_oneCell_toArray (wr_one' x)) ?_
            have hT5 : (w4.setRow wr.heap.size (wrA x)).heap[wr.heap.size]? = some (.cells (wrA x) 71 (0, 0)) := setRow_heap _ _ Z _ 71 _ hT4
            have hb5d : Below wr.drew.heap.size wr.drew (w4.setRow wr.heap.size (wrA x)) := below_setRow (hba.trans (hb4.mono (by simp only [World.size_alloc]; omega))) (Nat.le_refl _) _
            have hb5 : Below wr.heap.size wr (w4.setRow wr.heap.size (wrA x)) := (Below.refl wr.heap.size wr).drew.trans hb5d
            refine hK.out _ _ ⟨(hdd.later hb5d).c2, range_later hb5d hgl hr⟩ (fun hHeld => ?_)
            clear hK K hda hd4 c4 r4 ra hba hb4 hb5d hT4
            refine wpAnyH_done (by kernel_rfl) ?_ _
            refine NoPanic.normal ?_
            generalize hW5 : w4.setRow wr.heap.size (wrA x) = w5 at hT5 hb5
            obtain ⟨T, hT⟩ : ∃ T, wr.heap.size = T := ⟨_, rfl⟩
            rw [hT] at hT5 ⊢
            have hTl : wr.heap.size ≤ T := by rw [← hT]; exact Nat.le_refl _
            clear hHeld
            have hd5 := hd.later hb5
            go_wp2_with fail
            have h8d : DI B w5.drew a mb fb (.slice (some ⟨g, 0, none⟩) S.q.length cap) { S with f := F } := hd5.kept (fun _ _ => rfl)
            obtain ⟨w9, hrun, hs9, hg9⟩ := h8d.secs.update h8d.N2 x.block hxb x.bytes hxs
            have hmu : (Instr.mapUpdate 63 (.map (some mb)) (.int .i64 (x.block : Int)) (.agg (List.map (Value.int .u8) x.bytes).toArray)).run Try.prog w5.drew = .ok () w9 := hrun
            have h9 := h8d.turnSec hs9 hg9
            have hf9 : Frame (foot a mb fb (.slice (some ⟨g, 0, none⟩) S.q.length cap)) w w9 := (frame_drew (hf.trans (frame_of_below hb5))).trans (frame_of_grown hg9 (fun k hk => .inr (.inl (by cases hk; rfl))))
            have hmT : mb ≠ T := by have := hd.secs.lt; omega
            have hT9 : w9.heap[T]? = some (.cells (wrA x) 71 (0, 0)) := (hg9.block T (Array.getElem?_eq_some_iff.1 hT5).1 (by simp; omega)).trans hT5
            have c1 := h8d.c1
            have c1' := h9.c1
            have k1 := wr_c1 (w := w5.drew) hT5
            have k1' := wr_c1 hT9
            have k2 := wr_c2 (w := w5.drew) hT5
            have k2' := wr_c2 hT9
            have hu79 := Try.underlying69
            have hi79 : (Try.prog.info? 69).map (·.size) = some (x.bytes.map (Value.int .u8)).length := by rw [List.length_map, hxs.1]; exact info79
            have hrel : DI B w9 a mb fb (.slice (some ⟨g, 0, none⟩) S.q.length cap) { S with f := (ids.take (k + 1)).foldl (crash1 S.q) S.f } := by rw [hnx]; exact h9
            have HR := (show Hid _ from hrel)
            clear hrel hnx hd5 h8d hT5 hT9 hs9 hg9 hrun hdd hd hc2 hr hsz hAs hzr hZ hW5 hb5 hall hfi hfx hx
            go_region_held3 (fun w' => w'.cell? ⟨a, 1, none⟩ = some (.map (some mb)) ∧ w'.cell? ⟨T, 1, none⟩ = some (.int .i64 (x.block : Int)) ∧ w'.rangeAt T 2 (x.bytes.map (Value.int .u8))) (refine ⟨?_, ?_, ?_⟩ <;> assumption) (fail)
            go_wp2
            go_roundw
            case rel => exact ⟨k + 1, by omega, by go_num, HR.out, hf9⟩
            case measure => simp [intOf]; omega
        · obtain rfl : k = j := by omega
          rw [List.take_of_length_le (by omega)] at hd
          have hc2 := hd.c2
          have hfz := hd.froz 2
          have hd2 := hd.noQueue
          have hc4 := hd2.c4
          obtain ⟨es, clock, hfb, hd3, hg3⟩ := hd2.noFails
          have hf3 : Frame (foot a mb fb qv) w (Go.ChangeMaps.setBlock (wr.setCell ⟨a, 2, none⟩ (.slice none 0 0)) fb (.map #[] clock)) := (hf.trans (Frame.setCell wr _ (.inl rfl))).trans (frame_of_grown hg3 (fun k hk => .inr (.inr (.inl (by cases hk; rfl)))))
          go_wp2_with (refine wpList_clear_map rfl _ 65 3 3 rfl Try.underlying65 fb es clock hfb rfl ?_)
          go_ret
          exact ⟨rfl, hd3, hf3⟩
end
end Go.Proofs.Ytemhhgpgpjiijaa
