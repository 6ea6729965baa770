/- Write. -/
import Derived.Test.YtemhhgpgpjiijaaBuild
import Derived.Deep.RegionHeld3
import Derived.Deep.RegionLaw
import Derived.Deep.AppendLies
namespace Go.Proofs.Ytemhhgpgpjiijaa
open Go.RowKit Go.Maps

def St.put (S : St) (b : Nat) (xs : List Int) : St := { S with q := S.q ++ [⟨S.last + 1, b, xs⟩], last := S.last + 1 }

section
variable {B : Nat} {w : World} {a mb fb : Nat} {qv : Value} {S : St}

theorem has_true (h : DI B w a mb fb qv S) (b : Nat) (hb : b < S.N) : Calls Try.prog 44 #[.pointer (some ⟨a, 0, none⟩), .int .i64 (b : Int)] w fun e w' => e = .returned (.bool true) ∧ w' = w := by
  have := has_ok h (b : Int)
  rwa [show (decide (0 ≤ (b : Int)) && decide ((b : Int) < S.N)) = true by simp; omega] at this
theorem has_false (h : DI B w a mb fb qv S) (b : Int) (hb : ¬ (0 ≤ b ∧ b < S.N)) : Calls Try.prog 44 #[.pointer (some ⟨a, 0, none⟩), .int .i64 b] w fun e w' => e = .returned (.bool false) ∧ w' = w := by
  have := has_ok h b
  rwa [show (decide (0 ≤ b) && decide (b < S.N)) = false by simp; omega] at this

set_option maxHeartbeats 400000 in
theorem write_arg (h : DI B w a mb fb qv S) (b : Int) (p : Option Addr) (n c : Nat) (hb : ¬ (0 ≤ b ∧ b < S.N) ∨ n ≠ 128) : Calls Try.prog 22 #[.pointer (some ⟨a, 0, none⟩), .int .i64 b, .slice p n c] w fun e w' => e = .returned (.tuple #[.int .i64 0, .int .i64 1]) ∧ w' = w := by
  go_enter Try.func22, Try.ntmps22
  go_wp2_with fail
  refine same_at (made_ok h) ?_
  go_wp2_with fail
  by_cases hh : 0 ≤ b ∧ b < S.N
  · obtain ⟨k, rfl⟩ : ∃ k : Nat, b = k := ⟨b.toNat, by omega⟩
    have hn : n ≠ 128 := by rcases hb with h | h; exact absurd hh h; exact h
    refine same_at (has_true h k (by omega)) ?_
    go_wp2
    go_ret2
    exact ⟨rfl, rfl⟩
  · refine same_at (has_false h b hh) ?_
    go_wp2
    go_ret2
    exact ⟨rfl, rfl⟩

set_option maxRecDepth 10000 in
set_option maxHeartbeats 400000 in
theorem write_busy (h : DI B w a mb fb qv S) (b : Nat) (p : Option Addr) (c : Nat) (hb : b < S.N) (hq : (S.q.any fun x => (x.block : Int) == (b : Int)) = true) : Calls Try.prog 22 #[.pointer (some ⟨a, 0, none⟩), .int .i64 (b : Int), .slice p 128 c] w fun e w' => e = .returned (.tuple #[.int .i64 0, .int .i64 21]) ∧ Below w.heap.size w w' := by
  have cb := busy_ok h b
  rw [hq] at cb
  have HB := (show Hid _ from cb)
  clear cb
  go_enter Try.func22, Try.ntmps22
  go_wp2_with fail
  refine same_at (made_ok h) ?_
  go_wp2_with fail
  refine same_at (has_true h b hb) ?_
  go_wp2_with fail
  refine Calls.mono HB.out ?_
  rintro e w1 ⟨rfl, hb1⟩
  go_wp2
  go_ret2
  exact ⟨rfl, hb1⟩

set_option maxRecDepth 10000 in
set_option maxHeartbeats 400000 in
theorem write_full (h : DI B w a mb fb qv S) (b : Nat) (p : Option Addr) (c : Nat) (hb : b < S.N) (hq : (S.q.any fun x => (x.block : Int) == (b : Int)) = false) (hf : 64 ≤ S.q.length) : Calls Try.prog 22 #[.pointer (some ⟨a, 0, none⟩), .int .i64 (b : Int), .slice p 128 c] w fun e w' => e = .returned (.tuple #[.int .i64 0, .int .i64 3]) ∧ Below w.heap.size w w' := by
  have cb := busy_ok h b
  rw [hq] at cb
  have HB := (show Hid _ from cb)
  clear cb
  obtain ⟨g, cap, rfl⟩ : ∃ g cap, qv = .slice (some ⟨g, 0, none⟩) S.q.length cap := by
    rcases h.qcase with ⟨_, e⟩ | e
    · rw [e] at hf; simp at hf
    · exact e
  go_enter Try.func22, Try.ntmps22
  go_wp2_with fail
  refine same_at (made_ok h) ?_
  go_wp2_with fail
  refine same_at (has_true h b hb) ?_
  go_wp2_with fail
  refine Calls.mono HB.out ?_
  rintro e w1 ⟨rfl, hb1⟩
  have hc2 := (h.later hb1).c2
  clear h HB
  go_wp2
  go_ret2
  exact ⟨rfl, hb1⟩

theorem row_set2 {x0 x1 x2 x3 x4 : Value} (h : w.heap[a]? = some (.cells #[x0, x1, x2, x3, x4] 67 (0, 0))) (v : Value) : (w.setCell ⟨a, 2, none⟩ v).heap[a]? = some (.cells #[x0, x1, v, x3, x4] 67 (0, 0)) :=
  heap_setCell_same w a 2 _ 67 v h
theorem row_set3 {x0 x1 x2 x3 x4 : Value} (h : w.heap[a]? = some (.cells #[x0, x1, x2, x3, x4] 67 (0, 0))) (v : Value) : (w.setCell ⟨a, 3, none⟩ v).heap[a]? = some (.cells #[x0, x1, x2, v, x4] 67 (0, 0)) :=
  heap_setCell_same w a 3 _ 67 v h

/-- The disk's own blocks are four. -/
theorem DI.apart (h : DI B w a mb fb qv S) : a ≠ mb ∧ a ≠ fb ∧ qv.ownBlock ≠ some a ∧ qv.ownBlock ≠ some mb ∧ qv.ownBlock ≠ some fb := by
  have hr := h.row
  obtain ⟨D, ⟨es, ck, hm, _⟩, _⟩ := h.secs.ex
  obtain ⟨D', ⟨es', ck', hf, _⟩, _⟩ := h.fls.ex
  refine ⟨?_, ?_, ?_⟩
  · rintro rfl; rw [hr] at hm; cases hm
  · rintro rfl; rw [hr] at hf; cases hf
  rcases h.que.2 with ⟨rfl, _⟩ | ⟨g, cap, cur, rfl, _, hg, _⟩
  · simp [Value.ownBlock]
  · simp only [Value.ownBlock, ne_eq, Option.some.injEq]
    refine ⟨?_, ?_, ?_⟩
    · rintro rfl; rw [hr] at hg; simp at hg
    · rintro rfl; rw [hm] at hg; cases hg
    · rintro rfl; rw [hf] at hg; cases hg

theorem DI.froz (h : DI B w a mb fb qv S) (j : Nat) : w.frozen? ⟨a, j, none⟩ = false := by
  simp [World.frozen?, h.row]

/-- Bytes lie in no disk's head. -/
theorem DI.bytes_ne (h : DI B w a mb fb qv S) {b o : Nat} {x : Int} (hc : w.cell? ⟨b, o, none⟩ = some (.int .u8 x)) : b ≠ a := by
  rintro rfl
  rw [cell_of_row w b o _ _ _ h.row] at hc
  rcases h.qcase with ⟨rfl, _⟩ | ⟨g, cap, rfl⟩ <;>
  rcases o with _ | _ | _ | _ | _ | o <;> simp at hc

theorem BI.setOther {p : Option Addr} {n : Nat} {xs : List Int} (h : BI w p n xs) {k j : Nat} (hne : ∀ b o, p = some ⟨b, o, none⟩ → 0 < n → b ≠ k) (u : Value) : BI (w.setCell ⟨k, j, none⟩ u) p n xs := by
  refine ⟨h.len, h.big, h.byt, fun hn => ?_⟩
  obtain ⟨b, o, rfl, hc⟩ := h.cells hn
  refine ⟨b, o, rfl, fun i hi => ?_⟩
  rw [World.cell?_of_block (w := w) (Below.heap_setCell w ⟨k, j, none⟩ u b (hne b o rfl hn))]
  exact hc i hi

theorem zero86' : (Try.prog.info? 71).map (fun i => (i.zero, i.size, i.bytes)) = some (some (.agg zwr.toArray), 130, 144) := by kernel_rfl

theorem wr_one (x : Wr) : ∀ u ∈ x.cells, u.oneCell' = true := by
  intro u hu
  simp only [Wr.cells, List.mem_cons, List.mem_map] at hu
  rcases hu with rfl | rfl | ⟨y, _, rfl⟩ <;> rfl

theorem zero_wr (w : World) : (zeroValue 71).run Try.prog w = .ok (.agg zwr.toArray) w := by
  obtain ⟨it, hit, hz⟩ := Option.bind_eq_some_iff.1 zero86
  simp [zeroValue, typeInfo, hit, hz]

theorem fold_wr (id : Int) (b : Nat) (xs : List Int) (h : Sect xs) : Array.foldl (fun (cs : Array Value) (x : Value × Nat) => cs.setIfInBounds (2 + x.snd) x.fst) ((zwr.toArray.setIfInBounds 0 (.int .i64 id)).setIfInBounds 1 (.int .i64 (b : Int))) (secA xs).zipIdx 0 128 = wrA ⟨id, b, xs⟩ := by
  have e0 : (zwr.toArray.setIfInBounds 0 (.int .i64 id)).setIfInBounds 1 (.int .i64 (b : Int)) = (Value.int .i64 id :: .int .i64 (b : Int) :: zer.map (Value.int .u8)).toArray := by simp [zwr]
  have e1 := put_arr (xs.map (Value.int .u8)) (Value.int .i64 id :: .int .i64 (b : Int) :: zer.map (Value.int .u8)) 2 (by simp [h.1, zer])
  have e3 : splice (Value.int .i64 id :: .int .i64 (b : Int) :: zer.map (Value.int .u8)) 2 (xs.map (Value.int .u8)) = Wr.cells ⟨id, b, xs⟩ := by
    simp [splice, Wr.cells, h.1, zer]
  rw [e3] at e1
  rw [e0]
  have e4 : (xs.map (Value.int .u8)).toArray.zipIdx.size = 128 := by simp [h.1]
  rw [e4] at e1
  exact e1

theorem fold_all (A C : Array Value) (h : A.size = 130) (hc : C.size = 130) : Array.foldl (fun (cs : Array Value) (x : Value × Nat) => cs.setIfInBounds x.snd x.fst) C A.zipIdx 0 130 = A := by
  have e1 := put_arr A.toList C.toList 0 (by simp [h, hc])
  rw [splice_whole _ _ (by simp [h, hc])] at e1
  have e4 : A.toList.toArray.zipIdx.size = 130 := by simp [h]
  rw [e4] at e1
  simpa using e1

theorem flat_snoc (q : List Wr) (x : Wr) : flat (q ++ [x]) = flat q ++ x.cells := by simp [flat]

theorem DI.bump (h : DI B w a mb fb qv S) (hl : S.last < 9223372036854775807) : DI B (w.setCell ⟨a, 3, none⟩ (.int .i64 (S.last + 1))) a mb fb qv { S with last := S.last + 1 } := by
  obtain ⟨n1, n2, n3, n4, n5⟩ := h.apart
  have ho : ∀ k, k ≠ a → (w.setCell ⟨a, 3, none⟩ (.int .i64 (S.last + 1))).heap[k]? = w.heap[k]? := fun k hk => Below.heap_setCell w ⟨a, 3, none⟩ _ k hk
  exact { row := row_set3 h.row _, secs := h.secs.kept (ho mb n1.symm), que := ownsRow_kept h.que (fun k hk => ho k (by rintro rfl; exact n3 hk)), fls := h.fls.kept (ho fb n2.symm), lo := h.lo, ne := h.ne, N1 := h.N1, N2 := h.N2, q64 := h.q64, qok := h.qok, lok := by have := h.lok; simp only; omega }

theorem put_row (h : DI B w a mb fb qv S) {o : Obj} {w4 : World} (hg : (w.alloc o).grownBy w4 qv.ownBlock) : w4.heap[a]? = some (.cells #[.int .i64 (S.N : Int), .map (some mb), qv, .int .i64 S.last, .map (some fb)] 67 (0, 0)) := by
  have hlt := (Array.getElem?_eq_some_iff.1 h.row).1
  rw [hg.block a (by simp only [World.size_alloc]; omega) (Ne.symm h.apart.2.2.1)]
  exact at_old h.row

theorem row_froz {cs : Array Value} (h : w.heap[a]? = some (.cells cs 67 (0, 0))) (j : Nat) : w.frozen? ⟨a, j, none⟩ = false := by
  simp [World.frozen?, h]

theorem frame_drew {X : Nat → Prop} {w w2 : World} (h : Frame X w w2) : Frame X w w2.drew := ⟨h.os, h.tape, h.output, h.size, h.block⟩

theorem write_fin {w0 w2 w3 w4 : World} {A : Array Value} {b : Nat} {xs : List Int} {g cap : Nat} (hf2 : Frame (foot a mb fb qv) w0 w2) (hb3 : Below w2.drew.heap.size w2.drew w3) (h3 : DI B w3 a mb fb qv { S with last := S.last + 1 }) (hAl : A.toList = Wr.cells ⟨S.last + 1, b, xs⟩)
    (hown4 : w4.ownsRow B 71 130 (.slice (some ⟨g, 0, none⟩) (S.q.length + 1) cap) (S.q.length + 1) (flat S.q ++ A.toList)) (hgrow4 : (w3.alloc (.cells A 71)).grownBy w4 qv.ownBlock) (hat4 : qv.ownBlock = some g ∨ g = w3.heap.size + 1)
    (hsx : Sect xs) (hb : b < S.N) (hf : S.q.length < 64) :
    DI B (w4.setCell ⟨a, 2, none⟩ (.slice (some ⟨g, 0, none⟩) (S.q.length + 1) cap)) a mb fb (.slice (some ⟨g, 0, none⟩) (S.q.length + 1) cap) (S.put b xs) ∧
    Frame (foot a mb fb qv) w0 (w4.setCell ⟨a, 2, none⟩ (.slice (some ⟨g, 0, none⟩) (S.q.length + 1) cap)) ∧
    ((Value.slice (some ⟨g, 0, none⟩) (S.q.length + 1) cap).ownBlock = qv.ownBlock ∨ ∃ k, (Value.slice (some ⟨g, 0, none⟩) (S.q.length + 1) cap).ownBlock = some k ∧ w0.heap.size ≤ k) := by
  have hr4 := put_row h3 hgrow4
  obtain ⟨n1, n2, n3, n4, n5⟩ := h3.apart
  have hm3 := h3.secs.lt
  have hf3 := h3.fls.lt
  have ha3 := (Array.getElem?_eq_some_iff.1 h3.row).1
  have hs3 : w0.heap.size ≤ w3.heap.size := Nat.le_trans hf2.size hb3.size
  have hmb4 : w4.heap[mb]? = w3.heap[mb]? := (hgrow4.block mb (by simp only [World.size_alloc]; omega) (Ne.symm n4)).trans (Below.heap_alloc w3 _ mb hm3)
  have hfb4 : w4.heap[fb]? = w3.heap[fb]? := (hgrow4.block fb (by simp only [World.size_alloc]; omega) (Ne.symm n5)).trans (Below.heap_alloc w3 _ fb hf3)
  have hga : g ≠ a := by
    rcases hat4 with e | e
    · rintro rfl; exact n3 e
    · omega
  have ho : ∀ k, k ≠ a → (w4.setCell ⟨a, 2, none⟩ (.slice (some ⟨g, 0, none⟩) (S.q.length + 1) cap)).heap[k]? = w4.heap[k]? := fun k hk => Below.heap_setCell w4 ⟨a, 2, none⟩ _ k hk
  have hlo := h3.lok
  refine ⟨?_, ?_, ?_⟩
  · refine { row := row_set2 hr4 _, secs := h3.secs.kept ((ho mb n1.symm).trans hmb4), que := ?_, fls := h3.fls.kept ((ho fb n2.symm).trans hfb4), lo := h3.lo, ne := h3.ne, N1 := h3.N1, N2 := h3.N2, q64 := ?_, qok := ?_, lok := hlo }
    · have e : (S.put b xs).q.length = S.q.length + 1 := by simp [St.put]
      have e2 : flat (S.put b xs).q = flat S.q ++ A.toList := by rw [hAl, ← flat_snoc]; rfl
      rw [e, e2]
      exact ownsRow_kept hown4 (fun k hk => by cases hk; exact ho g hga)
    · simp [St.put]; omega
    · intro x hx
      simp only [St.put, List.mem_append, List.mem_singleton] at hx
      rcases hx with hx | rfl
      · exact h3.qok x hx
      · simp only at hlo
        exact ⟨hb, hsx, by simp only; omega, by simp only; omega⟩
  · refine (frame_drew hf2).trans ?_
    refine (frame_of_below hb3).trans ?_
    have f1 : Frame (foot a mb fb qv) w3 (w3.alloc (.cells A 71)) := frame_of_grown (World.grownBy_alloc w3 _ none) (by intro k hk; cases hk)
    have f2 : Frame (foot a mb fb qv) (w3.alloc (.cells A 71)) w4 := frame_of_grown hgrow4 (fun k hk => .inr (.inr (.inr hk)))
    exact (f1.trans f2).trans (Frame.setCell w4 _ (.inl rfl))
  · rcases hat4 with e | e
    · exact .inl e.symm
    · exact .inr ⟨g, rfl, by omega⟩

set_option maxRecDepth 10000 in
set_option maxHeartbeats 1000000 in
theorem write_new (h : DI B w a mb fb qv S) (hB : B ≤ w.heap.size) (b : Nat) (p : Option Addr) (c : Nat) (xs : List Int) (hx : BI w p 128 xs) (hb : b < S.N) (hq : (S.q.any fun x => (x.block : Int) == (b : Int)) = false) (hf : S.q.length < 64) (hl : S.last < 9223372036854775807) :
    Calls Try.prog 22 #[.pointer (some ⟨a, 0, none⟩), .int .i64 (b : Int), .slice p 128 c] w fun e w' => ∃ qv', e = .returned (.tuple #[.int .i64 (S.last + 1), .int .i64 0]) ∧ DI B w' a mb fb qv' (S.put b xs) ∧ Frame (foot a mb fb qv) w w' ∧ (qv'.ownBlock = qv.ownBlock ∨ ∃ k, qv'.ownBlock = some k ∧ w.heap.size ≤ k) := by
  have cb := busy_ok h b
  rw [hq] at cb
  have HB := (show Hid _ from cb)
  clear cb
  obtain ⟨qp, qn, qc, hqv, hqn⟩ : ∃ qp qn qc, qv = .slice qp qn qc ∧ qn = S.q.length := by
    rcases h.qcase with ⟨e1, e2⟩ | ⟨g, cap, e⟩
    · exact ⟨none, 0, 0, e1, by rw [e2]; rfl⟩
    · exact ⟨_, _, _, e, rfl⟩
  subst hqv
  subst hqn
  go_enter Try.func22, Try.ntmps22
  go_wp2_with fail
  refine same_at (made_ok h) ?_
  go_wp2_with fail
  refine same_at (has_true h b hb) ?_
  go_wp2_with fail
  refine Calls.mono HB.out ?_
  rintro e w1 ⟨rfl, hb1⟩
  have h1 := h.later hb1
  have hc2 := h1.c2
  have hc3 := h1.c3
  have hfz := h1.froz 3
  have hlo := h.lok
  obtain ⟨pb, po, rfl, hpc⟩ := hx.cells (by omega)
  have hne := h.bytes_ne (hpc 0 (by omega))
  have h2 := h1.bump hl
  have hx2 : BI (w1.setCell ⟨a, 3, none⟩ (.int .i64 (S.last + 1))) (some ⟨pb, po, none⟩) 128 xs := (hx.kept hb1).setOther (by rintro b o e _; cases e; exact hne) _
  have hf2 : Frame (foot a mb fb (.slice qp S.q.length qc)) w (w1.setCell ⟨a, 3, none⟩ (.int .i64 (S.last + 1))) := (frame_of_below hb1).trans (Frame.setCell w1 _ (.inl rfl))
  have hs2 : w.heap.size ≤ (w1.setCell ⟨a, 3, none⟩ (.int .i64 (S.last + 1))).heap.size := hf2.size
  have hsx : Sect xs := ⟨hx.len, hx.byt⟩
  obtain ⟨A, hA⟩ : ∃ A, A = wrA ⟨S.last + 1, b, xs⟩ := ⟨_, rfl⟩
  have hAl : A.toList = Wr.cells ⟨S.last + 1, b, xs⟩ := by rw [hA]; rfl
  have hAn : A.toList.length = 1 * 130 := by rw [hAl]; exact cells_len _ hsx
  have hA1 : ∀ u ∈ A.toList, u.oneCell' = true := by rw [hAl]; exact wr_one _
  have hzr : ∀ w, (zeroValue 71).run Try.prog w = .ok (.agg zwr.toArray) w := zero_wr
  have hF : Array.foldl (fun (cs : Array Value) (x : Value × Nat) => cs.setIfInBounds (2 + x.snd) x.fst) ((zwr.toArray.setIfInBounds 0 (.int .i64 (S.last + 1))).setIfInBounds 1 (.int .i64 (b : Int))) (secA xs).zipIdx 0 128 = A := by rw [hA]; exact fold_wr (S.last + 1) b xs hsx
  have hX : (secA xs).size = 128 := by rw [secA_size]; exact hx.len
  have hZ : zwr.toArray.size = 130 := by simp [zwr_len]
  have hZ0 : ¬ zwr.toArray = #[] := by intro e; rw [e] at hZ; simp at hZ
  have hAs : A.size = 130 := by simpa using hAn
  generalize zwr.toArray = Z at hF hZ hZ0 hzr ⊢
  have hF2 : ∀ C : Array Value, C.size = 130 → Array.foldl (fun (cs : Array Value) (x : Value × Nat) => cs.setIfInBounds x.snd x.fst) C A.zipIdx 0 130 = A := fun C hC => fold_all A C hAs hC
  have HAl := (show Hid _ from hAl)
  clear hAl hA
  obtain ⟨i0, hi, hz0, hz1, hz2⟩ := info_parts zero86'
  clear h HB
  go_wp2_with fail
  clear hfz hc2 hc3 h1 hb1
  generalize w1.setCell ⟨a, 3, none⟩ (.int .i64 (S.last + 1)) = w2 at *
  have h2d : DI B w2.drew a mb fb (.slice qp S.q.length qc) { S with last := S.last + 1 } := h2.kept (fun _ _ => rfl)
  have hx2d : BI w2.drew (some ⟨pb, po, none⟩) 128 xs := hx2.kept (Below.refl _ _).drew
  have hc2 := h2d.c2
  have hc3 := h2d.c3
  go_region_law
    (first
      | (refine step_append_lies _ (by rfl) _ _ _ (by rfl) B 71 i0 (.agg zwr.toArray) 130 144 Try.underlying64 hi hz0 hz1 hz2 (by simp [Value.cells, zwr_len]) (by omega) _ S.q.length (flat S.q) (by rfl) (h3.que.alloc _) ⟨w3.heap.size, 0, none⟩ 1 1 A.toList (by rfl) hAn (World.news_of_block (heap_alloc_new w3 _)) hA1 (by omega) (by unfold maxLen; omega) (by omega) (by simp only [World.size_alloc]; omega) (w3.heap.size + 1) (by simp) ?_; intro g cap w4 hown4 hgrow4 hat4 hlt4; have hr4 := put_row h3 hgrow4; have hc2'' := cell_of_row w4 a 2 _ _ _ hr4; have hc3'' := cell_of_row w4 a 3 _ _ _ hr4; have hfz4 := row_froz hr4 2; simp at hc2'' hc3'')
      | (rw [if_pos (by rfl)]; go_simp; refine Calls.mono (sectorOf_ok _ c xs _ hx2d) ?_; rintro e w3 ⟨rfl, hb3⟩; have h3 := h2d.later hb3; have hc2' := h3.c2; have hc3' := h3.c3; have h3a := h3.later ((Below.refl w3.heap.size w3).alloc (Nat.le_refl _) (.cells A 71)); have hc2a := h3a.c2; have hc3a := h3a.c3; have hs3 : w.heap.size ≤ w3.heap.size := Nat.le_trans hs2 hb3.size; dsimp only))
  all_goals (
    have hfin := write_fin hf2 hb3 h3 HAl.out hown4 hgrow4 hat4 hsx hb hf
    clear hown4 hgrow4 hat4 h3 h3a h2 h2d hx2 hx2d hx hpc hF hF2 hA1 hzr
    go_wp2
    go_ret2
    first | exact ⟨rfl, _, hfin⟩ | exact ⟨_, rfl, hfin⟩)
end
end Go.Proofs.Ytemhhgpgpjiijaa
