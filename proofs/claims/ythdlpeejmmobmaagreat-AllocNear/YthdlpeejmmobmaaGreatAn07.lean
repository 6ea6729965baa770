/- Write Queue Delete Complete Fails Bmap -/
import Derived.Test.YthdlpeejmmobmaaGreatAn06
import Derived.Deep.RegionHeld3
import Derived.Deep.RegionLaw
import Derived.Deep.AppendLies

/- Write. -/
namespace Go.Proofs.YthdlpeejmmobmaaGreat
open Go.RowKit Go.Maps
set_option maxRecDepth 100000

def St.put (S : St) (b : Nat) (xs : List Int) : St := { S with q := S.q ++ [⟨S.last + 1, b, xs⟩], last := S.last + 1 }

section
variable {B : Nat} {w : World} {a mb fb : Nat} {qv : Value} {S : St}

theorem has_true (h : DI B w a mb fb qv S) (b : Nat) (hb : b < S.N) : Calls Tryz.prog 290 #[.pointer (some ⟨a, 0, none⟩), .int .i64 (b : Int)] w fun e w' => e = .returned (.bool true) ∧ w' = w := by
  have := has_ok h (b : Int)
  rwa [show (decide (0 ≤ (b : Int)) && decide ((b : Int) < S.N)) = true by simp; omega] at this
theorem has_false (h : DI B w a mb fb qv S) (b : Int) (hb : ¬ (0 ≤ b ∧ b < S.N)) : Calls Tryz.prog 290 #[.pointer (some ⟨a, 0, none⟩), .int .i64 b] w fun e w' => e = .returned (.bool false) ∧ w' = w := by
  have := has_ok h b
  rwa [show (decide (0 ≤ b) && decide (b < S.N)) = false by simp; omega] at this

theorem row_set2 {x0 x1 x2 x3 x4 : Value} (h : w.heap[a]? = some (.cells #[x0, x1, x2, x3, x4] 202 (0, 0))) (v : Value) : (w.setCell ⟨a, 2, none⟩ v).heap[a]? = some (.cells #[x0, x1, v, x3, x4] 202 (0, 0)) :=
  heap_setCell_same w a 2 _ 202 v h
theorem row_set3 {x0 x1 x2 x3 x4 : Value} (h : w.heap[a]? = some (.cells #[x0, x1, x2, x3, x4] 202 (0, 0))) (v : Value) : (w.setCell ⟨a, 3, none⟩ v).heap[a]? = some (.cells #[x0, x1, x2, v, x4] 202 (0, 0)) :=
  heap_setCell_same w a 3 _ 202 v h

/-- The disk's own blocks are four. -/
theorem DI.apart (h : DI B w a mb fb qv S) : a ≠ mb ∧ a ≠ fb ∧ qv.ownBlock ≠ some a ∧ qv.ownBlock ≠ some mb ∧ qv.ownBlock ≠ some fb := by
  have hr := h.row
  obtain ⟨D, ⟨es, ck, hm, _⟩, _⟩ := h.secs.ex
  obtain ⟨D', ⟨es', ck', hf, _⟩, _⟩ := h.fls.ex
  refine ⟨?_, ?_, ?_⟩
  · rintro rfl; rw [hr] at hm; cases hm
  · rintro rfl; rw [hr] at hf; cases hf
  rcases h.que.2 with ⟨rfl, _⟩ | ⟨g, cap, cur, rfl, _, hg, _⟩
  · simp [Value.ownBlock]
  · simp only [Value.ownBlock, ne_eq, Option.some.injEq]
    refine ⟨?_, ?_, ?_⟩
    · rintro rfl; rw [hr] at hg; simp at hg
    · rintro rfl; rw [hm] at hg; cases hg
    · rintro rfl; rw [hf] at hg; cases hg

theorem DI.froz (h : DI B w a mb fb qv S) (j : Nat) : w.frozen? ⟨a, j, none⟩ = false := by
  simp [World.frozen?, h.row]

/-- Bytes lie in no disk's head. -/
theorem DI.bytes_ne (h : DI B w a mb fb qv S) {b o : Nat} {x : Int} (hc : w.cell? ⟨b, o, none⟩ = some (.int .u8 x)) : b ≠ a := by
  rintro rfl
  rw [cell_of_row w b o _ _ _ h.row] at hc
  rcases h.qcase with ⟨rfl, _⟩ | ⟨g, cap, rfl⟩ <;>
  rcases o with _ | _ | _ | _ | _ | o <;> simp at hc

theorem BI.setOther {p : Option Addr} {n : Nat} {xs : List Int} (h : BI w p n xs) {k j : Nat} (hne : ∀ b o, p = some ⟨b, o, none⟩ → 0 < n → b ≠ k) (u : Value) : BI (w.setCell ⟨k, j, none⟩ u) p n xs := by
  refine ⟨h.len, h.big, h.byt, fun hn => ?_⟩
  obtain ⟨b, o, rfl, hc⟩ := h.cells hn
  refine ⟨b, o, rfl, fun i hi => ?_⟩
  rw [World.cell?_of_block (w := w) (Below.heap_setCell w ⟨k, j, none⟩ u b (hne b o rfl hn))]
  exact hc i hi

theorem zero86' : (Tryz.prog.info? 437).map (fun i => (i.zero, i.size, i.bytes)) = some (some (.agg zwr.toArray), 130, 144) := by kernel_rfl

theorem wr_one (x : Wr) : ∀ u ∈ x.cells, u.oneCell' = true := by
  intro u hu
  simp only [Wr.cells, List.mem_cons, List.mem_map] at hu
  rcases hu with rfl | rfl | ⟨y, _, rfl⟩ <;> rfl

theorem zero_wr (w : World) : (zeroValue 437).run Tryz.prog w = .ok (.agg zwr.toArray) w := by
  obtain ⟨it, hit, hz⟩ := Option.bind_eq_some_iff.1 zero86
  simp [zeroValue, typeInfo, hit, hz]

theorem fold_wr (id : Int) (b : Nat) (xs : List Int) (h : Sect xs) : Array.foldl (fun (cs : Array Value) (x : Value × Nat) => cs.setIfInBounds (2 + x.snd) x.fst) ((zwr.toArray.setIfInBounds 0 (.int .i64 id)).setIfInBounds 1 (.int .i64 (b : Int))) (secA xs).zipIdx 0 128 = wrA ⟨id, b, xs⟩ := by
  have e0 : (zwr.toArray.setIfInBounds 0 (.int .i64 id)).setIfInBounds 1 (.int .i64 (b : Int)) = (Value.int .i64 id :: .int .i64 (b : Int) :: zer.map (Value.int .u8)).toArray := by simp [zwr]
  have e1 := put_arr (xs.map (Value.int .u8)) (Value.int .i64 id :: .int .i64 (b : Int) :: zer.map (Value.int .u8)) 2 (by simp [h.1, zer])
  have e3 : splice (Value.int .i64 id :: .int .i64 (b : Int) :: zer.map (Value.int .u8)) 2 (xs.map (Value.int .u8)) = Wr.cells ⟨id, b, xs⟩ := by
    simp [splice, Wr.cells, h.1, zer]
  rw [e3] at e1
  rw [e0]
  have e4 : (xs.map (Value.int .u8)).toArray.zipIdx.size = 128 := by simp [h.1]
  rw [e4] at e1
  exact e1

theorem fold_all (A C : Array Value) (h : A.size = 130) (hc : C.size = 130) : Array.foldl (fun (cs : Array Value) (x : Value × Nat) => cs.setIfInBounds x.snd x.fst) C A.zipIdx 0 130 = A := by
  have e1 := put_arr A.toList C.toList 0 (by simp [h, hc])
  rw [splice_whole _ _ (by simp [h, hc])] at e1
  have e4 : A.toList.toArray.zipIdx.size = 130 := by simp [h]
  rw [e4] at e1
  simpa using e1

theorem flat_snoc (q : List Wr) (x : Wr) : flat (q ++ [x]) = flat q ++ x.cells := by simp [flat]

theorem DI.bump (h : DI B w a mb fb qv S) (hl : S.last < 9223372036854775807) : DI B (w.setCell ⟨a, 3, none⟩ (.int .i64 (S.last + 1))) a mb fb qv { S with last := S.last + 1 } := by
  obtain ⟨n1, n2, n3, n4, n5⟩ := h.apart
  have ho : ∀ k, k ≠ a → (w.setCell ⟨a, 3, none⟩ (.int .i64 (S.last + 1))).heap[k]? = w.heap[k]? := fun k hk => Below.heap_setCell w ⟨a, 3, none⟩ _ k hk
  exact { row := row_set3 h.row _, secs := h.secs.kept (ho mb n1.symm), que := ownsRow_kept h.que (fun k hk => ho k (by rintro rfl; exact n3 hk)), fls := h.fls.kept (ho fb n2.symm), lo := h.lo, ne := h.ne, N1 := h.N1, N2 := h.N2, q64 := h.q64, qok := h.qok, lok := by have := h.lok; simp only; omega }

theorem put_row (h : DI B w a mb fb qv S) {o : Obj} {w4 : World} (hg : (w.alloc o).grownBy w4 qv.ownBlock) : w4.heap[a]? = some (.cells #[.int .i64 (S.N : Int), .map (some mb), qv, .int .i64 S.last, .map (some fb)] 202 (0, 0)) := by
  have hlt := (Array.getElem?_eq_some_iff.1 h.row).1
  rw [hg.block a (by simp only [World.size_alloc]; omega) (Ne.symm h.apart.2.2.1)]
  exact at_old h.row

theorem row_froz {cs : Array Value} (h : w.heap[a]? = some (.cells cs 202 (0, 0))) (j : Nat) : w.frozen? ⟨a, j, none⟩ = false := by
  simp [World.frozen?, h]

theorem frame_drew {X : Nat → Prop} {w w2 : World} (h : Frame X w w2) : Frame X w w2.drew := ⟨h.os, h.tape, h.output, h.size, h.block⟩

theorem write_fin {w0 w2 w3 w4 : World} {A : Array Value} {b : Nat} {xs : List Int} {g cap : Nat} (hf2 : Frame (foot a mb fb qv) w0 w2) (hb3 : Below w2.drew.heap.size w2.drew w3) (h3 : DI B w3 a mb fb qv { S with last := S.last + 1 }) (hAl : A.toList = Wr.cells ⟨S.last + 1, b, xs⟩)
    (hown4 : w4.ownsRow B 437 130 (.slice (some ⟨g, 0, none⟩) (S.q.length + 1) cap) (S.q.length + 1) (flat S.q ++ A.toList)) (hgrow4 : (w3.alloc (.cells A 437)).grownBy w4 qv.ownBlock) (hat4 : qv.ownBlock = some g ∨ g = w3.heap.size + 1)
    (hsx : Sect xs) (hb : b < S.N) (hf : S.q.length < 64) :
    DI B (w4.setCell ⟨a, 2, none⟩ (.slice (some ⟨g, 0, none⟩) (S.q.length + 1) cap)) a mb fb (.slice (some ⟨g, 0, none⟩) (S.q.length + 1) cap) (S.put b xs) ∧
    Frame (foot a mb fb qv) w0 (w4.setCell ⟨a, 2, none⟩ (.slice (some ⟨g, 0, none⟩) (S.q.length + 1) cap)) ∧
    ((Value.slice (some ⟨g, 0, none⟩) (S.q.length + 1) cap).ownBlock = qv.ownBlock ∨ ∃ k, (Value.slice (some ⟨g, 0, none⟩) (S.q.length + 1) cap).ownBlock = some k ∧ w0.heap.size ≤ k) := by
  have hr4 := put_row h3 hgrow4
  obtain ⟨n1, n2, n3, n4, n5⟩ := h3.apart
  have hm3 := h3.secs.lt
  have hf3 := h3.fls.lt
  have ha3 := (Array.getElem?_eq_some_iff.1 h3.row).1
  have hs3 : w0.heap.size ≤ w3.heap.size := Nat.le_trans hf2.size hb3.size
  have hmb4 : w4.heap[mb]? = w3.heap[mb]? := (hgrow4.block mb (by simp only [World.size_alloc]; omega) (Ne.symm n4)).trans (Below.heap_alloc w3 _ mb hm3)
  have hfb4 : w4.heap[fb]? = w3.heap[fb]? := (hgrow4.block fb (by simp only [World.size_alloc]; omega) (Ne.symm n5)).trans (Below.heap_alloc w3 _ fb hf3)
  have hga : g ≠ a := by
    rcases hat4 with e | e
    · rintro rfl; exact n3 e
    · omega
  have ho : ∀ k, k ≠ a → (w4.setCell ⟨a, 2, none⟩ (.slice (some ⟨g, 0, none⟩) (S.q.length + 1) cap)).heap[k]? = w4.heap[k]? := fun k hk => Below.heap_setCell w4 ⟨a, 2, none⟩ _ k hk
  have hlo := h3.lok
  refine ⟨?_, ?_, ?_⟩
  · refine { row := row_set2 hr4 _, secs := h3.secs.kept ((ho mb n1.symm).trans hmb4), que := ?_, fls := h3.fls.kept ((ho fb n2.symm).trans hfb4), lo := h3.lo, ne := h3.ne, N1 := h3.N1, N2 := h3.N2, q64 := ?_, qok := ?_, lok := hlo }
    · have e : (S.put b xs).q.length = S.q.length + 1 := by simp [St.put]
      have e2 : flat (S.put b xs).q = flat S.q ++ A.toList := by rw [hAl, ← flat_snoc]; rfl
      rw [e, e2]
      exact ownsRow_kept hown4 (fun k hk => by cases hk; exact ho g hga)
    · simp [St.put]; omega
    · intro x hx
      simp only [St.put, List.mem_append, List.mem_singleton] at hx
      rcases hx with hx | rfl
      · exact h3.qok x hx
      · simp only at hlo
        exact ⟨hb, hsx, by simp only; omega, by simp only; omega⟩
  · refine (frame_drew hf2).trans ?_
    refine (frame_of_below hb3).trans ?_
    have f1 : Frame (foot a mb fb qv) w3 (w3.alloc (.cells A 437)) := frame_of_grown (World.grownBy_alloc w3 _ none) (by intro k hk; cases hk)
    have f2 : Frame (foot a mb fb qv) (w3.alloc (.cells A 437)) w4 := frame_of_grown hgrow4 (fun k hk => .inr (.inr (.inr hk)))
    exact (f1.trans f2).trans (Frame.setCell w4 _ (.inl rfl))
  · rcases hat4 with e | e
    · exact .inl e.symm
    · exact .inr ⟨g, rfl, by omega⟩

end
end Go.Proofs.YthdlpeejmmobmaaGreat

/- Queue: all writes that are not done yet, as lists of their own. -/
namespace Go.Proofs.YthdlpeejmmobmaaGreat
open Go.RowKit Go.Maps
set_option maxRecDepth 100000

def sent (g : Nat) (x : Wr) : List Value := [.int .i64 x.id, .int .i64 (x.block : Int), sl g]
def sflat (gs : List Nat) (q : List Wr) : List Value := (gs.zip q).flatMap (fun p => sent p.1 p.2)
theorem info52 : (Tryz.prog.info? 445).map (fun i => (i.zero, i.size, i.bytes)) = some (some (.agg #[.int .i64 0, .int .i64 0, .slice none 0 0]), 3, 40) := by kernel_rfl
theorem size86 : (Tryz.prog.info? 437).map (·.size) = some 130 := info86

/-- Block g holds the writes q as Sents, their bytes in the blocks gs. -/
structure Sents (B : Nat) (w : World) (g : Nat) (gs : List Nat) (q : List Wr) : Prop where
  row : w.ownsRow B 445 3 (.slice (some ⟨g, 0, none⟩) q.length q.length) q.length (sflat gs q)
  len : gs.length = q.length
  el : ∀ i x, q[i]? = some x → Own B w (gs.getD i 0) 128 128 x.bytes

theorem zero_wr' (w : World) : (zeroValue 437).run Tryz.prog w = .ok (.agg zwr.toArray) w := by
  obtain ⟨it, hit, hz⟩ := Option.bind_eq_some_iff.1 zero86
  simp [zeroValue, typeInfo, hit, hz]

theorem wr_one' (x : Wr) : ∀ u ∈ x.cells, u.oneCell' = true := by
  intro u hu
  simp only [Wr.cells, List.mem_cons, List.mem_map] at hu
  rcases hu with rfl | rfl | ⟨y, _, rfl⟩ <;> rfl

theorem range_later {w w' : World} {T o : Nat} {cs : List Value} (hb : Below w.heap.size w w') (hT : T < w.heap.size) (h : w.rangeAt T o cs) : w'.rangeAt T o cs := fun i v hv => (hb.cell (p := ⟨T, o + i, none⟩) hT).trans (h i v hv)

theorem three_cells {w : World} {B g n : Nat} {L : List Value} (h : w.ownsRow B 445 3 (.slice (some ⟨g, 0, none⟩) n n) n L) {j : Nat} (hj : j < n) : ∃ v0 v1 v2, w.cell? ⟨g, j * 3, none⟩ = some v0 ∧ w.cell? ⟨g, j * 3 + 1, none⟩ = some v1 ∧ w.cell? ⟨g, j * 3 + 2, none⟩ = some v2 := by
  have hl := h.1
  refine ⟨L[j * 3]'(by omega), L[j * 3 + 1]'(by omega), L[j * 3 + 2]'(by omega), ?_, ?_, ?_⟩ <;> rw [h.cellAt _ (by omega), List.getElem?_eq_getElem]

theorem range_set {w : World} {R T j o : Nat} {cs : List Value} {u : Value} (hne : R ≠ T) (h : w.rangeAt T o cs) : (w.setCell ⟨R, j, none⟩ u).rangeAt T o cs := fun i v hv =>
  (World.cell?_of_block (w := w) (Below.heap_setCell w ⟨R, j, none⟩ u T (Ne.symm hne))).trans (h i v hv)

theorem take_set3 {α : Type} (L : List α) (k : Nat) (x y z : α) (h : k + 3 ≤ L.length) : (((L.set k x).set (k + 1) y).set (k + 2) z).take (k + 3) = L.take k ++ [x, y, z] := by
  apply List.ext_getElem?
  intro i
  by_cases hi : i < k
  · rw [List.getElem?_take_of_lt (by omega), List.getElem?_set_ne (by omega), List.getElem?_set_ne (by omega), List.getElem?_set_ne (by omega), List.getElem?_append_left (by simp; omega), List.getElem?_take_of_lt hi]
  · rw [List.getElem?_append_right (by simp; omega)]
    have e : (L.take k).length = k := by simp; omega
    rw [e]
    rcases (by omega : i = k ∨ i = k + 1 ∨ i = k + 2 ∨ k + 3 ≤ i) with rfl | rfl | rfl | h3
    · rw [List.getElem?_take_of_lt (by omega), List.getElem?_set_ne (by omega), List.getElem?_set_ne (by omega), List.getElem?_set_self (by omega)]; simp
    · rw [List.getElem?_take_of_lt (by omega), List.getElem?_set_ne (by omega), List.getElem?_set_self (by simp; omega)]; simp
    · rw [List.getElem?_take_of_lt (by omega), List.getElem?_set_self (by simp; omega)]; simp
    · rw [List.getElem?_eq_none (by simp; omega), List.getElem?_eq_none (by simp; omega)]

theorem sflat_snoc (gs : List Nat) (q : List Wr) (g : Nat) (x : Wr) (h : gs.length = q.length) : sflat (gs ++ [g]) (q ++ [x]) = sflat gs q ++ sent g x := by
  simp [sflat, List.zip_append h]

theorem take_snoc {q : List Wr} {j : Nat} {x : Wr} (h : q[j]? = some x) : q.take (j + 1) = q.take j ++ [x] := by
  rw [List.take_add_one, h]; rfl

end Go.Proofs.YthdlpeejmmobmaaGreat

/- slices.Delete of one write of the queue. -/
namespace Go.Proofs.YthdlpeejmmobmaaGreat
open Go.RowKit Go.Maps
set_option maxRecDepth 100000

theorem flat_append (p q : List Wr) : flat (p ++ q) = flat p ++ flat q := by simp [flat]
theorem flat_len : ∀ (q : List Wr), (∀ x ∈ q, Sect x.bytes) → (flat q).length = q.length * 130
  | [], _ => rfl
  | x :: r, h => by
    have := flat_len r (fun y hy => h y (by simp [hy]))
    have hx := cells_len x (h x (by simp))
    simp only [flat, List.flatMap_cons, List.length_append, List.length_cons] at this ⊢
    omega
theorem flat_take {q : List Wr} (h : ∀ x ∈ q, Sect x.bytes) {k : Nat} (hk : k ≤ q.length) : flat (q.take k) = (flat q).take (k * 130) := by
  have h1 := flat_len (q.take k) (fun x hx => h x (List.mem_of_mem_take hx))
  conv => rhs; rw [← List.take_append_drop k q, flat_append]
  rw [List.take_left' (by rw [h1]; simp; omega)]
theorem flat_drop {q : List Wr} (h : ∀ x ∈ q, Sect x.bytes) {k : Nat} (hk : k ≤ q.length) : flat (q.drop k) = (flat q).drop (k * 130) := by
  have h1 := flat_len (q.take k) (fun x hx => h x (List.mem_of_mem_take hx))
  conv => rhs; rw [← List.take_append_drop k q, flat_append]
  rw [List.drop_left' (by rw [h1]; simp; omega)]

/-- append within the row that holds the slice, as one step of a region that draws. -/
theorem step_append_row {P : Program} {ops : Array Oper} {o : Oper} {a : Act} {w : World} {K : Act → World → Prop} {Q : Exit → Act → World → Prop} {E : Prop}
    (hg : o.guard = none) (s x : Operand) (t : TypeId) (hop : o.op = Op.call { callee := Callee.builtin Builtin.append, args := #[s, x], argTypes := #[t, t] })
    (e : TypeId) (i : TypeInfo) (h1 : P.underlying t = some (.slice e)) (h2 : P.info? e = some i)
    (g n cap : Nat) (cur : Array Value) (hrow : w.heap[g]? = some (.cells cur e (0, 0))) (hs : a.eval s = .slice (some ⟨g, 0, none⟩) n cap)
    (ad : Addr) (m c : Nat) (news : List Value) (hx : a.eval x = .slice (some ad) m c) (hn : news.length = m * i.size) (hc : ∀ j u, news[j]? = some u → w.cell? (ad.add j) = some u) (h1c : ∀ u ∈ news, u.oneCell' = true)
    (hroom : n + m ≤ cap) (hfit : n * i.size + news.length ≤ cur.size)
    (hK : K (a.put o.dst (.slice (some ⟨g, 0, none⟩) (n + m) cap)) (w.setRow g (cur.toList.take (n * i.size) ++ news ++ cur.toList.drop (n * i.size + news.length)).toArray)) :
    if Region.wanted o (yielded ops a.tmps) = true then Oper.wp P o a w K Q else E := by
  have hw : Region.wanted o (yielded ops a.tmps) = true := by simp [Region.wanted, hg]
  rw [if_pos hw]
  have hrun := run_append_room (P := P) w t o.type e i h1 h2 g n cap cur hrow ad m c news hn hc h1c hroom hfit
  unfold Oper.wp
  simp [execOp, hop, resolve, invoke, builtin, hs, hx, hrun, Result.andThen]
  rw [List.append_assoc] at hK
  exact hK

/-- clear of one element of a row. -/
theorem wpList_clear_row {P : Program} {ops : Array Oper} {rest : List Oper} {o : Oper} {a : Act} {w : World} {Q : Exit → Act → World → Prop} (hgd : o.guard = none) (x : Operand) (t e : TypeId) (hop : o.op = Op.call { callee := Callee.builtin Builtin.clear, args := #[x], argTypes := #[t] })
    (ht : P.underlying t = some (.slice e)) (z : Value) (hz : (zeroValue e).run P w = .ok z w) (h1 : ∀ u ∈ z.cells.toList, u.oneCell' = true) (g k c : Nat) (cur : Array Value) (hrow : w.heap[g]? = some (.cells cur e (0, 0))) (hx : a.eval x = .slice (some ⟨g, k, none⟩) 1 c) (hfit : k + z.cells.size ≤ cur.size)
    (hK : wpList P ops Q rest (a.put o.dst (.tuple #[])) (w.setRow g (cur.toList.take k ++ z.cells.toList ++ cur.toList.drop (k + z.cells.size)).toArray)) : wpList P ops Q (o :: rest) a w := by
  refine wpList_plain hgd fun K hK' => ?_
  have e1 : (Builtin.zeroCells z.cells 1).toList = z.cells.toList := by
    apply List.ext_getElem
    · simp [Builtin.zeroCells]
    · intro i h1 h2
      simp only [Array.length_toList] at h2
      simp [Builtin.zeroCells, Nat.mod_eq_of_lt h2, h2]
  have hst := run_storeCells_at P g k e z.cells.toList 0 cur w hrow (by simpa using hfit) h1
  unfold Oper.wp
  simp [execOp, hop, resolve, invoke, builtin, hx, Builtin.clear_, run_underlying ht, hz, e1, hst, Result.andThen]
  exact hK' _ _ (by simpa using hK)

theorem zero_wr2 (w : World) : (zeroValue 437).run Tryz.prog w = .ok (.agg zwr.toArray) w := by
  obtain ⟨it, hit, hz⟩ := Option.bind_eq_some_iff.1 zero86
  simp [zeroValue, typeInfo, hit, hz]

theorem flat_one {q : List Wr} : ∀ u ∈ flat q, u.oneCell' = true := by
  intro u hu
  obtain ⟨x, _, hx⟩ := List.mem_flatMap.1 hu
  simp only [Wr.cells, List.mem_cons, List.mem_map] at hx
  rcases hx with rfl | rfl | ⟨y, _, rfl⟩ <;> rfl

theorem zwr_one : ∀ u ∈ zwr, u.oneCell' = true := by
  intro u hu
  simp only [zwr, List.mem_cons, List.mem_map] at hu
  rcases hu with rfl | rfl | ⟨y, _, rfl⟩ <;> rfl

end Go.Proofs.YthdlpeejmmobmaaGreat

/- Complete: a write of the queue is done, or fails. -/
namespace Go.Proofs.YthdlpeejmmobmaaGreat
open Go.RowKit Go.Maps
set_option maxRecDepth 100000

def St.done (S : St) (i : Nat) (x : Wr) (ok : Bool) : St := { S with q := S.q.eraseIdx i, f := if ok then upd S.f x.block x.bytes else S.f }

section
variable {B : Nat} {w : World} {a mb fb : Nat} {qv : Value} {S : St}

/-- Behind Delete, and the store of what it gave: the disk with one write less. -/
theorem DI.erase (h : DI B w a mb fb qv S) {g n cap i : Nat} (hqv : qv = .slice (some ⟨g, 0, none⟩) n cap) (hn : n = S.q.length) {w' : World} (hown : w'.ownsRow B 437 130 (.slice (some ⟨g, 0, none⟩) (n - 1) cap) (n - 1) (flat (S.q.eraseIdx i))) (hi : i < n) (hg : w.grownBy w' (some g)) :
    DI B (w'.setCell ⟨a, 2, none⟩ (.slice (some ⟨g, 0, none⟩) (n - 1) cap)) a mb fb (.slice (some ⟨g, 0, none⟩) (n - 1) cap) { S with q := S.q.eraseIdx i } := by
  subst hqv
  obtain ⟨n1, n2, n3, n4, n5⟩ := h.apart
  simp only [Value.ownBlock, ne_eq, Option.some.injEq] at n3 n4 n5
  have ho : ∀ k, k < w.heap.size → k ≠ a → k ≠ g → (w'.setCell ⟨a, 2, none⟩ (.slice (some ⟨g, 0, none⟩) (n - 1) cap)).heap[k]? = w.heap[k]? := fun k hk h1 h2 => (Below.heap_setCell w' ⟨a, 2, none⟩ _ k h1).trans (hg.block k hk (by simpa using h2))
  have hrow : w'.heap[a]? = w.heap[a]? := hg.block a (Array.getElem?_eq_some_iff.1 h.row).1 (by simp; omega)
  have hlen : (S.q.eraseIdx i).length = n - 1 := by rw [List.length_eraseIdx_of_lt (by omega)]; omega
  have hq := h.q64
  refine { row := row_set2 (hrow.trans h.row) _, secs := h.secs.kept (ho mb h.secs.lt n1.symm (by omega)), que := ?_, fls := h.fls.kept (ho fb h.fls.lt n2.symm (by omega)), lo := h.lo, ne := h.ne, N1 := h.N1, N2 := h.N2, q64 := ?_, qok := ?_, lok := h.lok }
  · show World.ownsRow _ B 437 130 _ (S.q.eraseIdx i).length (flat (S.q.eraseIdx i))
    rw [hlen]
    exact ownsRow_kept hown (fun k hk => by cases hk; exact Below.heap_setCell w' ⟨a, 2, none⟩ _ g n3)
  · show (S.q.eraseIdx i).length ≤ 64
    omega
  · intro x hx
    exact h.qok x (List.mem_of_mem_eraseIdx hx)

theorem DI.turnSec (h : DI B w a mb fb qv S) {w' : World} {f' : Nat → List Int} (hs : Secs w' mb S.N f') (hg : w.grownBy w' (some mb)) : DI B w' a mb fb qv { S with f := f' } := by
  obtain ⟨n1, n2, n3, n4, n5⟩ := h.apart
  have ho : ∀ k, k < w.heap.size → k ≠ mb → w'.heap[k]? = w.heap[k]? := fun k hk h1 => hg.block k hk (by simpa using h1)
  exact { row := (ho a (Array.getElem?_eq_some_iff.1 h.row).1 n1).trans h.row, secs := hs, que := ownsRow_kept h.que (fun k hk => ho k (h.que.lt k hk).2 (by rintro rfl; exact n4 hk)), fls := h.fls.kept (ho fb h.fls.lt h.ne.symm), lo := h.lo, ne := h.ne, N1 := h.N1, N2 := h.N2, q64 := h.q64, qok := h.qok, lok := h.lok }

theorem wr_c1 {T : Nat} {x : Wr} (h : w.heap[T]? = some (.cells (wrA x) 437 (0, 0))) : w.cell? ⟨T, 1, none⟩ = some (.int .i64 (x.block : Int)) := by rw [cell_of_row w T 1 _ _ _ h]; exact wrA_1 x
theorem wr_c0 {T : Nat} {x : Wr} (h : w.heap[T]? = some (.cells (wrA x) 437 (0, 0))) : w.cell? ⟨T, 0, none⟩ = some (.int .i64 x.id) := by rw [cell_of_row w T 0 _ _ _ h]; exact wrA_0 x
theorem wr_c2 {T : Nat} {x : Wr} (h : w.heap[T]? = some (.cells (wrA x) 437 (0, 0))) : w.rangeAt T 2 (x.bytes.map (Value.int .u8)) := by
  intro i v hv
  rw [cell_of_row w T (2 + i) _ _ _ h]
  simp only [wrA, Wr.cells, List.getElem?_toArray]
  rw [Nat.add_comm]
  exact hv

end
end Go.Proofs.YthdlpeejmmobmaaGreat

/- Reads that fail: setFails, Fail, Read; a crash that is refused. -/
namespace Go.Proofs.YthdlpeejmmobmaaGreat
open Go.RowKit Go.Maps
set_option maxRecDepth 100000

theorem zero3 (w : World) : (zeroValue 3).run Tryz.prog w = .ok (.int .i64 0) w := by kernel_rfl

theorem filter_one {p q : Nat → Bool} {b : Nat} (h : ∀ x, q x = (p x || x == b)) : ∀ l : List Nat, l.Nodup → (l.filter q).length ≤ (l.filter p).length + 1
  | [], _ => by simp
  | y :: r, hn => by
    have hr := (List.nodup_cons.1 hn).2
    by_cases e : y = b
    · subst e
      have hy := (List.nodup_cons.1 hn).1
      have hf : r.filter q = r.filter p := by
        apply List.filter_congr
        intro z hz
        have : z ≠ y := by rintro rfl; exact hy hz
        simp [h z, this]
      have l1 : ((y :: r).filter q).length ≤ (r.filter p).length + 1 := by
        rw [← hf, List.filter_cons]
        split <;> simp
      have l2 : (r.filter p).length ≤ ((y :: r).filter p).length := by
        rw [List.filter_cons]
        split <;> simp
      omega
    · have ih := filter_one h r hr
      have hq : q y = p y := by simp [h y, e]
      simp only [List.filter_cons, hq]
      cases p y <;> simp <;> omega

theorem miss_del {D : DataW Unit} {N b : Nat} (ht : Tidy D) (h : size D + miss D N ≤ N) : size (D.del (key b)) + miss (D.del (key b)) N ≤ N := by
  have hs := size_del (k := key b) ht
  have hn : ∀ x, (!has (D.del (key b)) (key x)) = ((!has D (key x)) || x == b) := by
    intro x
    by_cases e : x = b
    · subst e
      rw [has_del_same]; simp
    · rw [has_del_other (fun h => e (key_inj h))]; simp [e]
  by_cases hh : has D (key b) = true
  · rw [if_pos hh] at hs
    have := filter_one (q := fun x => !has (D.del (key b)) (key x)) (p := fun x => !has D (key x)) (b := b) hn (List.range N) List.nodup_range
    unfold miss at h ⊢
    omega
  · have e : D.del (key b) = D := del_of_not_has (by simpa using hh)
    rw [e]
    exact h

theorem lit_wf {n : Int} (h : 0 ≤ n ∧ n ≤ 1000) : (Lit.int .i64 n).wf = true := by
  simp [Lit.wf, IntKind.min, IntKind.max, IntKind.signed, IntKind.bits]
  omega

theorem Fls.lookup {w : World} {mb N : Nat} {f : Nat → Int} (h : Fls w mb N f) (hN : N ≤ 2048) (b : Nat) (hb : b < N) :
    (Instr.lookup 72 (.map (some mb)) (.int .i64 (b : Int)) false).run Tryz.prog w = .ok (.int .i64 (f b)) w := by
  obtain ⟨D, ho, _, hat⟩ := h.ex
  obtain ⟨c, hr, hv, _⟩ := ho.lookup_int keyed3 Tryz.underlying72 Tryz.underlying3 (zero3 w) (key_of (b := b) (by omega))
  rw [hat b hb] at hv
  simp only [DataW.lit.injEq, Lit.int.injEq, true_and] at hv
  rw [hr, ← hv]

theorem Fls.update {w : World} {mb N : Nat} {f : Nat → Int} (h : Fls w mb N f) (hN : N ≤ 2048) (b : Nat) (hb : b < N) (t : Int) (ht : 0 ≤ t ∧ t ≤ 1000) :
    ∃ w', (Instr.mapUpdate 72 (.map (some mb)) (.int .i64 (b : Int)) (.int .i64 t)).run Tryz.prog w = .ok () w' ∧ Fls w' mb N (upd f b t) ∧ w.grownBy w' (some mb) := by
  obtain ⟨D, ho, hm, hat⟩ := h.ex
  obtain ⟨w', hr, ho', hg⟩ := ho.update keyed3 Tryz.underlying72 (show size D < maxLen by unfold maxLen; omega) (key_of (b := b) (by omega)) (plainElem_int Tryz.underlying3 (lit_wf ht))
  refine ⟨w', hr, ⟨⟨_, tight ho', miss_put (ho.tidy keyed3) hb _ hm, ?_⟩, ?_⟩, hg⟩
  · intro y hy
    unfold upd
    by_cases e : y = b
    · subst e; rw [if_pos rfl, atKey_put_same ho.isMap (key_is y)]
    · rw [if_neg e, atKey_put_other (fun h => e (key_inj h))]; exact hat y hy
  · intro y; unfold upd; split
    · exact ht
    · exact h.all y

theorem Fls.delete {w : World} {mb N : Nat} {f : Nat → Int} (h : Fls w mb N f) (hN : N ≤ 2048) (b : Nat) (hb : b < N) (ty : TypeId) :
    ∃ w', (Builtin.delete_ #[72, 3] ty #[.map (some mb), .int .i64 (b : Int)]).run Tryz.prog w = .ok (.tuple #[]) w' ∧ Fls w' mb N (upd f b 0) ∧ w.grownBy w' (some mb) := by
  obtain ⟨D, ho, hm, hat⟩ := h.ex
  obtain ⟨w', hr, ho', hg⟩ := ho.drop keyed3 Tryz.underlying72 (key_of (b := b) (by omega)) ty
  refine ⟨w', hr, ⟨⟨_, tight ho', miss_del (ho.tidy keyed3) hm, ?_⟩, ?_⟩, hg.grown⟩
  · intro y hy
    unfold upd
    by_cases e : y = b
    · subst e; rw [if_pos rfl, atKey_del_same]
    · rw [if_neg e, atKey_del_other (fun h => e (key_inj h))]; exact hat y hy
  · intro y; unfold upd; split
    · omega
    · exact h.all y

section
variable {B : Nat} {w : World} {a mb fb : Nat} {qv : Value} {S : St}

theorem DI.turnFl (h : DI B w a mb fb qv S) {w' : World} {f' : Nat → Int} (hs : Fls w' fb S.N f') (hg : w.grownBy w' (some fb)) : DI B w' a mb fb qv { S with fl := f' } := by
  obtain ⟨n1, n2, n3, n4, n5⟩ := h.apart
  have ho : ∀ k, k < w.heap.size → k ≠ fb → w'.heap[k]? = w.heap[k]? := fun k hk h1 => hg.block k hk (by simpa using h1)
  exact { row := (ho a (Array.getElem?_eq_some_iff.1 h.row).1 n2).trans h.row, secs := h.secs.kept (ho mb h.secs.lt h.ne), que := ownsRow_kept h.que (fun k hk => ho k (h.que.lt k hk).2 (by rintro rfl; exact n5 hk)), fls := hs, lo := h.lo, ne := h.ne, N1 := h.N1, N2 := h.N2, q64 := h.q64, qok := h.qok, lok := h.lok }

set_option maxRecDepth 10000 in
set_option maxHeartbeats 400000 in
theorem setFails_ok (h : DI B w a mb fb qv S) (b : Nat) (hb : b < S.N) (t : Int) (ht : 0 ≤ t ∧ t ≤ 1000) : Calls Tryz.prog 291 #[.pointer (some ⟨a, 0, none⟩), .int .i64 (b : Int), .int .i64 t] w fun e w' => (∃ v, e = .returned v) ∧ DI B w' a mb fb qv { S with fl := upd S.fl b t } ∧ Frame (foot a mb fb qv) w w' := by
  have hc := h.c4
  by_cases h0 : t = 0
  · subst h0
    obtain ⟨w', hr, hf, hg⟩ := h.fls.delete h.N2 b hb 0
    have hd := h.turnFl hf hg
    have hfr : Frame (foot a mb fb qv) w w' := frame_of_grown hg (fun k hk => .inr (.inr (.inl (by cases hk; rfl))))
    clear hf hg h
    go_enter Tryz.func291, Tryz.ntmps291
    go_wp2
    first | go_end0 | (refine bodyPost_ret (results_none rfl _ _ _) rfl ?_)
    exact ⟨⟨_, rfl⟩, hd, hfr⟩
  · obtain ⟨w', hr, hf, hg⟩ := h.fls.update h.N2 b hb t ht
    have hd := h.turnFl hf hg
    have hfr : Frame (foot a mb fb qv) w w' := frame_of_grown hg (fun k hk => .inr (.inr (.inl (by cases hk; rfl))))
    clear hf hg h
    go_enter Tryz.func291, Tryz.ntmps291
    go_wp2
    first | go_end0 | (refine bodyPost_ret (results_none rfl _ _ _) rfl ?_)
    exact ⟨⟨_, rfl⟩, hd, hfr⟩

set_option maxHeartbeats 400000 in
theorem read_arg (h : DI B w a mb fb qv S) (b : Int) (hb : ¬ (0 ≤ b ∧ b < S.N)) : Calls Tryz.prog 269 #[.pointer (some ⟨a, 0, none⟩), .int .i64 b] w fun e w' => e = .returned (.tuple #[.slice none 0 0, .int .i64 1]) ∧ w' = w := by
  have c := has_false h b hb
  go_enter Tryz.func269, Tryz.ntmps269
  go_wp2_with fail
  refine same_at (made_ok h) ?_
  go_wp2_with fail
  refine same_at c ?_
  go_wp2
  go_ret2
  exact ⟨rfl, rfl⟩

set_option maxHeartbeats 400000 in
theorem read_ok (h : DI B w a mb fb qv S) (b : Nat) (hb : b < S.N) (h0 : S.fl b = 0) : Calls Tryz.prog 269 #[.pointer (some ⟨a, 0, none⟩), .int .i64 (b : Int)] w fun e w' => ∃ g, e = .returned (.tuple #[.slice (some ⟨g, 0, none⟩) 128 128, .int .i64 0]) ∧ Own w.heap.size w' g 128 128 (S.f b) ∧ Below w.heap.size w w' := by
  have c := has_true h b hb
  have hc := h.c4
  have hl := h.fls.lookup h.N2 b hb
  rw [h0] at hl
  go_enter Tryz.func269, Tryz.ntmps269
  go_wp2_with fail
  refine same_at (made_ok h) ?_
  go_wp2_with fail
  refine same_at c ?_
  go_wp2_with fail
  refine (bytesOf_ok h b hb).mono ?_
  rintro e w1 ⟨g, rfl, ho, hb1⟩
  go_wp2
  go_ret2
  exact ⟨g, rfl, ho, hb1⟩

set_option maxHeartbeats 400000 in
theorem read_fails (h : DI B w a mb fb qv S) (b : Nat) (hb : b < S.N) (h0 : 0 < S.fl b) : Calls Tryz.prog 269 #[.pointer (some ⟨a, 0, none⟩), .int .i64 (b : Int)] w fun e w' => e = .returned (.tuple #[.slice none 0 0, .int .i64 4]) ∧ DI B w' a mb fb qv { S with fl := upd S.fl b (S.fl b - 1) } ∧ Frame (foot a mb fb qv) w w' := by
  have c := has_true h b hb
  have hc := h.c4
  have hl := h.fls.lookup h.N2 b hb
  have ha := h.fls.all b
  have hs := setFails_ok h b hb (S.fl b - 1) (by omega)
  generalize S.fl b = t at h0 hl ha hs
  have hw : IntKind.i64.wrap (t - 1) = t - 1 := by rw [IntKind.wrap_i64]; omega
  have HS := (show Hid _ from hs)
  clear hs
  go_enter Tryz.func269, Tryz.ntmps269
  go_wp2_with fail
  refine same_at (made_ok h) ?_
  go_wp2_with fail
  refine same_at c ?_
  go_wp2_with fail
  refine Calls.mono HS.out ?_
  rintro e w1 ⟨⟨v, rfl⟩, hd, hf⟩
  go_wp2
  go_ret2
  exact ⟨rfl, hd, hf⟩

end
end Go.Proofs.YthdlpeejmmobmaaGreat

/- The map of a cache's buffers: which blocks have one, and where it lies. -/
namespace Go.Proofs.YthdlpeejmmobmaaGreat
open Go.RowKit Go.Maps
set_option maxRecDepth 100000
set_option linter.unusedVariables false

def adr (g : Nat) : DataW Unit := .lit (.int .i64 (g : Int))
def nilD : DataW Unit := .lit (.bool false)
def ptrR : Value → Option (DataW Unit × List MemPlace)
  | .pointer none => some (nilD, [])
  | .pointer (some ⟨g, 0, none⟩) => some (adr g, [])
  | _ => none
theorem ptrR_nil : ptrR (.pointer none) = some (nilD, []) := rfl
theorem ptrR_mk (g : Nat) : ptrR (.pointer (some ⟨g, 0, none⟩)) = some (adr g, []) := rfl
theorem ptrR_inv {v : Value} {g : Nat} {ps : List MemPlace} (h : ptrR v = some (adr g, ps)) : v = .pointer (some ⟨g, 0, none⟩) := by
  unfold ptrR at h
  split at h
  · simp [nilD, adr] at h
  · rename_i g'
    simp [adr] at h
    obtain rfl : g' = g := by omega
    rfl
  · cases h
theorem ptrR_inv0 {v : Value} {ps : List MemPlace} (h : ptrR v = some (nilD, ps)) : v = .pointer none := by
  unfold ptrR at h
  split at h
  · rfl
  · simp [nilD, adr] at h
  · cases h
theorem zero86p (w : World) : (zeroValue 320).run Tryz.prog w = .ok (.pointer none) w := by kernel_rfl

/-- Block mb is a map that leads from the blocks of M to where their buffers lie. -/
structure Bm (w : World) (mb : Nat) (M : List (Nat × Nat)) : Prop where
  ex : ∃ D, w.ownsMap Tryz.prog 3 ptrR mb (size D) D ∧ size D = M.length ∧ (∀ x, has D x = true → ∃ p ∈ M, x = key p.1) ∧ ∀ p ∈ M, has D (key p.1) = true ∧ D.atKey (key p.1) nilD = adr p.2
  nd : (M.map (·.1)).Nodup
  sm : M.length ≤ 2048

theorem bm_made (w : World) : Bm (w.alloc (.map #[] 0)) w.heap.size [] :=
  ⟨⟨.map [], w.ownsMap_made _ _ _, rfl, fun x h => by simp [has] at h, fun p hp => by cases hp⟩, List.nodup_nil, by simp⟩

theorem Bm.lt {w : World} {mb : Nat} {M : List (Nat × Nat)} (h : Bm w mb M) : mb < w.heap.size := by
  obtain ⟨D, ho, _⟩ := h.ex
  exact ho.lt
theorem Bm.kept {w w' : World} {mb : Nat} {M : List (Nat × Nat)} (h : Bm w mb M) (hb : w'.heap[mb]? = w.heap[mb]?) : Bm w' mb M := by
  obtain ⟨D, ⟨es, c, ho, r⟩, k⟩ := h.ex
  exact ⟨⟨D, ⟨es, c, hb.trans ho, r⟩, k⟩, h.nd, h.sm⟩

theorem Bm.hit {w : World} {mb : Nat} {M : List (Nat × Nat)} (h : Bm w mb M) (p : Nat × Nat) (hp : p ∈ M) (hb : p.1 < 9223372036854775808) :
    (Instr.lookup 321 (.map (some mb)) (.int .i64 (p.1 : Int)) false).run Tryz.prog w = .ok (.pointer (some ⟨p.2, 0, none⟩)) w := by
  obtain ⟨D, ho, _, _, hat⟩ := h.ex
  obtain ⟨v, ps, hr, hv⟩ := ho.lookup keyed3 Tryz.underlying321 (zero86p w) ptrR_nil (key_of (b := p.1) hb)
  rw [(hat p hp).2] at hv
  rw [hr, ptrR_inv hv]

theorem Bm.miss {w : World} {mb : Nat} {M : List (Nat × Nat)} (h : Bm w mb M) (b : Nat) (hp : ∀ p ∈ M, ¬ p.1 = b) (hb : b < 9223372036854775808) :
    (Instr.lookup 321 (.map (some mb)) (.int .i64 (b : Int)) false).run Tryz.prog w = .ok (.pointer none) w := by
  obtain ⟨D, ho, _, hk, hat⟩ := h.ex
  obtain ⟨v, ps, hr, hv⟩ := ho.lookup keyed3 Tryz.underlying321 (zero86p w) ptrR_nil (key_of (b := b) hb)
  have hn : has D (key b) = false := by
    cases e : has D (key b) with
    | false => rfl
    | true =>
      obtain ⟨p, hm, e'⟩ := hk _ e
      exact absurd (key_inj e').symm (hp p hm)
  rw [atKey_of_not_has hn] at hv
  rw [hr, ptrR_inv0 hv]

theorem Bm.update {w : World} {mb : Nat} {M : List (Nat × Nat)} (h : Bm w mb M) (b g : Nat) (hp : ∀ p ∈ M, ¬ p.1 = b) (hb : b < 9223372036854775808) (hl : M.length < 2048) :
    ∃ w', (Instr.mapUpdate 321 (.map (some mb)) (.int .i64 (b : Int)) (.pointer (some ⟨g, 0, none⟩))).run Tryz.prog w = .ok () w' ∧ Bm w' mb (M ++ [(b, g)]) ∧ w.grownBy w' (some mb) := by
  obtain ⟨D, ho, hs, hk, hat⟩ := h.ex
  obtain ⟨w', hr, ho', hg⟩ := ho.update keyed3 Tryz.underlying321 (show size D < maxLen by unfold maxLen; omega) (key_of (b := b) hb) (ptrR_mk g)
  have hn : has D (key b) = false := by
    cases e : has D (key b) with
    | false => rfl
    | true =>
      obtain ⟨p, hm, e'⟩ := hk _ e
      exact absurd (key_inj e').symm (hp p hm)
  refine ⟨w', hr, ⟨⟨_, tight ho', ?_, ?_, ?_⟩, ?_, ?_⟩, hg⟩
  · rw [size_put (ho.tidy keyed3), hn]; simp; omega
  · intro x hx
    by_cases e : x = key b
    · exact ⟨(b, g), by simp, e⟩
    · rw [has_put_other e] at hx
      obtain ⟨p, hm, e'⟩ := hk x hx
      exact ⟨p, by simp [hm], e'⟩
  · intro p hm
    rcases List.mem_append.1 hm with hm | hm
    · have e : key p.1 ≠ key b := fun e => hp p hm (key_inj e)
      rw [has_put_other e, atKey_put_other e]
      exact hat p hm
    · simp at hm
      subst hm
      exact ⟨has_put_same ho.isMap (key_is b) _, atKey_put_same ho.isMap (key_is b) _ _⟩
  · rw [List.map_append, List.nodup_append]
    refine ⟨h.nd, by simp, ?_⟩
    intro a ha c hc e
    simp at hc
    obtain ⟨p, hm, rfl⟩ := List.mem_map.1 ha
    exact hp p hm (by omega)
  · simp; omega

theorem filter_miss {M : List (Nat × Nat)} {b : Nat} (h : ∀ p ∈ M, ¬ p.1 = b) : M.filter (fun p => !(p.1 == b)) = M := by
  rw [List.filter_eq_self]
  intro p hp
  simpa using h p hp
theorem filter_hit {M : List (Nat × Nat)} (hd : (M.map (·.1)).Nodup) {p : Nat × Nat} (hp : p ∈ M) : (M.filter (fun q => !(q.1 == p.1))).length + 1 = M.length := by
  induction M with
  | nil => cases hp
  | cons q M ih =>
    rw [List.map_cons, List.nodup_cons] at hd
    by_cases e : q.1 = p.1
    · have hno : ∀ r ∈ M, ¬ r.1 = p.1 := fun r hm e2 => hd.1 (List.mem_map.2 ⟨r, hm, by rw [e2, e]⟩)
      rw [List.filter_cons, filter_miss hno]
      simp [e]
    · have hp' : p ∈ M := by
        rcases List.mem_cons.1 hp with h | h
        · subst h; exact absurd rfl e
        · exact h
      have ih := ih hd.2 hp'
      rw [List.filter_cons]
      have hb : (!(q.1 == p.1)) = true := by simpa using e
      rw [if_pos hb, List.length_cons, List.length_cons]
      omega

open Classical in
theorem Bm.delete {w : World} {mb : Nat} {M : List (Nat × Nat)} (h : Bm w mb M) (b : Nat) (hb : b < 9223372036854775808) (ty : TypeId) :
    ∃ w', (Builtin.delete_ #[321, 3] ty #[.map (some mb), .int .i64 (b : Int)]).run Tryz.prog w = .ok (.tuple #[]) w' ∧ Bm w' mb (M.filter (fun p => !(p.1 == b))) ∧ w.grownBy w' (some mb) := by
  obtain ⟨D, ho, hs, hk, hat⟩ := h.ex
  obtain ⟨w', hr, ho', hg⟩ := ho.drop keyed3 Tryz.underlying321 (key_of (b := b) hb) ty
  refine ⟨w', hr, ⟨⟨_, tight ho', ?_, ?_, ?_⟩, ?_, ?_⟩, hg.grown⟩
  · have hsz := size_del (k := key b) (ho.tidy keyed3)
    by_cases e : ∃ p ∈ M, p.1 = b
    · obtain ⟨p, hm, rfl⟩ := e
      rw [if_pos (hat p hm).1] at hsz
      have hfl := filter_hit h.nd hm
      omega
    · have hn : ¬ has D (key b) = true := fun hh => by
        obtain ⟨p, hm, e'⟩ := hk _ hh
        exact e ⟨p, hm, (key_inj e').symm⟩
      rw [if_neg hn] at hsz
      rw [filter_miss (fun p hm e2 => e ⟨p, hm, e2⟩)]
      omega
  · intro x hx
    by_cases e : x = key b
    · subst e
      rw [has_del_same] at hx
      cases hx
    · rw [has_del_other e] at hx
      obtain ⟨p, hm, e'⟩ := hk x hx
      refine ⟨p, List.mem_filter.2 ⟨hm, ?_⟩, e'⟩
      have : ¬ p.1 = b := fun e2 => e (by rw [e', e2])
      simpa using this
  · intro p hm
    obtain ⟨hm, hne⟩ := List.mem_filter.1 hm
    have e : key p.1 ≠ key b := fun e => by
      have := key_inj e
      simp [this] at hne
    rw [has_del_other e, atKey_del_other e]
    exact hat p hm
  · exact List.Nodup.sublist ((List.filter_sublist).map _) h.nd
  · have := List.length_filter_le (fun p : Nat × Nat => !(p.1 == b)) M
    have := h.sm
    omega
end Go.Proofs.YthdlpeejmmobmaaGreat
