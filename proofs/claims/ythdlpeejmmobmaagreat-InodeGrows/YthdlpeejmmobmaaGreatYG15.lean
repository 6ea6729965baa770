/- PBack PUppm PApp -/
import Derived.Test.YthdlpeejmmobmaaGreatYG14
import Derived.Test.YthdlpeejmmobmaaGreatYG10
import Derived.RangeFuncNested
import Derived.RangeFuncBound
import Derived.RangeFuncCalls
import Derived.RangeFuncLeaves
import Derived.RangeFuncBox
import Derived.Shelf.Abstract
import Derived.Shelf.RegionOpen
import Derived.OwnWalkIn
import Derived.TacticsInMore
import Derived.LoopNIn
import Derived.LoopIn
import Derived.Test.YthdlpeejmmobmaaGreatYG11
import Derived.Test.YthdlpeejmmobmaaGreatYG12
import Derived.Deep.AppendSrc

namespace Go.Proofs.YthdlpeejmmobmaaGreat.Pt
open Go.RowKit Go.Shelf Go.Maps
set_option maxRecDepth 100000
set_option linter.unusedVariables false
attribute [local go_sem] Oper.semAt_some
def Kq (n₀ a b c : Nat) (W W' : World) : Prop := Below n₀ W W' ∧ W'.heap[a]? = W.heap[a]? ∧ W'.heap[b]? = W.heap[b]? ∧ W'.heap[c]? = W.heap[c]?
theorem Kq.refl (n₀ a b c : Nat) (W : World) : Kq n₀ a b c W W := ⟨Below.refl _ _, rfl, rfl, rfl⟩
theorem Kq.t {n₀ a b c : Nat} {A B C : World} (h : Kq n₀ a b c A B) (k : Kq n₀ a b c B C) : Kq n₀ a b c A C := ⟨h.1.trans k.1, k.2.1.trans h.2.1, k.2.2.1.trans h.2.2.1, k.2.2.2.trans h.2.2.2⟩
theorem Kq.b {n₀ a b c : Nat} {w : World} (h0 : n₀ ≤ w.heap.size) (ha : a < w.heap.size) (hb : b < w.heap.size) (hc : c < w.heap.size) (W : World) (l : Nat) (o o' : Obj) (hl : w.heap.size ≤ l) (hW : W.heap[l]? = some o) (h1 : o.isCells = false) (h2 : o.isWalk = false) : Kq n₀ a b c W (W.putObj l o') :=
 ⟨belowK_b h0 W l o o' hl hW h1 h2, World.putObj_heap_other (by omega), World.putObj_heap_other (by omega), World.putObj_heap_other (by omega)⟩
set_option maxRecDepth 100000 in
set_option maxHeartbeats 1000000 in
theorem back1_in {α : Type} (encs : α → Array Value) (ys : List α) (m l g g2 g3 n₀ : Nat) (hm : 1 ≤ m) (p : Option Addr) (n c : Nat) (zs : List Int) (hys : ys.length = n)
  (hen : ∀ (j : Nat) (x : α), ys[j]? = some x → encs x = #[.int .i64 ((n : Int) - 1 - (j : Int)), .int .i64 (zs.getD (n - 1 - j) 0)]) (J Jx : List α → World → Prop)
  (hY : ∀ pre x W, J pre W → pre.length < n → YieldAt Fence.wide (m - 1) Tryz.prog l (encs x) W fun e W' =>
   (e = .returned (.bool true) ∧ J (pre ++ [x]) W' ∧ Kq n₀ g g2 g3 W W') ∨ (e = .returned (.bool false) ∧ Jx (pre ++ [x]) W'))
  (W : World) (hg : Boxed W g 49 (.slice p n c)) (hrow : ∀ W', Below n₀ W W' → II W' p n zs) (h0 : J [] W) :
  CallsIn Fence.wide m Tryz.prog 304 #[.func (.yield l) #[] #[], .pointer (some ⟨g, 0, none⟩)] W fun e' W' => (∃ v, e' = .returned v) ∧
   ((∃ xs, xs = ys ∧ J xs W') ∨ (∃ pre : List α, (∃ r, ys = pre ++ r) ∧ Jx pre W')) := by
 have hl : zs.length = n := (hrow W (Below.refl _ _)).len
 have hbig := (hrow W (Below.refl _ _)).big
 have hcg := hg.cell
 refine callsIn_of_wp Tryz.func304 rfl trivial ?_ rfl
 simp only [Tryz.ntmps304, List.size_toArray, List.length_cons, List.length_nil, Nat.reduceAdd, Nat.reduceSub, Array.replicate_succ, Array.replicate_zero, List.push_toArray, List.append_toArray, List.nil_append, List.cons_append]
 gi_wp2
 gi_loopw [3] (fun i wr => ∃ (j : Nat), j ≤ n ∧ i = .int .i64 ((n : Int) - 1 - (j : Int)) ∧ Kq n₀ g g2 g3 W wr ∧ J (ys.take j) wr)
  (fun i _ => ((intOf i) + 1).toNat)
 case atStart => exact ⟨0, by omega, by simp, Kq.refl _ _ _ _ _, h0⟩
 case round =>
  obtain ⟨j, hj, rfl, hk, hJs⟩ := hrel
  have hg1 : Boxed wr g 49 (.slice p n c) := hk.2.1.trans hg
  have hcg1 := hg1.cell
  by_cases hlt : j < n
  ·obtain ⟨b1, o1, rfl, hc1⟩ := (hrow wr hk.1).cells (by omega)
   have e1 := hc1 (n - 1 - j) (by omega)
   obtain ⟨x, hxj⟩ : ∃ x, ys[j]? = some x := ⟨_, List.getElem?_eq_getElem (by omega)⟩
   have hx := hen j x hxj
   obtain ⟨fn, tmps, assign, body, hy, hR⟩ := hY (ys.take j) x wr hJs (by rw [List.length_take]; omega)
   obtain ⟨t, ht⟩ : ∃ t, t = n - 1 - j := ⟨_, rfl⟩
   have hti : (n : Int) - 1 - (j : Int) = (t : Int) := by omega
   rw [hx, hti, ← ht] at hy
   rw [← ht] at e1
   rw [hti]
   have HB : Hid (ys.take (j + 1) = ys.take j ++ [x]) := by show _ = _; rw [List.take_add_one, hxj]; rfl
   have HP : Hid (ys = (ys.take j ++ [x]) ++ ys.drop (j + 1)) := by show _ = _; rw [← HB.out, List.take_append_drop]
   have htn : (t : Int) < (n : Int) := by omega
   have ht0 : (0 : Int) ≤ (t : Int) := by omega
   have HT : Hid _ := ht
   clear hc1 hcg hY hrow hti ht hl hx hen hxj
   generalize zs.getD t 0 = y at *
   gi_wp2
   refine hR.mono ?_
   rintro e3 W3 (⟨rfl, hJ3, hk3⟩ | ⟨rfl, hJx3⟩)
   ·gi_wp2
    go_roundw
    case rel => exact ⟨j + 1, by omega, by have := HT.out; go_num, hk.t hk3, by rw [HB.out]; exact hJ3⟩
    case measure => have := HT.out; simp [intOf]
   ·gi_wp2
    refine bodyPost_ret (results_none rfl _ _ _) rfl ?_
    exact ⟨⟨_, rfl⟩, .inr ⟨_, ⟨_, HP.out⟩, hJx3⟩⟩
  ·obtain rfl : j = n := by omega
   have hm1 : (j : Int) - 1 - (j : Int) = -1 := by omega
   rw [hm1]
   rw [List.take_of_length_le (by omega)] at hJs
   gi_wp2
   go_end0
   exact ⟨⟨_, rfl⟩, .inl ⟨_, rfl, hJs⟩⟩
theorem back_stops {α : Type} (encs : α → Array Value) (ys : List α) (m g g2 g3 n₀ : Nat) (hm : 1 ≤ m) (p : Option Addr) (n c : Nat) (zs : List Int) (w : World) (hys : ys.length = n)
  (hen : ∀ (j : Nat) (x : α), ys[j]? = some x → encs x = #[.int .i64 ((n : Int) - 1 - (j : Int)), .int .i64 (zs.getD (n - 1 - j) 0)]) (hn : n₀ ≤ w.heap.size) (hg : Boxed w g 49 (.slice p n c)) (hrow : ∀ W', Below n₀ w W' → II W' p n zs) :
  SeqStopsK Fence.wide m Tryz.prog 304 #[.pointer (some ⟨g, 0, none⟩)] encs (Kq n₀ g g2 g3) (fun xs => xs = ys) (fun pre => ∃ r, ys = pre ++ r) n w := fun l J Jx W hW hJ _ hY h0 =>
 back1_in encs ys m l g g2 g3 n₀ hm p n c zs hys hen J Jx hY W ((hW.block g hg.lt).trans hg) (fun W' h => hrow W' ((hW.mono hn).trans h)) h0
set_option maxHeartbeats 400000 in
theorem backward_in (m : Nat) (hm : 1 ≤ m) (p : Option Addr) (n c : Nat) (w : World) :
  CallsIn Fence.wide m Tryz.prog 272 #[.slice p n c] w fun e w' => e = .returned (.func (.func 304) #[] #[.pointer (some ⟨w.heap.size, 0, none⟩)]) ∧ w' = w.alloc (.cells #[.slice p n c] 49) := by
 refine callsIn_of_wp Tryz.func272 rfl trivial ?_ rfl
 simp only [Tryz.ntmps272, List.size_toArray, List.length_cons, List.length_nil, Nat.reduceAdd, Nat.reduceSub, Array.replicate_succ, Array.replicate_zero, List.push_toArray, List.append_toArray, List.nil_append, List.cons_append]
 gi_wp2
 go_ret
 exact ⟨rfl, rfl⟩
theorem UP.rebase {T : Nat} {w0 w : World} {p : Pv} {gb gp gv gi : Nat} {iv : Value} {cov : List Bool} {bare : Int} {I : List Int} (h : UP T w0 w p gb gp gv gi iv cov bare I) : UP T w w p gb gp gv gi iv cov bare I :=
 ⟨Below.refl _ _, h.hT, Oth.refl _ _, h.rb, h.rp, h.rv, h.ri, h.cl, h.br, h.ids, h.lo⟩
theorem UP.back {T : Nat} {w0 w w' : World} {p : Pv} {gb gp gv gi : Nat} {iv iv' : Value} {cov cov' : List Bool} {bare bare' : Int} {I I' : List Int} (h : UP T w0 w p gb gp gv gi iv cov bare I) (k : UP T w w' p gb gp gv gi iv' cov' bare' I') : UP T w0 w' p gb gp gv gi iv' cov' bare' I' :=
 ⟨h.bel.trans k.bel, h.sz, h.oth.trans k.oth, k.rb, k.rp, k.rv, k.ri, k.cl, k.br, k.ids, k.lo⟩
theorem UP.own {T : Nat} {w0 A B : World} {p : Pv} {gb gp gv gi : Nat} {iv : Value} {cov : List Bool} {bare : Int} {I : List Int} {row : Option Nat} (h : UP T w0 A p gb gp gv gi iv cov bare I) (hg : A.grownBy B row)
  (hr : ∀ r, row = some r → w0.heap.size ≤ r ∧ ∃ o : Obj, A.heap[r]? = some o ∧ o.isCells = false) : UP T w0 B p gb gp gv gi iv cov bare I := by
 have hc : ∀ {k : Nat} {cs : Array Value} {t : TypeId} {fr : Nat × Nat}, A.heap[k]? = some (.cells cs t fr) → B.heap[k]? = some (.cells cs t fr) := fun {k cs t fr} hk => by
  rw [hg.block k (Array.getElem?_eq_some_iff.1 hk).1 (fun e => by
   obtain ⟨_, o, ho, hoc⟩ := hr k e.symm
   rw [hk] at ho
   cases ho
   cases hoc)]
  exact hk
 refine ⟨h.bel.grown hg h.hT (fun k hk => Nat.le_trans h.sz (hr k hk).1), h.sz, ⟨Nat.le_trans h.oth.1 hg.size, fun k o hk hn h3 h1 => ?_⟩, hc h.rb, hc h.rp, hc h.rv, hc h.ri, h.cl, h.br, ?_, h.lo⟩
 ·have hk2 := h.oth.2 k o hk hn h3 h1
  rw [hg.block k (Array.getElem?_eq_some_iff.1 hk2).1 (fun e => by
   have := (hr k e.symm).1
   have := (Array.getElem?_eq_some_iff.1 hk).1
   omega)]
  exact hk2
 ·refine h.ids.keptAt (fun g hg' => ?_)
  obtain ⟨ds, h3⟩ := nums_row h.ids hg'
  rw [hc h3, h3]
abbrev Hand (P : List Pv) : Type := { x : Int × Pv // x.2 ∈ P }
abbrev encH {P : List Pv} (x : Hand P) : Array Value := #[.int .i64 x.1.1, .int .i64 (x.1.2.id : Int)]
theorem hands_ex {P : List Pv} : ∀ (R : List Pv) (s : Int), (∀ u ∈ R, u ∈ P) → ∃ ys : List (Hand P), ys.map (fun x => x.1.2) = R ∧ ∀ (j : Nat) (x : Hand P), ys[j]? = some x → x.1.1 = s - (j : Int)
 | [], s, _ => ⟨[], rfl, fun j x h => by simp at h⟩
 | u :: R, s, h => by
  obtain ⟨ys, h1, h2⟩ := hands_ex R (s - 1) (fun v hv => h v (by simp [hv]))
  refine ⟨⟨(s, u), h u (by simp)⟩ :: ys, by simp [h1], fun j x hx => ?_⟩
  cases j with
  | zero =>
   simp only [List.getElem?_cons_zero, Option.some.injEq] at hx
   rw [← hx]; simp
  | succ j =>
   rw [List.getElem?_cons_succ] at hx
   rw [h2 j x hx]
   omega
theorem hands_enc {P : List Pv} {L : List Pv} {ys : List (Hand P)} (h1 : ys.map (fun x => x.1.2) = L.reverse) (h2 : ∀ (j : Nat) (x : Hand P), ys[j]? = some x → x.1.1 = (L.length : Int) - 1 - (j : Int)) (j : Nat) (x : Hand P) (hx : ys[j]? = some x) :
  encH x = #[.int .i64 ((L.length : Int) - 1 - (j : Int)), .int .i64 ((L.map (fun p => (p.id : Int))).getD (L.length - 1 - j) 0)] := by
 have e1 := h2 j x hx
 have e2 : L.reverse[j]? = some x.1.2 := by rw [← h1, List.getElem?_map, hx]; rfl
 have hl : j < L.length := by have := (List.getElem?_eq_some_iff.1 e2).1; simpa using this
 rw [List.getElem?_reverse hl] at e2
 unfold encH
 rw [e1, List.getD_eq_getElem?_getD, List.getElem?_map, e2]
 rfl
theorem keeps_oth {gi : Nat} {W W' : World} (h : Oth gi W W') {iv : Value} (hi : W.heap[gi]? = some (.cells #[iv] 49 (0, 0))) : KeepsOthers W W' :=
 ⟨h.1, fun k o hk ho => h.2 k o hk (fun e => by subst e; rw [hi] at hk; cases hk; cases ho) (fun cs e => by subst e; cases ho) (fun cs e => by subst e; cases ho)⟩
set_option maxRecDepth 100000 in
set_option maxHeartbeats 4000000 in
theorem eachBack_in {B : Nat} {w0 w : World} {a mp mb last : Nat} {P : List Pv} {K : Int → Option Value} (h0 : PS B w0 a mp mb last P K) {p : Pv} {gb gp gv gi : Nat} {iv : Value} {cov : List Bool} {bare : Int} (h : UP w0.heap.size w0 w p gb gp gv gi iv cov bare []) (hp : p.off + p.bs.length ≤ 128) (b : Int) (hb : I64 b) :
  CallsIn Fence.wide 6 Tryz.prog 215 #[.pointer (some ⟨a, 0, none⟩), .int .i64 b, .func (.func 216) #[] #[.pointer (some ⟨gb, 0, none⟩), .pointer (some ⟨gp, 0, none⟩), .pointer (some ⟨gv, 0, none⟩), .pointer (some ⟨gi, 0, none⟩)]] w
   fun e w' => e = .returned (.tuple #[]) ∧ ∃ iv' cov' bare', UP w0.heap.size w0 w' p gb gp gv gi iv' cov' bare' (uppF p (ofB P b).reverse (cov, bare) []) := by
 have hf92 : Fence.wide.fn 272 := trivial
 have hf87 : Fence.wide.fn 216 := trivial
 obtain ⟨q, c, hK, hii, hpl⟩ := h0.row_ii b hb
 obtain ⟨L, hL⟩ : ∃ L, L = ofB P b := ⟨_, rfl⟩
 have hmem : ∀ u ∈ L.reverse, u ∈ P := fun u hu => by rw [hL, List.mem_reverse] at hu; exact (List.mem_filter.1 hu).1
 rw [idsOf_eq, ← hL] at hii hK
 rw [← hL]
 obtain ⟨ys, hy1, hy2⟩ := hands_ex L.reverse ((L.length : Int) - 1) hmem
 have hyl : ys.length = L.length := by have := congrArg List.length hy1; simpa using this
 have hen := hands_enc hy1 hy2
 rw [List.length_map] at hii hK
 have hsm : L.length ≤ 10000 := by
  have h1 := h0.len
  have h2 := h0.sml
  have h3 : L.length ≤ P.length := by rw [hL]; exact List.length_filter_le _ _
  omega
 clear hL
 obtain ⟨n, hn⟩ : ∃ n, L.length = n := ⟨_, rfl⟩
 rw [hn] at hii hK hyl hen hsm
 have hS := fun W => backward_in 5 (by omega) q n c W
 -- the boxes
 obtain ⟨A1, hA1⟩ : ∃ A1, w.alloc (.cells #[.pointer (some ⟨a, 0, none⟩)] 94) = A1 := ⟨_, rfl⟩
 obtain ⟨A2, hA2⟩ : ∃ A2, A1.alloc (.cells #[.func (.func 216) #[] #[.pointer (some ⟨gb, 0, none⟩), .pointer (some ⟨gp, 0, none⟩), .pointer (some ⟨gv, 0, none⟩), .pointer (some ⟨gi, 0, none⟩)]] 333) = A2 := ⟨_, rfl⟩
 obtain ⟨A3, hA3⟩ : ∃ A3, A2.alloc (.cells #[.slice q n c] 49) = A3 := ⟨_, rfl⟩
 have s1 : A1.heap.size = w.heap.size + 1 := by rw [← hA1]; simp
 have s2 : A2.heap.size = w.heap.size + 1 + 1 := by rw [← hA2]; simp [s1]
 have s3 : A3.heap.size = w.heap.size + 1 + 1 + 1 := by rw [← hA3]; simp [s2]
 have b1 : Boxed A1 w.heap.size 94 (.pointer (some ⟨a, 0, none⟩)) := by rw [← hA1]; exact Boxed.new w 94 _
 have b2 : Boxed A2 (w.heap.size + 1) 333 (.func (.func 216) #[] #[.pointer (some ⟨gb, 0, none⟩), .pointer (some ⟨gp, 0, none⟩), .pointer (some ⟨gv, 0, none⟩), .pointer (some ⟨gi, 0, none⟩)]) := by rw [← hA2, ← s1]; exact Boxed.new A1 333 _
 have b3 : Boxed A3 (w.heap.size + 1 + 1) 49 (.slice q n c) := by rw [← hA3, ← s2]; exact Boxed.new A2 49 _
 have b1' : Boxed A2 w.heap.size 94 (.pointer (some ⟨a, 0, none⟩)) := by rw [← hA2]; exact b1.alloc _
 have b1'' : Boxed A3 w.heap.size 94 (.pointer (some ⟨a, 0, none⟩)) := by rw [← hA3]; exact b1'.alloc _
 have b2'' : Boxed A3 (w.heap.size + 1) 333 (.func (.func 216) #[] #[.pointer (some ⟨gb, 0, none⟩), .pointer (some ⟨gp, 0, none⟩), .pointer (some ⟨gv, 0, none⟩), .pointer (some ⟨gi, 0, none⟩)]) := by rw [← hA3]; exact b2.alloc _
 have hb2 : Below w.heap.size w A2 := by rw [← hA2, ← hA1]; exact ((Below.refl _ w).alloc (Nat.le_refl _) _).alloc (by simp) _
 have hb3 : Below w.heap.size w A3 := by rw [← hA3]; exact hb2.alloc (by rw [s2]; omega) _
 have hU2 := h.kept hb2
 have hU3 := h.kept hb3
 have c2 := (h0.kept hU2.bel).c2
 have hlook := (h0.kept hU2.bel).list b hb
 rw [hK] at hlook
 have cs := b1'.cell
 refine callsIn_of_wp_marks Tryz.func215 rfl trivial ?_ rfl
 simp only [Tryz.ntmps215, List.size_toArray, List.length_cons, List.length_nil, Nat.reduceAdd, Nat.reduceSub, Array.replicate_succ, Array.replicate_zero, List.push_toArray, List.append_toArray, List.nil_append, List.cons_append]
 gi_wp2_with (first | (gi_at_call 272; refine (hS _).mono ?_; rintro _ w3 ⟨rfl, rfl⟩))
 have hmix : Tryz.prog.follows .mixedOrders = true := by kernel_rfl
 have hrow3 : ∀ W', Below w0.heap.size A3 W' → II W' q n (L.map (fun p => (p.id : Int))) := fun W' h => hii.kept (hU3.bel.trans h)
 have hw0 := h.bel.size
 clear hS c2 hlook cs hU2 hb2 b1 b1' b2 hK hii hA1 hA2 hA3
 refine wpIn_rangeFunc_ownG rfl (by omega) (gf := 304) (lb := #[.pointer (some ⟨w.heap.size + 1 + 1, 0, none⟩)]) rfl trivial (enters_of Tryz.func304 (by kernel_rfl) rfl)
  (back_stops encH ys 5 (w.heap.size + 1 + 1) w.heap.size (w.heap.size + 1) w0.heap.size (by omega) q n c (L.map (fun p => (p.id : Int))) A3 hyl hen (by omega) b3 hrow3) (fun h k => h.t k) (Kq.b (by omega) (by omega) (by omega) (by omega)) (Below.refl _ _) (fun _ => rfl)
  (fun pre W => (Boxed W w.heap.size 94 (.pointer (some ⟨a, 0, none⟩)) ∧ Boxed W (w.heap.size + 1) 333 (.func (.func 216) #[] #[.pointer (some ⟨gb, 0, none⟩), .pointer (some ⟨gp, 0, none⟩), .pointer (some ⟨gv, 0, none⟩), .pointer (some ⟨gi, 0, none⟩)]) ∧ Boxed W (w.heap.size + 1 + 1) 49 (.slice q n c)) ∧
   ∃ iv' cov' bare' I', UP w0.heap.size w0 W p gb gp gv gi iv' cov' bare' I' ∧ I'.length ≤ pre.length ∧ ∀ l, uppF p (pre.map (fun x => x.1.2) ++ l) (cov, bare) [] = uppF p l (cov', bare') I')
  (fun cd pre W => cd = .ret ∧ ∃ iv' cov' bare' I', UP w0.heap.size w0 W p gb gp gv gi iv' cov' bare' I' ∧ ∀ l, uppF p (pre.map (fun x => x.1.2) ++ l) (cov, bare) [] = I')
  ?own ?ownx ⟨⟨b1'', b2'', b3⟩, iv, cov, bare, [], hU3, by simp, fun l => rfl⟩
  (fun x => { tmps := #[.pointer (some ⟨a, 0, none⟩), .int .i64 b, .func (.func 216) #[] #[.pointer (some ⟨gb, 0, none⟩), .pointer (some ⟨gp, 0, none⟩), .pointer (some ⟨gv, 0, none⟩), .pointer (some ⟨gi, 0, none⟩)], .pointer (some ⟨w.heap.size, 0, none⟩), undef, .pointer (some ⟨w.heap.size + 1, 0, none⟩), undef, .int .i64 (x.1.2.id : Int), .pointer (some ⟨a, 0, none⟩), .pointer (some ⟨a, 0, none⟩), .pointer (some ⟨a, 2, none⟩), .map (some mb), .int .i64 b, .slice q n c, .func (.func 304) #[] #[.pointer (some ⟨w.heap.size + 1 + 1, 0, none⟩)], .int .i64 x.1.1, .int .i64 (x.1.2.id : Int), undef, undef, undef, undef, undef, undef, undef, undef, undef], defers := [] }) ?assign ?body ?done ?stop
 case own =>
  rintro pre A B row ⟨⟨k1, k2, k3⟩, iv', cov', bare', I', hU, hl, hF⟩ hg hr
  have hne : ∀ {k : Nat} {t : TypeId} {v : Value}, Boxed A k t v → some k ≠ row := fun {k t v} hk e => by
   obtain ⟨_, o, ho, hc⟩ := hr k e.symm
   rw [show A.heap[k]? = _ from hk] at ho
   cases ho
   cases hc
  exact ⟨⟨k1.kept hg (hne k1), k2.kept hg (hne k2), k3.kept hg (hne k3)⟩, iv', cov', bare', I', hU.own hg (fun r e => ⟨by have := (hr r e).1; omega, (hr r e).2⟩), hl, hF⟩
 case ownx =>
  rintro cd pre A B row ⟨rfl, iv', cov', bare', I', hU, hF⟩ hg hr
  exact ⟨rfl, iv', cov', bare', I', hU.own hg (fun r e => ⟨by have := (hr r e).1; omega, (hr r e).2⟩), hF⟩
 case assign =>
  intro l x W K hK
  gi_wp2
  exact hK
 case body =>
  rintro l pre x W ⟨⟨k1, k2, k3⟩, iv', cov', bare', I', hU, hl, hF⟩ hlt
  have hps := h0.kept hU.bel
  have hid := hps.ids x.1.2 x.2
  have hsml := hps.sml
  have c1 := hps.c1
  have hgt := hps.get (x.1.2.id : Int) ⟨by omega, by omega⟩
  rw [fP_mem hps.srt x.2] at hgt
  have hgt' : (Instr.lookup 212 (.map (some mp)) (.int .i64 (x.1.2.id : Int)) false).run Tryz.prog W.drew = .ok x.1.2.v W.drew := by
   have := (hps.kept ((Below.refl _ _).drew)).get (x.1.2.id : Int) ⟨by omega, by omega⟩
   rw [fP_mem hps.srt x.2] at this
   exact this
  have hcall := upp1_ok (hU.rebase.kept ((Below.refl _ _).drew)) x.1.2 hid.2.2.2.2 (by omega) hp (by omega)
  have cc1 : W.drew.cell? ⟨w.heap.size, 0, none⟩ = _ := k1.cell
  have cc2 : W.drew.cell? ⟨w.heap.size + 1, 0, none⟩ = _ := k2.cell
  have cc3 : W.drew.cell? ⟨a, 1, none⟩ = _ := c1
  have HF : Hid _ := hF
  have hl2 := upI_len p x.1.2 (cov', bare') I'
  have fin : ∀ (iv2 : Value) (W' : World), UP w0.heap.size W W' p gb gp gv gi iv2 (upS p x.1.2 (cov', bare')).1 (upS p x.1.2 (cov', bare')).2 (upI p x.1.2 (cov', bare') I') →
    KeepsFrom A3.heap.size W W' ∧ Kq w0.heap.size (w.heap.size + 1 + 1) w.heap.size (w.heap.size + 1) W W' ∧ (Boxed W' w.heap.size 94 (.pointer (some ⟨a, 0, none⟩)) ∧ Boxed W' (w.heap.size + 1) 333 (.func (.func 216) #[] #[.pointer (some ⟨gb, 0, none⟩), .pointer (some ⟨gp, 0, none⟩), .pointer (some ⟨gv, 0, none⟩), .pointer (some ⟨gi, 0, none⟩)]) ∧ Boxed W' (w.heap.size + 1 + 1) 49 (.slice q n c)) ∧
    UP w0.heap.size w0 W' p gb gp gv gi iv2 (upS p x.1.2 (cov', bare')).1 (upS p x.1.2 (cov', bare')).2 (upI p x.1.2 (cov', bare') I') := fun iv2 W' hV => by
   have hgi : gi < w.heap.size := (Array.getElem?_eq_some_iff.1 h.ri).1
   have j1 := hV.oth.2 _ _ k1 (by omega) (by simp) (by simp)
   have j2 := hV.oth.2 _ _ k2 (by omega) (by simp) (by simp)
   have j3 := hV.oth.2 _ _ k3 (by omega) (by simp) (by simp)
   exact ⟨(keeps_oth hV.oth hU.ri).from _, ⟨hV.bel, j3.trans k3.symm, j1.trans k1.symm, j2.trans k2.symm⟩, ⟨j1, j2, j3⟩, hU.back hV⟩
  have hb1 : x.1.2.v = .agg x.1.2.cells := rfl
  obtain ⟨t, ht⟩ : ∃ t, t = decide (0 < (upS p x.1.2 (cov', bare')).2) := ⟨_, rfl⟩
  rw [← ht] at hcall
  obtain ⟨Φ, hΦ⟩ : ∃ Φ : World → Prop, Φ = fun W' => ownPostG A3.heap.size (Kq w0.heap.size (w.heap.size + 1 + 1) w.heap.size (w.heap.size + 1))
   (fun pre W => (Boxed W w.heap.size 94 (.pointer (some ⟨a, 0, none⟩)) ∧ Boxed W (w.heap.size + 1) 333 (.func (.func 216) #[] #[.pointer (some ⟨gb, 0, none⟩), .pointer (some ⟨gp, 0, none⟩), .pointer (some ⟨gv, 0, none⟩), .pointer (some ⟨gi, 0, none⟩)]) ∧ Boxed W (w.heap.size + 1 + 1) 49 (.slice q n c)) ∧
    ∃ iv' cov' bare' I', UP w0.heap.size w0 W p gb gp gv gi iv' cov' bare' I' ∧ I'.length ≤ pre.length ∧ ∀ l, uppF p (pre.map (fun x => x.1.2) ++ l) (cov, bare) [] = uppF p l (cov', bare') I')
   (fun cd pre W => cd = .ret ∧ ∃ iv' cov' bare' I', UP w0.heap.size w0 W p gb gp gv gi iv' cov' bare' I' ∧ ∀ l, uppF p (pre.map (fun x => x.1.2) ++ l) (cov, bare) [] = I')
   (pre ++ [x]) W (if t then .normal else .ret) { tmps := #[], defers := [] } W' := ⟨_, rfl⟩
  have hcall2 : Calls Tryz.prog 216 #[x.1.2.v, .pointer (some ⟨gb, 0, none⟩), .pointer (some ⟨gp, 0, none⟩), .pointer (some ⟨gv, 0, none⟩), .pointer (some ⟨gi, 0, none⟩)] W.drew fun e w' => e = .returned (.bool t) ∧ Φ w' := by
   refine hcall.mono ?_
   rintro _ W2 ⟨rfl, iv2, hV⟩
   refine ⟨rfl, ?_⟩
   obtain ⟨f1, f2, f3, f4⟩ := fin iv2 W2 hV
   rw [hΦ]
   by_cases hpos : 0 < (upS p x.1.2 (cov', bare')).2
   ·rw [decide_eq_true hpos] at ht
    subst ht
    refine ⟨f1, f2, f3, iv2, _, _, _, f4, by simp; omega, fun l => ?_⟩
    rw [List.map_append, List.append_assoc, hF]
    show uppF p (x.1.2 :: l) _ _ = _
    rw [uppF, if_pos hpos]
   ·rw [decide_eq_false hpos] at ht
    subst ht
    refine ⟨f1, rfl, iv2, _, _, _, f4, fun l => ?_⟩
    rw [List.map_append, List.append_assoc, hF]
    show uppF p (x.1.2 :: l) _ _ = _
    rw [uppF, if_neg hpos]
  have HX : Hid _ := hΦ
  clear hcall fin HF hl2 ht hΦ hF hU hl hlt hps hid c1 hgt k1 k2 k3 hmem hy1 hy2 hen hrow3 b1'' b2'' b3 hU3 h h0 hsml hsm hyl hn s1 s2 s3 hb3 hw0 hp hpl hb
  rw [hb1] at hcall2 hgt'
  clear hb1
  generalize x.1.2.cells = uc at *
  generalize (x.1.2.id : Int) = ui at *
  gi_wp2_with fail
  gi_region_with_o (gi_at_call 216; refine (CallsIn.inRound l (callsIn_wide.2 hcall2)).mono ?_; rintro _ W2 ⟨rfl, hV⟩)
  all_goals
   rw [HX.out] at hV
   cases t with
   | true => gi_wp2; exact hV
   | false => gi_wp2; exact hV
 case done =>
  rintro D xs W hD rfl ⟨⟨k1, k2, k3⟩, iv', cov', bare', I', hU, hl, hF⟩ hK
  have hF' := hF []
  rw [List.append_nil, hy1] at hF'
  have HR : Hid _ := hF'
  gi_wp2
  refine ⟨by simp, .inl ⟨_, _, rfl, run_takeDeferred hK, ?_⟩⟩
  refine ⟨_, results_none rfl _ _ _, rfl, iv', cov', bare', ?_⟩
  rw [HR.out]
  exact hU.own (grownBy_putObj' _ D (.deferred none)) (fun r e => by cases e; exact ⟨by omega, _, hK, rfl⟩)
 case stop =>
  rintro D cd pre W hD ⟨r, hr⟩ ⟨rfl, iv', cov', bare', I', hU, hF⟩ hK
  have hF' := hF (r.map (fun x => x.1.2))
  rw [← List.map_append, ← hr, hy1] at hF'
  have HR : Hid _ := hF'
  gi_wp2
  refine ⟨by simp, .inl ⟨_, _, rfl, run_takeDeferred hK, ?_⟩⟩
  refine ⟨_, results_none rfl _ _ _, rfl, iv', cov', bare', ?_⟩
  rw [HR.out]
  exact hU.own (grownBy_putObj' _ D (.deferred none)) (fun r e => by cases e; exact ⟨by omega, _, hK, rfl⟩)
end Go.Proofs.YthdlpeejmmobmaaGreat.Pt

namespace Go.Proofs.YthdlpeejmmobmaaGreat.Pt
open Go.RowKit Go.Maps
set_option maxRecDepth 100000
set_option linter.unusedVariables false
theorem zc106 : Tryz.zeroCells330 = covA cov0 := by kernel_rfl
set_option maxRecDepth 100000 in
set_option maxHeartbeats 4000000 in
theorem uppermost_ok {B : Nat} {w : World} {a mp mb last : Nat} {P : List Pv} {K : Int → Option Value} (h : PS B w a mp mb last P K) (p : Pv) (hp : p.off + p.bs.length ≤ 128) (hb : p.blk ≤ 9223372036854775807) :
  Calls Tryz.prog 127 #[.pointer (some ⟨a, 0, none⟩), p.v] w fun e w' => ∃ v, e = .returned v ∧ Nums w.heap.size w' v (uppL P p) ∧ Below w.heap.size w w' := by
 obtain ⟨A1, hA1⟩ : ∃ A1, w.alloc (.cells p.cells 218) = A1 := ⟨_, rfl⟩
 obtain ⟨A2, hA2⟩ : ∃ A2, A1.alloc (.cells #[.slice none 0 0] 49) = A2 := ⟨_, rfl⟩
 obtain ⟨A3, hA3⟩ : ∃ A3, A2.alloc (.cells Tryz.zeroCells330 330) = A3 := ⟨_, rfl⟩
 obtain ⟨A4, hA4⟩ : ∃ A4, A3.alloc (.cells #[.int .i64 (p.bs.length : Int)] 3) = A4 := ⟨_, rfl⟩
 have s1 : A1.heap.size = w.heap.size + 1 := by rw [← hA1]; simp
 have s2 : A2.heap.size = w.heap.size + 1 + 1 := by rw [← hA2]; simp [s1]
 have s3 : A3.heap.size = w.heap.size + 1 + 1 + 1 := by rw [← hA3]; simp [s2]
 have s4 : A4.heap.size = w.heap.size + 1 + 1 + 1 + 1 := by rw [← hA4]; simp [s3]
 have r1 : A1.heap[w.heap.size]? = some (.cells p.cells 218 (0, 0)) := by rw [← hA1]; exact at_new rfl
 have r2 : A2.heap[w.heap.size + 1]? = some (.cells #[.slice none 0 0] 49 (0, 0)) := by rw [← hA2]; exact at_new s1.symm
 have r3 : A3.heap[w.heap.size + 1 + 1]? = some (.cells (covA cov0) 330 (0, 0)) := by rw [← hA3, ← zc106]; exact at_new s2.symm
 have r4 : A4.heap[w.heap.size + 1 + 1 + 1]? = some (.cells #[.int .i64 (p.bs.length : Int)] 3 (0, 0)) := by rw [← hA4]; exact at_new s3.symm
 have r1' : A3.heap[w.heap.size]? = some (.cells p.cells 218 (0, 0)) := by rw [← hA3, ← hA2]; exact at_old (at_old r1)
 have b3 : Below w.heap.size w A3 := by rw [← hA3, ← hA2, ← hA1]; exact (((Below.refl _ w).alloc (Nat.le_refl _) _).alloc (by simp) _).alloc (by simp; omega) _
 have b4 : Below w.heap.size w A4 := by rw [← hA4]; exact b3.alloc (by rw [s3]; omega) _
 have h0 : trs cov0 = 0 := trs_rep 128
 have hU : UP w.heap.size w A4 p (w.heap.size + 1 + 1 + 1) w.heap.size (w.heap.size + 1 + 1) (w.heap.size + 1) (.slice none 0 0) cov0 (p.bs.length : Int) [] :=
  ⟨b4, Nat.le_refl _, oth_below b4, r4, by rw [← hA4]; exact at_old r1', by rw [← hA4]; exact at_old r3, by rw [← hA4, ← hA3]; exact at_old (at_old r2), List.length_replicate, by rw [h0]; simp, Nums.nil _ _, by omega⟩
 have hcall := callsIn_wide.1 (eachBack_in h hU hp (p.blk : Int) ⟨by omega, by omega⟩)
 have c3 : A3.cell? ⟨w.heap.size, 3, none⟩ = some (.slice p.bp p.bs.length p.bc) := (cells5 r1').2.2.2.1
 have c1 : A4.cell? ⟨w.heap.size, 1, none⟩ = some (.int .i64 (p.blk : Int)) := (cells5 hU.rp).2.1
 have hv : p.v = .agg p.cells := rfl
 have HL : Hid (uppL P p = uppF p (ofB P (p.blk : Int)).reverse (cov0, (p.bs.length : Int)) []) := rfl
 clear hU r1 r2 r3 r4 r1' b3 b4 h0 s4 h
 go_enter Tryz.func127, Tryz.ntmps127
 go_wp2_with (first | (go_at_call 215; refine hcall.mono ?_; rintro _ w5 ⟨rfl, iv', cov', bare', hU5⟩; have c5 : w5.cell? ⟨w.heap.size + 1, 0, none⟩ = some iv' := (by rw [cell_of_row _ _ 0 _ 49 _ hU5.ri]; rfl)))
 go_ret
 refine ⟨iv', rfl, ?_, hU5.bel⟩
 rw [HL.out]
 exact hU5.ids.base (by omega)
end Go.Proofs.YthdlpeejmmobmaaGreat.Pt

namespace Go.Proofs.YthdlpeejmmobmaaGreat.Pt
open Go.RowKit Go.Maps
set_option maxRecDepth 100000
set_option linter.unusedVariables false
theorem run_append_none (v : Value) {w : World} {B n : Nat} {xs : List Value} (h : w.ownsRow B 3 1 v n xs) (c : Nat) (ty : TypeId) : (Builtin.append_ #[49, 49] ty #[v, .slice none 0 c]).run Tryz.prog w = .ok v w := by
 obtain ⟨i0, hi, hz0, hz1, hz2⟩ := info_parts info3
 have hs := Src.ofNil (P := Tryz.prog) w (size := 1) Tryz.underlying49 c
 rcases h.2 with ⟨rfl, _⟩ | ⟨g, cap, cur, rfl, _, _, h1, _⟩
 ·simp [Builtin.append_, run_underlying Tryz.underlying49, sizeOf, typeInfo, hi, hz1, hs.cells, Builtin.lenOf]
 ·have := run_append_room_src (P := Tryz.prog) w 49 49 ty 3 i0 Tryz.underlying49 hi g 0 n cap (.slice none 0 c) 0 [] (by rw [hz1]; exact hs) (by omega) (fun j hj => by simp at hj) (fun j hj => by simp at hj)
  rw [this]
  rfl
theorem nums_append {B B2 : Nat} {w : World} {v1 v2 : Value} {A C : List Int} (h1 : Nums B w v1 A) (h2 : Nums B2 w v2 C) (hB : B ≤ w.heap.size) (hl : (A.length + C.length) * 8 ≤ 140737488355328) (ty : TypeId) :
  ∃ v' w', (Builtin.append_ #[49, 49] ty #[v1, v2]).run Tryz.prog w = .ok v' w' ∧ Nums B w' v' (A ++ C) ∧ w.grownBy w' v1.ownBlock ∧ (v'.ownBlock = v1.ownBlock ∨ v'.ownBlock = some w.heap.size) := by
 obtain ⟨i0, hi, hz0, hz1, hz2⟩ := info_parts info3
 rcases h2.2 with ⟨rfl, h0⟩ | ⟨g, cap, cur, e, hBg, hg, hn, hm, hc, ht⟩
 ·have : C = [] := List.length_eq_zero_iff.1 h0
  subst this
  exact ⟨v1, w, run_append_none v1 h1 0 ty, by rw [List.append_nil]; exact h1, World.grownBy.refl _ _, .inl rfl⟩
 ·subst e
  have hcell : ∀ j u, (C.map (Value.int .i64))[j]? = some u → w.cell? ((⟨g, 0, none⟩ : Addr).add j) = some u := fun j u hu => by
   have hj : j < C.length := by have := (List.getElem?_eq_some_iff.1 hu).1; simpa using this
   have := World.ownsRow.cellAt h2 j (by omega)
   have e : (⟨g, 0, none⟩ : Addr).add j = ⟨g, j, none⟩ := by unfold Addr.add; split <;> simp_all
   rw [e, this]; exact hu
  obtain ⟨v', w', hr, ho, hgr, _, hb⟩ := run_append_own_at (P := Tryz.prog) w B 49 ty 3 i0 (.int .i64 0) 1 8 Tryz.underlying49 hi hz0 hz1 hz2 rfl (by decide) v1 A.length (A.map (Value.int .i64)) h1 ⟨g, 0, none⟩ C.length cap (C.map (Value.int .i64)) (by simp) hcell (fun u hu => by obtain ⟨x, _, rfl⟩ := List.mem_map.1 hu; rfl) (by unfold maxLen; omega) (by omega) hB
  refine ⟨v', w', hr, ?_, hgr, hb⟩
  unfold Nums
  rw [List.length_append, List.map_append]
  exact ho
theorem wp_append {P : Program} {o : Oper} {a : Act} {w w' : World} {K : Act → World → Prop} {Q : Exit → Act → World → Prop} {t u : TypeId} (s x : Operand) (ho : o.op = .call { callee := .builtin .append, args := #[s, x], argTypes := #[t, u] }) {v1 v2 v' : Value}
  (hs : a.eval s = v1) (hx : a.eval x = v2) (hr : (Builtin.append_ #[t, u] o.type #[v1, v2]).run P w = .ok v' w') (h : K (a.put o.dst v') w') : o.wp P a w K Q := by
 unfold Oper.wp execOp
 simp only [ho, resolve, invoke, builtin, Sem.run_bind, Sem.run_pure, Result.andThen_ok, List.map_toArray, List.map_cons, List.map_nil, hs, hx, hr]
 exact h
def Sit (p p' : Pv) : Prop := p.blk = p'.blk ∧ p.off = p'.off ∧ p.bs = p'.bs
theorem sit_upS {p p' : Pv} (h : Sit p p') (u : Pv) (s : List Bool × Int) : upS p u s = upS p' u s := by
 unfold upS kP loP endP
 rw [h.2.1, h.2.2]
theorem sit_upI {p p' : Pv} (h : Sit p p') (u : Pv) (s : List Bool × Int) (I : List Int) : upI p u s I = upI p' u s I := by
 unfold upI
 rw [sit_upS h]
theorem sit_uppF {p p' : Pv} (h : Sit p p') : ∀ (l : List Pv) (s : List Bool × Int) (I : List Int), uppF p l s I = uppF p' l s I
 | [], _, _ => rfl
 | u :: l, s, I => by
  unfold uppF
  rw [sit_upS h, sit_upI h, sit_uppF h l]
theorem sit_uppL {p p' : Pv} (h : Sit p p') (P : List Pv) : uppL P p = uppL P p' := by
 unfold uppL
 rw [sit_uppF h, h.1, h.2.2]
end Go.Proofs.YthdlpeejmmobmaaGreat.Pt
