/- fore.Blocks: an image of bytes. -/
import Derived.Test.YtknklopohdmncaaFF
namespace Go.Proofs.Ytknklopohdmncaa
open Go.RowKit Go.Shelf
attribute [local go_sem] Oper.semAt_some

theorem own_abides {W W' : World} {row : Option Nat} (hg : W.grownBy W' row) (hr : ∀ r, row = some r → ∃ o : Obj, W.heap[r]? = some o ∧ o.isCells = false) {B : Nat} {e : TypeId} {s : Nat} {v : Value} {n : Nat} {L : List Value} (h : W.ownsRow B e s v n L) : W'.ownsRow B e s v n L := by
  refine ownsRow_kept h (fun k hk => hg.block k (h.lt k hk).2 (fun e' => ?_))
  obtain ⟨o, ho, hc⟩ := hr k e'.symm
  rcases h.2 with ⟨rfl, _⟩ | ⟨g, cap, cur, rfl, _, hgk, _⟩
  · cases hk
  · cases hk
    rw [hgk] at ho
    cases ho
    cases hc

/-- What has been made of the image while the blocks that have come are pre. -/
def FI (w : World) (xs : List Int) (m : Nat) (pre : List (Fin m)) (W : World) : Prop :=
  ∃ v vs, Boxed W w.heap.size 23 v ∧ PI (w.heap.size + 3) W v pre.length vs (pre.map (fun k => ch xs k.1)) ∧ w.heap.size + 3 ≤ W.heap.size

theorem fi_own (w : World) (xs : List Int) (m B : Nat) : OwnFrom B (FI w xs m) := by
  intro s W W' row h hg hr
  have hr' : ∀ r, row = some r → ∃ o : Obj, W.heap[r]? = some o ∧ o.isCells = false := fun r e => (hr r e).2
  obtain ⟨v, vs, hv, hp, hz⟩ := h
  refine ⟨v, vs, hv.kept hg (fun e => ?_), ⟨own_abides hg hr' hp.row, hp.len, fun i u ys hu hy => ?_, hp.ne⟩, Nat.le_trans hz hg.size⟩
  · obtain ⟨o, ho, hc⟩ := hr' _ e.symm
    rw [show W.heap[w.heap.size]? = _ from hv] at ho
    cases ho
    cases hc
  · obtain ⟨q, n, d, e, ho, hm, hb⟩ := hp.el i u ys hu hy
    exact ⟨q, n, d, e, own_abides hg hr' ho, hm, hb⟩

theorem PI.abides {W W' : World} {row : Option Nat} (hg : W.grownBy W' row) (hr : ∀ r, row = some r → ∃ o : Obj, W.heap[r]? = some o ∧ o.isCells = false) {B : Nat} {v : Value} {n : Nat} {vs : List Value} {L : List (List Int)} (hp : PI B W v n vs L) : PI B W' v n vs L :=
  ⟨own_abides hg hr hp.row, hp.len, fun i u ys hu hy => by
    obtain ⟨q, n, d, e, ho, hm, hb⟩ := hp.el i u ys hu hy
    exact ⟨q, n, d, e, own_abides hg hr ho, hm, hb⟩, hp.ne⟩

theorem own_base {w : World} {B B' : Nat} {e : TypeId} {s : Nat} {v : Value} {n : Nat} {L : List Value} (h : w.ownsRow B e s v n L) (hB : B' ≤ B) : w.ownsRow B' e s v n L := by
  refine ⟨h.1, ?_⟩
  rcases h.2 with h' | ⟨g', cap', cur, h', hbg, rest⟩
  · exact .inl h'
  · exact .inr ⟨g', cap', cur, h', by omega, rest⟩

theorem PI.base {B B' : Nat} {w : World} {v : Value} {n : Nat} {vs : List Value} {L : List (List Int)} (h : PI B w v n vs L) (hB : B' ≤ B) : PI B' w v n vs L :=
  ⟨own_base h.row hB, h.len, fun i u ys hu hy => by
    obtain ⟨q, n, d, e, ho, hm, hb⟩ := h.el i u ys hu hy
    exact ⟨q, n, d, e, own_base ho hB, hm, hb⟩, h.ne⟩

theorem stepIn_append_run {F : Fence} {n : Nat} {P : Program} {o : Oper} {a : Act} {w : World} {K : Act → World → Prop} {Q : Exit → Act → World → Prop} (s x : Operand) (t t' : TypeId)
    (hop : o.op = .call { callee := .builtin .append, args := #[s, x], argTypes := #[t, t'] }) (v u : Value) (hs : a.eval s = v) (hx : a.eval x = u) {v' : Value} {w' : World}
    (hr : (Builtin.append_ #[t, t'] o.type #[v, u]).run P w = .ok v' w') (h : K (a.put o.dst v') w') : Oper.wpIn F n P o a w K Q := by
  unfold Oper.wpIn
  refine ⟨?_, ?_⟩
  · simp [Oper.about, hop, resolve, Target.leads, Sem.run_pure]
  · rw [Oper.semAt_plain F _ _ (by rw [hop]; intro c hc'; cases hc')]
    simp [execOp, hop, resolve, invoke, builtin, hs, hx, hr, Result.andThen]
    exact h

/-- What a round leaves. -/
def Left (w : World) (xs : List Int) (m : Nat) (pre : List (Fin m)) (W w4 : World) : Prop :=
  KeepsFrom (w.heap.size + 3) W w4 ∧ Kb (w.heap.size + 1) (w.heap.size + 1 + 1) W w4 ∧ FI w xs m pre w4 ∧ Below w.heap.size w w4

theorem round_facts {w W w1 : World} {xs : List Int} {m : Nat} {pre : List (Fin m)} {x : Fin m} {v : Value} {vs : List Value} {p1 : Option Addr} {c1 : Nat}
    (hv : Boxed W w.heap.size 23 v) (hp : PI (w.heap.size + 3) W v pre.length vs (pre.map (fun k => ch xs k.1))) (hsz : w.heap.size + 3 ≤ W.heap.size) (hB : Below w.heap.size w W)
    (ho1 : w1.ownsRow W.heap.size 5 1 (.slice p1 128 c1) 128 ((ch xs x.1).map (Value.int .u8))) (hb1 : Below W.heap.size W w1) (hlen : pre.length < 2048) (hx : Num.Byt (ch xs x.1)) (ty : TypeId) :
    ∃ g cap w3, (Builtin.append_ #[23, 23] ty #[v, .slice (some ⟨w1.heap.size, 0, none⟩) 1 1]).run Try.prog (w1.alloc (.cells #[.slice p1 128 c1] 22)) = .ok (.slice (some ⟨g, 0, none⟩) (pre.length + 1) cap) w3 ∧
      w3.cell? ⟨w.heap.size, 0, none⟩ = some v ∧ w3.frozen? ⟨w.heap.size, 0, none⟩ = false ∧ Left w xs m (pre ++ [x]) W (w3.setCell ⟨w.heap.size, 0, none⟩ (.slice (some ⟨g, 0, none⟩) (pre.length + 1) cap)) := by
  obtain ⟨i9, hi9, hx0, hx1, hx2⟩ := info_parts info22
  have hp1 := hp.kept (w' := w1) (fun k _ hk => hb1.block k hk)
  have hb2 := (Below.refl w1.heap.size w1).alloc (Nat.le_refl _) (.cells #[.slice p1 128 c1] 22)
  have hp2 := hp1.kept (w' := w1.alloc (.cells #[.slice p1 128 c1] 22)) (fun k _ hk => hb2.block k hk)
  have hnews : ∀ i u, [Value.slice p1 128 c1][i]? = some u → (w1.alloc (.cells #[.slice p1 128 c1] 22)).cell? ((⟨w1.heap.size, 0, none⟩ : Addr).add i) = some u := World.news_of_block (cs := #[Value.slice p1 128 c1]) (t := 22) (fr := (0, 0)) (at_new rfl)
  have hone : ∀ u ∈ [Value.slice p1 128 c1], u.oneCell' = true := by intro u hu; simp at hu; subst hu; rfl
  have hs1 := hb1.size
  obtain ⟨v3, w3, hrun, hown3, hgrow3, _⟩ := run_append_own (P := Try.prog) (w1.alloc (.cells #[.slice p1 128 c1] 22)) (w.heap.size + 3) 23 ty 22 i9 (.slice none 0 0) 1 24 Try.underlying23 hi9 hx0 hx1 hx2 rfl (by decide) v pre.length vs hp2.row ⟨w1.heap.size, 0, none⟩ 1 1 [Value.slice p1 128 c1] rfl hnews hone (by unfold maxLen; omega) (by omega) (by simp only [World.size_alloc]; omega)
  obtain ⟨g, cap, rfl⟩ := ownsRow_succ hown3
  have hnr : ∀ k, v.ownBlock = some k → w.heap.size + 3 ≤ k := fun k hk => (hp.row.lt k hk).1
  have hv1 : Boxed w1 w.heap.size 23 v := (hb1.block _ hv.lt).trans hv
  have hv3 : Boxed w3 w.heap.size 23 v := (hv1.alloc _).kept hgrow3 (fun e => by have := hnr _ e.symm; omega)
  obtain ⟨w4, hw4⟩ : ∃ w4, w3.setCell ⟨w.heap.size, 0, none⟩ (.slice (some ⟨g, 0, none⟩) (pre.length + 1) cap) = w4 := ⟨_, rfl⟩
  have hv4 : Boxed w4 w.heap.size 23 (.slice (some ⟨g, 0, none⟩) (pre.length + 1) cap) := by rw [← hw4]; exact hv3.set _
  have f1 : Frame (fun k => k = w.heap.size ∨ v.ownBlock = some k) W w1 := frame_of_below hb1
  have f2 : Frame (fun k => k = w.heap.size ∨ v.ownBlock = some k) w1 (w1.alloc (.cells #[.slice p1 128 c1] 22)) := frame_of_below hb2
  have f3 : Frame (fun k => k = w.heap.size ∨ v.ownBlock = some k) (w1.alloc (.cells #[.slice p1 128 c1] 22)) w3 := frame_of_grown hgrow3 (fun k hk => .inr hk)
  have f4 : Frame (fun k => k = w.heap.size ∨ v.ownBlock = some k) w3 w4 := by rw [← hw4]; exact Frame.setCell _ _ (.inl rfl)
  have f := ((f1.trans f2).trans f3).trans f4
  have hother : ∀ k, k ≠ w.heap.size → w4.heap[k]? = w3.heap[k]? := fun k hk => by rw [← hw4]; exact Below.heap_setCell w3 _ _ k hk
  have hown4 : w4.ownsRow (w.heap.size + 3) 22 1 (.slice (some ⟨g, 0, none⟩) (pre.length + 1) cap) (pre.length + 1) (vs ++ [.slice p1 128 c1]) := ownsRow_kept hown3 (fun k hk => hother k (by have := (hown3.lt k hk).1; omega))
  have hkeep : ∀ (u' : Value) (l : Nat) (Lx : List Value), w1.ownsRow (w.heap.size + 3) 5 1 u' l Lx → w4.ownsRow (w.heap.size + 3) 5 1 u' l Lx := fun u' l Lx ho => by
    have ho2 := ownsRow_kept ho (w' := w1.alloc (.cells #[.slice p1 128 c1] 22)) (fun k hk => hb2.block k (ho.lt k hk).2)
    have ho3 := ownsRow_kept ho2 (w' := w3) (fun k hk => hgrow3.block k (ho2.lt k hk).2 (fun e => owns_ne ho2 hp2.row (by decide) hk e.symm))
    exact ownsRow_kept ho3 (fun k hk => hother k (by have := (ho3.lt k hk).1; omega))
  have hP := hp.snoc hp1 hsz ho1 (by omega) hx hkeep hown4
  refine ⟨g, cap, w3, hrun, hv3.cell, hv3.frozen, ?_⟩
  rw [hw4]
  refine ⟨⟨f.size, fun k o hk ho hc => ?_⟩, ⟨f.block _ (by omega) ?_, f.block _ (by omega) ?_⟩, ⟨_, vs ++ [.slice p1 128 c1], hv4, ?_, Nat.le_trans hsz f.size⟩, hB.trans (f.below hB.size ?_)⟩
  · rw [← ho]
    refine f.block k (Array.getElem?_eq_some_iff.1 ho).1 ?_
    rintro (e | e)
    · omega
    · rcases hp.row.2 with ⟨e', _⟩ | ⟨g', cap', cur, e', _, hgk, _⟩
      · rw [e'] at e; cases e
      · rw [e'] at e; cases e
        rw [hgk] at ho
        cases ho
        cases hc
  · rintro (e | e)
    · omega
    · have := hnr _ e; omega
  · rintro (e | e)
    · omega
    · have := hnr _ e; omega
  · have e1 : (pre ++ [x]).length = pre.length + 1 := by simp
    have e2 : (pre ++ [x]).map (fun k => ch xs k.1) = pre.map (fun k => ch xs k.1) ++ [ch xs x.1] := by simp
    rw [e1, e2]
    exact hP
  · rintro k (e | e)
    · omega
    · have := hnr _ e; omega

theorem chs_fin (xs : List Int) (m : Nat) : (List.finRange m).map (fun k => ch xs k.1) = chs xs m := by
  apply List.ext_getElem
  · simp [chs]
  · intro i h1 h2
    simp [chs]

set_option maxRecDepth 100000 in
set_option maxHeartbeats 2000000 in
theorem fblocks_ok (b o n c m : Nat) (xs : List Int) (w : World) (h : BI w (some ⟨b, o, none⟩) n xs) (hm : n = 128 * m) (h1 : 1 ≤ m) (h2 : m ≤ 2048) (hc : n ≤ c) (hcm : c ≤ 9223372036854775807) :
    Calls Try.prog 5 #[.slice (some ⟨b, o, none⟩) n c] w fun e w' => ∃ v vs, e = .returned (.tuple #[v, .int .i64 0]) ∧ PI w.heap.size w' v m vs (chs xs m) ∧ Below w.heap.size w w' := by
  have h0I : ¬ (n : Int) = 0 := by omega
  have h1I : Int.tmod (n : Int) 128 = 0 := by rw [Int.tmod_eq_emod_of_nonneg (by omega)]; omega
  have h2I : ¬ (262144 : Int) < (n : Int) := by omega
  have hbq : ((n : Int) == 0) = false := by simpa using h0I
  have hn1 : 1 ≤ n := by omega
  have HM := (show Hid _ from hm)
  clear hm
  refine (callsIn_wide (n := 3)).1 ?_
  refine callsIn_of_wp_marks Try.func5 rfl trivial ?_ rfl
  simp only [Try.ntmps5, List.size_toArray, List.length_cons, List.length_nil, Nat.reduceAdd, Nat.reduceSub, Array.replicate_succ, Array.replicate_zero, List.push_toArray, List.append_toArray, List.nil_append, List.cons_append]
  gi_wp2_with (refine ⟨trivial, ?_⟩; gi_at_call 12; refine (callsIn_wide.2 (chunk_in _ _ _ _)).mono ?_; rintro e w' ⟨rfl, rfl⟩)
  obtain ⟨W0, hW0⟩ : ∃ W0, (((w.alloc (Obj.cells #[.slice none 0 0] 23)).alloc (Obj.cells #[.slice (some ⟨b, o, none⟩) n c] 22)).alloc (Obj.cells #[.int .i64 128] 3)) = W0 := ⟨_, rfl⟩
  have hsz : W0.heap.size = w.heap.size + 3 := by rw [← hW0]; simp
  have bO : Boxed W0 w.heap.size 23 (.slice none 0 0) := by rw [← hW0]; exact ((Boxed.new w 23 _).alloc _).alloc _
  have bS : Boxed W0 (w.heap.size + 1) 22 (.slice (some ⟨b, o, none⟩) n c) := by
    rw [← hW0]
    have := (Boxed.new (w.alloc (Obj.cells #[.slice none 0 0] 23)) 22 (.slice (some ⟨b, o, none⟩) n c)).alloc (Obj.cells #[.int .i64 128] 3)
    rwa [World.size_alloc] at this
  have bN : Boxed W0 (w.heap.size + 1 + 1) 3 (.int .i64 128) := by
    rw [← hW0]
    have := Boxed.new ((w.alloc (Obj.cells #[.slice none 0 0] 23)).alloc (Obj.cells #[.slice (some ⟨b, o, none⟩) n c] 22)) 3 (.int .i64 128)
    rwa [World.size_alloc, World.size_alloc] at this
  have hB0 : Below w.heap.size w W0 := by rw [← hW0]; exact (((Below.refl _ w).alloc (Nat.le_refl _) _).alloc (by simp) _).alloc (by simp; omega) _
  rw [hW0]
  clear hW0
  refine wpIn_rangeFunc_ownG rfl (by omega) (gf := 17) (lb := #[.pointer (some ⟨w.heap.size + 1, 0, none⟩), .pointer (some ⟨w.heap.size + 1 + 1, 0, none⟩)]) rfl trivial (enters_of Try.func17 (by kernel_rfl) rfl)
    (chunk_stops Fence.wide _ trivial rfl (by omega) (w.heap.size + 1) (w.heap.size + 1 + 1) b o n c m HM.out h2 hc hcm W0 (by omega) (by omega) bS.cell bN.cell) (fun h k => ⟨k.1.trans h.1, k.2.trans h.2⟩) (fun W l _ o' hl _ _ _ => ⟨World.putObj_heap_other (by omega), World.putObj_heap_other (by omega)⟩) (Below.refl _ _) (fun _ => rfl)
    (fun pre W => FI w xs m pre W ∧ Below w.heap.size w W)
    (fun _ _ _ => False)
    (OwnFrom.and (fi_own w xs m _) (ownFrom_below (Nat.le_refl _) (by omega)))
    (fun _ _ _ _ _ hs _ _ => hs)
    ⟨⟨_, [], bO, ⟨World.ownsRow_nil _ _ _ _, rfl, by simp, by simp⟩, by omega⟩, hB0⟩
    (fun x => { tmps := #[.slice (some ⟨b, o, none⟩) n c, undef, .slice none 0 0, .int .i64 0,
          .pointer (some ⟨w.heap.size, 0, none⟩), .slice (some ⟨b, o + 128 * x.1, none⟩) 128 128,
          .slice (some ⟨b, o, none⟩) n c, .int .i64 n, .bool false, .bool false,
          .slice (some ⟨b, o, none⟩) n c, .int .i64 n, .int .i64 0,
          .bool false, .bool false, .bool false, .slice (some ⟨b, o, none⟩) n c,
          .int .i64 n, .bool false, .bool false, .slice (some ⟨b, o, none⟩) n c,
          .func (Fn.func 17) #[]
            #[.pointer (some ⟨w.heap.size + 1, 0, none⟩),
              .pointer (some ⟨w.heap.size + 1 + 1, 0, none⟩)],
          .slice (some ⟨b, o + 128 * x.1, none⟩) 128 128, undef, undef, undef, undef, undef, undef], defers := [] }) ?assign ?body ?done ?stop
  case assign =>
    intro l x W K hK
    gi_wp2
    exact hK
  case body =>
    rintro l pre x W ⟨⟨v, vs, hv, hp, hsW⟩, hB⟩ hlt
    have hmx : Try.prog.follows .mixedOrders = true := by kernel_rfl
    have hbi := ((h.kept (w' := W.drew) ⟨hB.os, hB.tape, hB.output, hB.size, hB.block⟩)).piece x.1 (by have := HM.out; have := x.2; omega)
    have HC : Hid (CallsIn (Fence.wide.inRound l) 0 Try.prog 13 #[.slice (some ⟨b, o + 128 * x.1, none⟩) 128 128] W.drew fun e w1 => ∃ p1 c1, e = .returned (.slice p1 128 c1) ∧ (w1.cell? ⟨w.heap.size, 0, none⟩ = some v ∧ (w1.alloc (.cells #[.slice p1 128 c1] 22)).cell? ⟨w.heap.size, 0, none⟩ = some v ∧
        ∀ ty, ∃ g cap w3, (Builtin.append_ #[23, 23] ty #[v, .slice (some ⟨w1.heap.size, 0, none⟩) 1 1]).run Try.prog (w1.alloc (.cells #[.slice p1 128 c1] 22)) = .ok (.slice (some ⟨g, 0, none⟩) (pre.length + 1) cap) w3 ∧
      w3.cell? ⟨w.heap.size, 0, none⟩ = some v ∧ w3.frozen? ⟨w.heap.size, 0, none⟩ = false ∧ Left w xs m (pre ++ [x]) W (w3.setCell ⟨w.heap.size, 0, none⟩ (.slice (some ⟨g, 0, none⟩) (pre.length + 1) cap)))) := by
      refine (CallsIn.inRound l (callsIn_wide.2 (sclone_any _ 128 128 _ W.drew hbi))).mono ?_
      rintro e w1 ⟨v1, rfl, ho1, hb1⟩
      obtain ⟨p1, c1, rfl, _⟩ := row_case ho1
      have hb1' : Below W.heap.size W w1 := ⟨hb1.os, hb1.tape, hb1.output, hb1.size, hb1.block⟩
      have hv1 : Boxed w1 w.heap.size 23 v := (hb1'.block _ hv.lt).trans hv
      exact ⟨p1, c1, rfl, hv1.cell, (hv1.alloc _).cell, fun ty => round_facts hv hp hsW hB ho1 hb1' (by omega) hbi.byt ty⟩
    clear hbi
    gi_wp2
    refine wpIn_region_any hmx ?_
    try (change wpAnyIn _ _ _ _ _ _ _ _ _ (World.drew _))
    have hcd : W.drew.cell? ⟨w.heap.size, 0, none⟩ = some v := hv.cell
    refine wpAnyIn_ready (rs := [0, 1]) (by kernel_rfl) (by simp) ?_
    refine AllReadyIn.cons rfl (fun K hK => ?_) (AllReadyIn.cons rfl (fun K hK => ?_) AllReadyIn.nil)
    · go_simp
      refine hK _ _ ?_
      clear hK K
      refine wpAnyIn_ready (rs := [1]) (by kernel_rfl) (by simp) ?_
      refine AllReadyIn.cons rfl (fun K hK => ?_) AllReadyIn.nil
      go_simp
      refine hK _ _ ?_
      clear hK K
      refine wpAnyIn_ready (rs := [2]) (by kernel_rfl) (by simp) ?_
      refine AllReadyIn.cons rfl (fun K hK => ?_) AllReadyIn.nil
      go_simp
      refine ⟨trivial, HC.out.mono ?_⟩
      rintro e w1 ⟨p1, c1, rfl, hF⟩
      have hcb1 : w1.cell? ⟨w.heap.size, 0, none⟩ = some v := hF.1
      have hcb2 : (w1.alloc (.cells #[.slice p1 128 c1] 22)).cell? ⟨w.heap.size, 0, none⟩ = some v := hF.2.1
      have HR := (show Hid _ from hF.2.2)
      clear hF
      dsimp only
      refine hK _ _ ?_
      clear hK K
      refine wpAnyIn_ready (rs := [3]) (by kernel_rfl) (by simp) ?_
      refine AllReadyIn.cons rfl (fun K hK => ?_) AllReadyIn.nil
      go_simp
      refine hK _ _ ?_
      clear hK K
      refine wpAnyIn_ready (rs := [4]) (by kernel_rfl) (by simp) ?_
      refine AllReadyIn.cons rfl (fun K hK => ?_) AllReadyIn.nil
      rw [if_pos (by rfl)]
      obtain ⟨g, cap, w3, hrun, hcc, hff, hL⟩ := HR.out 23
      have HL := (show Hid _ from hL)
      clear hL
      refine stepIn_append_run (.tmp 23) (.tmp 26) 23 23 rfl _ _ rfl rfl hrun ?_
      refine hK _ _ ?_
      clear hK K
      refine wpAnyIn_ready (rs := [5]) (by kernel_rfl) (by simp) ?_
      refine AllReadyIn.cons rfl (fun K hK => ?_) AllReadyIn.nil
      simp only [Act.put, List.setIfInBounds_toArray]
      go_simp
      refine hK _ _ ?_
      clear hK K
      refine wpAnyIn_done (by kernel_rfl) ?_ _
      gi_wp2
      exact ⟨by rw [hsz]; exact HL.out.1, HL.out.2⟩
    · go_simp
      refine hK _ _ ?_
      clear hK K
      refine wpAnyIn_ready (rs := [0, 2]) (by kernel_rfl) (by simp) ?_
      refine AllReadyIn.cons rfl (fun K hK => ?_) (AllReadyIn.cons rfl (fun K hK => ?_) AllReadyIn.nil)
      · go_simp
        refine hK _ _ ?_
        clear hK K
        refine wpAnyIn_ready (rs := [2]) (by kernel_rfl) (by simp) ?_
        refine AllReadyIn.cons rfl (fun K hK => ?_) AllReadyIn.nil
        go_simp
        refine ⟨trivial, HC.out.mono ?_⟩
        rintro e w1 ⟨p1, c1, rfl, hF⟩
        have hcb1 : w1.cell? ⟨w.heap.size, 0, none⟩ = some v := hF.1
        have hcb2 : (w1.alloc (.cells #[.slice p1 128 c1] 22)).cell? ⟨w.heap.size, 0, none⟩ = some v := hF.2.1
        have HR := (show Hid _ from hF.2.2)
        clear hF
        dsimp only
        refine hK _ _ ?_
        clear hK K
        refine wpAnyIn_ready (rs := [3]) (by kernel_rfl) (by simp) ?_
        refine AllReadyIn.cons rfl (fun K hK => ?_) AllReadyIn.nil
        go_simp
        refine hK _ _ ?_
        clear hK K
        refine wpAnyIn_ready (rs := [4]) (by kernel_rfl) (by simp) ?_
        refine AllReadyIn.cons rfl (fun K hK => ?_) AllReadyIn.nil
        rw [if_pos (by rfl)]
        obtain ⟨g, cap, w3, hrun, hcc, hff, hL⟩ := HR.out 23
        have HL := (show Hid _ from hL)
        clear hL
        refine stepIn_append_run (.tmp 23) (.tmp 26) 23 23 rfl _ _ rfl rfl hrun ?_
        refine hK _ _ ?_
        clear hK K
        refine wpAnyIn_ready (rs := [5]) (by kernel_rfl) (by simp) ?_
        refine AllReadyIn.cons rfl (fun K hK => ?_) AllReadyIn.nil
        simp only [Act.put, List.setIfInBounds_toArray]
        go_simp
        refine hK _ _ ?_
        clear hK K
        refine wpAnyIn_done (by kernel_rfl) ?_ _
        gi_wp2
        exact ⟨by rw [hsz]; exact HL.out.1, HL.out.2⟩
      · go_simp
        refine ⟨trivial, HC.out.mono ?_⟩
        rintro e w1 ⟨p1, c1, rfl, hF⟩
        have hcb1 : w1.cell? ⟨w.heap.size, 0, none⟩ = some v := hF.1
        have hcb2 : (w1.alloc (.cells #[.slice p1 128 c1] 22)).cell? ⟨w.heap.size, 0, none⟩ = some v := hF.2.1
        have HR := (show Hid _ from hF.2.2)
        clear hF
        dsimp only
        refine hK _ _ ?_
        clear hK K
        refine wpAnyIn_ready (rs := [0, 3]) (by kernel_rfl) (by simp) ?_
        refine AllReadyIn.cons rfl (fun K hK => ?_) (AllReadyIn.cons rfl (fun K hK => ?_) AllReadyIn.nil)
        · go_simp
          refine hK _ _ ?_
          clear hK K
          refine wpAnyIn_ready (rs := [3]) (by kernel_rfl) (by simp) ?_
          refine AllReadyIn.cons rfl (fun K hK => ?_) AllReadyIn.nil
          go_simp
          refine hK _ _ ?_
          clear hK K
          refine wpAnyIn_ready (rs := [4]) (by kernel_rfl) (by simp) ?_
          refine AllReadyIn.cons rfl (fun K hK => ?_) AllReadyIn.nil
          rw [if_pos (by rfl)]
          obtain ⟨g, cap, w3, hrun, hcc, hff, hL⟩ := HR.out 23
          have HL := (show Hid _ from hL)
          clear hL
          refine stepIn_append_run (.tmp 23) (.tmp 26) 23 23 rfl _ _ rfl rfl hrun ?_
          refine hK _ _ ?_
          clear hK K
          refine wpAnyIn_ready (rs := [5]) (by kernel_rfl) (by simp) ?_
          refine AllReadyIn.cons rfl (fun K hK => ?_) AllReadyIn.nil
          simp only [Act.put, List.setIfInBounds_toArray]
          go_simp
          refine hK _ _ ?_
          clear hK K
          refine wpAnyIn_done (by kernel_rfl) ?_ _
          gi_wp2
          exact ⟨by rw [hsz]; exact HL.out.1, HL.out.2⟩
        · go_simp
          refine hK _ _ ?_
          clear hK K
          refine wpAnyIn_ready (rs := [0]) (by kernel_rfl) (by simp) ?_
          refine AllReadyIn.cons rfl (fun K hK => ?_) AllReadyIn.nil
          go_simp
          refine hK _ _ ?_
          clear hK K
          refine wpAnyIn_ready (rs := [4]) (by kernel_rfl) (by simp) ?_
          refine AllReadyIn.cons rfl (fun K hK => ?_) AllReadyIn.nil
          rw [if_pos (by rfl)]
          obtain ⟨g, cap, w3, hrun, hcc, hff, hL⟩ := HR.out 23
          have HL := (show Hid _ from hL)
          clear hL
          refine stepIn_append_run (.tmp 23) (.tmp 26) 23 23 rfl _ _ rfl rfl hrun ?_
          refine hK _ _ ?_
          clear hK K
          refine wpAnyIn_ready (rs := [5]) (by kernel_rfl) (by simp) ?_
          refine AllReadyIn.cons rfl (fun K hK => ?_) AllReadyIn.nil
          simp only [Act.put, List.setIfInBounds_toArray]
          go_simp
          refine hK _ _ ?_
          clear hK K
          refine wpAnyIn_done (by kernel_rfl) ?_ _
          gi_wp2
          exact ⟨by rw [hsz]; exact HL.out.1, HL.out.2⟩
  case done =>
    rintro D ys W hD rfl ⟨⟨v, vs, hv, hp, _⟩, hB⟩ hK
    have hc' := hv.cell
    gi_wp2
    refine ⟨by simp, .inl ⟨_, _, rfl, run_takeDeferred hK, ?_⟩⟩
    have hP : PI w.heap.size (W.putObj D (.deferred none)) v m vs (chs xs m) := by
      have := (hp.abides (grownBy_putObj' W D (.deferred none)) (fun r e => by cases e; exact ⟨_, hK, rfl⟩)).base (B' := w.heap.size) (by omega)
      rw [chs_fin] at this
      simpa using this
    exact ⟨_, results_tmp2 rfl _ _ _, v, vs, rfl, hP, hB.trans (belowK_b (w := w) (Nat.le_refl _) W D _ _ (by omega) hK rfl rfl)⟩
  case stop =>
    rintro D c pre W _ _ h _
    exact h.elim
end Go.Proofs.Ytknklopohdmncaa
