/- crash.Images. -/
import Derived.Test.YtemhhgpgpjiijaaFC
namespace Go.Proofs.Ytemhhgpgpjiijaa
open Go.RowKit Go.Shelf
set_option linter.unusedVariables false
attribute [local go_sem] Oper.semAt_some

theorem sb_nodup (ns : List Int) (hd : ∀ i j, i < ns.length → j < ns.length → ns.getD i 0 = ns.getD j 0 → i = j) (K : Nat) : ∀ n, n ≤ ns.length → (sb ns K n).Nodup
  | 0, _ => List.nodup_nil
  | n + 1, hn => by
    have ih := sb_nodup ns hd K n (by omega)
    have hh := sb_has ns hd K n (by omega) n (by omega)
    rw [sb]
    split
    · rw [List.nodup_append]
      refine ⟨ih, by simp, fun x hx y hy e => ?_⟩
      rw [List.mem_singleton] at hy
      rw [e, hy] at hx
      have := (hh.1 hx).1
      omega
    · simpa using ih

theorem info22 : (Try.prog.info? 22).map (fun i => (i.zero, i.size, i.bytes)) = some (some (.slice none 0 0), 1, 24) := by kernel_rfl

theorem stepIn_append_run {F : Fence} {n : Nat} {P : Program} {o : Oper} {a : Act} {w : World} {K : Act → World → Prop} {Q : Exit → Act → World → Prop} (s x : Operand) (t t' : TypeId)
    (hop : o.op = .call { callee := .builtin .append, args := #[s, x], argTypes := #[t, t'] }) (v u : Value) (hs : a.eval s = v) (hx : a.eval x = u) {v' : Value} {w' : World}
    (hr : (Builtin.append_ #[t, t'] o.type #[v, u]).run P w = .ok v' w') (h : K (a.put o.dst v') w') : Oper.wpIn F n P o a w K Q := by
  unfold Oper.wpIn
  refine ⟨?_, ?_⟩
  · simp [Oper.about, hop, resolve, Target.leads, Sem.run_pure]
  · rw [Oper.semAt_plain F _ _ (by rw [hop]; intro c hc'; cases hc')]
    simp [execOp, hop, resolve, invoke, builtin, hs, hx, hr, Result.andThen]
    exact h

/-- An image's value. -/
def iv (g N : Nat) : Value := .slice (some ⟨g, 0, none⟩) N N

/-- The images that were made while the sets that have come are pre. -/
structure FI (w : World) (U N a : Nat) (S : St) (ns : List Int) (pre : List (Nat × Value)) (W : World) : Prop where
  ex : ∃ v0 vs, Boxed W (w.heap.size + 1) 31 v0 ∧ W.ownsRow U 22 1 v0 pre.length vs ∧ ∀ (i : Nat) (x : Nat × Value), pre[i]? = some x → ∃ g gs, vs[i]? = some (iv g N) ∧ Img U W g N gs (S.cr (sb ns x.1 ns.length)).f
  bd : Boxed W w.heap.size 25 (.pointer (some ⟨a, 0, none⟩))
  bl : Below w.heap.size w W
  sz : U ≤ W.heap.size

theorem Img.abides {W W' : World} {row : Option Nat} (hg : W.grownBy W' row) (hr : ∀ r, row = some r → ∃ o : Obj, W.heap[r]? = some o ∧ o.isCells = false) {B g n : Nat} {gs : List Nat} {L : Nat → List Int} (h : Img B W g n gs L) : Img B W' g n gs L :=
  ⟨own_abides hg hr h.row, fun i hi => own_abides hg hr (h.el i hi)⟩

theorem boxed_abides {W W' : World} {row : Option Nat} (hg : W.grownBy W' row) (hr : ∀ r, row = some r → ∃ o : Obj, W.heap[r]? = some o ∧ o.isCells = false) {b : Nat} {t : TypeId} {v : Value} (h : Boxed W b t v) : Boxed W' b t v :=
  h.kept hg (fun e => by
    obtain ⟨o, ho, hc⟩ := hr _ e.symm
    rw [show W.heap[b]? = _ from h] at ho
    cases ho
    cases hc)

theorem fi_own (w : World) (U N a B : Nat) (S : St) (ns : List Int) (hB : w.heap.size ≤ B) : OwnFrom B (FI w U N a S ns) := by
  intro s W W' row h hg hr
  have hr' : ∀ r, row = some r → ∃ o : Obj, W.heap[r]? = some o ∧ o.isCells = false := fun r e => (hr r e).2
  obtain ⟨v0, vs, hv, hrow, hel⟩ := h.ex
  refine ⟨⟨v0, vs, boxed_abides hg hr' hv, own_abides hg hr' hrow, fun i x hx => ?_⟩, boxed_abides hg hr' h.bd, ?_, Nat.le_trans h.sz hg.size⟩
  · obtain ⟨g, gs, hgv, him⟩ := hel i x hx
    exact ⟨g, gs, hgv, him.abides hg hr'⟩
  · exact ownFrom_below (β := Unit) (Nat.le_refl _) hB () W W' row h.bl hg hr

/-- What a round leaves. -/
def Left (w : World) (U N a H : Nat) (S : St) (ns : List Int) (pre : List (Nat × Value)) (W w4 : World) : Prop :=
  KeepsFrom U W w4 ∧ Kr (w.heap.size + 2) (H + 3) W w4 ∧ FI w U N a S ns pre w4

theorem round_facts {w W w1 : World} {U N a H : Nat} {S : St} {ns : List Int} {pre : List (Nat × Value)} {x : Nat × Value} {v0 : Value} {vs : List Value} {g : Nat} {gs : List Nat} (hU : w.heap.size + 2 ≤ U) (hH : H + 3 ≤ U)
    (hv : Boxed W (w.heap.size + 1) 31 v0) (hrow : W.ownsRow U 22 1 v0 pre.length vs) (hel : ∀ (i : Nat) (x : Nat × Value), pre[i]? = some x → ∃ g gs, vs[i]? = some (iv g N) ∧ Img U W g N gs (S.cr (sb ns x.1 ns.length)).f)
    (hbd : Boxed W w.heap.size 25 (.pointer (some ⟨a, 0, none⟩))) (hbl : Below w.heap.size w W) (hsz : U ≤ W.heap.size)
    (him : Img W.heap.size w1 g N gs (S.cr (sb ns x.1 ns.length)).f) (hb1 : Below W.heap.size W w1) (hlen : pre.length < 4096) (ty : TypeId) :
    ∃ g' cap w3, (Builtin.append_ #[31, 31] ty #[v0, .slice (some ⟨w1.heap.size, 0, none⟩) 1 1]).run Try.prog (w1.alloc (.cells #[iv g N] 22)) = .ok (.slice (some ⟨g', 0, none⟩) (pre.length + 1) cap) w3 ∧
      w3.cell? ⟨w.heap.size + 1, 0, none⟩ = some v0 ∧ w3.frozen? ⟨w.heap.size + 1, 0, none⟩ = false ∧ Left w U N a H S ns (pre ++ [x]) W (w3.setCell ⟨w.heap.size + 1, 0, none⟩ (.slice (some ⟨g', 0, none⟩) (pre.length + 1) cap)) := by
  obtain ⟨i9, hi9, hx0, hx1, hx2⟩ := info_parts info22
  have hrow1 := ownsRow_kept hrow (w' := w1) (fun k hk => hb1.block k (hrow.lt k hk).2)
  have hb2 := (Below.refl w1.heap.size w1).alloc (Nat.le_refl _) (.cells #[iv g N] 22)
  have hrow2 := ownsRow_kept hrow1 (w' := w1.alloc (.cells #[iv g N] 22)) (fun k hk => hb2.block k (hrow1.lt k hk).2)
  have hnews : ∀ i u, [iv g N][i]? = some u → (w1.alloc (.cells #[iv g N] 22)).cell? ((⟨w1.heap.size, 0, none⟩ : Addr).add i) = some u := World.news_of_block (cs := #[iv g N]) (t := 22) (fr := (0, 0)) (at_new rfl)
  have hone : ∀ u ∈ [iv g N], u.oneCell' = true := by intro u hu; rw [List.mem_singleton] at hu; subst hu; rfl
  have hs1 := hb1.size
  obtain ⟨v3, w3, hrun, hown3, hgrow3, _⟩ := run_append_own (P := Try.prog) (w1.alloc (.cells #[iv g N] 22)) U 31 ty 22 i9 (.slice none 0 0) 1 24 Try.underlying31 hi9 hx0 hx1 hx2 rfl (by decide) v0 pre.length vs hrow2 ⟨w1.heap.size, 0, none⟩ 1 1 [iv g N] rfl hnews hone (by unfold maxLen; omega) (by omega) (by simp only [World.size_alloc]; omega)
  obtain ⟨g', cap, rfl⟩ := ownsRow_succ hown3
  have hnr : ∀ k, v0.ownBlock = some k → U ≤ k := fun k hk => (hrow.lt k hk).1
  have hv1 : Boxed w1 (w.heap.size + 1) 31 v0 := (hb1.block _ hv.lt).trans hv
  have hv3 : Boxed w3 (w.heap.size + 1) 31 v0 := (hv1.alloc _).kept hgrow3 (fun e => by have := hnr _ e.symm; omega)
  have hd1 : Boxed w1 w.heap.size 25 (.pointer (some ⟨a, 0, none⟩)) := (hb1.block _ hbd.lt).trans hbd
  have hd3 : Boxed w3 w.heap.size 25 (.pointer (some ⟨a, 0, none⟩)) := (hd1.alloc _).kept hgrow3 (fun e => by have := hnr _ e.symm; omega)
  obtain ⟨w4, hw4⟩ : ∃ w4, w3.setCell ⟨w.heap.size + 1, 0, none⟩ (.slice (some ⟨g', 0, none⟩) (pre.length + 1) cap) = w4 := ⟨_, rfl⟩
  have hv4 : Boxed w4 (w.heap.size + 1) 31 (.slice (some ⟨g', 0, none⟩) (pre.length + 1) cap) := by rw [← hw4]; exact hv3.set _
  have hd4 : Boxed w4 w.heap.size 25 (.pointer (some ⟨a, 0, none⟩)) := by rw [← hw4]; exact hd3.other (by omega) _
  have f1 : Frame (fun k => k = w.heap.size + 1 ∨ v0.ownBlock = some k) W w1 := frame_of_below hb1
  have f2 : Frame (fun k => k = w.heap.size + 1 ∨ v0.ownBlock = some k) w1 (w1.alloc (.cells #[iv g N] 22)) := frame_of_below hb2
  have f3 : Frame (fun k => k = w.heap.size + 1 ∨ v0.ownBlock = some k) (w1.alloc (.cells #[iv g N] 22)) w3 := frame_of_grown hgrow3 (fun k hk => .inr hk)
  have f4 : Frame (fun k => k = w.heap.size + 1 ∨ v0.ownBlock = some k) w3 w4 := by rw [← hw4]; exact Frame.setCell _ _ (.inl rfl)
  have f := ((f1.trans f2).trans f3).trans f4
  have hother : ∀ k, k ≠ w.heap.size + 1 → w4.heap[k]? = w3.heap[k]? := fun k hk => by rw [← hw4]; exact Below.heap_setCell w3 _ _ k hk
  have hown4 : w4.ownsRow U 22 1 (.slice (some ⟨g', 0, none⟩) (pre.length + 1) cap) (pre.length + 1) (vs ++ [iv g N]) := ownsRow_kept hown3 (fun k hk => hother k (by have := (hown3.lt k hk).1; omega))
  have hkeep : ∀ {e s : Nat} {u' : Value} {l : Nat} {Lx : List Value}, w1.ownsRow U e s u' l Lx → e ≠ 22 → w4.ownsRow U e s u' l Lx := fun ho hne => by
    have ho2 := ownsRow_kept ho (w' := w1.alloc (.cells #[iv g N] 22)) (fun k hk => hb2.block k (ho.lt k hk).2)
    have ho3 := ownsRow_kept ho2 (w' := w3) (fun k hk => hgrow3.block k (ho2.lt k hk).2 (fun e => owns_ne ho2 hrow2 hne hk e.symm))
    exact ownsRow_kept ho3 (fun k hk => hother k (by have := (ho3.lt k hk).1; omega))
  have hik : ∀ {g : Nat} {gs : List Nat} {f : Nat → List Int}, Img U w1 g N gs f → Img U w4 g N gs f := fun h => ⟨hkeep h.row (by decide), fun i hi => hkeep (h.el i hi) (by decide)⟩
  have hvl : vs.length = pre.length := by have := hrow.1; simpa using this
  refine ⟨g', cap, w3, hrun, hv3.cell, hv3.frozen, ?_⟩
  rw [hw4]
  refine ⟨⟨f.size, fun k o hk ho hc => ?_⟩, ⟨f.size, fun k h1 h2 => ?_⟩, ⟨⟨_, vs ++ [iv g N], hv4, ?_, ?_⟩, hd4, hbl.trans (f.below hbl.size ?_), Nat.le_trans hsz f.size⟩⟩
  · rw [← ho]
    refine f.block k (Array.getElem?_eq_some_iff.1 ho).1 ?_
    rintro (e | e)
    · omega
    · rcases hrow.2 with ⟨e', _⟩ | ⟨g2, cap2, cur2, e', _, hgk, _⟩
      · rw [e'] at e; cases e
      · rw [e'] at e; cases e
        rw [hgk] at ho
        cases ho
        cases hc
  · refine f.block k (by omega) ?_
    rintro (e | e)
    · omega
    · have := hnr _ e; omega
  · have e1 : (pre ++ [x]).length = pre.length + 1 := by simp
    rw [e1]
    exact hown4
  · intro i y hy
    by_cases hi : i < pre.length
    · rw [List.getElem?_append_left hi] at hy
      obtain ⟨g2, gs2, h1, h2⟩ := hel i y hy
      refine ⟨g2, gs2, by rw [List.getElem?_append_left (by omega)]; exact h1, hik (h2.kept (fun k _ hk => hb1.block k hk))⟩
    · rw [List.getElem?_append_right (by omega)] at hy
      have h0 : i - pre.length = 0 := by have := (List.getElem?_eq_some_iff.1 hy).1; simpa using this
      rw [h0] at hy
      simp at hy
      subst hy
      refine ⟨g, gs, by rw [List.getElem?_append_right (by omega), hvl, h0]; rfl, hik (him.base hsz)⟩
  · rintro k (e | e)
    · omega
    · have := hnr _ e; omega

set_option maxRecDepth 100000 in
set_option maxHeartbeats 8000000 in
theorem images_ok {B : Nat} {w : World} {a mb fb : Nat} {qv : Value} {S : St} (h : DI B w a mb fb qv S) (most : Int) (hd : ∀ i j, i < (S.q.map Wr.id).length → j < (S.q.map Wr.id).length → (S.q.map Wr.id).getD i 0 = (S.q.map Wr.id).getD j 0 → i = j) :
    Calls Try.prog 7 #[.pointer (some ⟨a, 0, none⟩), .int .i64 most] w fun e w' => ∃ v vs, e = .returned v ∧ w'.ownsRow w.heap.size 22 1 v (mst most S.q.length) vs ∧
      (∀ k, k < mst most S.q.length → ∃ g gs, vs[k]? = some (iv g S.N) ∧ Img w.heap.size w' g S.N gs (S.cr (sb (S.q.map Wr.id) k S.q.length)).f) ∧ Below w.heap.size w w' := by
  obtain ⟨W1, hW1⟩ : ∃ W1, (w.alloc (.cells #[.pointer (some ⟨a, 0, none⟩)] 25)).alloc (.cells #[.slice none 0 0] 31) = W1 := ⟨_, rfl⟩
  have hb1 : Below w.heap.size w W1 := by rw [← hW1]; exact ((Below.refl _ w).alloc (Nat.le_refl _) _).alloc (by simp) _
  have hs1 : W1.heap.size = w.heap.size + 2 := by rw [← hW1]; simp
  have hbx : Boxed W1 (w.heap.size + 1) 31 (.slice none 0 0) := by
    rw [← hW1]
    have := Boxed.new (w.alloc (.cells #[.pointer (some ⟨a, 0, none⟩)] 25)) 31 (.slice none 0 0)
    rwa [World.size_alloc] at this
  have hbd : Boxed W1 w.heap.size 25 (.pointer (some ⟨a, 0, none⟩)) := by
    rw [← hW1]
    exact (Boxed.new w 25 _).alloc _
  have hcd := hbd.cell
  have hC := (callsIn_wide (n := 6)).2 (sets_ok2 (h.later hb1) most)
  have hf : Fence.wide.fn 26 := trivial
  refine (callsIn_wide (n := 7)).1 ?_
  refine callsIn_of_wp_marks Try.func7 rfl trivial ?_ rfl
  simp only [Try.ntmps7, List.size_toArray, List.length_cons, List.length_nil, Nat.reduceAdd, Nat.reduceSub, Array.replicate_succ, Array.replicate_zero, List.push_toArray, List.append_toArray, List.nil_append, List.cons_append]
  gi_wp2_with (first | (gi_at_call 26; refine hC.mono ?_; rintro e w2 ⟨H, p, c, rfl, hx, hI, hp, hH, hs, hb⟩))
  rw [hs1] at hp hH hb
  have hbw : Below w.heap.size w w2 := hb1.trans (hb.mono (by omega))
  have hbx2 : Boxed w2 (w.heap.size + 1) 31 (.slice none 0 0) := (hb.block _ (by omega)).trans hbx
  have hbd2 : Boxed w2 w.heap.size 25 (.pointer (some ⟨a, 0, none⟩)) := (hb.block _ (by omega)).trans hbd
  have hq64 := h.q64
  have hlm : (S.q.map Wr.id).length = S.q.length := by simp
  have HWK : Hid (Walks Fence.wide 6 Try.prog 57 #[.pointer (some ⟨H + 1, 0, none⟩), .pointer (some ⟨H + 1 + 1, 0, none⟩), .pointer (some ⟨H, 0, none⟩)] (fun x : Nat × Value => #[x.2]) (Kr (w.heap.size + 2) (H + 3)) (Vs w2.heap.size (S.q.map Wr.id)) (fun xs => xs.map Prod.fst = List.range (mst most S.q.length)) (mst most S.q.length) w2) := fun l J W hW hJ hY h0 =>
    subs_walks2 6 (by omega) H (w.heap.size + 2) p S.q.length c most _ hq64 w2 (by omega) hH hx hI hp l J W hW hJ (fun pre x W1 h1 h2 h3 => hY pre x W1 h1 h2 h3.2) h0
  have HR := (show Hid _ from ids_rng h)
  have HDI := (show Hid _ from h)
  have HDD := (show Hid _ from hd)
  have hml := mst_le most S.q.length
  clear hC hW1 hcd hb1 hb hbx hbd hx hI hp hd h
  refine range_walks rfl (by omega) (gf := 57) (lb := #[.pointer (some ⟨H + 1, 0, none⟩), .pointer (some ⟨H + 1 + 1, 0, none⟩), .pointer (some ⟨H, 0, none⟩)]) rfl trivial (enters_of Try.func57 (by kernel_rfl) rfl)
    HWK.out (fun h k => h.trans k) (fun W l o hl => Kr.putObj W o (by omega)) (Below.refl _ _) (fun _ => rfl) (vs_put _ _)
    (FI w w2.heap.size S.N a S (S.q.map Wr.id)) (fi_own _ _ _ _ _ _ _ hbw.size) ⟨⟨_, [], hbx2, World.ownsRow_nil _ _ _ _, by simp⟩, hbd2, hbw, Nat.le_refl _⟩
    (fun x => { tmps := #[.pointer (some ⟨a, 0, none⟩), .int .i64 most, .pointer (some ⟨w.heap.size, 0, none⟩), undef, .slice none 0 0, .pointer (some ⟨w.heap.size + 1, 0, none⟩), x.2, .pointer (some ⟨a, 0, none⟩), .int .i64 most, sq H, x.2, undef, undef, undef, undef, undef, undef, undef], defers := [] }) ?assign ?body ?done
  case assign =>
    intro l x W K hK
    gi_wp2
    exact hK
  case body =>
    rintro l pre ⟨k, u⟩ W ⟨⟨v0, vs, hv, hrow, hel⟩, hbd, hbl, hsz⟩ hV hlt
    have hmx : Try.prog.follows .mixedOrders = true := by kernel_rfl
    have hsl := sb_len (S.q.map Wr.id) k (S.q.map Wr.id).length
    unfold Vs at hV
    dsimp only at hV
    obtain ⟨p1, c1, e1, hi1, _⟩ := ids_ii hV (by omega) (fun y hy => HR.out y (sb_mem _ k _ (Nat.le_refl _) y hy))
    subst e1
    have hlD : Below w.heap.size w W.drew := ⟨hbl.os, hbl.tape, hbl.output, hbl.size, hbl.block⟩
    have hiD : II W.drew p1 (sb (S.q.map Wr.id) k (S.q.map Wr.id).length).length (sb (S.q.map Wr.id) k (S.q.map Wr.id).length) := ⟨hi1.len, hi1.big, hi1.rng, hi1.cells⟩
    have HC : Hid (∀ nn, CallsIn (Fence.wide.inRound l) nn Try.prog 27 #[.pointer (some ⟨a, 0, none⟩), .slice p1 (sb (S.q.map Wr.id) k (S.q.map Wr.id).length).length c1] W.drew fun e w1 => ∃ g, e = .returned (iv g S.N) ∧ (w1.cell? ⟨w.heap.size + 1, 0, none⟩ = some v0 ∧ (w1.alloc (.cells #[iv g S.N] 22)).cell? ⟨w.heap.size + 1, 0, none⟩ = some v0 ∧
        ∀ ty, ∃ g' cap w3, (Builtin.append_ #[31, 31] ty #[v0, .slice (some ⟨w1.heap.size, 0, none⟩) 1 1]).run Try.prog (w1.alloc (.cells #[iv g S.N] 22)) = .ok (.slice (some ⟨g', 0, none⟩) (pre.length + 1) cap) w3 ∧
      w3.cell? ⟨w.heap.size + 1, 0, none⟩ = some v0 ∧ w3.frozen? ⟨w.heap.size + 1, 0, none⟩ = false ∧ Left w w2.heap.size S.N a H S (S.q.map Wr.id) (pre ++ [(k, .slice p1 (sb (S.q.map Wr.id) k (S.q.map Wr.id).length).length c1)]) W (w3.setCell ⟨w.heap.size + 1, 0, none⟩ (.slice (some ⟨g', 0, none⟩) (pre.length + 1) cap)))) := fun nn => by
      refine (CallsIn.inRound l (callsIn_wide.2 (imageAfter_ok (HDI.out.later hlD) p1 _ c1 _ hiD (sb_nodup _ HDD.out k _ (Nat.le_refl _)) (fun x hx => sb_mem _ k _ (Nat.le_refl _) x hx)))).mono ?_
      rintro e w1 ⟨g, gs, rfl, him, hb1⟩
      have hb1' : Below W.heap.size W w1 := ⟨hb1.os, hb1.tape, hb1.output, hb1.size, hb1.block⟩
      have hv1 : Boxed w1 (w.heap.size + 1) 31 v0 := (hb1'.block _ hv.lt).trans hv
      exact ⟨g, rfl, hv1.cell, (hv1.alloc _).cell, fun ty => round_facts (x := (k, .slice p1 (sb (S.q.map Wr.id) k (S.q.map Wr.id).length).length c1)) (by omega) (by omega) hv hrow hel hbd hbl hsz him hb1' (by omega) ty⟩
    have hcdD : W.drew.cell? ⟨w.heap.size, 0, none⟩ = some (.pointer (some ⟨a, 0, none⟩)) := hbd.cell
    have hcvD : W.drew.cell? ⟨w.heap.size + 1, 0, none⟩ = some v0 := hv.cell
    clear hiD hi1 hV hlD hel hrow
    obtain ⟨ls, hls⟩ : ∃ ls, (sb (S.q.map Wr.id) k (S.q.map Wr.id).length).length = ls := ⟨_, rfl⟩
    rw [hls] at HC ⊢
    clear hls hsl
    gi_wp2
    refine wpIn_region_any hmx ?_
    try (change wpAnyIn _ _ _ _ _ _ _ _ _ (World.drew _))
    unfold iv at HC
    refine wpAnyIn_ready (rs := [0, 1, 2]) (by kernel_rfl) (by simp) ?_
    refine AllReadyIn.cons rfl (fun K hK => ?_) (AllReadyIn.cons rfl (fun K hK => ?_) (AllReadyIn.cons rfl (fun K hK => ?_) AllReadyIn.nil))
    · go_simp
      refine hK _ _ ?_
      clear hK K
      refine wpAnyIn_ready (rs := [1, 2]) (by kernel_rfl) (by simp) ?_
      refine AllReadyIn.cons rfl (fun K hK => ?_) (AllReadyIn.cons rfl (fun K hK => ?_) AllReadyIn.nil)
      · go_simp
        refine hK _ _ ?_
        clear hK K
        refine wpAnyIn_ready (rs := [2]) (by kernel_rfl) (by simp) ?_
        refine AllReadyIn.cons rfl (fun K hK => ?_) AllReadyIn.nil
        go_simp
        refine hK _ _ ?_
        clear hK K
        refine wpAnyIn_ready (rs := [3]) (by kernel_rfl) (by simp) ?_
        refine AllReadyIn.cons rfl (fun K hK => ?_) AllReadyIn.nil
        go_simp
        refine ⟨trivial, (HC.out _).mono ?_⟩
        rintro e w1 ⟨g, rfl, hF⟩
        have hcb1 : w1.cell? ⟨w.heap.size + 1, 0, none⟩ = some v0 := hF.1
        have hcb2 : (w1.alloc (.cells #[.slice (some ⟨g, 0, none⟩) S.N S.N] 22)).cell? ⟨w.heap.size + 1, 0, none⟩ = some v0 := hF.2.1
        have HR := (show Hid _ from hF.2.2)
        clear hF
        dsimp only
        refine hK _ _ ?_
        clear hK K
        refine wpAnyIn_ready (rs := [4]) (by kernel_rfl) (by simp) ?_
        refine AllReadyIn.cons rfl (fun K hK => ?_) AllReadyIn.nil
        go_simp
        refine hK _ _ ?_
        clear hK K
        refine wpAnyIn_ready (rs := [5]) (by kernel_rfl) (by simp) ?_
        refine AllReadyIn.cons rfl (fun K hK => ?_) AllReadyIn.nil
        rw [if_pos (by rfl)]
        obtain ⟨g', cap, w3, hrun, hcc, hff, hL⟩ := HR.out 31
        have HL := (show Hid _ from hL)
        clear hL
        refine stepIn_append_run (.tmp 11) (.tmp 15) 31 31 rfl _ _ rfl rfl hrun ?_
        refine hK _ _ ?_
        clear hK K
        refine wpAnyIn_ready (rs := [6]) (by kernel_rfl) (by simp) ?_
        refine AllReadyIn.cons rfl (fun K hK => ?_) AllReadyIn.nil
        simp only [Act.put, List.setIfInBounds_toArray]
        go_simp
        refine hK _ _ ?_
        clear hK K
        refine wpAnyIn_done (by kernel_rfl) ?_ _
        gi_wp2
        exact (by have hL := HL.out; unfold Left at hL; rw [hs] at hL; exact hL)
      · go_simp
        refine hK _ _ ?_
        clear hK K
        refine wpAnyIn_ready (rs := [1]) (by kernel_rfl) (by simp) ?_
        refine AllReadyIn.cons rfl (fun K hK => ?_) AllReadyIn.nil
        go_simp
        refine hK _ _ ?_
        clear hK K
        refine wpAnyIn_ready (rs := [3]) (by kernel_rfl) (by simp) ?_
        refine AllReadyIn.cons rfl (fun K hK => ?_) AllReadyIn.nil
        go_simp
        refine ⟨trivial, (HC.out _).mono ?_⟩
        rintro e w1 ⟨g, rfl, hF⟩
        have hcb1 : w1.cell? ⟨w.heap.size + 1, 0, none⟩ = some v0 := hF.1
        have hcb2 : (w1.alloc (.cells #[.slice (some ⟨g, 0, none⟩) S.N S.N] 22)).cell? ⟨w.heap.size + 1, 0, none⟩ = some v0 := hF.2.1
        have HR := (show Hid _ from hF.2.2)
        clear hF
        dsimp only
        refine hK _ _ ?_
        clear hK K
        refine wpAnyIn_ready (rs := [4]) (by kernel_rfl) (by simp) ?_
        refine AllReadyIn.cons rfl (fun K hK => ?_) AllReadyIn.nil
        go_simp
        refine hK _ _ ?_
        clear hK K
        refine wpAnyIn_ready (rs := [5]) (by kernel_rfl) (by simp) ?_
        refine AllReadyIn.cons rfl (fun K hK => ?_) AllReadyIn.nil
        rw [if_pos (by rfl)]
        obtain ⟨g', cap, w3, hrun, hcc, hff, hL⟩ := HR.out 31
        have HL := (show Hid _ from hL)
        clear hL
        refine stepIn_append_run (.tmp 11) (.tmp 15) 31 31 rfl _ _ rfl rfl hrun ?_
        refine hK _ _ ?_
        clear hK K
        refine wpAnyIn_ready (rs := [6]) (by kernel_rfl) (by simp) ?_
        refine AllReadyIn.cons rfl (fun K hK => ?_) AllReadyIn.nil
        simp only [Act.put, List.setIfInBounds_toArray]
        go_simp
        refine hK _ _ ?_
        clear hK K
        refine wpAnyIn_done (by kernel_rfl) ?_ _
        gi_wp2
        exact (by have hL := HL.out; unfold Left at hL; rw [hs] at hL; exact hL)
    · go_simp
      refine hK _ _ ?_
      clear hK K
      refine wpAnyIn_ready (rs := [0, 2]) (by kernel_rfl) (by simp) ?_
      refine AllReadyIn.cons rfl (fun K hK => ?_) (AllReadyIn.cons rfl (fun K hK => ?_) AllReadyIn.nil)
      · go_simp
        refine hK _ _ ?_
        clear hK K
        refine wpAnyIn_ready (rs := [2]) (by kernel_rfl) (by simp) ?_
        refine AllReadyIn.cons rfl (fun K hK => ?_) AllReadyIn.nil
        go_simp
        refine hK _ _ ?_
        clear hK K
        refine wpAnyIn_ready (rs := [3]) (by kernel_rfl) (by simp) ?_
        refine AllReadyIn.cons rfl (fun K hK => ?_) AllReadyIn.nil
        go_simp
        refine ⟨trivial, (HC.out _).mono ?_⟩
        rintro e w1 ⟨g, rfl, hF⟩
        have hcb1 : w1.cell? ⟨w.heap.size + 1, 0, none⟩ = some v0 := hF.1
        have hcb2 : (w1.alloc (.cells #[.slice (some ⟨g, 0, none⟩) S.N S.N] 22)).cell? ⟨w.heap.size + 1, 0, none⟩ = some v0 := hF.2.1
        have HR := (show Hid _ from hF.2.2)
        clear hF
        dsimp only
        refine hK _ _ ?_
        clear hK K
        refine wpAnyIn_ready (rs := [4]) (by kernel_rfl) (by simp) ?_
        refine AllReadyIn.cons rfl (fun K hK => ?_) AllReadyIn.nil
        go_simp
        refine hK _ _ ?_
        clear hK K
        refine wpAnyIn_ready (rs := [5]) (by kernel_rfl) (by simp) ?_
        refine AllReadyIn.cons rfl (fun K hK => ?_) AllReadyIn.nil
        rw [if_pos (by rfl)]
        obtain ⟨g', cap, w3, hrun, hcc, hff, hL⟩ := HR.out 31
        have HL := (show Hid _ from hL)
        clear hL
        refine stepIn_append_run (.tmp 11) (.tmp 15) 31 31 rfl _ _ rfl rfl hrun ?_
        refine hK _ _ ?_
        clear hK K
        refine wpAnyIn_ready (rs := [6]) (by kernel_rfl) (by simp) ?_
        refine AllReadyIn.cons rfl (fun K hK => ?_) AllReadyIn.nil
        simp only [Act.put, List.setIfInBounds_toArray]
        go_simp
        refine hK _ _ ?_
        clear hK K
        refine wpAnyIn_done (by kernel_rfl) ?_ _
        gi_wp2
        exact (by have hL := HL.out; unfold Left at hL; rw [hs] at hL; exact hL)
      · go_simp
        refine hK _ _ ?_
        clear hK K
        refine wpAnyIn_ready (rs := [0, 3]) (by kernel_rfl) (by simp) ?_
        refine AllReadyIn.cons rfl (fun K hK => ?_) (AllReadyIn.cons rfl (fun K hK => ?_) AllReadyIn.nil)
        · go_simp
          refine hK _ _ ?_
          clear hK K
          refine wpAnyIn_ready (rs := [3]) (by kernel_rfl) (by simp) ?_
          refine AllReadyIn.cons rfl (fun K hK => ?_) AllReadyIn.nil
          go_simp
          refine ⟨trivial, (HC.out _).mono ?_⟩
          rintro e w1 ⟨g, rfl, hF⟩
          have hcb1 : w1.cell? ⟨w.heap.size + 1, 0, none⟩ = some v0 := hF.1
          have hcb2 : (w1.alloc (.cells #[.slice (some ⟨g, 0, none⟩) S.N S.N] 22)).cell? ⟨w.heap.size + 1, 0, none⟩ = some v0 := hF.2.1
          have HR := (show Hid _ from hF.2.2)
          clear hF
          dsimp only
          refine hK _ _ ?_
          clear hK K
          refine wpAnyIn_ready (rs := [4]) (by kernel_rfl) (by simp) ?_
          refine AllReadyIn.cons rfl (fun K hK => ?_) AllReadyIn.nil
          go_simp
          refine hK _ _ ?_
          clear hK K
          refine wpAnyIn_ready (rs := [5]) (by kernel_rfl) (by simp) ?_
          refine AllReadyIn.cons rfl (fun K hK => ?_) AllReadyIn.nil
          rw [if_pos (by rfl)]
          obtain ⟨g', cap, w3, hrun, hcc, hff, hL⟩ := HR.out 31
          have HL := (show Hid _ from hL)
          clear hL
          refine stepIn_append_run (.tmp 11) (.tmp 15) 31 31 rfl _ _ rfl rfl hrun ?_
          refine hK _ _ ?_
          clear hK K
          refine wpAnyIn_ready (rs := [6]) (by kernel_rfl) (by simp) ?_
          refine AllReadyIn.cons rfl (fun K hK => ?_) AllReadyIn.nil
          simp only [Act.put, List.setIfInBounds_toArray]
          go_simp
          refine hK _ _ ?_
          clear hK K
          refine wpAnyIn_done (by kernel_rfl) ?_ _
          gi_wp2
          exact (by have hL := HL.out; unfold Left at hL; rw [hs] at hL; exact hL)
        · go_simp
          refine ⟨trivial, (HC.out _).mono ?_⟩
          rintro e w1 ⟨g, rfl, hF⟩
          have hcb1 : w1.cell? ⟨w.heap.size + 1, 0, none⟩ = some v0 := hF.1
          have hcb2 : (w1.alloc (.cells #[.slice (some ⟨g, 0, none⟩) S.N S.N] 22)).cell? ⟨w.heap.size + 1, 0, none⟩ = some v0 := hF.2.1
          have HR := (show Hid _ from hF.2.2)
          clear hF
          dsimp only
          refine hK _ _ ?_
          clear hK K
          refine wpAnyIn_ready (rs := [0, 4]) (by kernel_rfl) (by simp) ?_
          refine AllReadyIn.cons rfl (fun K hK => ?_) (AllReadyIn.cons rfl (fun K hK => ?_) AllReadyIn.nil)
          · go_simp
            refine hK _ _ ?_
            clear hK K
            refine wpAnyIn_ready (rs := [4]) (by kernel_rfl) (by simp) ?_
            refine AllReadyIn.cons rfl (fun K hK => ?_) AllReadyIn.nil
            go_simp
            refine hK _ _ ?_
            clear hK K
            refine wpAnyIn_ready (rs := [5]) (by kernel_rfl) (by simp) ?_
            refine AllReadyIn.cons rfl (fun K hK => ?_) AllReadyIn.nil
            rw [if_pos (by rfl)]
            obtain ⟨g', cap, w3, hrun, hcc, hff, hL⟩ := HR.out 31
            have HL := (show Hid _ from hL)
            clear hL
            refine stepIn_append_run (.tmp 11) (.tmp 15) 31 31 rfl _ _ rfl rfl hrun ?_
            refine hK _ _ ?_
            clear hK K
            refine wpAnyIn_ready (rs := [6]) (by kernel_rfl) (by simp) ?_
            refine AllReadyIn.cons rfl (fun K hK => ?_) AllReadyIn.nil
            simp only [Act.put, List.setIfInBounds_toArray]
            go_simp
            refine hK _ _ ?_
            clear hK K
            refine wpAnyIn_done (by kernel_rfl) ?_ _
            gi_wp2
            exact (by have hL := HL.out; unfold Left at hL; rw [hs] at hL; exact hL)
          · go_simp
            refine hK _ _ ?_
            clear hK K
            refine wpAnyIn_ready (rs := [0]) (by kernel_rfl) (by simp) ?_
            refine AllReadyIn.cons rfl (fun K hK => ?_) AllReadyIn.nil
            go_simp
            refine hK _ _ ?_
            clear hK K
            refine wpAnyIn_ready (rs := [5]) (by kernel_rfl) (by simp) ?_
            refine AllReadyIn.cons rfl (fun K hK => ?_) AllReadyIn.nil
            rw [if_pos (by rfl)]
            obtain ⟨g', cap, w3, hrun, hcc, hff, hL⟩ := HR.out 31
            have HL := (show Hid _ from hL)
            clear hL
            refine stepIn_append_run (.tmp 11) (.tmp 15) 31 31 rfl _ _ rfl rfl hrun ?_
            refine hK _ _ ?_
            clear hK K
            refine wpAnyIn_ready (rs := [6]) (by kernel_rfl) (by simp) ?_
            refine AllReadyIn.cons rfl (fun K hK => ?_) AllReadyIn.nil
            simp only [Act.put, List.setIfInBounds_toArray]
            go_simp
            refine hK _ _ ?_
            clear hK K
            refine wpAnyIn_done (by kernel_rfl) ?_ _
            gi_wp2
            exact (by have hL := HL.out; unfold Left at hL; rw [hs] at hL; exact hL)
    · go_simp
      refine hK _ _ ?_
      clear hK K
      refine wpAnyIn_ready (rs := [0, 1]) (by kernel_rfl) (by simp) ?_
      refine AllReadyIn.cons rfl (fun K hK => ?_) (AllReadyIn.cons rfl (fun K hK => ?_) AllReadyIn.nil)
      · go_simp
        refine hK _ _ ?_
        clear hK K
        refine wpAnyIn_ready (rs := [1]) (by kernel_rfl) (by simp) ?_
        refine AllReadyIn.cons rfl (fun K hK => ?_) AllReadyIn.nil
        go_simp
        refine hK _ _ ?_
        clear hK K
        refine wpAnyIn_ready (rs := [3]) (by kernel_rfl) (by simp) ?_
        refine AllReadyIn.cons rfl (fun K hK => ?_) AllReadyIn.nil
        go_simp
        refine ⟨trivial, (HC.out _).mono ?_⟩
        rintro e w1 ⟨g, rfl, hF⟩
        have hcb1 : w1.cell? ⟨w.heap.size + 1, 0, none⟩ = some v0 := hF.1
        have hcb2 : (w1.alloc (.cells #[.slice (some ⟨g, 0, none⟩) S.N S.N] 22)).cell? ⟨w.heap.size + 1, 0, none⟩ = some v0 := hF.2.1
        have HR := (show Hid _ from hF.2.2)
        clear hF
        dsimp only
        refine hK _ _ ?_
        clear hK K
        refine wpAnyIn_ready (rs := [4]) (by kernel_rfl) (by simp) ?_
        refine AllReadyIn.cons rfl (fun K hK => ?_) AllReadyIn.nil
        go_simp
        refine hK _ _ ?_
        clear hK K
        refine wpAnyIn_ready (rs := [5]) (by kernel_rfl) (by simp) ?_
        refine AllReadyIn.cons rfl (fun K hK => ?_) AllReadyIn.nil
        rw [if_pos (by rfl)]
        obtain ⟨g', cap, w3, hrun, hcc, hff, hL⟩ := HR.out 31
        have HL := (show Hid _ from hL)
        clear hL
        refine stepIn_append_run (.tmp 11) (.tmp 15) 31 31 rfl _ _ rfl rfl hrun ?_
        refine hK _ _ ?_
        clear hK K
        refine wpAnyIn_ready (rs := [6]) (by kernel_rfl) (by simp) ?_
        refine AllReadyIn.cons rfl (fun K hK => ?_) AllReadyIn.nil
        simp only [Act.put, List.setIfInBounds_toArray]
        go_simp
        refine hK _ _ ?_
        clear hK K
        refine wpAnyIn_done (by kernel_rfl) ?_ _
        gi_wp2
        exact (by have hL := HL.out; unfold Left at hL; rw [hs] at hL; exact hL)
      · go_simp
        refine hK _ _ ?_
        clear hK K
        refine wpAnyIn_ready (rs := [0, 3]) (by kernel_rfl) (by simp) ?_
        refine AllReadyIn.cons rfl (fun K hK => ?_) (AllReadyIn.cons rfl (fun K hK => ?_) AllReadyIn.nil)
        · go_simp
          refine hK _ _ ?_
          clear hK K
          refine wpAnyIn_ready (rs := [3]) (by kernel_rfl) (by simp) ?_
          refine AllReadyIn.cons rfl (fun K hK => ?_) AllReadyIn.nil
          go_simp
          refine ⟨trivial, (HC.out _).mono ?_⟩
          rintro e w1 ⟨g, rfl, hF⟩
          have hcb1 : w1.cell? ⟨w.heap.size + 1, 0, none⟩ = some v0 := hF.1
          have hcb2 : (w1.alloc (.cells #[.slice (some ⟨g, 0, none⟩) S.N S.N] 22)).cell? ⟨w.heap.size + 1, 0, none⟩ = some v0 := hF.2.1
          have HR := (show Hid _ from hF.2.2)
          clear hF
          dsimp only
          refine hK _ _ ?_
          clear hK K
          refine wpAnyIn_ready (rs := [4]) (by kernel_rfl) (by simp) ?_
          refine AllReadyIn.cons rfl (fun K hK => ?_) AllReadyIn.nil
          go_simp
          refine hK _ _ ?_
          clear hK K
          refine wpAnyIn_ready (rs := [5]) (by kernel_rfl) (by simp) ?_
          refine AllReadyIn.cons rfl (fun K hK => ?_) AllReadyIn.nil
          rw [if_pos (by rfl)]
          obtain ⟨g', cap, w3, hrun, hcc, hff, hL⟩ := HR.out 31
          have HL := (show Hid _ from hL)
          clear hL
          refine stepIn_append_run (.tmp 11) (.tmp 15) 31 31 rfl _ _ rfl rfl hrun ?_
          refine hK _ _ ?_
          clear hK K
          refine wpAnyIn_ready (rs := [6]) (by kernel_rfl) (by simp) ?_
          refine AllReadyIn.cons rfl (fun K hK => ?_) AllReadyIn.nil
          simp only [Act.put, List.setIfInBounds_toArray]
          go_simp
          refine hK _ _ ?_
          clear hK K
          refine wpAnyIn_done (by kernel_rfl) ?_ _
          gi_wp2
          exact (by have hL := HL.out; unfold Left at hL; rw [hs] at hL; exact hL)
        · go_simp
          refine ⟨trivial, (HC.out _).mono ?_⟩
          rintro e w1 ⟨g, rfl, hF⟩
          have hcb1 : w1.cell? ⟨w.heap.size + 1, 0, none⟩ = some v0 := hF.1
          have hcb2 : (w1.alloc (.cells #[.slice (some ⟨g, 0, none⟩) S.N S.N] 22)).cell? ⟨w.heap.size + 1, 0, none⟩ = some v0 := hF.2.1
          have HR := (show Hid _ from hF.2.2)
          clear hF
          dsimp only
          refine hK _ _ ?_
          clear hK K
          refine wpAnyIn_ready (rs := [0, 4]) (by kernel_rfl) (by simp) ?_
          refine AllReadyIn.cons rfl (fun K hK => ?_) (AllReadyIn.cons rfl (fun K hK => ?_) AllReadyIn.nil)
          · go_simp
            refine hK _ _ ?_
            clear hK K
            refine wpAnyIn_ready (rs := [4]) (by kernel_rfl) (by simp) ?_
            refine AllReadyIn.cons rfl (fun K hK => ?_) AllReadyIn.nil
            go_simp
            refine hK _ _ ?_
            clear hK K
            refine wpAnyIn_ready (rs := [5]) (by kernel_rfl) (by simp) ?_
            refine AllReadyIn.cons rfl (fun K hK => ?_) AllReadyIn.nil
            rw [if_pos (by rfl)]
            obtain ⟨g', cap, w3, hrun, hcc, hff, hL⟩ := HR.out 31
            have HL := (show Hid _ from hL)
            clear hL
            refine stepIn_append_run (.tmp 11) (.tmp 15) 31 31 rfl _ _ rfl rfl hrun ?_
            refine hK _ _ ?_
            clear hK K
            refine wpAnyIn_ready (rs := [6]) (by kernel_rfl) (by simp) ?_
            refine AllReadyIn.cons rfl (fun K hK => ?_) AllReadyIn.nil
            simp only [Act.put, List.setIfInBounds_toArray]
            go_simp
            refine hK _ _ ?_
            clear hK K
            refine wpAnyIn_done (by kernel_rfl) ?_ _
            gi_wp2
            exact (by have hL := HL.out; unfold Left at hL; rw [hs] at hL; exact hL)
          · go_simp
            refine hK _ _ ?_
            clear hK K
            refine wpAnyIn_ready (rs := [0]) (by kernel_rfl) (by simp) ?_
            refine AllReadyIn.cons rfl (fun K hK => ?_) AllReadyIn.nil
            go_simp
            refine hK _ _ ?_
            clear hK K
            refine wpAnyIn_ready (rs := [5]) (by kernel_rfl) (by simp) ?_
            refine AllReadyIn.cons rfl (fun K hK => ?_) AllReadyIn.nil
            rw [if_pos (by rfl)]
            obtain ⟨g', cap, w3, hrun, hcc, hff, hL⟩ := HR.out 31
            have HL := (show Hid _ from hL)
            clear hL
            refine stepIn_append_run (.tmp 11) (.tmp 15) 31 31 rfl _ _ rfl rfl hrun ?_
            refine hK _ _ ?_
            clear hK K
            refine wpAnyIn_ready (rs := [6]) (by kernel_rfl) (by simp) ?_
            refine AllReadyIn.cons rfl (fun K hK => ?_) AllReadyIn.nil
            simp only [Act.put, List.setIfInBounds_toArray]
            go_simp
            refine hK _ _ ?_
            clear hK K
            refine wpAnyIn_done (by kernel_rfl) ?_ _
            gi_wp2
            exact (by have hL := HL.out; unfold Left at hL; rw [hs] at hL; exact hL)
  case done =>
    rintro D xs W hD hxs ⟨⟨v0, vs, hv, hrow, hel⟩, hbd, hbl, hsz⟩ hK
    have hc := hv.cell
    obtain ⟨hl, _⟩ := pairs hxs
    have HEL : Hid (∀ k, k < mst most S.q.length → ∃ g gs, vs[k]? = some (iv g S.N) ∧ Img w2.heap.size W g S.N gs (S.cr (sb (S.q.map Wr.id) k S.q.length)).f) := fun k hk => by
      obtain ⟨y, hy⟩ : ∃ y, xs[k]? = some y := ⟨xs[k]'(by omega), List.getElem?_eq_getElem (by omega)⟩
      have h1 : (xs.map Prod.fst)[k]? = some y.1 := by rw [List.getElem?_map, hy]; rfl
      rw [hxs, List.getElem?_range (by omega)] at h1
      cases h1
      have := hel _ y hy
      rw [hlm] at this
      exact this
    clear hel hxs
    rw [hl] at hrow
    gi_wp2
    refine ⟨by simp, .inl ⟨_, _, rfl, run_takeDeferred hK, ?_⟩⟩
    refine ⟨_, results_tmp rfl _ _ _, v0, vs, rfl, ownsRow_base (ownsRow_putObj hrow _ hK rfl) hbw.size, fun k hk => ?_, hbl.trans (belowK_b (w := w) (Nat.le_refl _) W D _ _ (by have := hbw.size; omega) hK rfl rfl)⟩
    obtain ⟨g, gs, h1, h2⟩ := HEL.out k hk
    exact ⟨g, gs, h1, (h2.abides (grownBy_putObj' W D _) (fun r e => by cases e; exact ⟨_, hK, rfl⟩)).base hbw.size⟩
end Go.Proofs.Ytemhhgpgpjiijaa
