/- crash.Sets: the sets, collected. -/
import Derived.Test.YtemhhgpgpjiijaaED
namespace Go.Proofs.Ytemhhgpgpjiijaa
open Go.RowKit Go.Shelf
set_option linter.unusedVariables false
attribute [local go_sem] Oper.semAt_some

theorem info37 : (Try.prog.info? 37).map (fun i => (i.zero, i.size, i.bytes)) = some (some (.slice none 0 0), 1, 24) := by kernel_rfl

theorem own_abides {W W' : World} {row : Option Nat} (hg : W.grownBy W' row) (hr : ∀ r, row = some r → ∃ o : Obj, W.heap[r]? = some o ∧ o.isCells = false) {B : Nat} {e : TypeId} {s : Nat} {v : Value} {n : Nat} {L : List Value} (h : W.ownsRow B e s v n L) : W'.ownsRow B e s v n L := by
  refine ownsRow_kept h (fun k hk => hg.block k (h.lt k hk).2 (fun e' => ?_))
  obtain ⟨o, ho, hc⟩ := hr k e'.symm
  rcases h.2 with ⟨rfl, _⟩ | ⟨g, cap, cur, rfl, _, hgk, _⟩
  · cases hk
  · cases hk
    rw [hgk] at ho
    cases ho
    cases hc

theorem vs_own (B B' : Nat) (ns : List Int) : OwnFrom B' (fun (pre : List (Nat × Value)) W => ∀ x ∈ pre, Vs B ns x W) := fun s W W' row hs hg hr x hx => own_abides hg (fun r e => (hr r e).2) (hs x hx)

theorem vs_put (B : Nat) (ns : List Int) (x : Nat × Value) (W : World) (l : Nat) (o o' : Obj) (h : Vs B ns x W) (hl : W.heap[l]? = some o) (ho : o.isCells = false) : Vs B ns x (W.putObj l o') :=
  own_abides (grownBy_putObj' W l o') (fun r e => by cases e; exact ⟨o, hl, ho⟩) h

theorem II.kb {B : Nat} {W W' : World} {p : Option Addr} {m : Nat} {ns : List Int} (hI : II W p m ns) (hp : ∀ b o, p = some ⟨b, o, none⟩ → b < B) (hK : Kb B W W') : II W' p m ns :=
  ⟨hI.len, hI.big, hI.rng, fun h1 => by
    obtain ⟨b, o, e, hc⟩ := hI.cells h1
    exact ⟨b, o, e, fun i hi => hK.cell (hp b o e) (hc i hi)⟩⟩

theorem Bx.kb {B H : Nat} {W W' : World} {p : Option Addr} {m c : Nat} {most : Int} (h : Bx W H p m c most) (hH : H + 3 ≤ B) (hK : Kb B W W') : Bx W' H p m c most :=
  ⟨(hK.2 H (by omega)).trans h.b0, (hK.2 (H + 1) (by omega)).trans h.b1, (hK.2 (H + 1 + 1) (by omega)).trans h.b2⟩

theorem subs_walks (n : Nat) (hn : 1 ≤ n) (H : Nat) (p : Option Addr) (m c : Nat) (most : Int) (ns : List Int) (hm : m ≤ 64) (w : World) (hH : H + 3 ≤ w.heap.size) (hbx : Bx w H p m c most) (hI : II w p m ns) (hp : ∀ b o, p = some ⟨b, o, none⟩ → b < H) :
    Walks Fence.wide n Try.prog 57 #[.pointer (some ⟨H + 1, 0, none⟩), .pointer (some ⟨H + 1 + 1, 0, none⟩), .pointer (some ⟨H, 0, none⟩)] (fun x : Nat × Value => #[x.2]) (Kb w.heap.size) (Vs w.heap.size ns) (fun xs => xs.map Prod.fst = List.range (mst most m)) 4096 w := fun l J W hW hJ hY h0 =>
  subs_in n hn l H w.heap.size p m c most ns hm J hJ hY W hW.size hH (hbx.kb hH (Kb.below hW)) (hI.kb (fun b o e => by have := hp b o e; omega) (Kb.below hW)) hp h0

theorem pairs {xs : List (Nat × Value)} {M : Nat} (h : xs.map Prod.fst = List.range M) : xs.length = M ∧ ∀ k u, (xs.map Prod.snd)[k]? = some u → (k, u) ∈ xs := by
  have hl : xs.length = M := by have := congrArg List.length h; simpa using this
  refine ⟨hl, fun k u hu => ?_⟩
  rw [List.getElem?_map] at hu
  obtain ⟨x, hx, rfl⟩ := Option.map_eq_some_iff.1 hu
  have h1 : (xs.map Prod.fst)[k]? = some x.1 := by rw [List.getElem?_map, hx]; rfl
  rw [h, List.getElem?_range (by have := (List.getElem?_eq_some_iff.1 hx).1; omega)] at h1
  cases h1
  exact List.mem_of_getElem? hx

/-- What has been collected while the sets that have come are pre. -/
def Gs (w : World) (ns : List Int) (pre : List (Nat × Value)) (W : World) : Prop :=
  ((∃ v, Boxed W w.heap.size 48 v ∧ W.ownsRow w.heap.size 37 1 v pre.length (pre.map Prod.snd) ∧ True) ∧ Below w.heap.size w W) ∧ ∀ x ∈ pre, Vs w.heap.size ns x W

set_option maxRecDepth 100000 in
set_option maxHeartbeats 2000000 in
theorem appendSets_in (H : Nat) (p : Option Addr) (m c : Nat) (most : Int) (ns : List Int) (hm : m ≤ 64) (w : World) (hH : H + 3 ≤ w.heap.size) (hbx : Bx w H p m c most) (hI : II w p m ns) (hp : ∀ b o, p = some ⟨b, o, none⟩ → b < H) :
    CallsIn Fence.wide 6 Try.prog 54 #[.slice none 0 0, sq H] w fun e w' => ∃ v vs, e = .returned v ∧ w'.ownsRow w.heap.size 37 1 v (mst most m) vs ∧ (∀ k u, vs[k]? = some u → Vs w.heap.size ns (k, u) w') ∧ Below w.heap.size w w' := by
  obtain ⟨i0, hi, hz0, hz1, hz2⟩ := info_parts info37
  have HW := (show Hid _ from subs_walks 5 (by omega) H p m c most ns hm w hH hbx hI hp)
  clear hbx hI hp
  refine callsIn_of_wp_marks Try.func54 rfl trivial ?_ rfl
  simp only [sq, Try.ntmps54, List.size_toArray, List.length_cons, List.length_nil, Nat.reduceAdd, Nat.reduceSub, Array.replicate_succ, Array.replicate_zero, List.push_toArray, List.append_toArray, List.nil_append, List.cons_append]
  gi_wp2
  have bO := Boxed.new w 48 (.slice none 0 0)
  have hB0 : Below w.heap.size w (w.alloc (.cells #[.slice none 0 0] 48)) := (Below.refl _ w).alloc (Nat.le_refl _) _
  have hsz : (w.alloc (.cells #[.slice none 0 0] 48)).heap.size = w.heap.size + 1 := by simp
  generalize w.alloc (.cells #[.slice none 0 0] 48) = W0 at *
  refine range_walks rfl (by omega) (gf := 57) (lb := #[.pointer (some ⟨H + 1, 0, none⟩), .pointer (some ⟨H + 1 + 1, 0, none⟩), .pointer (some ⟨H, 0, none⟩)]) rfl trivial (enters_of Try.func57 (by kernel_rfl) rfl)
    HW.out (fun h k => h.trans k) (fun W l o hl => Kb.putObj W o (by omega)) hB0 (fun _ => rfl) (vs_put _ _)
    (Gs w ns)
    (OwnFrom.and (OwnFrom.and (Own.from (holdsRow_own w.heap.size w.heap.size 48 37 1 (fun pre : List (Nat × Value) => pre.length) (fun pre : List (Nat × Value) => pre.map Prod.snd) (fun pre v => True)) _) (ownFrom_below (Nat.le_refl _) (by omega))) (vs_own _ _ _))
    ⟨⟨⟨_, bO, World.ownsRow_nil _ _ _ _, trivial⟩, hB0⟩, by simp⟩
    (fun x => { tmps := #[.slice none 0 0, .func (.func 57) #[] #[.pointer (some ⟨H + 1, 0, none⟩), .pointer (some ⟨H + 1 + 1, 0, none⟩), .pointer (some ⟨H, 0, none⟩)], .pointer (some ⟨w.heap.size, 0, none⟩), undef, .slice none 0 0, x.2, .func (.func 57) #[] #[.pointer (some ⟨H + 1, 0, none⟩), .pointer (some ⟨H + 1 + 1, 0, none⟩), .pointer (some ⟨H, 0, none⟩)], x.2, undef, undef, undef, undef, undef], defers := [] }) ?assign ?body ?done
  case assign =>
    intro l x W K hK
    gi_wp2
    exact hK
  case body =>
    rintro l pre ⟨k, u⟩ W ⟨⟨⟨v, hv, hrow, _⟩, hB⟩, hvs⟩ hx hlt
    obtain ⟨p1, c1, e1, _⟩ := row_case hx
    dsimp only at e1
    subst e1
    have hc := hv.cell
    have HX := (show Hid _ from hx)
    have HVS := (show Hid _ from hvs)
    clear hx hvs
    gi_wp2_with (gi_at_builtin; refine wpListIn_append_own _ rfl _ _ 48 rfl w.heap.size 37 i0 (.slice none 0 0) 1 24 Try.underlying48 hi hz0 hz1 hz2 rfl (by decide) _ _ _ rfl (hrow.alloc _) ⟨W.heap.size, 0, none⟩ 1 1 [.slice p1 (sb ns k ns.length).length c1] rfl rfl (cell_one_new _ _ _) (by simp [Value.oneCell']) (by unfold maxLen; omega) (by omega) (by have := hB.size; simp; omega) ?_; intro v' w1 hown' hgrow _; obtain ⟨g', cap', rfl⟩ := ownsRow_succ hown'; obtain ⟨hv1, hv2, hr2, hk2, hb2⟩ := hv.appended (by decide) hrow hB.size (Nat.le_refl _) hown' hgrow; have hc1 := hv1.cell; have hf1 := hv1.frozen)
    have hkeep : ∀ x : Nat × Value, Vs w.heap.size ns x W → Vs w.heap.size ns x (w1.setCell ⟨w.heap.size, 0, none⟩ (.slice (some ⟨g', 0, none⟩) (pre.length + 1) cap')) := fun x h => by
      refine ownsRow_kept h (fun i hik => ?_)
      have hil := (World.ownsRow.lt h i hik).2
      have hne : i ≠ w.heap.size := fun e => by
        rcases h.2 with ⟨e', _⟩ | ⟨g, cap, cur, e', _, hgk, _⟩
        · rw [e'] at hik; cases hik
        · have e2 : g = i := by rw [e'] at hik; exact Option.some.inj hik
          rw [e2, e, show W.heap[w.heap.size]? = _ from hv] at hgk
          cases hgk
      rw [Below.heap_setCell w1 _ _ i hne, hgrow.block i (by simp; omega) (fun e => owns_ne h hrow (by decide) hik e.symm), Below.heap_alloc W _ i hil]
    refine ⟨by rw [← hsz]; exact hk2.from _, Kb.below hb2, ⟨⟨_, hv2, by simpa using hr2, trivial⟩, hB.trans hb2⟩, fun x hx => ?_⟩
    rcases List.mem_append.1 hx with hx | hx
    · exact hkeep x (HVS.out x hx)
    · rw [List.mem_singleton] at hx
      rw [hx]
      exact hkeep _ HX.out
  case done =>
    rintro D xs W hD hxs ⟨⟨⟨v, hv, hrow, _⟩, hB⟩, hvs⟩ hK
    have hc := hv.cell
    obtain ⟨hl, hpr⟩ := pairs hxs
    have HVS := (show Hid _ from hvs)
    have HP := (show Hid _ from hpr)
    clear hvs hpr hxs
    rw [hl] at hrow
    gi_wp2
    refine ⟨by simp, .inl ⟨_, _, rfl, run_takeDeferred hK, ?_⟩⟩
    exact ⟨_, results_tmp rfl _ _ _, v, xs.map Prod.snd, rfl, ownsRow_putObj hrow _ hK rfl, fun k u hu => vs_put _ _ _ _ _ _ _ (HVS.out _ (HP.out k u hu)) hK rfl, hB.trans (belowK_b (w := w) (Nat.le_refl _) W D _ _ (by omega) hK rfl rfl)⟩

set_option maxHeartbeats 400000 in
theorem collect_in (H : Nat) (p : Option Addr) (m c : Nat) (most : Int) (ns : List Int) (hm : m ≤ 64) (w : World) (hH : H + 3 ≤ w.heap.size) (hbx : Bx w H p m c most) (hI : II w p m ns) (hp : ∀ b o, p = some ⟨b, o, none⟩ → b < H) :
    CallsIn Fence.wide 7 Try.prog 39 #[sq H] w fun e w' => ∃ v vs, e = .returned v ∧ w'.ownsRow w.heap.size 37 1 v (mst most m) vs ∧ (∀ k u, vs[k]? = some u → Vs w.heap.size ns (k, u) w') ∧ Below w.heap.size w w' := by
  have hf : Fence.wide.fn 54 := trivial
  have hA := appendSets_in H p m c most ns hm w hH hbx hI hp
  clear hbx hI hp
  refine callsIn_of_wp Try.func39 rfl trivial ?_ rfl
  simp only [Try.ntmps39, List.size_toArray, List.length_cons, List.length_nil, Nat.reduceAdd, Nat.reduceSub, Array.replicate_succ, Array.replicate_zero, List.push_toArray, List.append_toArray, List.nil_append, List.cons_append]
  gi_wp2_with (first | (gi_at_call 54; refine hA.mono ?_; rintro _ w3 ⟨v, vs, rfl, hS, hN, hb⟩))
  go_ret
  exact ⟨v, vs, rfl, hS, hN, hb⟩

set_option maxHeartbeats 400000 in
theorem csets_ok {B : Nat} {w : World} {a mb fb : Nat} {qv : Value} {S : St} (h : DI B w a mb fb qv S) (most : Int) :
    Calls Try.prog 16 #[.pointer (some ⟨a, 0, none⟩), .int .i64 most] w fun e w' => ∃ v vs, e = .returned v ∧ w'.ownsRow w.heap.size 37 1 v (mst most S.q.length) vs ∧ (∀ k u, vs[k]? = some u → Vs w.heap.size (S.q.map Wr.id) (k, u) w') ∧ Below w.heap.size w w' := by
  have hq64 := h.q64
  go_enter Try.func16, Try.ntmps16
  go_wp2_with fail
  refine (sets_ok h most).mono ?_
  rintro e w1 ⟨H, p, c, rfl, hx, hI, hp, hH, hs, hb⟩
  have hC := (callsIn_wide.1 (collect_in H p _ c most _ hq64 w1 (by omega) hx hI hp))
  have HC := (show Hid _ from hC)
  clear hC hx hI hp
  go_wp2_with fail
  refine Calls.mono HC.out ?_
  rintro e w2 ⟨v, vs, rfl, ho, hv, hb2⟩
  go_wp2
  go_ret
  exact ⟨v, vs, rfl, ownsRow_base ho hb.size, fun k u hu => ownsRow_base (hv k u hu) hb.size, hb.trans (hb2.mono hb.size)⟩
end Go.Proofs.Ytemhhgpgpjiijaa
