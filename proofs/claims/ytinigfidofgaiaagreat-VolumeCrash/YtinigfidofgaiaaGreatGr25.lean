/- Blk VD VE PDos -/
import Derived.Test.YtinigfidofgaiaaGreatGr24
import Derived.Maps.AppendAt
import Derived.Test.YtinigfidofgaiaaGreatGr18
import Derived.Test.YtinigfidofgaiaaGreatGr21

/- blocks(2): three blocks of bytes. -/
namespace Go.Proofs.YtinigfidofgaiaaGreat
open Go.RowKit Go.Maps
set_option linter.unusedVariables false

/-- The bytes of the blocks of an image: block i has 128 bytes of its own, lying in a block of bytes. -/
structure Bs (w : World) (gs : List Nat) : Prop where
  el : ∀ (i g : Nat), gs[i]? = some g → BI w (some ⟨g, 0, none⟩) 128 (List.replicate 128 ((i : Int) + 1)) ∧ ∃ cs, w.heap[g]? = some (.cells cs 5 (0, 0))

theorem Bs.kept {w w' : World} {gs : List Nat} (h : Bs w gs) (hb : Below w.heap.size w w') : Bs w' gs :=
  ⟨fun i g hg => ⟨(h.el i g hg).1.kept hb, by obtain ⟨cs, hc⟩ := (h.el i g hg).2; exact ⟨cs, (hb.block _ (Array.getElem?_eq_some_iff.1 hc).1).trans hc⟩⟩⟩

theorem BI.moved {w w' : World} {g n : Nat} {xs : List Int} (h : BI w (some ⟨g, 0, none⟩) n xs) (he : w'.heap[g]? = w.heap[g]?) : BI w' (some ⟨g, 0, none⟩) n xs := by
  refine ⟨h.len, h.big, h.byt, fun h0 => ?_⟩
  obtain ⟨b, o, e, hc⟩ := h.cells h0
  cases e
  refine ⟨g, 0, rfl, fun i hi => ?_⟩
  rw [← hc i hi]
  simp [World.cell?, he]

theorem own_not {w : World} {B n g : Nat} {v : Value} {L : List Value} {cs : Array Value} (h : w.ownsRow B 42 1 v n L) (hc : w.heap[g]? = some (.cells cs 5 (0, 0))) : v.ownBlock ≠ some g := by
  rcases h.2 with ⟨rfl, _⟩ | ⟨g', cap, cur, rfl, _, hg, _⟩
  · simp [Value.ownBlock]
  · simp only [Value.ownBlock, ne_eq, Option.some.injEq]
    rintro rfl
    rw [hc] at hg
    simp at hg
theorem Bs.grown {w w' : World} {B n : Nat} {v : Value} {L : List Value} {gs : List Nat} (h : Bs w gs) (ho : w.ownsRow B 42 1 v n L) (hg : w.grownBy w' v.ownBlock) : Bs w' gs := by
  refine ⟨fun i g hi => ?_⟩
  obtain ⟨h1, cs, hc⟩ := h.el i g hi
  have e := hg.block g (Array.getElem?_eq_some_iff.1 hc).1 (own_not ho hc).symm
  exact ⟨h1.moved e, cs, e.trans hc⟩
theorem Bs.snoc {w : World} {gs : List Nat} {g : Nat} (h : Bs w gs) (hb : BI w (some ⟨g, 0, none⟩) 128 (List.replicate 128 ((gs.length : Int) + 1))) (hc : ∃ cs, w.heap[g]? = some (.cells cs 5 (0, 0))) : Bs w (gs ++ [g]) := by
  refine ⟨fun i k hi => ?_⟩
  by_cases hl : i < gs.length
  · rw [List.getElem?_append_left hl] at hi
    exact h.el i k hi
  · rw [List.getElem?_append_right (by omega)] at hi
    obtain ⟨e, hk⟩ := List.getElem?_eq_some_iff.1 hi
    simp at e
    obtain rfl : i = gs.length := by omega
    simp at hk
    subst hk
    exact ⟨hb, hc⟩
theorem news_one (w1 : World) (g1 : Nat) : ∀ j u, [sl g1][j]? = some u → (w1.alloc (.cells #[.slice (some ⟨g1, 0, none⟩) 128 128] 42)).cell? ((⟨w1.heap.size, 0, none⟩ : Addr).add j) = some u := by
  intro j u hu
  rcases j with _ | j
  · simp at hu
    subst hu
    have e : (⟨w1.heap.size, 0, none⟩ : Addr).add 0 = ⟨w1.heap.size, 0, none⟩ := by unfold Addr.add; split <;> simp_all
    rw [e, cell_of_row _ _ 0 _ 42 _ (at_new rfl)]
    rfl
  · simp at hu
theorem one_sl (g1 : Nat) : ∀ u ∈ [sl g1], u.oneCell' = true := by
  intro u hu
  rw [List.mem_singleton.1 hu]
  rfl

set_option maxRecDepth 100000 in
set_option maxHeartbeats 4000000 in
theorem blocks2_ok (w : World) : Calls Tryz.prog 37 #[.int .i64 2] w fun e w' => ∃ p c L, e = .returned (.slice p 3 c) ∧ IB w' p 3 L ∧ (∀ xs ∈ L, xs.length = 128) ∧ Below w.heap.size w w' := by
  obtain ⟨i0, hi, hz0, hz1, hz2⟩ := info_parts info30
  go_enter Tryz.func37, Tryz.ntmps37
  go_wp2_with fail
  go_loopw [10, 3] (fun i v wr => ∃ gs : List Nat, gs.length ≤ 3 ∧ i = .int .i64 (gs.length : Int) ∧ wr.ownsRow w.heap.size 42 1 v gs.length (gs.map sl) ∧ Bs wr gs ∧ Below w.heap.size w wr) (fun i _ _ => 3 - (intOf i).toNat)
  case atStart => exact ⟨[], by simp, rfl, ⟨rfl, .inl ⟨rfl, rfl⟩⟩, ⟨fun i g hg => by simp at hg⟩, Below.refl _ _⟩
  case round =>
    obtain ⟨gs, hg3, rfl, hown, hbs, hb⟩ := hrel
    by_cases hlt : gs.length < 3
    · have hbA : Below wr.heap.size wr (wr.alloc (.cells #[.int .u8 ((gs.length : Int) + 1)] 5)) := (Below.refl _ wr).alloc (Nat.le_refl _) _
      have hbx : BI (wr.alloc (.cells #[.int .u8 ((gs.length : Int) + 1)] 5)) (some ⟨wr.heap.size, 0, none⟩) 1 [(gs.length : Int) + 1] := by
        refine ⟨rfl, by omega, ?_, fun _ => ⟨_, _, rfl, fun i hi => ?_⟩⟩
        · intro i
          rcases i with _ | i
          · simp; omega
          · simp
        · obtain rfl : i = 0 := by omega
          rw [cell_of_row _ _ 0 _ 5 _ (at_new rfl)]
          rfl
      have hrep := repeat_ok ((gs.length : Int) + 1) (by omega) ⟨wr.heap.size, 0, none⟩ 1 _ hbx
      have hk0 : (0 : Int) ≤ (gs.length : Int) := by omega
      have hk3 : (gs.length : Int) < 3 := by omega
      have hwrap : IntKind.wrap .u8 ((gs.length : Int) + 1) = (gs.length : Int) + 1 := by
        rcases (by omega : gs.length = 0 ∨ gs.length = 1 ∨ gs.length = 2) with e | e | e <;> rw [e] <;> decide
      have HO := (show Hid _ from hown)
      clear hown
      go_wp2_with fail
      refine Calls.mono hrep ?_
      rintro e w1 ⟨g1, rfl, hg1, hbi1, hcs1, hb1⟩
      have hb1' := hbA.trans (hb1.mono hbA.size)
      have hb2 := hb1'.alloc hb1'.size (.cells #[.slice (some ⟨g1, 0, none⟩) 128 128] 42)
      have hown2 := ownsRow_kept HO.out (fun k hk => hb2.block k (World.ownsRow.lt HO.out k hk).2)
      go_wp2_with (at_builtin; refine wpList_append_own_at _ rfl _ _ 28 rfl w.heap.size 42 i0 (.slice none 0 0) 1 24 Tryz.underlying28 hi hz0 hz1 hz2 rfl (by decide) _ _ _ rfl hown2 ⟨w1.heap.size, 0, none⟩ 1 1 [sl g1] rfl rfl (news_one w1 g1) (one_sl g1) (by unfold maxLen; omega) (by omega) (Nat.le_trans hb.size hb2.size) ?_; intro v3 w3 ho3 hg3 _ _)
      go_roundw
      case rel =>
        have hb3 : Below w1.heap.size w1 (w1.alloc (.cells #[.slice (some ⟨g1, 0, none⟩) 128 128] 42)) := (Below.refl _ _).alloc (Nat.le_refl _) _
        have hk1 : ∃ cs, (w1.alloc (.cells #[.slice (some ⟨g1, 0, none⟩) 128 128] 42)).heap[g1]? = some (.cells cs 5 (0, 0)) := by
          obtain ⟨cs, hc⟩ := hcs1
          exact ⟨cs, at_old hc⟩
        have hB2 := ((hbs.kept hb2).snoc (hbi1.kept hb3) hk1).grown hown2 hg3
        refine ⟨gs ++ [g1], by simp; omega, by simp, ?_, hB2, (hb.trans (hb2.mono hb.size)).grown hg3 (Nat.le_trans hb.size hb2.size) (fun k hk => (World.ownsRow.lt HO.out k hk).1)⟩
        simpa using ho3
      case measure => simp [intOf]; omega
    · have hI : ¬ (gs.length : Int) < 3 := by omega
      have h3 : gs.length = 3 := by omega
      go_wp2
      go_ret
      rcases hown.2 with ⟨_, h0⟩ | ⟨g, cap, cur, rfl, _, hrow, _, _, hcur, htake⟩
      · omega
      rw [h3] at htake
      refine ⟨some ⟨g, 0, none⟩, ⟨cap, by rw [← h3]; rfl⟩, (List.range 3).map fun (i : Nat) => List.replicate 128 ((i : Int) + 1), ⟨by simp, by omega, fun _ => ⟨g, 0, rfl, fun i x hx => ?_⟩⟩, by intro xs hxs; obtain ⟨i, _, rfl⟩ := List.mem_map.1 hxs; simp, hb⟩
      obtain ⟨hi3, e⟩ := List.getElem?_eq_some_iff.1 hx
      simp at hi3 e
      subst e
      obtain ⟨gi, hgi⟩ : ∃ gi, gs[i]? = some gi := ⟨_, List.getElem?_eq_getElem (show i < gs.length by omega)⟩
      refine ⟨_, _, 128, ?_, (hbs.el i _ hgi).1⟩
      have hci : cur.toList[i]? = some (sl gi) := by
        have : (List.take (3 * 1) cur.toList)[i]? = some (sl gi) := by rw [htake]; simp [hgi]
        rwa [List.getElem?_take_of_lt (by omega)] at this
      rw [cell_of_row _ _ (0 + i) _ 42 _ hrow]
      simpa [sl] using hci
end Go.Proofs.YtinigfidofgaiaaGreat

/- All blocks of a volume now. -/
namespace Go.Proofs.YtinigfidofgaiaaGreat
open Go.RowKit Go.Maps
set_option linter.unusedVariables false
set_option maxRecDepth 100000

def sv (p : Nat × Nat) : Value := .slice (some ⟨p.1, 0, none⟩) 128 p.2
/-- A list of blocks of the call's own, from B on. -/
structure Im (B : Nat) (w : World) (v : Value) (gs : List (Nat × Nat)) (L : List (List Int)) : Prop where
  row : w.ownsRow B 42 1 v gs.length (gs.map sv)
  len : gs.length = L.length
  el : ∀ (i : Nat) (q : Nat × Nat) (xs : List Int), gs[i]? = some q → L[i]? = some xs → Own B w q.1 128 q.2 xs
/-- Its blocks. -/
def ifoot (v : Value) (gs : List (Nat × Nat)) (k : Nat) : Prop := v.ownBlock = some k ∨ ∃ q ∈ gs, q.1 = k

section
variable {B : Nat} {w w' : World} {A : At} {T : Vs} {v : Value} {gs : List (Nat × Nat)} {L : List (List Int)}
theorem Im.in (h : Im B w v gs L) : ∀ k, ifoot v gs k → B ≤ k ∧ k < w.heap.size := by
  rintro k (hk | ⟨q, hq, rfl⟩)
  · exact h.row.lt k hk
  · obtain ⟨i, hi, e⟩ := List.mem_iff_getElem.1 hq
    have hl := h.len
    exact (h.el i q L[i] (by rw [List.getElem?_eq_getElem hi, e]) (List.getElem?_eq_getElem (by omega))).spot
theorem Im.kept (h : Im B w v gs L) (hb : ∀ k, ifoot v gs k → w'.heap[k]? = w.heap[k]?) : Im B w' v gs L :=
  ⟨ownsRow_kept h.row (fun k hk => hb k (.inl hk)), h.len, fun i q xs hq hx => ownsRow_kept (h.el i q xs hq hx) (fun k hk => by
    simp only [Value.ownBlock, Option.some.injEq] at hk
    subst hk
    exact hb _ (.inr ⟨q, List.mem_of_getElem? hq, rfl⟩))⟩
/-- What the volume's own calls turn leaves an image that is none of it. -/
theorem Im.stp (h : Im B w v gs L) {D D' : Nat → Prop} (hs : Pt.Stp D D' w w') (hn : ∀ k, ifoot v gs k → ¬ D k) : Im B w' v gs L := h.kept (fun k hk => hs.fr.block k (h.in k hk).2 (hn k hk))
theorem Im.out {D D' : Nat → Prop} (h : Im B w v gs L) (hs : Pt.Stp D D' w w') (hn : ∀ k, ifoot v gs k → ¬ D k) : ∀ k, ifoot v gs k → ¬ D' k := fun k hk hd => by
  rcases hs.new k hd with h1 | h1
  · exact hn k hk h1
  · have := (h.in k hk).2; omega

theorem news_sv (w1 : World) (q : Nat × Nat) : ∀ j u, [sv q][j]? = some u → (w1.alloc (.cells #[.slice (some ⟨q.1, 0, none⟩) 128 q.2] 42)).cell? ((⟨w1.heap.size, 0, none⟩ : Addr).add j) = some u := by
  intro j u hu
  rcases j with _ | j
  · simp at hu
    subst hu
    have e : (⟨w1.heap.size, 0, none⟩ : Addr).add 0 = ⟨w1.heap.size, 0, none⟩ := by unfold Addr.add; split <;> simp_all
    rw [e, cell_of_row _ _ 0 _ 42 _ (at_new rfl)]
    rfl
  · simp at hu
theorem one_sv (q : Nat × Nat) : ∀ u ∈ [sv q], u.oneCell' = true := by
  intro u hu
  rw [List.mem_singleton.1 hu]
  rfl

/-- All blocks now. -/
def allOf (T : Vs) : List (List Int) := (List.range T.S.N).map (nowOf T)

set_option maxHeartbeats 4000000 in
theorem all_ok (h : VI 0 B w A T) (hc : T.C.hi + T.C.mi < 4611686018427380000) : Calls Tryz.prog 9 #[.pointer (some ⟨A.v, 0, none⟩)] w fun e w' => ∃ v gs C', e = .returned v ∧ Im w.heap.size w' v gs (allOf T) ∧ (∀ k, ifoot v gs k → ¬ fp A { T with C := C' } k) ∧ VI 0 B w' A { T with C := C' } ∧ Pt.Stp (fp A T) (fp A { T with C := C' }) w w' ∧ C'.hi + C'.mi ≤ T.C.hi + T.C.mi + 12 := by
  obtain ⟨i0, hi, hz0, hz1, hz2⟩ := info_parts info30
  have hbl := vBlocks_ok h
  have hN := h.cd.ci.N12
  go_enter Tryz.func9, Tryz.ntmps9
  go_wp2_with (first | (go_at_call 21; refine same_at hbl ?_))
  go_loopw [9, 3] (fun i v wr => ∃ (j : Nat) (gs : List (Nat × Nat)) (C' : Ch), j ≤ T.S.N ∧ i = .int .i64 (j : Int) ∧ Im w.heap.size wr v gs (((List.range T.S.N).take j).map (nowOf T)) ∧ (∀ k, ifoot v gs k → ¬ fp A { T with C := C' } k) ∧ VI 0 B wr A { T with C := C' } ∧ Pt.Stp (fp A T) (fp A { T with C := C' }) w wr ∧ C'.hi + C'.mi ≤ T.C.hi + T.C.mi + j) (fun i _ _ => T.S.N - (intOf i).toNat)
  case atStart => exact ⟨0, [], T.C, by omega, rfl, ⟨⟨rfl, .inl ⟨rfl, rfl⟩⟩, rfl, fun i q xs hq => by simp at hq⟩, fun k hk => (by rcases hk with hk | ⟨q, hq, _⟩ <;> first | (cases hk; done) | (cases hq; done)), h, Pt.Stp.refl _ _, by omega⟩
  case round =>
    obtain ⟨j, gs, C', hj, rfl, hIm, hout, hv, hst, hcn⟩ := hrel
    by_cases hlt : j < T.S.N
    · have hjI : (j : Int) < (T.S.N : Int) := by omega
      have hrd := vRead_ok hv j hlt (by show C'.hi + C'.mi < _; omega)
      have HI := (show Hid _ from hIm)
      clear hIm
      go_wp2_with fail
      refine Calls.mono hrd ?_
      rintro e w1 ⟨q, cap, C2, rfl, hO, hnq, hv1, hst1, hcn1⟩
      have hIm1 := HI.out.stp hst1 hout
      have hout1 := HI.out.out hst1 hout
      have hb2 : Below w1.heap.size w1 (w1.alloc (.cells #[.slice (some ⟨q, 0, none⟩) 128 cap] 42)) := (Below.refl _ _).alloc (Nat.le_refl _) _
      have hrow2 := ownsRow_kept hIm1.row (fun k hk => hb2.block k (hIm1.row.lt k hk).2)
      have hsz : w.heap.size ≤ w1.heap.size := Nat.le_trans hst.fr.size hst1.fr.size
      have hgl : gs.length = j := by have := hIm1.len; simp at this; omega
      dsimp only
      go_wp2_with (at_builtin; refine wpList_append_own_at _ rfl _ _ 28 rfl w.heap.size 42 i0 (.slice none 0 0) 1 24 Tryz.underlying28 hi hz0 hz1 hz2 rfl (by decide) _ _ _ rfl hrow2 ⟨w1.heap.size, 0, none⟩ 1 1 [sv (q, cap)] rfl rfl (news_sv w1 (q, cap)) (one_sv (q, cap)) (by unfold maxLen; omega) (by omega) (Nat.le_trans hsz hb2.size) ?_; intro v3 w3 ho3 hg3 hx1 hx2)
      have hw2 : ∀ k, ifoot u3 gs k → k < w1.heap.size := fun k hk => (hIm1.in k hk).2
      have hv2 := hv1.later hb2
      have hx3 : ∀ k, u3.ownBlock = some k → ¬ fp A { T with C := C2 } k := fun k hk => hout1 k (.inl hk)
      have hfr3 : Frame (fun k => u3.ownBlock = some k) (w1.alloc (.cells #[.slice (some ⟨q, 0, none⟩) 128 cap] 42)) w3 := frame_of_grown hg3 (fun k hk => hk)
      have hv3 : VI 0 B w3 A { T with C := C2 } := hv2.frame hfr3 (fun k hk hc => hx3 k hc hk)
      have hO2 := (hO.kept hb2).base hst.fr.size
      have hnew : ∀ k, v3.ownBlock = some k → u3.ownBlock = some k ∨ w1.heap.size ≤ k := by
        intro k hk
        rcases hx2 with e | e
        · exact .inl (e ▸ hk)
        · rw [e] at hk
          have := Option.some.inj hk
          simp at this
          exact .inr (by omega)
      have hrowk : ∀ k, u3.ownBlock = some k → ∃ cs, w1.heap[k]? = some (.cells cs 42 (0, 0)) := fun k hk => own_ty hIm1.row hk
      have hqk : ∃ cs, w1.heap[q]? = some (.cells cs 5 (0, 0)) := own_ty hO rfl
      have hne : u3.ownBlock ≠ some q := fun e => by
        obtain ⟨cs, h1⟩ := hrowk q e
        obtain ⟨cs', h2⟩ := hqk
        rw [h1] at h2
        simp at h2
      have hOq : Own w.heap.size w3 q 128 cap (nowOf T j) := ownsRow_kept hO2 (fun k hk => by
        simp only [Value.ownBlock, Option.some.injEq] at hk
        subst hk
        exact hfr3.block q (by have := hO2.spot; omega) hne)
      have hel : ∀ (i : Nat) (r : Nat × Nat) (xs : List Int), gs[i]? = some r → (((List.range T.S.N).take j).map (nowOf T))[i]? = some xs → Own w.heap.size w3 r.1 128 r.2 xs := fun i r xs hr hx => by
        have h0 := hIm1.el i r xs hr hx
        refine ownsRow_kept (h0.kept hb2) (fun k hk => ?_)
        simp only [Value.ownBlock, Option.some.injEq] at hk
        subst hk
        refine hfr3.block r.1 (by have := (h0.kept hb2).spot; omega) (fun e => ?_)
        obtain ⟨cs, h1⟩ := hrowk r.1 e
        obtain ⟨cs', h2⟩ := own_ty h0 (k := r.1) rfl
        rw [h1] at h2
        simp at h2
      have hst3 : Pt.Stp (fp A T) (fp A { T with C := C2 }) w w3 := by
        have h12 := stp_trans hst hst1
        refine ⟨⟨hfr3.os.trans (hb2.os.trans h12.fr.os), hfr3.tape.trans (hb2.tape.trans h12.fr.tape), hfr3.output.trans (hb2.output.trans h12.fr.output), Nat.le_trans h12.fr.size (Nat.le_trans hb2.size hfr3.size), fun k hk hn => ?_⟩, h12.new⟩
        have hk1 := Nat.lt_of_lt_of_le hk h12.fr.size
        refine (hfr3.block k (Nat.lt_of_lt_of_le hk1 hb2.size) (fun e => ?_)).trans ((hb2.block k hk1).trans (h12.fr.block k hk hn))
        have := (HI.out.row.lt k e).1
        omega
      go_roundw
      case rel =>
        refine ⟨j + 1, gs ++ [(q, cap)], C2, by omega, by go_num, ⟨by simpa using ho3, ?_, ?_⟩, ?_, hv3, ?_, by omega⟩
        · simp; omega
        · intro i r xs hr hx
          by_cases hl : i < gs.length
          · rw [List.getElem?_append_left hl] at hr
            refine hel i r xs hr ?_
            rw [← hx, List.getElem?_map, List.getElem?_map, List.getElem?_take_of_lt (by omega), List.getElem?_take_of_lt (by omega)]
          · rw [List.getElem?_append_right (by omega)] at hr
            obtain ⟨e, hk⟩ := List.getElem?_eq_some_iff.1 hr
            simp at e
            obtain rfl : i = gs.length := by omega
            simp at hk
            subst hk
            rw [List.getElem?_map, List.getElem?_take_of_lt (by omega), List.getElem?_range (by omega)] at hx
            simp at hx
            rw [← hx, hgl]
            exact hOq
        · rintro k (hk | ⟨r, hr, rfl⟩)
          · rcases hnew k hk with h1 | h1
            · exact hx3 k h1
            · exact fun hf => by have := hv1.lt k hf; omega
          · rcases List.mem_append.1 hr with h1 | h1
            · exact hout1 _ (.inr ⟨r, h1, rfl⟩)
            · simp at h1; subst h1; exact hnq
        · exact hst3
      case measure => simp [intOf]; omega
    · obtain rfl : j = T.S.N := by omega
      have hI : ¬ (T.S.N : Int) < (T.S.N : Int) := by omega
      rw [List.take_of_length_le (by simp)] at hIm
      go_wp2
      go_ret
      exact ⟨_, rfl, gs, hIm, C', hout, hv, hst, by omega⟩
end
end Go.Proofs.YtinigfidofgaiaaGreat

/- Two images that are the same. -/
namespace Go.Proofs.YtinigfidofgaiaaGreat
open Go.RowKit Go.Maps
set_option linter.unusedVariables false
set_option maxRecDepth 100000

section
variable {B B' : Nat} {w w' : World} {v v' : Value} {gs gs' : List (Nat × Nat)} {L : List (List Int)}
theorem Im.shape (h : Im B w v gs L) : ∃ p c, v = .slice p L.length c ∧ ∀ j q, gs[j]? = some q → ∃ g, p = some ⟨g, 0, none⟩ ∧ w.cell? ⟨g, j, none⟩ = some (.slice (some ⟨q.1, 0, none⟩) 128 q.2) := by
  have hl := h.len
  have hr := h.row
  rcases hr.2 with ⟨rfl, h0⟩ | ⟨g, cap, cur, rfl, _⟩
  · refine ⟨none, 0, by rw [← hl, h0], fun j q hj => ?_⟩
    have := (List.getElem?_eq_some_iff.1 hj).1
    omega
  · refine ⟨some ⟨g, 0, none⟩, cap, by rw [hl], fun j q hj => ⟨g, rfl, ?_⟩⟩
    have hjl := (List.getElem?_eq_some_iff.1 hj).1
    rw [hr.cellAt j (by omega), List.getElem?_map, hj]
    rfl

set_option maxHeartbeats 2000000 in
theorem vequalFunc_ok (h : Im B w v gs L) (h' : Im B' w v' gs' L) (hS : ∀ xs ∈ L, Sect xs) (hL : L.length ≤ 100) : Calls Tryz.prog 44 #[v, v', .func (.func 25) #[] #[]] w fun e w' => e = .returned (.bool true) ∧ w' = w := by
  obtain ⟨p, c, rfl, hp⟩ := h.shape
  obtain ⟨p', c', rfl, hp'⟩ := h'.shape
  have hcf : ∀ args w, (callFunc 25 args).run Tryz.prog w = .ok (.enter 25 args) w := enters_of Tryz.func25 (by kernel_rfl) rfl
  have hl := h.len
  have hl' := h'.len
  have hel := h.el
  have hel' := h'.el
  obtain ⟨n, hn⟩ : ∃ n, n = L.length := ⟨_, rfl⟩
  rw [← hn] at hl hl' hL
  rw [← hn]
  have HN := (show Hid _ from hn)
  clear hn h h'
  go_enter Tryz.func44, Tryz.ntmps44
  go_wp2_with fail
  go_loopw [17] (fun i wr => ∃ j : Nat, j ≤ n ∧ i = .int .i64 (j : Int) ∧ wr = w) (fun i _ => n - (intOf i).toNat)
  case atStart => exact ⟨0, by omega, rfl, rfl⟩
  case round =>
    obtain ⟨j, hj, rfl, hwr⟩ := hrel
    subst hwr
    by_cases hlt : j < n
    · have hI : (j : Int) < (n : Int) := by omega
      have hj0 : (0 : Int) ≤ (j : Int) := by omega
      obtain ⟨q, hq⟩ : ∃ q, gs[j]? = some q := ⟨_, List.getElem?_eq_getElem (by omega)⟩
      obtain ⟨q', hq'⟩ : ∃ q', gs'[j]? = some q' := ⟨_, List.getElem?_eq_getElem (by omega)⟩
      obtain ⟨xs, hx⟩ : ∃ xs, L[j]? = some xs := ⟨_, List.getElem?_eq_getElem (by have := HN.out; omega)⟩
      obtain ⟨g, rfl, hc⟩ := hp j q hq
      obtain ⟨g', rfl, hc'⟩ := hp' j q' hq'
      have hb := (hS xs (List.mem_of_getElem? hx)).2
      have heq := equal_any (some ⟨q.1, 0, none⟩) (some ⟨q'.1, 0, none⟩) 128 q.2 128 q'.2 xs xs _ ((hel j q xs hq hx).bi (by omega) hb) ((hel' j q' xs hq' hx).bi (by omega) hb)
      rw [show (xs == xs) = true from by simp] at heq
      clear hq hq' hx hel hel' hp hp'
      go_wp2_with (first | (go_at_call 25; refine same_at heq ?_))
      go_roundw
      case rel => exact ⟨j + 1, by omega, by go_num, trivial⟩
      case measure => simp [intOf]; omega
    · have hI : ¬ (j : Int) < (n : Int) := by omega
      go_wp2
      go_ret
      exact ⟨rfl, rfl⟩
set_option maxHeartbeats 400000 in
theorem vsame_ok (h : Im B w v gs L) (h' : Im B' w v' gs' L) (hS : ∀ xs ∈ L, Sect xs) (hL : L.length ≤ 100) : Calls Tryz.prog 13 #[v, v'] w fun e w' => e = .returned (.bool true) ∧ w' = w := by
  have he := vequalFunc_ok h h' hS hL
  go_enter Tryz.func13, Tryz.ntmps13
  go_wp2_with (first | (go_at_call 44; refine same_at he ?_))
  go_ret
  exact ⟨rfl, rfl⟩
end
end Go.Proofs.YtinigfidofgaiaaGreat

/- Calls that were handed in; the set that made makes of them, without its memory. -/
namespace Go.Proofs.YtinigfidofgaiaaGreat.Pt
open Go.RowKit Go.Maps
set_option maxRecDepth 100000
set_option linter.unusedVariables false

/-- A call. -/
structure Dv where
  op : Int
  blk : Int
  off : Int
  bytes : List Int
  ids : List Int
/-- A call's five cells. -/
structure DAt (w : World) (b o : Nat) (x : Dv) : Prop where
  c0 : w.cell? ⟨b, o, none⟩ = some (.int .i64 x.op)
  c1 : w.cell? ⟨b, o + 1, none⟩ = some (.int .i64 x.blk)
  c2 : w.cell? ⟨b, o + 2, none⟩ = some (.int .i64 x.off)
  c3 : ∃ p m c, w.cell? ⟨b, o + 3, none⟩ = some (.slice p m c) ∧ m ≤ c ∧ c ≤ 9223372036854775807 ∧ BI w p m x.bytes
  c4 : ∃ p m c, w.cell? ⟨b, o + 4, none⟩ = some (.slice p m c) ∧ m ≤ c ∧ c ≤ 9223372036854775807 ∧ m * 8 ≤ 140737488351232 ∧ II w p m x.ids
  r0 : I64 x.op
  r1 : I64 x.blk
  r2 : I64 x.off
/-- The slice at p, of n calls, holds D. -/
structure DI (w : World) (p : Option Addr) (n : Nat) (D : List Dv) : Prop where
  len : D.length = n
  big : n ≤ 140737488355328
  cells : 0 < n → ∃ b o, p = some ⟨b, o, none⟩ ∧ ∀ i x, D[i]? = some x → DAt w b (o + i * 5) x
theorem DAt.kept {w w' : World} {b o : Nat} {x : Dv} (h : DAt w b o x) (hb : Below w.heap.size w w') : DAt w' b o x := by
  have hlt := lt_of_cell h.c0
  have hk : ∀ j, w'.cell? ⟨b, j, none⟩ = w.cell? ⟨b, j, none⟩ := fun j => hb.cell (p := ⟨b, j, none⟩) hlt
  refine ⟨(hk _).trans h.c0, (hk _).trans h.c1, (hk _).trans h.c2, ?_, ?_, h.r0, h.r1, h.r2⟩
  · obtain ⟨p, m, c, e, r1, r2, r3⟩ := h.c3
    exact ⟨p, m, c, (hk _).trans e, r1, r2, r3.kept hb⟩
  · obtain ⟨p, m, c, e, r1, r2, r3, r4⟩ := h.c4
    exact ⟨p, m, c, (hk _).trans e, r1, r2, r3, r4.kept hb⟩
theorem DI.kept {w w' : World} {p : Option Addr} {n : Nat} {D : List Dv} (h : DI w p n D) (hb : Below w.heap.size w w') : DI w' p n D :=
  ⟨h.len, h.big, fun hn => by
    obtain ⟨b, o, e, hc⟩ := h.cells hn
    exact ⟨b, o, e, fun i x hx => (hc i x hx).kept hb⟩⟩

theorem u64_range (b : Int) : 0 ≤ IntKind.u64.wrap b ∧ IntKind.u64.wrap b < 18446744073709551616 := by
  rw [IntKind.wrap_u64]; omega
/-- A number modulo K, as it is told. -/
def mq (K : Nat) (b : Int) : Nat := ((IntKind.u64.wrap b).tmod (K : Int)).toNat
theorem mq_lt {K : Nat} (hK : 1 ≤ K) (b : Int) : mq K b < K := by
  have h := u64_range b
  unfold mq
  generalize IntKind.u64.wrap b = u at *
  have h1 := Int.tmod_lt_of_pos u (show (0 : Int) < (K : Int) by omega)
  have h2 := Int.tmod_nonneg (K : Int) h.1
  omega
theorem mq_eq {K : Nat} (hK : 1 ≤ K) (b : Int) : (IntKind.u64.wrap b).tmod (K : Int) = (mq K b : Int) := by
  have h := u64_range b
  unfold mq
  generalize IntKind.u64.wrap b = u at *
  have h2 := Int.tmod_nonneg (K : Int) h.1
  omega
theorem mq_wrap {K : Nat} (hK : 1 ≤ K) (hK2 : K ≤ 4611686018427387904) (b : Int) : wrap64 ((IntKind.u64.wrap b).tmod (K : Int)) = (mq K b : Int) := by
  have h1 := mq_lt hK b
  rw [mq_eq hK]
  unfold wrap64
  omega

/-- A patch without its memory. -/
def strip (p : Pv) : Pv := { p with bp := none, bc := 0, np := none, nc := 0 }
theorem fP_strip (P : List Pv) (k : Int) : fP (P.map strip) k = (fP P k).map strip := by
  unfold fP
  rw [List.find?_map]
  rfl
theorem still_strip (P : List Pv) (zs : List Int) : still (P.map strip) zs = still P zs := by
  unfold still
  apply List.filter_congr
  intro k _
  rw [fP_strip, Option.isSome_map]
theorem ofB_strip (P : List Pv) (b : Int) : ofB (P.map strip) b = (ofB P b).map strip := by
  unfold ofB
  rw [List.filter_map]
  rfl
theorem upS_strip (p u : Pv) (s : List Bool × Int) : upS p (strip u) s = upS p u s := rfl
theorem upI_strip (p u : Pv) (s : List Bool × Int) (I : List Int) : upI p (strip u) s I = upI p u s I := rfl
theorem uppF_strip (p : Pv) : ∀ (l : List Pv) (s : List Bool × Int) (I : List Int), uppF p (l.map strip) s I = uppF p l s I
  | [], _, _ => rfl
  | u :: l, s, I => by
    rw [List.map_cons]
    unfold uppF
    rw [upS_strip, upI_strip, uppF_strip p l]
theorem uppL_strip (P : List Pv) (p : Pv) : uppL (P.map strip) p = uppL P p := by
  unfold uppL
  rw [ofB_strip, ← List.map_reverse, uppF_strip]

/-- What a call's patch has. -/
def bsOf (d : Dv) : List Int := if d.bytes.take 128 = [] then [1] else d.bytes.take 128
def zsOf (n : Nat) (ids : List Int) : List Int := if n = 0 then [] else ids.map (fun x => 1 + (mq n x : Int))
def newP (n : Nat) (d : Dv) : Pv := { id := n + 1, blk := mq 5 d.blk, off := mq (129 - (bsOf d).length) d.off, bs := bsOf d, nd := [], bp := none, bc := 0, np := none, nc := 0 }
def mk1 (S : List Pv) (d : Dv) : List Pv := S ++ [{ newP S.length d with nd := rs (still S (zsOf S.length d.ids) ++ uppL S (newP S.length d)) }]
def mkS (D : List Dv) : List Pv := D.foldl mk1 []
theorem mkS_snoc (D : List Dv) (d : Dv) : mkS (D ++ [d]) = mk1 (mkS D) d := by unfold mkS; rw [List.foldl_append]; rfl
theorem mk1_len (S : List Pv) (d : Dv) : (mk1 S d).length = S.length + 1 := by simp [mk1]
theorem mkS_len : ∀ (D : List Dv) (S : List Pv), (D.foldl mk1 S).length = S.length + D.length
  | [], S => rfl
  | d :: D, S => by
    rw [List.foldl_cons, mkS_len D, mk1_len, List.length_cons]
    omega
theorem bsOf_len (d : Dv) : 1 ≤ (bsOf d).length ∧ (bsOf d).length ≤ 128 := by
  unfold bsOf
  split
  · simp
  · rename_i h
    have : (d.bytes.take 128).length ≠ 0 := fun e => h (List.length_eq_zero_iff.1 e)
    simp only [List.length_take] at this ⊢
    omega
end Go.Proofs.YtinigfidofgaiaaGreat.Pt
