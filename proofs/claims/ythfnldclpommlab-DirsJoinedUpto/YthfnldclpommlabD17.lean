/- dirs: names. -/
import Derived.Test.YthfnldclpommlabD16
namespace Go.Proofs.Ythfnldclpommlab
open Go.RowKit
set_option linter.unusedVariables false

theorem info9z : (Try.prog.info? 9).map (fun i => (i.zero, i.size, i.bytes)) = some (some (.string ⟨#[]⟩), 1, 16) := by kernel_rfl
/-- A row of texts that the call made. -/
def Sr (B : Nat) (w : World) (v : Value) (L : List ByteArray) : Prop := w.ownsRow B 9 1 v L.length (L.map Value.string)
theorem Sr.nil (B : Nat) (w : World) : Sr B w (.slice none 0 0) [] := ⟨rfl, .inl ⟨rfl, rfl⟩⟩
theorem Sr.lt {w : World} {B : Nat} {v : Value} {L : List ByteArray} (h : Sr B w v L) : ∀ g, v.ownBlock = some g → B ≤ g ∧ g < w.heap.size := fun g hg => World.ownsRow.lt h g hg
theorem Sr.kept {w w' : World} {B : Nat} {v : Value} {L : List ByteArray} (h : Sr B w v L) (hb : Below w.heap.size w w') : Sr B w' v L := by
  refine ⟨h.1, ?_⟩
  rcases h.2 with h' | ⟨g, cap, cur, e, hB, hg, rest⟩
  · exact .inl h'
  · exact .inr ⟨g, cap, cur, e, hB, (hb.block _ (Array.getElem?_eq_some_iff.1 hg).1).trans hg, rest⟩
/-- The slice at p, of n texts, holds L. -/
structure SI (w : World) (p : Option Addr) (n : Nat) (L : List ByteArray) : Prop where
  len : L.length = n
  big : n ≤ 140737488355328
  cells : 0 < n → ∃ b o, p = some ⟨b, o, none⟩ ∧ ∀ i s, L[i]? = some s → w.cell? ⟨b, o + i, none⟩ = some (.string s)
theorem SI.kept {w w' : World} {p : Option Addr} {n : Nat} {L : List ByteArray} (h : SI w p n L) (hb : Below w.heap.size w w') : SI w' p n L := by
  refine ⟨h.len, h.big, fun hn => ?_⟩
  obtain ⟨b, o, rfl, hc⟩ := h.cells hn
  exact ⟨b, o, rfl, fun i e he => (hb.cell (p := ⟨b, o + i, none⟩) (lt_of_cell (hc i e he))).trans (hc i e he)⟩
theorem Sr.si {w : World} {B : Nat} {v : Value} {L : List ByteArray} (h : Sr B w v L) (hn : L.length ≤ 140737488355328) : ∃ p c, v = .slice p L.length c ∧ L.length ≤ c ∧ c ≤ 9223372036854775807 ∧ SI w p L.length L := by
  have hh := h
  rcases h.2 with ⟨e, e0⟩ | ⟨g, cap, cur, e, _, _, hc, hm, _⟩
  · rw [e]
    have : L = [] := List.length_eq_zero_iff.1 e0
    subst this
    exact ⟨none, 0, rfl, Nat.le_refl _, by omega, rfl, by simp, fun h => by simp at h⟩
  · refine ⟨_, _, e, hc, by unfold maxLen at hm; omega, rfl, hn, fun _ => ⟨g, 0, rfl, fun i x hx => ?_⟩⟩
    rw [Nat.zero_add]
    have hi : i < L.length := (List.getElem?_eq_some_iff.1 hx).1
    subst e
    have h1 := World.ownsRow.cellAt hh i (by omega)
    rw [List.getElem?_map, hx] at h1
    exact h1

set_option maxRecDepth 20000 in
theorem sr_app {B : Nat} {w : World} {v1 : Value} {A : List ByteArray} (h1 : Sr B w v1 A) (g : Nat) (x : ByteArray) (hg : w.heap[g]? = some (.cells #[.string x] 9)) (hB : B ≤ w.heap.size) (hl : A.length ≤ 1000) (ty : TypeId) :
    ∃ v' w', (Builtin.append_ #[28, 28] ty #[v1, .slice (some ⟨g, 0, none⟩) 1 1]).run Try.prog w = .ok v' w' ∧ Sr B w' v' (A ++ [x]) ∧ w.grownBy w' v1.ownBlock := by
  obtain ⟨i0, hi, hz0, hz1, hz2⟩ := info_parts info9z
  obtain ⟨v', w', hr, ho, hgr, _, hb⟩ := run_append_own_at (P := Try.prog) w B 28 ty 9 i0 _ 1 16 Try.underlying28 hi hz0 hz1 hz2 rfl (by decide) v1 A.length (A.map Value.string) h1 ⟨g, 0, none⟩ 1 1 [.string x] rfl (fun j u hu => by
    rw [Addr.add_mid, Nat.zero_add]
    match j, hu with
    | 0, hu => simp at hu; subst hu; exact cell_row hg 0 _ rfl
    | j + 1, hu => simp at hu) (fun u hu => by
      simp only [List.mem_cons, List.not_mem_nil, or_false] at hu
      rw [hu]; rfl) (by unfold maxLen; omega) (by omega) hB
  refine ⟨v', w', hr, ?_, hgr⟩
  unfold Sr
  rw [List.length_append, List.map_append]
  exact ho

/-- The names. -/
def nms (L : List En) : List ByteArray := (L.filter (fun e => decide (e.n ≠ 0))).map En.s
theorem nms_next {L : List En} {j : Nat} {e : En} (he : L[j]? = some e) : nms (L.take (j + 1)) = if e.n = 0 then nms (L.take j) else nms (L.take j) ++ [e.s] := by
  unfold nms
  rw [List.take_add_one, he, List.filter_append, List.map_append]
  by_cases h : e.n = 0
  · simp [h]
  · simp [h]
theorem nms_len (L : List En) : (nms L).length ≤ L.length := by
  unfold nms
  rw [List.length_map]
  exact List.length_filter_le _ _

set_option maxRecDepth 100000 in
theorem idx53a (a0 a1 a2 a3 a4 a5 a6 a7 : En) (k : Nat) (hk : k < 8) (w : World) : (Instr.index 53 (.agg (flat2 [a0, a1, a2, a3, a4, a5, a6, a7]).toArray) (.int .i64 (k : Int))).run Try.prog w = .ok (entV ([a0, a1, a2, a3, a4, a5, a6, a7].getD k ent00).n ([a0, a1, a2, a3, a4, a5, a6, a7].getD k ent00).s) w := by
  rcases (by omega : k = 0 ∨ k = 1 ∨ k = 2 ∨ k = 3 ∨ k = 4 ∨ k = 5 ∨ k = 6 ∨ k = 7) with rfl | rfl | rfl | rfl | rfl | rfl | rfl | rfl <;> kernel_rfl
theorem idx53 (E : List En) (hl : E.length = 8) {j : Nat} {e : En} (he : E[j]? = some e) (w : World) : (Instr.index 53 (.agg (flat2 E).toArray) (.int .i64 (j : Int))).run Try.prog w = .ok (entV e.n e.s) w := by
  have hj : j < 8 := by have := (List.getElem?_eq_some_iff.1 he).1; omega
  have hd : E.getD j ent00 = e := by rw [List.getD_eq_getElem?_getD, he]; rfl
  rcases E with _ | ⟨a0, _ | ⟨a1, _ | ⟨a2, _ | ⟨a3, _ | ⟨a4, _ | ⟨a5, _ | ⟨a6, _ | ⟨a7, _ | ⟨a8, E⟩⟩⟩⟩⟩⟩⟩⟩⟩ <;> simp only [List.length_cons, List.length_nil] at hl <;> first | omega | skip
  rw [idx53a a0 a1 a2 a3 a4 a5 a6 a7 j hj w, hd]

/-- Names, as a row. -/
def PN (w : World) (L : List ByteArray) (e : Ending) (w' : World) : Prop := ∃ q d, e = .returned (.slice q L.length d) ∧ SI w' q L.length L ∧ L.length ≤ d ∧ d ≤ 9223372036854775807 ∧ Below w.heap.size w w'

set_option maxRecDepth 20000 in
set_option maxHeartbeats 2000000 in
theorem rNames_ok (p : Option Addr) (n c : Nat) (xs : List Int) (w : World) (h : BI w p n xs) (hnc : n ≤ c) (hc2 : c ≤ 9223372036854775807) :
    Calls Try.prog 14 #[.slice p n c] w fun e w' => PN w (nms (El n xs)) e w' := by
  have hde := rdecode_ok p n c xs w h hnc hc2
  have hl8 := El_len n xs
  go_enter Try.func14, Try.ntmps14
  go_wp2_with fail
  refine hde.mono ?_
  rintro _ w1 ⟨v, rfl, hR, hb1⟩
  clear hde
  obtain ⟨q, d, rfl, hq1, hq2, hE⟩ := hR.ei (by omega)
  obtain ⟨L, hL⟩ : ∃ L, El n xs = L := ⟨_, rfl⟩
  rw [hL] at hE hq1 hl8
  have HE : Hid _ := And.intro hE hb1
  have HL : Hid _ := hL
  rw [hL]
  clear hR hE hb1 hL
  dsimp only
  go_wp2_with fail
  go_loopw [5, 15] (fun v i wr => ∃ j : Nat, j ≤ L.length ∧ i = .int .i64 (j : Int) ∧ Below w1.heap.size w1 wr ∧ Sr w1.heap.size wr v (nms (L.take j))) (fun _ i _ => L.length - (intOf i).toNat)
  case atStart => exact ⟨0, by omega, rfl, Below.refl _ _, Sr.nil _ _⟩
  case round =>
    obtain ⟨j, hj, rfl, hb, hR⟩ := hrel
    by_cases hlt : j < L.length
    · obtain ⟨N, S, he⟩ : ∃ N S, L[j]? = some ⟨N, S⟩ := ⟨_, _, List.getElem?_eq_getElem hlt⟩
      obtain ⟨b, o, rfl, hcs⟩ := (HE.out.1.kept hb).cells (by omega)
      obtain ⟨c0, c1⟩ := hcs j _ he
      have hjI : (j : Int) < (L.length : Int) := by omega
      have hj0 : (0 : Int) ≤ (j : Int) := by omega
      have hnx := nms_next he
      have hbA := grew_alloc wr (entO N S)
      have HR : Hid _ := And.intro hR hb
      by_cases h0 : N = 0
      · subst h0
        rw [if_pos rfl] at hnx
        have HV : Hid _ := And.intro (grew_trans hb hbA) (And.intro (hR.kept hbA) hnx)
        clear hcs hb he hR hnx hbA
        go_wp2_with fail
        go_roundw
        case rel => exact ⟨j + 1, by omega, by go_num, HV.out.1, by rw [HV.out.2.2]; exact HV.out.2.1⟩
        case measure => simp [intOf]; omega
      · rw [if_neg h0] at hnx
        have hbB := grew_alloc (wr.alloc (entO N S)) (.cells #[.string S] 9)
        have hbW := grew_trans hbA hbB
        have hgn := heap_new (wr.alloc (entO N S)) (.cells #[.string S] 9)
        obtain ⟨v', w2, hr2, hR2, hg2⟩ := sr_app (hR.kept hbW) _ S hgn (by have := hbW.size; have := hb.size; omega) (by have := nms_len (L.take j); rw [List.length_take] at this; omega) 28
        have hb2 : Below w1.heap.size w1 w2 := grown_bel (grew_trans hb hbW) hg2 (fun g hg => (hR.lt g hg).1)
        rw [← hnx] at hR2
        have H2 : Hid _ := And.intro hb2 hR2
        rw [show (wr.alloc (entO N S)).heap.size = wr.heap.size + 1 by simp] at hr2
        have hN : (N != 0) = true := by simpa using h0
        clear hcs hb he hR hnx hbA hbB hbW hgn hR2 hg2 hb2
        go_wp2_with (refine wpList_append_run rfl _ _ 28 28 rfl rfl rfl hr2 ?_)
        clear hr2
        go_roundw
        case rel => exact ⟨j + 1, by omega, by go_num, H2.out.1, H2.out.2⟩
        case measure => simp [intOf]; omega
    · obtain rfl : j = L.length := by omega
      have hnt : ¬ (L.length : Int) < (L.length : Int) := by omega
      rw [List.take_length] at hR
      obtain ⟨q2, d2, rfl, hd1, hd2, hS⟩ := hR.si (by have := nms_len L; omega)
      have H2 : Hid _ := And.intro hS (And.intro hd1 (And.intro hd2 (grew_trans HE.out.2 hb)))
      clear hR hS hb
      go_wp2_with fail
      go_ret
      rw [HL.out]
      exact ⟨q2, d2, rfl, H2.out.1, H2.out.2.1, H2.out.2.2.1, H2.out.2.2.2⟩

set_option maxRecDepth 20000 in
set_option maxHeartbeats 2000000 in
theorem Names_ok (p : Option Addr) (n c : Nat) (xs : List Int) (w : World) (h : BI w p n xs) (hnc : n ≤ c) (hc2 : c ≤ 9223372036854775807) :
    Calls Try.prog 13 #[.slice p n c] w fun e w' => PN w (nms (El n xs)) e w' := by
  have hre := read_ok p n c xs w h hnc hc2
  by_cases hm : mayB n xs
  · rw [El_yes hm]
    rw [decide_eq_true hm] at hre
    go_enter Try.func13, Try.ntmps13
    go_wp2_with fail
    refine grew_at hre ?_
    intro w1 hb1
    clear hre
    obtain ⟨W, hW⟩ := boxed w1 n xs
    have hWe := hW.eq
    have hi53 := info53' n xs
    have hs53 := size53' n xs
    have hone := flat2_all (dec8 n xs)
    have hrow := hW.pg.row
    have hl8 := dec8_len n xs
    have hmay := dec8_may n xs
    have HW : Hid _ := And.intro (grew_trans hb1 hW.bel) hm
    clear hW hm hb1
    dsimp only
    obtain ⟨L, hL⟩ : ∃ L, dec8 n xs = L := ⟨_, rfl⟩
    rw [hL] at hi53 hs53 hone hrow hl8 hmay hWe
    rw [hL]
    have HL : Hid _ := hL
    clear hL
    go_wp2_with (first
      | (refine wpList_store_row rfl 53 _ _ rfl w1.heap.size (flat2 L).toArray rfl rfl 53 _ (heap_new w1 _) hi53 hs53 hone ?_; rw [hWe])
      | (refine wpList_load_row rfl 53 _ rfl w1.heap.size rfl 53 _ (0, 0) _ hrow Try.underlying53 rfl hi53 ?_))
    go_loopw [5, 16] (fun v i wr => ∃ j : Nat, j ≤ 8 ∧ i = .int .i64 (j : Int) ∧ Below W.heap.size W wr ∧ Sr W.heap.size wr v (nms (L.take j))) (fun _ i _ => 8 - (intOf i).toNat)
    case atStart => exact ⟨0, by omega, rfl, Below.refl _ _, Sr.nil _ _⟩
    case round =>
      obtain ⟨j, hj, rfl, hb, hR⟩ := hrel
      by_cases hlt : j < 8
      · obtain ⟨N, S, he⟩ : ∃ N S, L[j]? = some ⟨N, S⟩ := ⟨_, _, List.getElem?_eq_getElem (by omega)⟩
        have hjI : (j : Int) < 8 := by omega
        have hj0 : (0 : Int) ≤ (j : Int) := by omega
        have hidx := idx53 L hl8 he
        have hnx := nms_next he
        have hbA := grew_alloc wr (entO N S)
        have hmj := hmay _ (List.mem_of_getElem? he)
        have hkd := kindOf_ok N S (by have h13 : S.size ≤ 13 := emay_size hmj; omega) (wr.alloc (entO N S))
        by_cases h0 : N = 0
        · rw [show kd N S = 1 by unfold kd; rw [if_pos hmj, if_pos h0]] at hkd
          rw [if_pos h0] at hnx
          have HV : Hid _ := And.intro (grew_trans hb hbA) (And.intro (hR.kept hbA) hnx)
          clear he hR hb hnx hbA hmj h0 hmay hrow
          go_wp2_with fail
          refine grew_at hkd ?_
          intro w2 hb2
          clear hkd
          have H2 : Hid _ := And.intro (grew_trans HV.out.1 hb2) (HV.out.2.1.kept hb2)
          clear hb2
          dsimp only
          go_wp2_with fail
          go_roundw
          case rel => exact ⟨j + 1, by omega, by go_num, H2.out.1, by rw [HV.out.2.2]; exact H2.out.2⟩
          case measure => simp [intOf]; omega
        · rw [show kd N S = 2 by unfold kd; rw [if_pos hmj, if_neg h0]] at hkd
          rw [if_neg h0] at hnx
          have hxb := heap_new wr (entO N S)
          have HV : Hid _ := And.intro (grew_trans hb hbA) (And.intro (hR.kept hbA) (And.intro hnx hxb))
          clear he hR hb hnx hbA hmj h0 hmay hrow hxb
          go_wp2_with fail
          refine grew_at hkd ?_
          intro w2 hb2
          clear hkd
          have hx2 := (hb2.block _ (Array.getElem?_eq_some_iff.1 HV.out.2.2.2).1).trans HV.out.2.2.2
          have x1 : w2.cell? ⟨wr.heap.size, 1, none⟩ = some (.string S) := cell_row hx2 1 _ rfl
          have hbB := grew_alloc w2 (.cells #[.string S] 9)
          have hR2 := HV.out.2.1.kept hb2
          have hb02 := grew_trans HV.out.1 hb2
          obtain ⟨v', w3, hr3, hR3, hg3⟩ := sr_app (hR2.kept hbB) _ S (heap_new w2 _) (by have := hbB.size; have := hb02.size; omega) (by have := nms_len (L.take j); rw [List.length_take] at this; omega) 28
          have hb3 : Below W.heap.size W w3 := grown_bel (grew_trans hb02 hbB) hg3 (fun g hg => (hR2.lt g hg).1)
          rw [← HV.out.2.2.1] at hR3
          have H3 : Hid _ := And.intro hb3 hR3
          clear hx2 hb2 hbB hR2 hb02 hR3 hg3 hb3
          dsimp only
          go_wp2_with (refine wpList_append_run rfl _ _ 28 28 rfl rfl rfl hr3 ?_)
          clear hr3
          go_roundw
          case rel => exact ⟨j + 1, by omega, by go_num, H3.out.1, H3.out.2⟩
          case measure => simp [intOf]; omega
      · obtain rfl : j = 8 := by omega
        rw [List.take_of_length_le (by omega)] at hR
        obtain ⟨q2, d2, rfl, hd1, hd2, hS⟩ := hR.si (by have := nms_len L; omega)
        have H2 : Hid _ := And.intro hS (And.intro hd1 (And.intro hd2 (grew_trans HW.out.1 hb)))
        clear hR hS hb
        go_wp2_with fail
        go_ret
        rw [HL.out]
        exact ⟨q2, d2, rfl, H2.out.1, H2.out.2.1, H2.out.2.2.1, H2.out.2.2.2⟩
  · rw [El_no hm]
    rw [decide_eq_false hm] at hre
    go_enter Try.func13, Try.ntmps13
    go_wp2_with fail
    refine grew_at hre ?_
    intro w1 hb1
    clear hre
    obtain ⟨W, hW⟩ := boxed w1 n xs
    have hWe := hW.eq
    have hi53 := info53' n xs
    have hs53 := size53' n xs
    have hone := flat2_all (dec8 n xs)
    have HW : Hid _ := grew_trans hb1 hW.bel
    clear hW hm hb1
    dsimp only
    go_wp2_with (refine wpList_store_row rfl 53 _ _ rfl w1.heap.size (flat2 (dec8 n xs)).toArray rfl rfl 53 _ (heap_new w1 _) hi53 hs53 hone ?_; rw [hWe])
    go_ret
    exact ⟨none, 0, rfl, ⟨rfl, by simp [nms], fun h => by simp [nms] at h⟩, by simp [nms], by omega, HW.out⟩
end Go.Proofs.Ythfnldclpommlab
