/- J15 J16 -/
import Derived.Test.YthdlpeejmmobmaaGreatYC43

namespace Go.Proofs.YthdlpeejmmobmaaGreat
open Go.RowKit Go.Maps
open Mk.Al (putY rowOf)
set_option linter.unusedVariables false
set_option maxRecDepth 100000
theorem iP_mod {N G B Q : Nat} (hg : Geo G B Q N) {n : Nat} (hn : n < G * Q) : iP B Q n % B = 2 + n % Q / 4 ∧ 2 ≤ iP B Q n % B ∧ iP B Q n % B < 2 + Q / 4 := by
 have hfit := hg.fit
 have hfe : Mk.Al.fN false Q 0 < Mk.Al.eN false B Q := (Mk.Al.fe_lt hg.may false 0).1
 have hfe : 2 + Q / 4 < B := hfe
 have hm : n % Q < Q := Nat.mod_lt _ (by omega)
 have e : iP B Q n % B = 2 + n % Q / 4 := by
  unfold iP
  rw [Nat.add_assoc, Nat.add_comm (n / Q * B), Nat.add_mul_mod_self_right, Nat.mod_eq_of_lt (by omega)]
 omega
theorem hds_else {N G B Q : Nat} (hg : Geo G B Q N) {I : Nat → List Int} {H : Nat → List Int} (hH : Hds I G B H) (b o : Nat) (xs : List Int) (hb : b % B ≠ 1) : Hds (updI I b o xs) G B H := by
 have hfit := hg.fit
 refine ⟨fun k hk => ?_, hH.len, hH.byt⟩
 rw [← hH.at_ k hk]
 unfold updI
 rw [if_neg]
 intro e
 rw [← e, Nat.add_comm, Nat.add_mul_mod_self_right, Nat.mod_eq_of_lt (by omega)] at hb
 exact hb rfl
theorem iB_put {I : Nat → List Int} {B Q n : Nat} (hl : (I (iP B Q n)).length = 128) {xs : List Int} (hx : xs.length = 32) : iB (updI I (iP B Q n) (iA Q n) xs) B Q n = xs := by
 have hA : iA Q n + 32 ≤ 128 := by unfold iA; omega
 unfold iB updI lay
 rw [if_pos rfl, List.append_assoc, List.drop_left' (by rw [List.length_take]; omega), List.take_left' hx]
theorem iB_same {I I' : Nat → List Int} {B Q n : Nat} (h : I' (iP B Q n) = I (iP B Q n)) : iB I' B Q n = iB I B Q n := by
 unfold iB; rw [h]
def FreR (w : World) (v : Nat) (F : Nat → Prop) (N : Nat) (l c G B Q : Nat) (H : Nat → List Int) (ino : Nat) (L : List Nat) (e : Ending) (w' : World) : Prop :=
 ∃ (id : Int) (F' : Nat → Prop) (I' H' : Nat → List Int) (l' c' : Nat), e = .returned (.tuple #[.int .i64 id, .int .i64 0]) ∧ Vol w' v F' N I' l' c' ∧ Hds I' G B H' ∧ (∀ y, onB H' B y = (onB H B y && !decide (y ∈ L))) ∧
  (∀ n, n < G → rowOf true (H' n) = if n = ino / Q then Mk.Bit.put (rowOf true (H n)) (ino % Q) false else rowOf true (H n)) ∧ iB I' B Q ino = Mk.dinB 0 0 0 0 0 0 0 0 0 ∧ l' ≤ l + L.length + 2 ∧ c' ≤ c + L.length + 2 ∧ Pt.Stp F F' w w'
def FreL (wx : World) (v : Nat) (F1 : Nat → Prop) (N : Nat) (I1 : Nat → List Int) (l1 c1 G B : Nat) (H : Nat → List Int) (L : List Nat) (iv : Value) (wr : World) : Prop :=
 ∃ (k : Nat) (F2 : Nat → Prop) (I2 H2 : Nat → List Int) (l2 c2 : Nat), k ≤ L.length ∧ iv = .int .i64 (k : Int) ∧ Vol wr v F2 N I2 l2 c2 ∧ Hds I2 G B H2 ∧ (∀ y, onB H2 B y = (onB H B y && !decide (y ∈ L.take k))) ∧
  (∀ n, n < G → rowOf true (H2 n) = rowOf true (H n)) ∧ (∀ j, j % B ≠ 1 → I2 j = I1 j) ∧ l1 ≤ l2 ∧ l2 ≤ l1 + k ∧ c2 ≤ c1 + k ∧ Pt.Stp F1 F2 wx wr
theorem putH_else {I : Nat → List Int} {B n : Nat} {ys : List Int} (hB : 1 < B) {j : Nat} (h : j % B ≠ 1) : putH I B n ys j = I j := by
 unfold putH
 rw [if_neg]
 intro e
 rw [e, Nat.add_comm, Nat.add_mul_mod_self_right, Nat.mod_eq_of_lt hB] at h
 exact h rfl
theorem take_next {L : List Nat} {k : Nat} (hk : k < L.length) (z : Nat) : decide (z ∈ L.take (k + 1)) = (decide (z ∈ L.take k) || decide (z = L[k])) := by
 have e : z ∈ L.take (k + 1) ↔ (z ∈ L.take k ∨ z = L[k]) := by rw [List.take_succ_eq_append_getElem hk, List.mem_append, List.mem_singleton]
 rw [decide_eq_decide.2 e, Bool.decide_or]
section
variable {w w' : World} {v : Nat} {F : Nat → Prop} {N : Nat} {I : Nat → List Int} {l c G B Q : Nat}
set_option maxHeartbeats 8000000 in
theorem free_ok (h : Vol w v F N I l c) (hg : Geo G B Q N) {H : Nat → List Int} (hH : Hds I G B H) {ino : Nat} (hi : ino < G * Q) (hi3 : 3 ≤ ino) (hon : Mk.Bit.on (rowOf true (H (ino / Q))) (ino % Q) = true) (q : Option Addr) (d : Nat) (L : List Nat) (hq : Pt.II w q L.length (nlist L)) (hqF : ∀ j, Pt.blkOf q = some j → ¬ F j ∧ j < w.heap.size)
  (hL : ∀ y, y ∈ L → y < N ∧ 2 + Q / 4 ≤ y % B) (hc : c + L.length + 10 < 4611686018427387904) (hl : l + L.length + 10 ≤ 10000) :
  Calls Tryz.prog 91 #[.pointer (some ⟨v, 0, none⟩), Mk.geomV G B Q, .int .i64 (ino : Int), .slice q L.length d, .slice none 0 0] w (FreR w v F N l c G B Q H ino L) := by
 have hfit := hg.fit
 obtain ⟨W, hW⟩ : ∃ W, w.alloc (Mk.geomO G B Q) = W := ⟨_, rfl⟩
 have hb : Below w.heap.size w W := by rw [← hW]; exact Mk.grew_alloc _ _
 have hx : W.heap[w.heap.size]? = some (Mk.geomO G B Q) := by rw [← hW]; exact at_new rfl
 have hsz : W.heap.size = w.heap.size + 1 := by rw [← hW]; simp
 have c0 := (g3_of hx).c0
 have c1 := (g3_of hx).c1
 have c2 := (g3_of hx).c2
 have hlt := h.lt
 have hlen := (h.sect (iP B Q ino)).1
 have hpm := iP_mod hg hi
 have hput : Calls Tryz.prog 32 #[.pointer (some ⟨v, 0, none⟩), Mk.geomV G B Q, .int .i64 (ino : Int), Mk.dinV 0 0 0 0 0 0 0 0 0, .slice none 0 0] W fun e w' => e = .returned (.tuple #[.int .i64 ((l + 1 : Nat) : Int), .int .i64 0]) ∧ ∃ F', Vol w' v F' N (updI I (iP B Q ino) (iA Q ino) (Mk.dinB 0 0 0 0 0 0 0 0 0)) (l + 1) c ∧ Pt.Stp F F' W w' :=
  iput_ok (h.later hb) hg hi (by omega) 0 0 0 0 0 0 0 0 0 (by unfold Mk.DMay; omega) none 0 0 [] (ii_nil W) (fun k hk => by cases hk) rfl (by omega)
 have hiB := iB_put hlen (xs := Mk.dinB 0 0 0 0 0 0 0 0 0) (Mk.dinB_len 0 0 0 0 0 0 0 0 0)
 obtain ⟨I1, hI1⟩ : ∃ I1, updI I (iP B Q ino) (iA Q ino) (Mk.dinB 0 0 0 0 0 0 0 0 0) = I1 := ⟨_, rfl⟩
 have hH1 : Hds I1 G B H := by rw [← hI1]; exact hds_else hg hH _ _ _ (by omega)
 rw [hI1] at hput hiB
 have HB : Hid (Below w.heap.size w W ∧ (∀ k, F k → k < w.heap.size) ∧ iB I1 B Q ino = Mk.dinB 0 0 0 0 0 0 0 0 0 ∧ 2 ≤ iP B Q ino % B) := ⟨hb, hlt, hiB, hpm.2.1⟩
 clear hb hlt hiB hpm hI1 hlen h hH
 go_enter Tryz.func91, Tryz.ntmps91
 go_wp2_with fail
 refine Calls.mono hput ?_
 rintro e w1 ⟨rfl, F1, hv1, hst1⟩
 have hs1 := hst1.fr.size
 have hx1 : w1.heap[w.heap.size]? = some (Mk.geomO G B Q) := (hst1.fr.block _ (by omega) (fun hf => by have := HB.out.2.1 _ hf; omega)).trans hx
 have hg1 : ¬ F1 w.heap.size := fun hf => (hst1.new _ hf).elim (fun h9 => by have := HB.out.2.1 _ h9; omega) (fun h9 => by have h9 : W.heap.size ≤ w.heap.size := h9; omega)
 have hq1 : ∀ j, Pt.blkOf q = some j → ¬ F1 j ∧ j < w1.heap.size := fun j hj => ⟨fun hf => (hst1.new _ hf).elim (hqF j hj).1 (fun h9 => by have h9 : W.heap.size ≤ j := h9; have := (hqF j hj).2; omega), by have := (hqF j hj).2; omega⟩
 have hq1i : Pt.II w1 q L.length (nlist L) := (hq.kept HB.out.1).keptIf (fun j hj hl => hst1.fr.block j hl (hqF j hj).1)
 have hL0 : FreL w1 v F1 N I1 (l + 1) c G B H L (.int .i64 0) w1 := ⟨0, F1, I1, H, l + 1, c, by omega, rfl, hv1, hH1, fun y => by simp, fun n hn => rfl, fun j hj => rfl, Nat.le_refl _, by omega, by omega, Pt.Stp.refl F1 w1⟩
 have HS : Hid (Pt.Stp F F1 W w1) := hst1
 clear hst1 hv1 hH1 hput hq hqF hx c0 c1 c2 hW
 dsimp only
 go_wp2_with fail
 go_loopw [33] (fun iv wr => FreL w1 v F1 N I1 (l + 1) c G B H L iv wr) (fun iv _ => L.length - (intOf iv).toNat)
 case atStart => exact hL0
 case round =>
  clear hL0
  obtain ⟨k, F2, I2, H2, l2, c2, hk, rfl, hv2, hH2, hon2, hrow2, hI2, hll, hlk, hck, hst2⟩ := hrel
  have hx2 : wr.heap[w.heap.size]? = some (Mk.geomO G B Q) := (hst2.fr.block _ (by omega) hg1).trans hx1
  have g0 := (g3_of hx2).c0
  have g1 := (g3_of hx2).c1
  have g2 := (g3_of hx2).c2
  have hs2 := hst2.fr.size
  by_cases hkL : k < L.length
  ·have hkI : (k : Int) < (L.length : Int) := by omega
   have hyL := hL _ (List.getElem_mem hkL)
   obtain ⟨b9, o9, e9, hc9⟩ := hq1i.cells (by omega)
   have hcell := (cell_keq (hst2.fr.block b9 (by rw [e9] at hq1; exact (hq1 b9 rfl).2) (by rw [e9] at hq1; exact (hq1 b9 rfl).1))).trans (hc9 k hkL)
   have hgd : (nlist L).getD k 0 = ((L[k] : Nat) : Int) := by
    rw [List.getD_eq_getElem?_getD]; simp [nlist, hkL]
   rw [hgd] at hcell
   obtain ⟨y, hy⟩ : ∃ y, L[k] = y := ⟨_, rfl⟩
   rw [hy] at hcell hyL
   have htk := take_next hkL
   rw [hy] at htk
   obtain ⟨n, hn⟩ : ∃ n, L.length = n := ⟨_, rfl⟩
   have HN : Hid (L.length = n ∧ ∀ z, decide (z ∈ L.take (k + 1)) = (decide (z ∈ L.take k) || decide (z = y))) := ⟨hn, htk⟩
   subst e9
   rw [hn] at hkI ⊢
   clear htk hgd hc9
   obtain ⟨W4, hW4⟩ : ∃ W4, wr.alloc (Obj.cells #[.int .i64 ((l : Int) + 1)] 3) = W4 := ⟨_, rfl⟩
   have hb4 : Below wr.heap.size wr W4 := by rw [← hW4]; exact Mk.grew_alloc _ _
   have hn4 : W4.heap[wr.heap.size]? = some (.cells #[.int .i64 ((l : Int) + 1)] 3 (0, 0)) := by rw [← hW4]; exact at_new rfl
   have hfb := freeBlock_ok (hv2.later hb4) hg hH2 hyL.1 hyL.2 (by omega) (by omega) (some ⟨wr.heap.size, 0, none⟩) 1 1 [((l : Int) + 1)] (one_ii hn4 ⟨by omega, by omega⟩) (fun k hk hf => by
    have h9 : wr.heap.size = k := Option.some.inj hk
    have := hv2.lt k hf; omega) (by simp [Pt.kn]; omega) (by omega)
   have hlen2 := hH2.len (y / B) (div_lt_G hg hyL.1)
   have hbyt2 := hH2.byt (y / B) (div_lt_G hg hyL.1)
   have hstB : Pt.Stp F1 F2 w1 W4 := stp_grown hst2 hb4
   clear hst2 hv2 hb4
   go_wp2_with fail
   refine Calls.mono hfb ?_
   rintro e w5 ⟨h1, h2⟩
   cases ho : Mk.Bit.on (rowOf false (H2 (y / B))) (y % B) with
   | false =>
    obtain ⟨rfl, F3, hv3, hst3⟩ := h2 ho
    clear h1 h2 hfb
    dsimp only
    go_wp2_with fail
    go_roundw
    case rel =>
     unfold FreL
     refine ⟨k + 1, F3, I2, H2, l2, c2 + 1, by omega, by push_cast; rfl, hv3, hH2, fun z => ?_, hrow2, hI2, hll, by omega, by omega, stp_trans hstB hst3⟩
     rw [HN.out.2 z, hon2 z]
     by_cases e : z = y
     ·have h9 : onB H2 B y = false := ho
      rw [hon2 y] at h9
      rw [e, h9]; simp
     ·rw [decide_eq_false e, Bool.or_false]
    case measure => simp [intOf]; omega
   | true =>
    obtain ⟨rfl, F3, hv3, hst3⟩ := h1 ho
    clear h1 h2 hfb
    have e2 : (((l2 + 1 : Nat)) : Int) = (l2 : Int) + 1 := by omega
    dsimp only
    go_wp2_with fail
    go_roundw
    case rel =>
     unfold FreL
     refine ⟨k + 1, F3, _, updH H2 (y / B) (putY false (H2 (y / B)) (y % B) false), l2 + 1, c2 + 1, by omega, by push_cast; rfl, hv3, hds_put hH2 (by omega) (y / B) (Mk.Al.putY_len false hlen2 (y % B) false) (Mk.Al.putY_byt false hbyt2 (y % B) false), fun z => ?_, fun m hm => ?_, fun j hj => (putH_else (by omega) hj).trans (hI2 j hj), by omega, by omega, by omega, stp_trans hstB hst3⟩
     ·rw [HN.out.2 z, onB_upd hg.may y hlen2 hbyt2 false z]
      by_cases e : z = y
      ·rw [if_pos e, decide_eq_true e]; simp
      ·rw [if_neg e, hon2 z, decide_eq_false e, Bool.or_false]
     ·rw [← hrow2 m hm]
      unfold updH
      split
      ·rename_i e9; rw [e9]; exact Mk.Al.row_other false hlen2 (y % B) false
      ·rfl
    case measure => simp [intOf]; omega
  ·obtain rfl : k = L.length := by omega
   obtain ⟨W4, hW4⟩ : ∃ W4, wr.alloc (Obj.cells #[.int .i64 ((l : Int) + 1)] 3) = W4 := ⟨_, rfl⟩
   have hb4 : Below wr.heap.size wr W4 := by rw [← hW4]; exact Mk.grew_alloc _ _
   have hn4 : W4.heap[wr.heap.size]? = some (.cells #[.int .i64 ((l : Int) + 1)] 3 (0, 0)) := by rw [← hW4]; exact at_new rfl
   have hnG : ino / Q < G := Nat.div_lt_of_lt_mul (by rw [Nat.mul_comm]; exact hi)
   have hfi := freeInode_ok (hv2.later hb4) hg hH2 hi hi3 (by omega) (by omega) (some ⟨wr.heap.size, 0, none⟩) 1 1 [((l : Int) + 1)] (one_ii hn4 ⟨by omega, by omega⟩) (fun k hk hf => by
    have h9 : wr.heap.size = k := Option.some.inj hk
    have := hv2.lt k hf; omega) (by simp [Pt.kn]; omega) (by omega)
   have ho : Mk.Bit.on (rowOf true (H2 (ino / Q))) (ino % Q) = true := by rw [hrow2 _ hnG]; exact hon
   have hlen2 := hH2.len (ino / Q) hnG
   have hbyt2 := hH2.byt (ino / Q) hnG
   have hstB : Pt.Stp F1 F2 w1 W4 := stp_grown hst2 hb4
   obtain ⟨n, hn⟩ : ∃ n, L.length = n := ⟨_, rfl⟩
   have HN : Hid (L.length = n) := hn
   rw [hn]
   clear hst2 hv2 hb4 hn
   go_wp2_with fail
   refine Calls.mono hfi ?_
   rintro e w5 ⟨h1, _⟩
   obtain ⟨rfl, F3, hv3, hst3⟩ := h1 ho
   dsimp only
   go_wp2_with fail
   go_ret2
   unfold FreR
   have hnn := HN.out
   refine ⟨_, F3, _, updH H2 (ino / Q) (putY true (H2 (ino / Q)) (ino % Q) false), l2 + 1, c2 + 1, rfl, hv3, hds_put hH2 (by omega) (ino / Q) (Mk.Al.putY_len true hlen2 (ino % Q) false) (Mk.Al.putY_byt true hbyt2 (ino % Q) false), fun y => ?_, fun m hm => ?_, ?_, by omega, by omega, ?_⟩
   ·have := hon2 y
    rw [List.take_length] at this
    rw [← this]
    unfold onB updH
    split
    ·rename_i e9; rw [e9]
     have := Mk.Al.row_other true hlen2 (ino % Q) false
     exact congrArg (fun r => Mk.Bit.on r (y % B)) this
    ·rfl
   ·rw [row_updF true false hlen2]
    by_cases e9 : m = ino / Q
    ·rw [if_pos e9, if_pos e9, e9, hrow2 _ hnG]
    ·rw [if_neg e9, if_neg e9, hrow2 _ hm]
   ·rw [iB_same (I := I1)]
    ·exact HB.out.2.2.1
    ·have h9 := HB.out.2.2.2
     exact (putH_else (by omega) (by omega)).trans (hI2 _ (by omega))
   ·exact stp_after HB.out.1 (stp_trans HS.out (stp_trans hstB hst3))
end
end Go.Proofs.YthdlpeejmmobmaaGreat

namespace Go.Proofs.YthdlpeejmmobmaaGreat
open Go.RowKit Go.Maps
open Mk.Al (putY rowOf)
set_option linter.unusedVariables false
set_option maxRecDepth 100000
theorem span_len (val : Nat → Nat) : (span val).length ≤ 4230 := by
 have h0 := spn_len0 val 0
 have h1 := spn_len0 val 1
 have h2 := spn_len0 val 2
 have h3 := spn_len0 val 3
 have h4 := spn_len1 val 4
 have h5 := spn_len2 val 5
 simp only [span, List.length_append]
 omega
theorem get_din {ys : List Int} {m ln sz a b c d i j : Int} (h : ys = Mk.dinB m ln sz a b c d i j) (hd : Mk.DMay m ln sz a b c d i j) : Mk.ddV 32 ys = Mk.dinV m ln sz a b c d i j ∧ Mk.ddE 32 ys = 0 := by
 rw [h]
 exact ⟨(Mk.dinode_back hd).2, (Mk.dinode_back hd).1⟩
theorem may_val {N : Nat} {val : Nat → Nat} (hR : ∀ i, i < 4230 → val i ≠ 0 → val i < N) (hN : N ≤ 2048) : Mk.DMay 1 1 0 (val 0 : Int) (val 1 : Int) (val 2 : Int) (val 3 : Int) (val 4 : Int) (val 5 : Int) := by
 have hv : ∀ i, i < 6 → (0 : Int) ≤ (val i : Int) ∧ (val i : Int) ≤ 2047 := fun i hi => by
  by_cases h0 : val i = 0
  ·omega
  ·have := hR i (by omega) h0; omega
 refine .inr (.inl ⟨rfl, ⟨by omega, by omega⟩, ⟨by omega, by omega⟩, ?_, ?_⟩)
 ·intro z hz
  simp only [List.mem_cons, List.not_mem_nil, or_false] at hz
  rcases hz with rfl | rfl | rfl | rfl
  ·exact hv 0 (by omega)
  ·exact hv 1 (by omega)
  ·exact hv 2 (by omega)
  ·exact hv 3 (by omega)
 ·intro z hz
  simp only [List.mem_cons, List.not_mem_nil, or_false] at hz
  rcases hz with rfl | rfl
  ·exact hv 4 (by omega)
  ·exact hv 5 (by omega)
section
variable {w w' : World} {v : Nat} {F : Nat → Prop} {N : Nat} {I : Nat → List Int} {l c G B Q : Nat}
set_option maxHeartbeats 8000000 in
theorem clear_ok (h : Vol w v F N I l c) (hg : Geo G B Q N) {H H0 : Nat → List Int} {val : Nat → Nat} (hW0 : Inw I G B Q N H H0 val) {ino : Nat} (hi : ino < G * Q) (hi3 : 3 ≤ ino) (hon : Mk.Bit.on (rowOf true (H (ino / Q))) (ino % Q) = true)
  (hin : iB I B Q ino = Mk.dinB 1 1 0 (val 0 : Int) (val 1 : Int) (val 2 : Int) (val 3 : Int) (val 4 : Int) (val 5 : Int)) (hc : c + 60000 < 4611686018427387904) (hl : l ≤ 4000) :
  Calls Tryz.prog 36 #[.pointer (some ⟨v, 0, none⟩), Mk.geomV G B Q, .int .i64 (ino : Int), .slice none 0 0] w (FreR w v F N l (c + 67) G B Q H ino (span val)) := by
 have hN := h.N1.2
 obtain ⟨W, hW⟩ : ∃ W, w.alloc (Mk.geomO G B Q) = W := ⟨_, rfl⟩
 have hb : Below w.heap.size w W := by rw [← hW]; exact Mk.grew_alloc _ _
 have hx : W.heap[w.heap.size]? = some (Mk.geomO G B Q) := by rw [← hW]; exact at_new rfl
 have hsz : W.heap.size = w.heap.size + 1 := by rw [← hW]; simp
 have c0 := (g3_of hx).c0
 have c1 := (g3_of hx).c1
 have c2 := (g3_of hx).c2
 have hlt := h.lt
 have hv := h.later hb
 have hrf := irefusalInode_ok hv hg hi 3 hi3
 have HV : Hid (Vol W v F N I l c ∧ Below w.heap.size w W ∧ (∀ k, F k → k < w.heap.size) ∧ Inw I G B Q N H H0 val) := ⟨hv, hb, hlt, hW0⟩
 have hgd := get_din hin (may_val (fun i hi hv => (hW0.rng i hi hv).1) hN)
 have hR := fun i hi hv => (hW0.rng i hi hv).1
 clear hv h hb hlt hW0 hin
 go_enter Tryz.func36, Tryz.ntmps36
 go_wp2_with fail
 refine Mk.grew_at hrf ?_
 intro w1 hb1
 have hs1 := hb1.size
 have hx1 := (hb1.block _ (by omega)).trans hx
 have c0 := (g3_of hx1).c0
 have c1 := (g3_of hx1).c1
 have c2 := (g3_of hx1).c2
 have hgt := iget_ok (HV.out.1.later hb1) hg hi (by omega)
 rw [hgd.1, hgd.2] at hgt
 dsimp only
 go_wp2_with fail
 refine Calls.mono hgt ?_
 rintro e w2 ⟨rfl, F2, hv2, hst2⟩
 have hs2 := hst2.fr.size
 have hF2n : ¬ F2 w.heap.size := fun hf => (hst2.new _ hf).elim (fun h9 => by have := HV.out.2.2.1 _ h9; omega) (fun h9 => by have h9 : w1.heap.size ≤ w.heap.size := h9; omega)
 obtain ⟨W3, hW3⟩ : ∃ W3, w2.alloc (dinX 1 1 0 val) = W3 := ⟨_, rfl⟩
 have hb3 : Below w2.heap.size w2 W3 := by rw [← hW3]; exact Mk.grew_alloc _ _
 have hn3 : W3.heap[w2.heap.size]? = some (dinX 1 1 0 val) := by rw [← hW3]; exact at_new rfl
 have hwu : dinX 1 1 0 val = .cells #[.int .i64 1, .int .i64 1, .int .i64 0, .int .i64 (val 0 : Int), .int .i64 (val 1 : Int), .int .i64 (val 2 : Int), .int .i64 (val 3 : Int), .int .i64 (val 4 : Int), .int .i64 (val 5 : Int)] 75 (0, 0) := rfl
 rw [hwu] at hW3
 have hx2 := (hst2.fr.block w.heap.size (by omega) (fun hf => by have := HV.out.2.2.1 _ hf; omega)).trans hx1
 have hx3 := (hb3.block _ (by omega)).trans hx2
 have c0 := (g3_of hx3).c0
 have c1 := (g3_of hx3).c1
 have c2 := (g3_of hx3).c2
 have hi75 : (Tryz.prog.info? 75).map (·.size) = some (#[.int .i64 1, .int .i64 1, .int .i64 0, .int .i64 (val 0 : Int), .int .i64 (val 1 : Int), .int .i64 (val 2 : Int), .int .i64 (val 3 : Int), .int .i64 (val 4 : Int), .int .i64 (val 5 : Int)] : Array Value).size := by kernel_rfl
 have hsp := span_ok (hv2.later hb3) hg HV.out.2.2.2.tre hR 1 1 0 (by omega)
 have edw : dinW 1 1 0 val = .agg #[.int .i64 1, .int .i64 1, .int .i64 0, .int .i64 (val 0 : Int), .int .i64 (val 1 : Int), .int .i64 (val 2 : Int), .int .i64 (val 3 : Int), .int .i64 (val 4 : Int), .int .i64 (val 5 : Int)] := rfl
 rw [edw] at hsp
 have H2 : Hid (Pt.Stp F F2 w w2 ∧ Below w2.heap.size w2 W3) := ⟨stp_after (HV.out.2.1.trans (hb1.mono (by omega))) hst2, hb3⟩
 have hs3 := hb3.size
 clear hst2 hb3 hv2 hgt
 dsimp only
 go_wp2_with (first
  | (refine wpList_load_row rfl 75 _ rfl w2.heap.size rfl 75 _ (0, 0) _ hn3 Tryz.underlying75 rfl hi75 ?_))
 refine Calls.mono hsp ?_
 rintro e w4 ⟨q4, cp4, F4, c4, rfl, hii4, hL4, hc4, hv4, hst4, hq4⟩
 have hs4 := hst4.fr.size
 have hx4 := (hst4.fr.block w.heap.size (by omega) hF2n).trans hx3
 have c0 := (g3_of hx4).c0
 have c1 := (g3_of hx4).c1
 have c2 := (g3_of hx4).c2
 dsimp only
 go_wp2_with fail
 refine same_at (vol_last hv4) ?_
 have hL : ∀ y, y ∈ span val → y < N ∧ 2 + Q / 4 ≤ y % B := fun y hy => by
  obtain ⟨i, hi, h0, e⟩ := (span_iff HV.out.2.2.2.tre y).1 hy
  have h9 := HV.out.2.2.2.rng i hi h0
  rw [e] at h9
  exact ⟨h9.1, h9.2.1⟩
 have hln := span_len val
 have hfr := free_ok hv4 hg HV.out.2.2.2.hds hi hi3 hon q4 cp4 (span val) hii4 (fun j hj => ⟨(hq4 j hj).2.2, (hq4 j hj).2.1⟩) hL (by omega) (by omega)
 obtain ⟨L, hLe⟩ : ∃ L, span val = L := ⟨_, rfl⟩
 rw [hLe] at hfr hln
 have HL : Hid (span val = L) := hLe
 rw [hLe]
 clear hLe hL hii4 hL4
 dsimp only
 go_wp2_with fail
 refine Calls.mono hfr ?_
 rintro e w5 ⟨id, F5, I5, H5, l5, c5, rfl, hv5, hH5, hon5, hr5, hi5, hl5, hc5, hst5⟩
 dsimp only
 go_wp2_with fail
 go_ret2
 unfold FreR
 rw [HL.out]
 exact ⟨id, F5, I5, H5, l5, c5, rfl, hv5, hH5, hon5, hr5, hi5, hl5, by omega, stp_trans (stp_grown H2.out.1 H2.out.2) (stp_trans hst4 hst5)⟩
end
end Go.Proofs.YthdlpeejmmobmaaGreat
