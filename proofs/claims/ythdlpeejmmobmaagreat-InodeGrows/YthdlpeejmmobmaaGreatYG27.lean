/- KD12 KM1 KM2 KM3 KM5 KM6 -/
import Derived.Test.YthdlpeejmmobmaaGreatYG26
import Derived.Deep.QuietTactic
import Derived.BigQuiet
import Derived.Lib.AppendZerosOnto
import Derived.Deep.MidRow
import Derived.Test.YthdlpeejmmobmaaGreatYG21
import Derived.Test.YthdlpeejmmobmaaGreatYG18
import Derived.Laws.CopyRow
import Derived.Deep.DeepCutAuto
import Derived.Deep.CutBlock
import Derived.Laws.ResultCell
import Derived.Deep.RegionHeld3

namespace Go.Proofs.YthdlpeejmmobmaaGreat.Mk
open Go.RowKit
set_option maxRecDepth 100000
set_option linter.unusedVariables false
def mayE (L : List En) : Prop := L.length ≤ 8 ∧ clB L = false ∧ ∀ e ∈ L, EMay e.n e.s
instance (L : List En) : Decidable (mayE L) := by unfold mayE; infer_instance
def pad (L : List En) : List En := L ++ List.replicate (8 - L.length) ent00
def enB (L : List En) : List Int := if mayE L then encL (pad L) else []
def enE (L : List En) : Int := if mayE L then 0 else 1
theorem encL_zero : ∀ k, encL (List.replicate k ent00) = List.replicate (16 * k) 0
 | 0 => rfl
 | k + 1 => by
  have h := encL_zero k
  unfold encL at *
  rw [List.replicate_succ, List.flatMap_cons, h]
  have : entL ent00.n ent00.s = List.replicate 16 0 := entL_none _ rfl
  rw [this, List.replicate_append_replicate, show 16 * (k + 1) = 16 + 16 * k by omega]
theorem encL_app (A C : List En) : encL (A ++ C) = encL A ++ encL C := by simp [encL]
theorem encL_pad (L : List En) : encL (pad L) = encL L ++ List.replicate (16 * (8 - L.length)) 0 := by
 unfold pad
 rw [encL_app, encL_zero]
theorem pad_may {L : List En} (h : ∀ e ∈ L, EMay e.n e.s) : ∀ e ∈ pad L, EMay e.n e.s := fun e he => by
 unfold pad at he
 rcases List.mem_append.1 he with he | he
 ·exact h e he
 ·rw [List.eq_of_mem_replicate he]; exact .inl ⟨rfl, rfl⟩
def P2 (w : World) (L : List Int) (er : Int) (e : Ending) (w' : World) : Prop := ∃ q m d, e = .returned (.tuple #[.slice q m d, .int .i64 er]) ∧ BI w' q m L ∧ Below w.heap.size w w' ∧ (∀ g o, q = some ⟨g, o, none⟩ → w.heap.size ≤ g)
theorem p2_no {w w' : World} {L : List En} (h : ¬ mayE L) (hb : Below w.heap.size w w') : P2 w (enB L) (enE L) (.returned (.tuple #[.slice none 0 0, .int .i64 1])) w' := by
 unfold enB enE
 rw [if_neg h, if_neg h]
 exact ⟨none, 0, 0, rfl, bi_nil _, hb, fun g o e => by cases e⟩
theorem p2_yes {w w' : World} {L : List En} {q : Option Addr} {d : Nat} (h : mayE L) (hB : BI w' q 128 (encL (pad L))) (hb : Below w.heap.size w w') (hf : ∀ g o, q = some ⟨g, o, none⟩ → w.heap.size ≤ g) : P2 w (enB L) (enE L) (.returned (.tuple #[.slice q 128 d, .int .i64 0])) w' := by
 unfold enB enE
 rw [if_pos h, if_pos h]
 exact ⟨q, 128, d, rfl, hB, hb, hf⟩
set_option maxRecDepth 20000 in
set_option maxHeartbeats 2000000 in
theorem rEncode_ok (p : Option Addr) (n c : Nat) (L : List En) (w : World) (h : EI w p n L) (hnc : n ≤ c) (hc2 : c ≤ 9223372036854775807) (hsz : ∀ e ∈ L, e.s.size ≤ 140737488355328) :
  Calls Tryz.prog 106 #[.slice p n c] w fun e w' => P2 w (enB L) (enE L) e w' := by
 have hlen := h.len
 have hbig := h.big
 by_cases h8 : n ≤ 8
 ·have h8I : ¬ (8 : Int) < (n : Int) := by omega
  have hcl := clash_ok p n c L w h hnc hc2
  cases hc : clB L with
  | true =>
   rw [hc] at hcl
   have HM : Hid (¬ mayE L) := fun hm => by have := hm.2.1; rw [hc] at this; cases this
   clear hc
   go_enter Tryz.func106, Tryz.ntmps106
   go_wp2_with fail
   refine grew_at hcl ?_
   intro w1 hb1
   clear hcl
   dsimp only
   go_wp2_with fail
   go_ret2
   exact p2_no HM.out hb1
  | false =>
   rw [hc] at hcl
   have HC : Hid _ := hc
   clear hc
   go_enter Tryz.func106, Tryz.ntmps106
   go_wp2_with fail
   refine grew_at hcl ?_
   intro w1 hb1
   clear hcl
   have HB1 : Hid _ := hb1
   have H1 : Hid _ := h.kept hb1
   clear hb1 h
   dsimp only
   go_wp2_with fail
   go_loopw [4, 18] (fun v i wr => ∃ j : Nat, j ≤ n ∧ i = .int .i64 (j : Int) ∧ Below w1.heap.size w1 wr ∧ Rw w1.heap.size wr v (encL (L.take j)) ∧ ∀ e ∈ L.take j, EMay e.n e.s) (fun _ i _ => n - (intOf i).toNat)
   case atStart => exact ⟨0, by omega, rfl, Below.refl _ _, ⟨rfl, .inl ⟨rfl, rfl⟩⟩, (fun e he => by cases he)⟩
   case round =>
    obtain ⟨j, hj, rfl, hb, hR, hmay⟩ := hrel
    have hlT : (encL (L.take j)).length = 16 * j := by rw [encL_len _ hmay, List.length_take]; omega
    have HR : Hid _ := And.intro hR (And.intro hb (And.intro hmay hlT))
    by_cases hlt : j < n
    ·obtain ⟨N, S, he⟩ : ∃ N S, L[j]? = some ⟨N, S⟩ := ⟨_, _, List.getElem?_eq_getElem (by omega)⟩
     obtain ⟨b, o, rfl, hcs⟩ := (H1.out.kept hb).cells (by omega)
     obtain ⟨c0, c1⟩ := hcs j _ he
     have hjI : (j : Int) < (n : Int) := by omega
     have hj0 : (0 : Int) ≤ (j : Int) := by omega
     have hS := hsz _ (List.mem_of_getElem? he)
     have hT : L.take (j + 1) = L.take j ++ [⟨N, S⟩] := by rw [List.take_add_one, he]; rfl
     have HT : Hid _ := And.intro hT (List.mem_of_getElem? he)
     clear hcs hb hR hmay he hT hlT
     by_cases hm : EMay N S
     ·have hen := rencodeEntry_yes N S hm (wr.alloc (entO N S))
      have HM : Hid _ := hm
      clear hm
      go_wp2_with fail
      refine hen.mono ?_
      rintro _ w2 ⟨q2, d2, rfl, hB2, hb2⟩
      clear hen c0 c1
      obtain ⟨a, rfl⟩ : ∃ a, q2 = some a := by obtain ⟨b', o', e', _⟩ := hB2.cells (by omega); exact ⟨_, e'⟩
      have hbA := grew_trans (grew_alloc wr (entO N S)) hb2
      obtain ⟨v', w3, hr3, hR3, hg3⟩ := rw_app (c := d2) (HR.out.1.kept hbA) hB2 (by have := hbA.size; have := HR.out.2.1.size; omega) (by rw [HR.out.2.2.2]; omega) 42
      have hb3 : Below w1.heap.size w1 w3 := grown_bel (grew_trans HR.out.2.1 hbA) hg3 (fun g hg => (HR.out.1.lt g hg).1)
      have hmx : ∀ e ∈ L.take (j + 1), EMay e.n e.s := fun e he => by
       rw [HT.out.1] at he
       rcases List.mem_append.1 he with he | he
       ·exact HR.out.2.2.1 e he
       ·rw [List.mem_singleton.1 he]; exact HM.out
      rw [show encL (L.take j) ++ entL N S = encL (L.take (j + 1)) by rw [HT.out.1, encL_snoc]] at hR3
      have H3 : Hid _ := And.intro hb3 (And.intro hR3 hmx)
      clear hbA hB2 hb2 hg3 hb3 hR3 hmx
      dsimp only
      go_wp2_with (refine wpList_append_run2 rfl _ _ 42 42 rfl rfl rfl hr3 ?_)
      clear hr3
      go_roundw
      case rel => exact ⟨j + 1, by omega, by go_num, H3.out.1, H3.out.2.1, H3.out.2.2⟩
      case measure => simp [intOf]; omega
     ·have hen := rencodeEntry_no N S hS hm (wr.alloc (entO N S))
      have HM : Hid (¬ mayE L) := fun hM => hm (hM.2.2 _ HT.out.2)
      clear hm
      go_wp2_with fail
      refine grew_at hen ?_
      intro w2 hb2
      clear hen c0 c1
      have hbf := grew_trans HB1.out (grew_trans HR.out.2.1 (grew_trans (grew_alloc wr (entO N S)) hb2))
      dsimp only
      go_wp2_with fail
      go_ret2
      exact p2_no HM.out hbf
    ·obtain rfl : j = n := by omega
     have hnt : ¬ (j : Int) < (j : Int) := by omega
     rw [List.take_of_length_le (by omega)] at hR hmay hlT
     obtain ⟨g, cap, w2, hr2, hO2, hg2⟩ := zeros_own w1.heap.size wr _ (16 * j) (128 - 16 * j) (encL L) (by rw [← hlT]; exact hR) (by omega) hb.size 42
     have hb2 : Below w1.heap.size w1 w2 := grown_bel hb hg2 (fun g' hg' => (hR.lt g' hg').1)
     obtain ⟨q, d, hv, hBv⟩ := hR.bi (by omega) (encL_byt L)
     rw [hlT] at hv
     subst hv
     have hmE : mayE L := ⟨by omega, HC.out, hmay⟩
     have hpd : encL L ++ List.replicate (128 - 16 * j) 0 = encL (pad L) := by rw [encL_pad, show 16 * (8 - L.length) = 128 - 16 * j by omega]
     rw [hpd] at hO2
     have H2 : Hid _ := And.intro (hO2.bi (by omega) (encL_byt _)) (And.intro (grew_trans HB1.out hb2) (And.intro hmE (Nat.le_trans HB1.out.size hO2.spot.1)))
     have hcast : (128 : Int) - ((16 * j : Nat) : Int) = ((128 - 16 * j : Nat) : Int) := by omega
     rw [← hcast] at hr2
     have hwr : IntKind.i64.wrap ((128 : Int) - ((16 * j : Nat) : Int)) = (128 : Int) - ((16 * j : Nat) : Int) := by rw [IntKind.wrap_i64]; omega
     clear hR hmay hlT hBv hO2 hg2 hb2 hmE hpd hb
     go_wp2_with (refine wpList_append_run2 rfl _ _ 42 3 rfl rfl rfl hr2 ?_)
     go_ret2
     exact p2_yes H2.out.2.2.1 H2.out.1 H2.out.2.1 (fun g' o e => by cases e; exact H2.out.2.2.2)
 ·have h8I : (8 : Int) < (n : Int) := by omega
  have HM : Hid (¬ mayE L) := fun hm => by have := hm.1; omega
  go_enter Tryz.func106, Tryz.ntmps106
  go_wp2_with fail
  go_ret2
  exact p2_no HM.out (Below.refl _ _)
end Go.Proofs.YthdlpeejmmobmaaGreat.Mk

namespace Go.Proofs.YthdlpeejmmobmaaGreat.Mk
open Go.RowKit
set_option maxRecDepth 100000
set_option linter.unusedVariables false
set_option maxRecDepth 100000
structure Fr (X : Nat → Prop) (w w' : World) : Prop where
 os : w'.os = w.os
 tape : w'.tape = w.tape
 output : w'.output = w.output
 size : w.heap.size ≤ w'.heap.size
 block : ∀ k, k < w.heap.size → ¬ X k → w'.heap[k]? = w.heap[k]?
theorem Fr.refl (X : Nat → Prop) (w : World) : Fr X w w := ⟨rfl, rfl, rfl, Nat.le_refl _, fun _ _ _ => rfl⟩
theorem Fr.trans {X : Nat → Prop} {a b c : World} (h : Fr X a b) (k : Fr X b c) : Fr X a c := ⟨k.os.trans h.os, k.tape.trans h.tape, k.output.trans h.output, Nat.le_trans h.size k.size, fun i hi hn => (k.block i (Nat.lt_of_lt_of_le hi h.size) hn).trans (h.block i hi hn)⟩
theorem Fr.below {X : Nat → Prop} {a b : World} (h : Below a.heap.size a b) : Fr X a b := ⟨h.os, h.tape, h.output, h.size, fun i hi _ => h.block i hi⟩
theorem Fr.bel {X : Nat → Prop} {B : Nat} {w a b : World} (hw : Below B w a) (h : Fr X a b) (hB : B ≤ a.heap.size) (hX : ∀ k, X k → B ≤ k) : Below B w b :=
 hw.trans ⟨h.os, h.tape, h.output, h.size, fun k hk => h.block k (by omega) (fun e => by have := hX k e; omega)⟩
theorem Fr.setRow (w : World) (g : Nat) (cs : Array Value) : Fr (fun k => k = g) w (w.setRow g cs) := ⟨rfl, rfl, rfl, by simp, fun k _ hk => setRow_other _ _ _ _ hk⟩
def fb (xs : List Int) : Nat → List Int
 | 0 => xs
 | j + 1 => Bit.put (fb xs j) j true
theorem fb_len (xs : List Int) : ∀ n, (fb xs n).length = xs.length
 | 0 => rfl
 | j + 1 => by rw [fb, Bit.put_len, fb_len xs j]
theorem fb_byt {xs : List Int} (h : Num.Byt xs) : ∀ n, Num.Byt (fb xs n)
 | 0 => h
 | j + 1 => Bit.put_byt (fb_byt h j) _ _
def mid (pre post : List Value) (xs : List Int) : Array Value := (pre ++ xs.map (Value.int .u8) ++ post).toArray
theorem mid_bi {w : World} {g : Nat} {pre post : List Value} {xs : List Int} {t : TypeId} (h : w.heap[g]? = some (.cells (mid pre post xs) t (0, 0))) (hx : Num.Byt xs) (hl : xs.length ≤ 140737488355328) : BI w (some ⟨g, pre.length, none⟩) xs.length xs := by
 refine ⟨rfl, hl, hx, fun _ => ⟨g, pre.length, rfl, fun i hi => ?_⟩⟩
 refine cell_row h _ _ ?_
 unfold mid
 rw [List.getElem?_toArray, List.append_assoc, List.getElem?_append_right (by omega), List.getElem?_append_left (by simp; omega), List.getElem?_map]
 rw [show pre.length + i - pre.length = i by omega, List.getElem?_eq_getElem hi, List.getD_eq_getElem?_getD, List.getElem?_eq_getElem hi]
 rfl
theorem mid_turn (pre post : List Value) (xs ys : List Int) (h : ys.length = xs.length) : ((mid pre post xs).toList.take pre.length ++ ys.map (Value.int .u8) ++ (mid pre post xs).toList.drop (pre.length + (ys.map (Value.int .u8)).length)).toArray = mid pre post ys := by
 unfold mid
 rw [List.toList_toArray, List.length_map, List.append_assoc pre, List.take_left', List.drop_append]
 ·have h1 : (pre.drop (pre.length + ys.length)) = [] := List.drop_of_length_le (by omega)
  rw [h1, List.nil_append, show pre.length + ys.length - pre.length = ys.length by omega, List.drop_append, List.drop_of_length_le (by simp; omega)]
  simp [h]
 ·rfl
theorem mid_copy {w : World} {g : Nat} {pre post : List Value} {xs ys : List Int} {t : TypeId} (h : w.heap[g]? = some (.cells (mid pre post xs) t (0, 0))) {a : Addr} {c1 c2 m : Nat} (hb : BI w (some a) m ys) (hm : m = xs.length) (ty : TypeId) :
  (Builtin.copy_ #[42, 42] ty #[.slice (some ⟨g, pre.length, none⟩) m c1, .slice (some a) m c2]).run Tryz.prog w = .ok (.int .i64 (m : Int)) (w.setRow g (mid pre post ys)) := by
 have hl := hb.len
 have := run_copy_row (P := Tryz.prog) w 42 42 ty 5 g pre.length m c1 a m c2 (mid pre post xs) t (ys.map (Value.int .u8)) Tryz.underlying42 size5 h (by rw [List.length_map, hl]; exact (Nat.min_self m).symm) hb.src' (by rw [List.length_map, hl]; simp [mid]; omega) (one_cells _)
 rw [this, mid_turn pre post xs ys (by omega)]
 simp [goInt, hl]
end Go.Proofs.YthdlpeejmmobmaaGreat.Mk

namespace Go.Proofs.YthdlpeejmmobmaaGreat.Mk
open Go.RowKit
set_option maxRecDepth 100000
set_option linter.unusedVariables false
set_option maxRecDepth 100000
def hdI (n : Nat) : List Int := if n = 0 then fb (zers 8) 3 else zers 8
def hdB (i n : Nat) : List Int := fb (zers 32) (2 + i / 4 + if n = 0 then 1 else 0)
def hdY (i n : Nat) : List Int := hdI n ++ hdB i n
theorem hdI_len (n : Nat) : (hdI n).length = 8 := by unfold hdI; split <;> simp [fb_len, zers]
theorem hdB_len (i n : Nat) : (hdB i n).length = 32 := by unfold hdB; simp [fb_len, zers]
theorem hdY_len (i n : Nat) : (hdY i n).length = 40 := by unfold hdY; simp [hdI_len, hdB_len]
theorem hdI_byt (n : Nat) : Num.Byt (hdI n) := by unfold hdI; split <;> first | exact fb_byt (zers_byt 8) 3 | exact zers_byt 8
theorem hdB_byt (i n : Nat) : Num.Byt (hdB i n) := fb_byt (zers_byt 32) _
theorem hdY_byt (i n : Nat) : Num.Byt (hdY i n) := byt_append (hdI_byt n) (hdB_byt i n)
theorem group_midB (N : Int) (xs ys : List Int) : groupA N (xs ++ ys) = mid (.int .i64 N :: xs.map (Value.int .u8)) [] ys := by unfold groupA mid; simp
theorem info23 : (Tryz.prog.info? 23).map (·.size) = some 3 := by kernel_rfl
theorem zers_cut : zers 40 = zers 8 ++ zers 32 := by decide
end Go.Proofs.YthdlpeejmmobmaaGreat.Mk

namespace Go.Proofs.YthdlpeejmmobmaaGreat.Mk
open Go.RowKit
set_option maxRecDepth 100000
set_option linter.unusedVariables false
set_option maxRecDepth 100000
def aZ : Array Value := ((zers 128).map (Value.int .u8)).toArray
structure PIm (B : Nat) (w : World) (A n g2 : Nat) (L : Nat → List Int) : Prop where
 hA : B ≤ A
 row : ∃ cs : Array Value, w.heap[A]? = some (.cells cs 42 (0, 0)) ∧ n ≤ cs.size ∧ (∀ k, k < n → ∃ g o c, cs[k]? = some (.slice (some ⟨g, o, none⟩) 128 c) ∧ B ≤ g ∧ g ≠ A ∧ (k ≠ 2 → g ≠ g2) ∧ BI w (some ⟨g, o, none⟩) 128 (L k)) ∧ cs[2]? = some (.slice (some ⟨g2, 0, none⟩) 128 128)
 two : w.heap[g2]? = some (.cells aZ 5 (0, 0)) ∧ B ≤ g2 ∧ g2 ≠ A
section
variable {B : Nat} {w w' : World} {A n g2 : Nat} {L L' : Nat → List Int}
theorem PIm.lt (h : PIm B w A n g2 L) : A < w.heap.size ∧ g2 < w.heap.size := by
 obtain ⟨cs, h1, _⟩ := h.row
 exact ⟨(Array.getElem?_eq_some_iff.1 h1).1, (Array.getElem?_eq_some_iff.1 h.two.1).1⟩
theorem PIm.kept (h : PIm B w A n g2 L) (hb : Below w.heap.size w w') : PIm B w' A n g2 L := by
 obtain ⟨cs, h1, h2, h3, h4⟩ := h.row
 refine ⟨h.hA, ⟨cs, (hb.block A h.lt.1).trans h1, h2, fun k hk => ?_, h4⟩, (hb.block g2 h.lt.2).trans h.two.1, h.two.2⟩
 obtain ⟨g, o, c, e1, e2, e3, e4, e5⟩ := h3 k hk
 exact ⟨g, o, c, e1, e2, e3, e4, e5.kept hb⟩
theorem PIm.third (h : PIm B w A n g2 L) : w.cell? ⟨A, 2, none⟩ = some (.slice (some ⟨g2, 0, none⟩) 128 128) := by
 obtain ⟨cs, h1, h2, h3, h4⟩ := h.row
 exact cell_row h1 2 _ h4
end
theorem info36S : (Tryz.prog.info? 42).map (fun i => (i.zero, i.size, i.bytes)) = some (some (.slice none 0 0), 1, 24) := by kernel_rfl
theorem info_partsS {t : TypeId} {z : Value} {s b : Nat} (h : (Tryz.prog.info? t).map (fun i => (i.zero, i.size, i.bytes)) = some (some z, s, b)) : ∃ i, Tryz.prog.info? t = some i ∧ i.zero = some z ∧ i.size = s ∧ i.bytes = b := by
 cases hi : Tryz.prog.info? t with
 | none => rw [hi] at h; cases h
 | some i => rw [hi] at h; simp at h; exact ⟨i, rfl, h.1, h.2.1, h.2.2⟩
theorem made_zeroB (n : Nat) : (madeCells (Value.int .u8 0).cells (n * 1)).toList = (zers n).map (Value.int .u8) := by
 refine List.ext_getElem ?_ ?_
 ·simp [madeCells, zers]
 ·intro i h1 h2
  simp [madeCells, Value.cells, Nat.mod_one, zers]
end Go.Proofs.YthdlpeejmmobmaaGreat.Mk

namespace Go.Proofs.YthdlpeejmmobmaaGreat.Mk
open Go.RowKit
set_option maxRecDepth 100000
set_option linter.unusedVariables false
set_option maxRecDepth 100000
def dd : List En := [⟨2, ⟨#[46]⟩⟩, ⟨2, ⟨#[46, 46]⟩⟩]
theorem dd_may : mayE dd := by
 refine ⟨by decide, ?_, ?_⟩
 ·simp [clB, clR, dd, hit]
 ·intro e he
  have : e = ⟨2, ⟨#[46]⟩⟩ ∨ e = ⟨2, ⟨#[46, 46]⟩⟩ := by simpa [dd] using he
  rcases this with rfl | rfl
  ·exact .inr ⟨by decide, .inl (by simp [dots])⟩
  ·exact .inr ⟨by decide, .inl (by simp [dots])⟩
theorem dd_len : (enB dd).length = 128 := by
 unfold enB
 rw [if_pos dd_may, encL_len _ (pad_may dd_may.2.2)]
 rfl
theorem dd_err : enE dd = 0 := if_pos dd_may
theorem dd_ei (w : World) : EI (w.alloc (.cells #[.int .i64 2, .string ⟨#[46]⟩, .int .i64 2, .string ⟨#[46, 46]⟩] 107)) (some ⟨w.heap.size, 0, none⟩) 2 dd := by
 refine ⟨rfl, by decide, fun _ => ⟨_, 0, rfl, fun i e he => ?_⟩⟩
 have hr := heap_new w (.cells #[.int .i64 2, .string ⟨#[46]⟩, .int .i64 2, .string ⟨#[46, 46]⟩] 107)
 have hi : i < 2 := (List.getElem?_eq_some_iff.1 he).1
 rcases (by omega : i = 0 ∨ i = 1) with rfl | rfl
 ·cases he
  exact ⟨cell_row hr 0 _ rfl, cell_row hr 1 _ rfl⟩
 ·cases he
  exact ⟨cell_row hr 2 _ rfl, cell_row hr 3 _ rfl⟩
theorem dd_small : ∀ e ∈ dd, e.s.size ≤ 140737488355328 := by
 intro e he
 have : e = ⟨2, ⟨#[46]⟩⟩ ∨ e = ⟨2, ⟨#[46, 46]⟩⟩ := by simpa [dd] using he
 rcases this with rfl | rfl <;> decide
def rtD (i : Nat) : List Int := dinS 2 2 128 ((2 + i / 4 : Nat) : Int) 0 0 0 0 0
def rtB (i : Nat) : List Int := (zers 128).take 64 ++ rtD i ++ (zers 128).drop 96
theorem rt_may {i : Nat} (h : i ≤ 64) : DMay 2 2 128 ((2 + i / 4 : Nat) : Int) 0 0 0 0 0 := by
 refine .inr (.inr ⟨rfl, ?_, by decide⟩)
 refine ⟨by decide, by decide, fun z hz => ?_, fun z hz => ?_⟩
 ·have : z = ((2 + i / 4 : Nat) : Int) ∨ z = 0 := by simpa using hz
  omega
 ·have : z = 0 := by simpa using hz
  omega
theorem rtD_len (i : Nat) : (rtD i).length = 32 := by unfold rtD dinS sealL; rw [Num.putTo_length, dinL_len]
theorem rtD_byt (i : Nat) : Num.Byt (rtD i) := by unfold rtD dinS sealL; exact Num.putTo_byt (dinL_byt _ _ _ _ _ _ _ _ _) _ _ _
theorem rtB_len (i : Nat) : (rtB i).length = 128 := by unfold rtB; simp [rtD_len, zers_len]
theorem rtB_byt (i : Nat) : Num.Byt (rtB i) := byt_append (byt_append (byt_take (zers_byt 128) 64) (rtD_byt i)) (byt_drop (zers_byt 128) 96)
def Rd (w : World) (A n : Nat) (L : Nat → List Int) : Prop := ∀ k, k < n → ∃ q m c, w.cell? ⟨A, k, none⟩ = some (.slice q m c) ∧ BI w q m (L k)
def rtL (L : Nat → List Int) (i : Nat) (x : Nat) : List Int := if x = 2 then rtB i else if x = 2 + i / 4 then enB dd else L x
theorem rt_copy {w : World} {g2 : Nat} (i : Nat) (h : w.heap[g2]? = some (.cells aZ 5 (0, 0))) {x c : Nat} (hb : BI w (some ⟨x, 0, none⟩) 32 (rtD i)) (ty : TypeId) :
  (Builtin.copy_ #[42, 42] ty #[.slice (some ⟨g2, 64, none⟩) 64 64, .slice (some ⟨x, 0, none⟩) 32 c]).run Tryz.prog w = .ok (.int .i64 32) (w.setRow g2 ((rtB i).map (Value.int .u8)).toArray) := by
 have hl := hb.len
 have := run_copy_row (P := Tryz.prog) w 42 42 ty 5 g2 64 64 64 ⟨x, 0, none⟩ 32 c aZ 5 ((rtD i).map (Value.int .u8)) Tryz.underlying42 size5 h (by rw [List.length_map, hl]; rfl) hb.src' (by rw [List.length_map, hl]; simp [aZ, zers_len]) (one_cells _)
 rw [this]
 have e : (aZ.toList.take 64 ++ (rtD i).map (Value.int .u8) ++ aZ.toList.drop (64 + ((rtD i).map (Value.int .u8)).length)).toArray = ((rtB i).map (Value.int .u8)).toArray := by
  unfold aZ rtB
  rw [List.toList_toArray, List.length_map, hl, ← List.map_take, ← List.map_drop, ← List.map_append, ← List.map_append]
 rw [e]
 simp [goInt, hl]
end Go.Proofs.YthdlpeejmmobmaaGreat.Mk

namespace Go.Proofs.YthdlpeejmmobmaaGreat.Mk
open Go.RowKit
set_option maxRecDepth 100000
set_option linter.unusedVariables false
set_option maxRecDepth 100000
def blF (g b i x : Nat) : List Int := if x % b = 1 then groupL ((x / b : Nat) : Int) (hdY i (x / b)) else if x % b = 0 then superS g b i 0 else zers 128
def img (g b i : Nat) : Nat → List Int := rtL (blF g b i) i
end Go.Proofs.YthdlpeejmmobmaaGreat.Mk
