/- D20 Has With -/
import Derived.Test.YtgonehldgojcmaaMk09
import Derived.Test.YtgonehldgojcmaaMk01

/- dirs: Encode, Decode; rows of entries held against each other. -/
namespace Go.Proofs.Ytgonehldgojcmaa
open Go.RowKit
set_option linter.unusedVariables false

/-- Bytes and an error, and room. -/
def P2c (w : World) (L : List Int) (er : Int) (e : Ending) (w' : World) : Prop := ∃ q m d, e = .returned (.tuple #[.slice q m d, .int .i64 er]) ∧ BI w' q m L ∧ Below w.heap.size w w' ∧ m ≤ d ∧ d ≤ 9223372036854775807 ∧ (∀ g o, q = some ⟨g, o, none⟩ → w.heap.size ≤ g)
theorem p2_noc {w w' : World} {L : List En} (h : ¬ mayE L) (hb : Below w.heap.size w w') : P2c w (enB L) (enE L) (.returned (.tuple #[.slice none 0 0, .int .i64 1])) w' := by
  unfold enB enE
  rw [if_neg h, if_neg h]
  exact ⟨none, 0, 0, rfl, bi_nil _, hb, Nat.le_refl _, by omega, fun g o e => by cases e⟩
theorem p2_yesc {w w' : World} {L : List En} {q : Option Addr} {d : Nat} (h : mayE L) (hB : BI w' q 128 (encL (pad L))) (hb : Below w.heap.size w w' ∧ 128 ≤ d ∧ d ≤ 9223372036854775807 ∧ (∀ g o, q = some ⟨g, o, none⟩ → w.heap.size ≤ g)) : P2c w (enB L) (enE L) (.returned (.tuple #[.slice q 128 d, .int .i64 0])) w' := by
  unfold enB enE
  rw [if_pos h, if_pos h]
  exact ⟨q, 128, d, rfl, hB, hb⟩

/-- A page while entries are put into it. -/
def pgL (L : List En) (j : Nat) : List En := L.take j ++ List.replicate (8 - j) ent00
theorem pgL_len {L : List En} {j : Nat} (h : j ≤ L.length) (h8 : L.length ≤ 8) : (pgL L j).length = 8 := by simp [pgL]; omega
theorem pgL_set {L : List En} {j : Nat} {e : En} (h : L[j]? = some e) (h8 : L.length ≤ 8) : (pgL L j).set j e = pgL L (j + 1) := by
  have hj : j < L.length := (List.getElem?_eq_some_iff.1 h).1
  have hl : (L.take j).length = j := by rw [List.length_take]; omega
  unfold pgL
  rw [List.set_append_right _ _ (by omega), hl, Nat.sub_self, show 8 - j = (8 - (j + 1)) + 1 by omega, List.replicate_succ, List.set_cons_zero, List.take_add_one, h, List.append_assoc]
  rfl
theorem pgL_any (L : List En) (j : Nat) (s : ByteArray) : (pgL L j).any (hit s) = (L.take j).any (hit s) := by
  unfold pgL
  rw [List.any_append]
  have : (List.replicate (8 - j) ent00).any (hit s) = false := by
    rw [List.any_eq_false]
    intro x hx
    rw [List.eq_of_mem_replicate hx]
    simp [hit, ent00]
  rw [this, Bool.or_false]
theorem pgL_non {L : List En} {j : Nat} (h : ∀ e ∈ L.take j, EMay e.n e.s) : ∀ e ∈ pgL L j, e.n = 0 → e.s = ⟨#[]⟩ := fun e he => by
  unfold pgL at he
  rcases List.mem_append.1 he with he | he
  · exact may_non (h e he)
  · rw [List.eq_of_mem_replicate he]; intro _; rfl
theorem pgL_all (L : List En) : pgL L L.length = pad L := by unfold pgL pad; rw [List.take_length]

structure Ecg (w wr : World) (L : List En) (j : Nat) : Prop where
  may : ∀ e ∈ L.take j, EMay e.n e.s
  cl : clB (L.take j) = false
  pg : Pge wr w.heap.size (pgL L j)
  bel : Below w.heap.size w wr
theorem Ecg.on {w wr w' : World} {L : List En} {j : Nat} (h : Ecg w wr L j) (hb : Below wr.heap.size wr w') : Ecg w w' L j := ⟨h.may, h.cl, h.pg.kept hb, grew_trans h.bel hb⟩

set_option maxRecDepth 20000 in
set_option maxHeartbeats 4000000 in
theorem Encode_c (p : Option Addr) (n c : Nat) (L : List En) (w : World) (h : EI w p n L) (hsz : ∀ e ∈ L, e.s.size ≤ 140737488355328) :
    Calls Try.prog 27 #[.slice p n c] w fun e w' => P2c w (enB L) (enE L) e w' := by
  have hlen := h.len
  have hbig := h.big
  by_cases h8 : n ≤ 8
  · have h8I : ¬ (8 : Int) < (n : Int) := by omega
    have hE0 : Ecg w (w.alloc (.cells z16 80)) L 0 := ⟨(fun e he => by cases he), rfl, ⟨heap_new w _, rfl, fun e he => by
      have he' : e ∈ List.replicate 8 ent00 := he
      rw [List.eq_of_mem_replicate he']; intro _; rfl⟩, grew_alloc _ _⟩
    have HE0 : Hid _ := hE0
    clear hE0
    go_enter Try.func27, Try.ntmps27
    go_wp2_with fail
    go_loopw [12] (fun i wr => ∃ j : Nat, j ≤ n ∧ i = .int .i64 (j : Int) ∧ Ecg w wr L j) (fun i _ => n - (intOf i).toNat)
    case atStart => exact ⟨0, by omega, rfl, HE0.out⟩
    case round =>
      clear HE0
      obtain ⟨j, hj, rfl, hR⟩ := hrel
      have HR : Hid _ := hR
      by_cases hlt : j < n
      · obtain ⟨N, S, he⟩ : ∃ N S, L[j]? = some ⟨N, S⟩ := ⟨_, _, List.getElem?_eq_getElem (by omega)⟩
        obtain ⟨b, o, rfl, hcs⟩ := (h.kept hR.bel).cells (by omega)
        obtain ⟨c0, c1⟩ := hcs j _ he
        have hjI : (j : Int) < (n : Int) := by omega
        have hj0 : (0 : Int) ≤ (j : Int) := by omega
        have hS : S.size ≤ 140737488355328 := hsz _ (List.mem_of_getElem? he)
        have hRA := hR.on (grew_alloc wr (entO N S))
        have HE : Hid _ := he
        clear hcs he hR
        by_cases hm : EMay N S
        · have hmx : ∀ e ∈ L.take (j + 1), EMay e.n e.s := fun e he' => by
            rw [List.take_add_one, HE.out] at he'
            rcases List.mem_append.1 he' with he' | he'
            · exact HR.out.may e he'
            · have : e = ⟨N, S⟩ := by simpa using he'
              rw [this]; exact hm
          have hcl1 : clB (L.take (j + 1)) = (decide (N ≠ 0) && (L.take j).any (hit S)) := by
            rw [List.take_add_one, HE.out]
            show clB (L.take j ++ [⟨N, S⟩]) = _
            rw [clB_snoc, HR.out.cl, Bool.false_or]
          have hset := pgL_set HE.out (by omega)
          by_cases h0 : N = 0
          · have hS0 := may_non (e := ⟨N, S⟩) hm h0
            have hS0' : S = ⟨#[]⟩ := hS0
            subst h0 hS0'
            have hpu := pput_empty hRA.pg (B := w.heap.size) (Nat.le_refl _) j (by omega)
            have hclf : clB (L.take (j + 1)) = false := by rw [hcl1]; simp
            have HX : Hid _ := And.intro hmx (And.intro hclf (And.intro hset hRA))
            clear hS0 hmx hcl1 hset hRA hclf hm
            go_wp2_with fail
            refine hpu.mono ?_
            rintro _ w2 ⟨rfl, hP2, hb2⟩
            clear hpu
            have hR2 : Ecg w w2 L (j + 1) := ⟨HX.out.1, HX.out.2.1, by rw [← HX.out.2.2.1]; exact hP2, HX.out.2.2.2.bel.trans hb2⟩
            have HR2 : Hid _ := hR2
            clear hR2 hP2 hb2
            dsimp only
            go_wp2_with fail
            go_roundw
            case rel => exact ⟨j + 1, by omega, by go_num, HR2.out⟩
            case measure => simp [intOf]; omega
          · cases hhit : (L.take j).any (hit S) with
            | true =>
              obtain ⟨k, hk⟩ : ∃ k, (pgL L j).findIdx? (hit S) = some k := by
                cases hf : (pgL L j).findIdx? (hit S) with
                | some k => exact ⟨k, rfl⟩
                | none => rw [idx_any, pgL_any, hhit] at hf; cases hf
              have hpu := pput_there hRA.pg (j : Int) N S hm h0 k hk
              have HM : Hid (¬ mayE L) := fun hM => by
                have h1 := clB_take (j + 1) hM.2.1
                rw [hcl1, hhit, decide_eq_true h0] at h1
                cases h1
              have HX : Hid _ := hRA.bel
              clear hmx hcl1 hset hRA hm hhit hk h0
              go_wp2_with fail
              refine grew_at hpu ?_
              intro w2 hb2
              clear hpu
              dsimp only
              go_wp2_with fail
              go_ret2
              exact p2_noc HM.out (grew_trans HX.out hb2)
            | false =>
              have hk : (pgL L j).findIdx? (hit S) = none := by rw [idx_any, pgL_any, hhit]
              have hpu := pput_named hRA.pg (B := w.heap.size) (Nat.le_refl _) j (by omega) N S hm h0 hk
              have hclf : clB (L.take (j + 1)) = false := by rw [hcl1, hhit, Bool.and_false]
              have HX : Hid _ := And.intro hmx (And.intro hclf (And.intro hset hRA))
              clear hmx hcl1 hset hRA hclf hm hhit hk h0
              go_wp2_with fail
              refine hpu.mono ?_
              rintro _ w2 ⟨rfl, hP2, hb2⟩
              clear hpu
              have hR2 : Ecg w w2 L (j + 1) := ⟨HX.out.1, HX.out.2.1, by rw [← HX.out.2.2.1]; exact hP2, HX.out.2.2.2.bel.trans hb2⟩
              have HR2 : Hid _ := hR2
              clear hR2 hP2 hb2
              dsimp only
              go_wp2_with fail
              go_roundw
              case rel => exact ⟨j + 1, by omega, by go_num, HR2.out⟩
              case measure => simp [intOf]; omega
        · have hpu := pput_wrong (w := wr.alloc (entO N S)) (b := w.heap.size) (j : Int) N S hS hm
          have HM : Hid (¬ mayE L) := fun hM => hm (hM.2.2 _ (List.mem_of_getElem? HE.out))
          have HX : Hid _ := hRA.bel
          clear hm hRA
          go_wp2_with fail
          refine grew_at hpu ?_
          intro w2 hb2
          clear hpu
          dsimp only
          go_wp2_with fail
          go_ret2
          exact p2_noc HM.out (grew_trans HX.out hb2)
      · obtain rfl : j = n := by omega
        have hnt : ¬ (j : Int) < (j : Int) := by omega
        have hmay := hR.may
        have hcl := hR.cl
        have hpg := hR.pg
        rw [List.take_of_length_le (by omega)] at hmay hcl
        rw [← hlen, pgL_all] at hpg
        have hM : mayE L := ⟨by omega, hcl, hmay⟩
        have hby := pbytes_c hpg (pad_may hmay)
        have HM : Hid _ := hM
        clear hmay hcl hpg hM hR
        go_wp2_with fail
        refine hby.mono ?_
        rintro _ w2 ⟨q, d, rfl, hB2, hb2, hcap⟩
        clear hby
        have H2 : Hid _ := And.intro hB2 (And.intro (grew_trans HR.out.bel hb2) (And.intro hcap.1 (And.intro hcap.2.1 (fun g o (e : q = some ⟨g, o, none⟩) => Nat.le_trans HR.out.bel.size (hcap.2.2 g o e)))))
        clear hB2 hb2 hcap
        dsimp only
        go_wp2_with fail
        go_ret2
        exact p2_yesc HM.out H2.out.1 H2.out.2
  · have h8I : (8 : Int) < (n : Int) := by omega
    have HM : Hid (¬ mayE L) := fun hm => by have := hm.1; omega
    go_enter Try.func27, Try.ntmps27
    go_wp2_with fail
    go_ret2
    exact p2_noc HM.out (Below.refl _ _)
end Go.Proofs.Ytgonehldgojcmaa

/- Bits of a row: what Has, With and the document's Has and With answer. -/
namespace Go.Proofs.Ytgonehldgojcmaa
open Go.RowKit
set_option linter.unusedVariables false

namespace Bit
def mk (i : Nat) : Int := 2 ^ (i % 8)
theorem mk_cases (i : Nat) : mk i = 1 ∨ mk i = 2 ∨ mk i = 4 ∨ mk i = 8 ∨ mk i = 16 ∨ mk i = 32 ∨ mk i = 64 ∨ mk i = 128 := by
  unfold mk
  have : i % 8 < 8 := Nat.mod_lt _ (by decide)
  generalize i % 8 = k at *
  rcases (by omega : k = 0 ∨ k = 1 ∨ k = 2 ∨ k = 3 ∨ k = 4 ∨ k = 5 ∨ k = 6 ∨ k = 7) with rfl | rfl | rfl | rfl | rfl | rfl | rfl | rfl <;> simp
def on (xs : List Int) (i : Nat) : Bool := decide (xs.getD (i / 8) 0 / mk i % 2 = 1)
def onI (xs : List Int) (i : Int) : Bool := decide (0 ≤ i) && on xs i.toNat
/-- A number of first bits as it counts. -/
def cnt (n : Int) : Nat := if n < 0 then 0 else if 65536 < n then 65536 else n.toNat
theorem cnt_le (n : Int) : cnt n ≤ 65536 := by
  unfold cnt
  repeat' split
  all_goals omega
theorem cnt_is (n : Int) : (n < 0 ∧ (cnt n : Int) = 0) ∨ (65536 < n ∧ (cnt n : Int) = 65536) ∨ (0 ≤ n ∧ n ≤ 65536 ∧ (cnt n : Int) = n) := by
  unfold cnt
  repeat' split
  all_goals omega
def turn (x m : Int) (b : Bool) : Int := if b then (if x / m % 2 = 1 then x else x + m) else (if x / m % 2 = 1 then x - m else x)
def put (xs : List Int) (i : Nat) (b : Bool) : List Int := xs.set (i / 8) (turn (xs.getD (i / 8) 0) (mk i) b)
theorem bits_all : ∀ x : Fin 256, ∀ k : Fin 8, (bits BinOp.and .u8 (x.val : Int) (2 ^ k.val) != 0) = decide ((x.val : Int) / 2 ^ k.val % 2 = 1) ∧ bits BinOp.or .u8 (x.val : Int) (2 ^ k.val) = turn x.val (2 ^ k.val) true ∧ bits BinOp.andNot .u8 (x.val : Int) (2 ^ k.val) = turn x.val (2 ^ k.val) false ∧
    bits BinOp.xor .u8 (x.val : Int) (2 ^ k.val) = turn x.val (2 ^ k.val) (! decide ((x.val : Int) / 2 ^ k.val % 2 = 1)) ∧ (0 ≤ turn x.val (2 ^ k.val) true ∧ turn x.val (2 ^ k.val) true < 256) ∧ (0 ≤ turn x.val (2 ^ k.val) false ∧ turn x.val (2 ^ k.val) false < 256) := by decide +kernel
theorem bits_at (x : Int) (h0 : 0 ≤ x) (h1 : x < 256) (i : Nat) : (bits BinOp.and .u8 x (mk i) != 0) = decide (x / mk i % 2 = 1) ∧ bits BinOp.or .u8 x (mk i) = turn x (mk i) true ∧ bits BinOp.andNot .u8 x (mk i) = turn x (mk i) false ∧
    bits BinOp.xor .u8 x (mk i) = turn x (mk i) (! decide (x / mk i % 2 = 1)) ∧ (0 ≤ turn x (mk i) true ∧ turn x (mk i) true < 256) ∧ (0 ≤ turn x (mk i) false ∧ turn x (mk i) false < 256) := by
  obtain ⟨n, rfl⟩ := Int.eq_ofNat_of_zero_le h0
  exact bits_all ⟨n, by omega⟩ ⟨i % 8, Nat.mod_lt _ (by decide)⟩
theorem turn_bd {xs : List Int} (h : Num.Byt xs) (i : Nat) (b : Bool) (j : Nat) : 0 ≤ turn (xs.getD j 0) (mk i) b ∧ turn (xs.getD j 0) (mk i) b < 256 := by
  have := bits_at _ (h j).1 (h j).2 i
  cases b
  · exact this.2.2.2.2.2
  · exact this.2.2.2.2.1
theorem put_len (xs : List Int) (i : Nat) (b : Bool) : (put xs i b).length = xs.length := by simp [put]
theorem put_byt {xs : List Int} (h : Num.Byt xs) (i : Nat) (b : Bool) : Num.Byt (put xs i b) := by
  intro j
  unfold put
  rw [Num.getD_set]
  split
  · exact turn_bd h i b _
  · exact h j
theorem on_far (xs : List Int) (i : Nat) (h : xs.length ≤ i / 8) : on xs i = false := by
  unfold on
  rw [List.getD_eq_getElem?_getD, List.getElem?_eq_none h]
  simp
end Bit

theorem ret_int {k : IntKind} {a b : Int} (h : a = b) : Ending.returned (.int k a) = .returned (.int k b) := by rw [h]

set_option maxHeartbeats 400000 in
theorem mask_ok (i : Nat) (w : World) (hi : i < 9223372036854775808) :
    Calls Try.prog 75 #[.int .i64 i] w fun e w' => e = .returned (.int .u8 (Bit.mk i)) ∧ w' = w := by
  have H : Hid ((2 : Int) ^ (i % 8) % 256 = Bit.mk i) := by
    show (2 : Int) ^ (i % 8) % 256 = Bit.mk i
    have := Bit.mk_cases i
    unfold Bit.mk at *
    omega
  have h0 : (0 : Int) ≤ (i : Int) := by omega
  go_enter Try.func75, Try.ntmps75
  go_wp2
  go_ret
  exact ⟨by show Ending.returned (.int .u8 _) = _; rw [H.out], rfl⟩

set_option maxHeartbeats 400000 in
theorem within_yes (p : Option Addr) (n c : Nat) (i : Nat) (w : World) (hn : n ≤ 140737488355328) (h : i / 8 < n) (hi : i < 9223372036854775808) :
    Calls Try.prog 74 #[.slice p n c, .int .i64 i] w fun e w' => e = .returned (.bool true) ∧ w' = w := by
  have h0 : (0 : Int) ≤ (i : Int) := by omega
  have h1 : (i : Int) / 8 < (n : Int) := by omega
  go_enter Try.func74, Try.ntmps74
  go_wp2
  go_ret
  exact ⟨rfl, rfl⟩

set_option maxHeartbeats 400000 in
theorem within_no (p : Option Addr) (n c : Nat) (i : Int) (w : World) (hn : n ≤ 140737488355328) (h : i < 0 ∨ (n : Int) ≤ i / 8) (hi : i < 9223372036854775808) :
    Calls Try.prog 74 #[.slice p n c, .int .i64 i] w fun e w' => e = .returned (.bool false) ∧ w' = w := by
  by_cases h0 : i < 0
  · clear h
    go_enter Try.func74, Try.ntmps74
    go_wp2
    go_ret
    exact ⟨rfl, rfl⟩
  · have h0 : (0 : Int) ≤ i := by omega
    have h1 : ¬ i / 8 < (n : Int) := by omega
    have h2 : decide (i / 8 < (n : Int)) = false := decide_eq_false h1
    clear h
    go_enter Try.func74, Try.ntmps74
    go_wp2
    go_ret
    exact ⟨rfl, rfl⟩

theorem run_quo8 (i : Nat) (w : World) (hi : i < 9223372036854775808) : (binOp .quo 3 (.int .i64 i) (.int .i64 8)).run Try.prog w = .ok (.int .i64 ((i / 8 : Nat) : Int)) w := by
  have e8 : (i : Int) / 8 = ((i / 8 : Nat) : Int) := by omega
  simp [go_sem]
  exact IntWalk.i64_in _ (by omega)

set_option maxRecDepth 100000 in
set_option maxHeartbeats 400000 in
theorem rhas_no (p : Option Addr) (n c : Nat) (i : Int) (w : World) (hn : n ≤ 140737488355328) (h : i < 0 ∨ (n : Int) ≤ i / 8) (hi : i < 9223372036854775808) :
    Calls Try.prog 55 #[.slice p n c, .int .i64 i] w fun e w' => e = .returned (.bool false) ∧ w' = w := by
  by_cases h0 : i < 0
  · clear h
    go_enter Try.func55, Try.ntmps55
    go_wp2
    go_ret
    exact ⟨rfl, rfl⟩
  · have h0 : (0 : Int) ≤ i := by omega
    have h1 : ¬ i / 8 < (n : Int) := by omega
    have h2 : decide (i / 8 < (n : Int)) = false := decide_eq_false h1
    clear h
    go_enter Try.func55, Try.ntmps55
    go_wp2
    go_ret
    exact ⟨rfl, rfl⟩

set_option maxRecDepth 100000 in
set_option maxHeartbeats 400000 in
theorem rhas_yes (p : Option Addr) (n c : Nat) (xs : List Int) (i : Nat) (w : World) (hb : BI w p n xs) (h : i / 8 < n) (hi : i < 9223372036854775808) :
    Calls Try.prog 55 #[.slice p n c, .int .i64 i] w fun e w' => e = .returned (.bool (Bit.on xs i)) ∧ w' = w := by
  have hn := hb.big
  have h0 : (0 : Int) ≤ (i : Int) := by omega
  have h1 : (i : Int) / 8 < (n : Int) := by omega
  obtain ⟨b, o, rfl, hc⟩ := hb.cells (by omega)
  have hc1 := hc (i / 8) h
  have hy := hb.byt (i / 8)
  have HX : Hid (((xs.getD (i / 8) 0 / 2 ^ (i % 8)).tmod 2 == 1) = Bit.on xs i) := by
    show ((xs.getD (i / 8) 0 / 2 ^ (i % 8)).tmod 2 == 1) = Bit.on xs i
    rw [Int.tmod_eq_emod_of_nonneg (Int.ediv_nonneg hy.1 (Int.le_of_lt (Int.pow_pos (by decide))))]
    unfold Bit.on Bit.mk
    rw [Bool.eq_iff_iff]
    simp
  clear hc hb
  generalize xs.getD (i / 8) 0 = x at *
  have hq := fun W => run_quo8 i W hi
  go_enter Try.func55, Try.ntmps55
  go_wp2
  go_ret
  exact ⟨by show Ending.returned (.bool _) = _; rw [HX.out], rfl⟩

theorem rhas_any (p : Option Addr) (n c : Nat) (xs : List Int) (i : Int) (w : World) (hb : BI w p n xs) (hi : i < 9223372036854775808) :
    Calls Try.prog 55 #[.slice p n c, .int .i64 i] w fun e w' => e = .returned (.bool (Bit.onI xs i)) ∧ w' = w := by
  have hl := hb.len
  by_cases h : i < 0 ∨ (n : Int) ≤ i / 8
  · have e : Bit.onI xs i = false := by
      unfold Bit.onI
      rcases h with h | h
      · simp [show ¬ 0 ≤ i by omega]
      · rw [Bit.on_far xs i.toNat (by omega)]; simp
    rw [e]
    exact rhas_no p n c i w hb.big h hi
  · obtain ⟨k, rfl⟩ := Int.eq_ofNat_of_zero_le (show 0 ≤ i by omega)
    have e : Bit.onI xs k = Bit.on xs k := by simp [Bit.onI]
    rw [e]
    exact rhas_yes p n c xs k w hb (by omega) (by omega)

end Go.Proofs.Ytgonehldgojcmaa

/- A row with one bit turned. -/
namespace Go.Proofs.Ytgonehldgojcmaa
open Go.RowKit
set_option linter.unusedVariables false

theorem drew_at {P : Program} {f : FuncId} {args : Array Value} {w : World} {v : Value} {Q : Ending → World → Prop} (h : Calls P f args w fun e w' => e = .returned v ∧ ∃ k, w' = w.drewN k) (hq : ∀ k, Q (.returned v) (w.drewN k)) : Calls P f args w Q :=
  h.mono (by rintro e w' ⟨rfl, k, rfl⟩; exact hq k)

set_option maxHeartbeats 400000 in
theorem with_err (p : Option Addr) (n c : Nat) (i : Int) (on : Bool) (w : World) (hn : n ≤ 140737488355328) (h : i < 0 ∨ (n : Int) ≤ i / 8) (hi : i < 9223372036854775808) :
    Calls Try.prog 65 #[.slice p n c, .int .i64 i, .bool on] w fun e w' => e = .returned (.tuple #[.slice none 0 0, .int .i64 50]) ∧ w' = w := by
  have HH := (show Hid _ from h)
  clear h
  go_enter Try.func65, Try.ntmps65
  go_wp2_with (first | (go_at_call 74; refine same_at (within_no p n c i _ hn HH.out hi) ?_))
  go_ret2
  exact ⟨rfl, rfl⟩

set_option maxHeartbeats 400000 in
theorem rwith_err (p : Option Addr) (n c : Nat) (i : Int) (on : Bool) (w : World) (hn : n ≤ 140737488355328) (h : i < 0 ∨ (n : Int) ≤ i / 8) (hi : i < 9223372036854775808) :
    Calls Try.prog 31 #[.slice p n c, .int .i64 i, .bool on] w fun e w' => e = .returned (.tuple #[.slice none 0 0, .int .i64 50]) ∧ w' = w := by
  by_cases h0 : i < 0
  · clear h
    go_enter Try.func31, Try.ntmps31
    go_wp2
    go_ret2
    exact ⟨rfl, rfl⟩
  · have h0 : (0 : Int) ≤ i := by omega
    have h1 : (n : Int) ≤ i / 8 := by omega
    clear h
    go_enter Try.func31, Try.ntmps31
    go_wp2
    go_ret2
    exact ⟨rfl, rfl⟩

set_option maxRecDepth 100000 in
set_option maxHeartbeats 1000000 in
theorem with_ok (p : Option Addr) (n c : Nat) (xs : List Int) (i : Nat) (on : Bool) (w : World) (hb : BI w p n xs) (h : i / 8 < n) (hi : i < 9223372036854775808) :
    Calls Try.prog 65 #[.slice p n c, .int .i64 i, .bool on] w fun e w' => ∃ g cap, e = .returned (.tuple #[.slice (some ⟨g, 0, none⟩) n cap, .int .i64 0]) ∧ Own w.heap.size w' g n cap (Bit.put xs i on) ∧ Below w.heap.size w w' := by
  obtain ⟨i0, hi0, hz0, hz1, hz2⟩ := info_parts info5
  have hbig := hb.big
  have hlen := hb.len
  have h0 : (0 : Int) ≤ (i : Int) := by omega
  have h1 : (i : Int) / 8 < (n : Int) := by omega
  have hx := Bit.bits_at _ (hb.byt (i / 8)).1 (hb.byt (i / 8)).2 i
  have h2 : (0 : Int) ≤ (i : Int) / 8 := by omega
  have h3 : ((i / 8 : Nat) : Int) < (n : Int) := by omega
  have h4 : (0 : Int) ≤ ((i / 8 : Nat) : Int) := by omega
  go_enter Try.func65, Try.ntmps65
  go_wp2_with (first
    | (go_at_call 74; refine same_at (within_yes p n c i _ hbig h hi) ?_)
    | (at_make; refine wpList_make_full _ rfl _ _ 36 rfl w.heap.size 5 i0 (.int .u8 0) 1 Try.underlying36 hi0 hz0 hz1 .i64 .i64 _ _ n rfl rfl rfl rfl (by rw [hz2]; omega) (by unfold maxLen; omega) (Nat.le_refl _) ?_; intro w1 hown1 hgrow1; have hb1 := (Below.refl w.heap.size w).grown hgrow1 (Nat.le_refl _) (by intro k hk; cases hk))
    | (refine wpList_copy_splice rfl _ _ 36 36 rfl 5 Try.underlying36 size5 _ _ _ _ _ _ rfl rfl w.heap.size 0 _ 5 (own_row hown1) (xs.map (Value.int .u8)) ?c1 ?c2 ?c3 ?c4 w.heap.size w hb1 (Nat.le_refl _) ?_))
  case c1 => simp [hlen]
  case c2 => intro hp; simpa using (hb.kept hb1).src (by simpa [hlen] using hp)
  case c3 => simp [madeCells, hlen]
  case c4 => exact one_cells xs
  intro w2 hg2 hb2
  have ho : Own w.heap.size w2 w.heap.size n n xs := by
    refine own_of_row (Nat.le_refl _) (by unfold maxLen; omega) hlen ?_
    have hg := hg2.out
    rw [splice_all _ _ (by simp [madeCells, hlen])] at hg
    exact hg
  clear hg2 hown1 hgrow1 hb1
  obtain ⟨q, HQ⟩ : ∃ q, Hid (i / 8 = q) := ⟨_, rfl⟩
  have hqn : q < n := by rw [← HQ.out]; exact h
  have hqI : (q : Int) < (n : Int) := by omega
  have hq0 : (0 : Int) ≤ (q : Int) := by omega
  have HO : Hid (Own w.heap.size (w2.setCell ⟨w.heap.size, i / 8, none⟩ (.int .u8 (Bit.turn (xs.getD (i / 8) 0) (Bit.mk i) on))) w.heap.size n n (Bit.put xs i on)) := ho.set (i / 8) _
  rw [HQ.out] at HO hx
  have hc1 := ho.cell q hqn
  have hf1 := World.ownsRow.frozenAt ho q
  have hb3 := hb2.setCell (p := ⟨w.heap.size, q, none⟩) (Nat.le_refl _) (.int .u8 (Bit.turn (xs.getD q 0) (Bit.mk i) on))
  have h5 : (i : Int) / 8 = (q : Int) := by have := HQ.out; omega
  have hwq := IntWalk.i64_in (q : Int) (by omega)
  clear ho h
  generalize xs.getD q 0 = x at *
  obtain ⟨x1, x2, x3, x4, x5⟩ := hx
  cases on
  · have X := (show Hid _ from x3)
    clear x1 x2 x3 x4 x5
    go_wp2
    go_region_with (first | (go_at_call 75; refine same_at (mask_ok i _ hi) ?_))
    all_goals go_wp2
    all_goals go_ret2
    all_goals rw [X.out]
    all_goals exact ⟨_, _, rfl, HO.out.kept (below_drewN (Below.refl _ _) 1), below_drewN hb3 1⟩
  · have X := (show Hid _ from x2)
    clear x1 x2 x3 x4 x5
    go_wp2
    go_region_with (first | (go_at_call 75; refine same_at (mask_ok i _ hi) ?_))
    all_goals go_wp2
    all_goals go_ret2
    all_goals rw [X.out]
    all_goals exact ⟨_, _, rfl, HO.out.kept (below_drewN (Below.refl _ _) 1), below_drewN hb3 1⟩

set_option maxRecDepth 100000 in
set_option maxHeartbeats 1000000 in
theorem rwith_ok (a0 : Addr) (n c : Nat) (xs : List Int) (i : Nat) (on : Bool) (w : World) (hb : BI w (some a0) n xs) (h : i / 8 < n) (hi : i < 9223372036854775808) :
    Calls Try.prog 31 #[.slice (some a0) n c, .int .i64 i, .bool on] w fun e w' => ∃ g cap, e = .returned (.tuple #[.slice (some ⟨g, 0, none⟩) n cap, .int .i64 0]) ∧ Own w.heap.size w' g n cap (Bit.put xs i on) ∧ Below w.heap.size w w' := by
  obtain ⟨i0, hi0, hz0, hz1, hz2⟩ := info_parts info5
  have hbig := hb.big
  have hlen := hb.len
  have h0 : (0 : Int) ≤ (i : Int) := by omega
  have h1 : (i : Int) / 8 < (n : Int) := by omega
  have h2 : (0 : Int) ≤ (i : Int) / 8 := by omega
  have hx := Bit.bits_at _ (hb.byt (i / 8)).1 (hb.byt (i / 8)).2 i
  have hq := fun W => run_quo8 i W hi
  have hb0 := (Below.refl w.heap.size w).alloc (Nat.le_refl _) (Obj.cells #[] 5)
  go_enter Try.func31, Try.ntmps31
  go_wp2_with (first | (at_builtin; refine wpList_append_own _ rfl _ _ 36 rfl w.heap.size 5 i0 (.int .u8 0) 1 1 Try.underlying36 hi0 hz0 hz1 hz2 rfl (by decide) _ _ _ rfl (World.ownsRow_made w #[] 0 (Nat.le_refl _) (Nat.zero_le _) rfl) a0 n c (xs.map (Value.int .u8)) rfl ?c1 ?c2 ?c3 ?c4 ?c5 ?c6 ?_))
  case c1 => simp [hlen]
  case c2 => exact (hb.kept hb0).src'
  case c3 => exact one_cells xs
  case c4 => unfold maxLen; omega
  case c5 => omega
  case c6 => simp
  intro v' w1 hown hgrow hnil
  obtain ⟨g, cap, hv, ho⟩ := own_shape hown (by first | exact hnil | (intro e; exact absurd (hnil.1 e).1 (by simp)))
  rw [hv]
  have hb1 := hb0.grown hgrow (by simp) (by intro k hk; simp [Value.ownBlock] at hk; omega)
  clear hown hnil hv hgrow hb0
  have hh := rhas_yes (some a0) n c xs i w1 (hb.kept hb1) h hi
  have HO : Hid (Own w.heap.size (w1.setCell ⟨g, i / 8, none⟩ (.int .u8 (Bit.turn (xs.getD (i / 8) 0) (Bit.mk i) on))) g n cap (Bit.put xs i on)) := ho.set (i / 8) _
  have hb3 := hb1.setCell (p := ⟨g, i / 8, none⟩) ho.spot.1 (.int .u8 (Bit.turn (xs.getD (i / 8) 0) (Bit.mk i) on))
  by_cases hon : Bit.on xs i = on
  · have HS : Hid (Bit.put xs i on = xs) := by
      show Bit.put xs i on = xs
      unfold Bit.put
      have e : Bit.turn (xs.getD (i / 8) 0) (Bit.mk i) on = xs.getD (i / 8) 0 := by
        unfold Bit.on at hon
        unfold Bit.turn
        subst hon
        by_cases k : xs.getD (i / 8) 0 / Bit.mk i % 2 = 1
        · simp only [k, decide_true, if_true]
        · simp only [k, decide_false, if_false, Bool.false_eq_true]
      rw [e, List.getD_eq_getElem?_getD, List.getElem?_eq_getElem (by omega)]
      simp
    have HB := (show Hid _ from hb1)
    clear hx hb3 HO
    generalize Bit.on xs i = onv at *
    subst hon
    go_wp2_with (first | (go_at_call 55; refine same_at hh ?_))
    go_ret2
    exact ⟨_, _, rfl, by rw [HS.out]; exact ho, hb1⟩
  · obtain ⟨x1, x2, x3, x4, x5⟩ := hx
    have X : Hid (bits BinOp.xor .u8 (xs.getD (i / 8) 0) (2 ^ (i % 8) % 256) = Bit.turn (xs.getD (i / 8) 0) (Bit.mk i) on) := by
      show bits BinOp.xor .u8 (xs.getD (i / 8) 0) (2 ^ (i % 8) % 256) = Bit.turn (xs.getD (i / 8) 0) (Bit.mk i) on
      have e1 : (2 : Int) ^ (i % 8) % 256 = Bit.mk i := by
        have := Bit.mk_cases i
        unfold Bit.mk at *
        omega
      have e2 : (! decide (xs.getD (i / 8) 0 / Bit.mk i % 2 = 1)) = on := by
        have : decide (xs.getD (i / 8) 0 / Bit.mk i % 2 = 1) = Bit.on xs i := rfl
        rw [this]
        revert hon
        cases Bit.on xs i <;> cases on <;> simp
      rw [e1, x4, e2]
    clear x1 x2 x3 x4 x5
    obtain ⟨q, HQ⟩ : ∃ q, Hid (i / 8 = q) := ⟨_, rfl⟩
    have hqn : q < n := by rw [← HQ.out]; exact h
    have hqI : (q : Int) < (n : Int) := by omega
    have hq0 : (0 : Int) ≤ (q : Int) := by omega
    have h5 : (i : Int) / 8 = (q : Int) := by have := HQ.out; omega
    have hwq := IntWalk.i64_in (q : Int) (by omega)
    have hc1 := ho.cell q hqn
    have hf1 := World.ownsRow.frozenAt ho q
    rw [HQ.out] at HO X hb3
    clear ho h1 h2 hq
    generalize xs.getD q 0 = x at *
    generalize Bit.on xs i = onv at *
    obtain rfl : onv = ! on := by revert hon; cases onv <;> cases on <;> simp
    clear hon
    have ht : ((! on) != on) = true := by cases on <;> rfl
    go_wp2_with (first | (go_at_call 55; refine same_at hh ?_))
    go_region
    go_wp2
    go_ret2
    rw [X.out]
    exact ⟨_, _, rfl, HO.out.kept (below_drewN (Below.refl _ _) 1), below_drewN hb3 1⟩

def wE (n : Nat) (i : Int) : Int := if i < 0 ∨ (n : Int) ≤ i / 8 then 50 else 0
end Go.Proofs.Ytgonehldgojcmaa
