/- dirs: Encode, Decode; rows of entries held against each other. -/
import Derived.Test.YthfnldclpommlaaD16
namespace Go.Proofs.Ythfnldclpommlaa
open Go.RowKit
set_option linter.unusedVariables false

/-- Bytes and an error, and room. -/
def P2c (w : World) (L : List Int) (er : Int) (e : Ending) (w' : World) : Prop := ∃ q m d, e = .returned (.tuple #[.slice q m d, .int .i64 er]) ∧ BI w' q m L ∧ Below w.heap.size w w' ∧ m ≤ d ∧ d ≤ 9223372036854775807
theorem p2_noc {w w' : World} {L : List En} (h : ¬ mayE L) (hb : Below w.heap.size w w') : P2c w (enB L) (enE L) (.returned (.tuple #[.slice none 0 0, .int .i64 1])) w' := by
  unfold enB enE
  rw [if_neg h, if_neg h]
  exact ⟨none, 0, 0, rfl, bi_nil _, hb, Nat.le_refl _, by omega⟩
theorem p2_yesc {w w' : World} {L : List En} {q : Option Addr} {d : Nat} (h : mayE L) (hB : BI w' q 128 (encL (pad L))) (hb : Below w.heap.size w w' ∧ 128 ≤ d ∧ d ≤ 9223372036854775807) : P2c w (enB L) (enE L) (.returned (.tuple #[.slice q 128 d, .int .i64 0])) w' := by
  unfold enB enE
  rw [if_pos h, if_pos h]
  exact ⟨q, 128, d, rfl, hB, hb⟩

/-- A page while entries are put into it. -/
def pgL (L : List En) (j : Nat) : List En := L.take j ++ List.replicate (8 - j) ent00
theorem pgL_len {L : List En} {j : Nat} (h : j ≤ L.length) (h8 : L.length ≤ 8) : (pgL L j).length = 8 := by simp [pgL]; omega
theorem pgL_set {L : List En} {j : Nat} {e : En} (h : L[j]? = some e) (h8 : L.length ≤ 8) : (pgL L j).set j e = pgL L (j + 1) := by
  have hj : j < L.length := (List.getElem?_eq_some_iff.1 h).1
  have hl : (L.take j).length = j := by rw [List.length_take]; omega
  unfold pgL
  rw [List.set_append_right _ _ (by omega), hl, Nat.sub_self, show 8 - j = (8 - (j + 1)) + 1 by omega, List.replicate_succ, List.set_cons_zero, List.take_add_one, h, List.append_assoc]
  rfl
theorem pgL_any (L : List En) (j : Nat) (s : ByteArray) : (pgL L j).any (hit s) = (L.take j).any (hit s) := by
  unfold pgL
  rw [List.any_append]
  have : (List.replicate (8 - j) ent00).any (hit s) = false := by
    rw [List.any_eq_false]
    intro x hx
    rw [List.eq_of_mem_replicate hx]
    simp [hit, ent00]
  rw [this, Bool.or_false]
theorem pgL_non {L : List En} {j : Nat} (h : ∀ e ∈ L.take j, EMay e.n e.s) : ∀ e ∈ pgL L j, e.n = 0 → e.s = ⟨#[]⟩ := fun e he => by
  unfold pgL at he
  rcases List.mem_append.1 he with he | he
  · exact may_non (h e he)
  · rw [List.eq_of_mem_replicate he]; intro _; rfl
theorem pgL_all (L : List En) : pgL L L.length = pad L := by unfold pgL pad; rw [List.take_length]

structure Ecg (w wr : World) (L : List En) (j : Nat) : Prop where
  may : ∀ e ∈ L.take j, EMay e.n e.s
  cl : clB (L.take j) = false
  pg : Pge wr w.heap.size (pgL L j)
  bel : Below w.heap.size w wr
theorem Ecg.on {w wr w' : World} {L : List En} {j : Nat} (h : Ecg w wr L j) (hb : Below wr.heap.size wr w') : Ecg w w' L j := ⟨h.may, h.cl, h.pg.kept hb, grew_trans h.bel hb⟩

set_option maxRecDepth 20000 in
set_option maxHeartbeats 4000000 in
theorem Encode_c (p : Option Addr) (n c : Nat) (L : List En) (w : World) (h : EI w p n L) (hsz : ∀ e ∈ L, e.s.size ≤ 140737488355328) :
    Calls Try.prog 8 #[.slice p n c] w fun e w' => P2c w (enB L) (enE L) e w' := by
  have hlen := h.len
  have hbig := h.big
  by_cases h8 : n ≤ 8
  · have h8I : ¬ (8 : Int) < (n : Int) := by omega
    have hE0 : Ecg w (w.alloc (.cells z16 37)) L 0 := ⟨(fun e he => by cases he), rfl, ⟨heap_new w _, rfl, fun e he => by
      have he' : e ∈ List.replicate 8 ent00 := he
      rw [List.eq_of_mem_replicate he']; intro _; rfl⟩, grew_alloc _ _⟩
    have HE0 : Hid _ := hE0
    clear hE0
    go_enter Try.func8, Try.ntmps8
    go_wp2_with fail
    go_loopw [12] (fun i wr => ∃ j : Nat, j ≤ n ∧ i = .int .i64 (j : Int) ∧ Ecg w wr L j) (fun i _ => n - (intOf i).toNat)
    case atStart => exact ⟨0, by omega, rfl, HE0.out⟩
    case round =>
      clear HE0
      obtain ⟨j, hj, rfl, hR⟩ := hrel
      have HR : Hid _ := hR
      by_cases hlt : j < n
      · obtain ⟨N, S, he⟩ : ∃ N S, L[j]? = some ⟨N, S⟩ := ⟨_, _, List.getElem?_eq_getElem (by omega)⟩
        obtain ⟨b, o, rfl, hcs⟩ := (h.kept hR.bel).cells (by omega)
        obtain ⟨c0, c1⟩ := hcs j _ he
        have hjI : (j : Int) < (n : Int) := by omega
        have hj0 : (0 : Int) ≤ (j : Int) := by omega
        have hS : S.size ≤ 140737488355328 := hsz _ (List.mem_of_getElem? he)
        have hRA := hR.on (grew_alloc wr (entO N S))
        have HE : Hid _ := he
        clear hcs he hR
        by_cases hm : EMay N S
        · have hmx : ∀ e ∈ L.take (j + 1), EMay e.n e.s := fun e he' => by
            rw [List.take_add_one, HE.out] at he'
            rcases List.mem_append.1 he' with he' | he'
            · exact HR.out.may e he'
            · have : e = ⟨N, S⟩ := by simpa using he'
              rw [this]; exact hm
          have hcl1 : clB (L.take (j + 1)) = (decide (N ≠ 0) && (L.take j).any (hit S)) := by
            rw [List.take_add_one, HE.out]
            show clB (L.take j ++ [⟨N, S⟩]) = _
            rw [clB_snoc, HR.out.cl, Bool.false_or]
          have hset := pgL_set HE.out (by omega)
          by_cases h0 : N = 0
          · have hS0 := may_non (e := ⟨N, S⟩) hm h0
            have hS0' : S = ⟨#[]⟩ := hS0
            subst h0 hS0'
            have hpu := pput_empty hRA.pg (B := w.heap.size) (Nat.le_refl _) j (by omega)
            have hclf : clB (L.take (j + 1)) = false := by rw [hcl1]; simp
            have HX : Hid _ := And.intro hmx (And.intro hclf (And.intro hset hRA))
            clear hS0 hmx hcl1 hset hRA hclf hm
            go_wp2_with fail
            refine hpu.mono ?_
            rintro _ w2 ⟨rfl, hP2, hb2⟩
            clear hpu
            have hR2 : Ecg w w2 L (j + 1) := ⟨HX.out.1, HX.out.2.1, by rw [← HX.out.2.2.1]; exact hP2, HX.out.2.2.2.bel.trans hb2⟩
            have HR2 : Hid _ := hR2
            clear hR2 hP2 hb2
            dsimp only
            go_wp2_with fail
            go_roundw
            case rel => exact ⟨j + 1, by omega, by go_num, HR2.out⟩
            case measure => simp [intOf]; omega
          · cases hhit : (L.take j).any (hit S) with
            | true =>
              obtain ⟨k, hk⟩ : ∃ k, (pgL L j).findIdx? (hit S) = some k := by
                cases hf : (pgL L j).findIdx? (hit S) with
                | some k => exact ⟨k, rfl⟩
                | none => rw [idx_any, pgL_any, hhit] at hf; cases hf
              have hpu := pput_there hRA.pg (j : Int) N S hm h0 k hk
              have HM : Hid (¬ mayE L) := fun hM => by
                have h1 := clB_take (j + 1) hM.2.1
                rw [hcl1, hhit, decide_eq_true h0] at h1
                cases h1
              have HX : Hid _ := hRA.bel
              clear hmx hcl1 hset hRA hm hhit hk h0
              go_wp2_with fail
              refine grew_at hpu ?_
              intro w2 hb2
              clear hpu
              dsimp only
              go_wp2_with fail
              go_ret2
              exact p2_noc HM.out (grew_trans HX.out hb2)
            | false =>
              have hk : (pgL L j).findIdx? (hit S) = none := by rw [idx_any, pgL_any, hhit]
              have hpu := pput_named hRA.pg (B := w.heap.size) (Nat.le_refl _) j (by omega) N S hm h0 hk
              have hclf : clB (L.take (j + 1)) = false := by rw [hcl1, hhit, Bool.and_false]
              have HX : Hid _ := And.intro hmx (And.intro hclf (And.intro hset hRA))
              clear hmx hcl1 hset hRA hclf hm hhit hk h0
              go_wp2_with fail
              refine hpu.mono ?_
              rintro _ w2 ⟨rfl, hP2, hb2⟩
              clear hpu
              have hR2 : Ecg w w2 L (j + 1) := ⟨HX.out.1, HX.out.2.1, by rw [← HX.out.2.2.1]; exact hP2, HX.out.2.2.2.bel.trans hb2⟩
              have HR2 : Hid _ := hR2
              clear hR2 hP2 hb2
              dsimp only
              go_wp2_with fail
              go_roundw
              case rel => exact ⟨j + 1, by omega, by go_num, HR2.out⟩
              case measure => simp [intOf]; omega
        · have hpu := pput_wrong (w := wr.alloc (entO N S)) (b := w.heap.size) (j : Int) N S hS hm
          have HM : Hid (¬ mayE L) := fun hM => hm (hM.2.2 _ (List.mem_of_getElem? HE.out))
          have HX : Hid _ := hRA.bel
          clear hm hRA
          go_wp2_with fail
          refine grew_at hpu ?_
          intro w2 hb2
          clear hpu
          dsimp only
          go_wp2_with fail
          go_ret2
          exact p2_noc HM.out (grew_trans HX.out hb2)
      · obtain rfl : j = n := by omega
        have hnt : ¬ (j : Int) < (j : Int) := by omega
        have hmay := hR.may
        have hcl := hR.cl
        have hpg := hR.pg
        rw [List.take_of_length_le (by omega)] at hmay hcl
        rw [← hlen, pgL_all] at hpg
        have hM : mayE L := ⟨by omega, hcl, hmay⟩
        have hby := pbytes_c hpg (pad_may hmay)
        have HM : Hid _ := hM
        clear hmay hcl hpg hM hR
        go_wp2_with fail
        refine hby.mono ?_
        rintro _ w2 ⟨q, d, rfl, hB2, hb2, hcap⟩
        clear hby
        have H2 : Hid _ := And.intro hB2 (And.intro (grew_trans HR.out.bel hb2) hcap)
        clear hB2 hb2 hcap
        dsimp only
        go_wp2_with fail
        go_ret2
        exact p2_yesc HM.out H2.out.1 H2.out.2
  · have h8I : (8 : Int) < (n : Int) := by omega
    have HM : Hid (¬ mayE L) := fun hm => by have := hm.1; omega
    go_enter Try.func8, Try.ntmps8
    go_wp2_with fail
    go_ret2
    exact p2_noc HM.out (Below.refl _ _)
end Go.Proofs.Ythfnldclpommlaa
