/- KD12 KD20 KHas KWith -/
import Derived.Test.YtomkhipdcjnkhaaGreatFb12
import Derived.Deep.QuietTactic
import Derived.BigQuiet
import Derived.Lib.AppendZerosOnto
import Derived.Deep.MidRow
import Derived.Test.YtomkhipdcjnkhaaGreatFb01

/- dirs, the document's: the block of entries. -/
namespace Go.Proofs.YtomkhipdcjnkhaaGreat.Mk
open Go.RowKit
set_option maxRecDepth 100000
set_option linter.unusedVariables false

/-- Whether there is a block of the entries, and its bytes. -/
def mayE (L : List En) : Prop := L.length ≤ 8 ∧ clB L = false ∧ ∀ e ∈ L, EMay e.n e.s
instance (L : List En) : Decidable (mayE L) := by unfold mayE; infer_instance
def pad (L : List En) : List En := L ++ List.replicate (8 - L.length) ent00
def enB (L : List En) : List Int := if mayE L then encL (pad L) else []
def enE (L : List En) : Int := if mayE L then 0 else 1
theorem encL_zero : ∀ k, encL (List.replicate k ent00) = List.replicate (16 * k) 0
  | 0 => rfl
  | k + 1 => by
    have h := encL_zero k
    unfold encL at *
    rw [List.replicate_succ, List.flatMap_cons, h]
    have : entL ent00.n ent00.s = List.replicate 16 0 := entL_none _ rfl
    rw [this, List.replicate_append_replicate, show 16 * (k + 1) = 16 + 16 * k by omega]
theorem encL_app (A C : List En) : encL (A ++ C) = encL A ++ encL C := by simp [encL]
theorem encL_pad (L : List En) : encL (pad L) = encL L ++ List.replicate (16 * (8 - L.length)) 0 := by
  unfold pad
  rw [encL_app, encL_zero]
theorem pad_len {L : List En} (h : L.length ≤ 8) : (pad L).length = 8 := by simp [pad]; omega
theorem pad_may {L : List En} (h : ∀ e ∈ L, EMay e.n e.s) : ∀ e ∈ pad L, EMay e.n e.s := fun e he => by
  unfold pad at he
  rcases List.mem_append.1 he with he | he
  · exact h e he
  · rw [List.eq_of_mem_replicate he]; exact .inl ⟨rfl, rfl⟩
/-- Bytes and an error. -/
def P2 (w : World) (L : List Int) (er : Int) (e : Ending) (w' : World) : Prop := ∃ q m d, e = .returned (.tuple #[.slice q m d, .int .i64 er]) ∧ BI w' q m L ∧ Below w.heap.size w w' ∧ (∀ g o, q = some ⟨g, o, none⟩ → w.heap.size ≤ g)
theorem p2_no {w w' : World} {L : List En} (h : ¬ mayE L) (hb : Below w.heap.size w w') : P2 w (enB L) (enE L) (.returned (.tuple #[.slice none 0 0, .int .i64 1])) w' := by
  unfold enB enE
  rw [if_neg h, if_neg h]
  exact ⟨none, 0, 0, rfl, bi_nil _, hb, fun g o e => by cases e⟩
theorem p2_yes {w w' : World} {L : List En} {q : Option Addr} {d : Nat} (h : mayE L) (hB : BI w' q 128 (encL (pad L))) (hb : Below w.heap.size w w') (hf : ∀ g o, q = some ⟨g, o, none⟩ → w.heap.size ≤ g) : P2 w (enB L) (enE L) (.returned (.tuple #[.slice q 128 d, .int .i64 0])) w' := by
  unfold enB enE
  rw [if_pos h, if_pos h]
  exact ⟨q, 128, d, rfl, hB, hb, hf⟩

set_option maxRecDepth 20000 in
set_option maxHeartbeats 2000000 in
theorem rEncode_ok (p : Option Addr) (n c : Nat) (L : List En) (w : World) (h : EI w p n L) (hnc : n ≤ c) (hc2 : c ≤ 9223372036854775807) (hsz : ∀ e ∈ L, e.s.size ≤ 140737488355328) :
    Calls Tryz.prog 118 #[.slice p n c] w fun e w' => P2 w (enB L) (enE L) e w' := by
  have hlen := h.len
  have hbig := h.big
  by_cases h8 : n ≤ 8
  · have h8I : ¬ (8 : Int) < (n : Int) := by omega
    have hcl := clash_ok p n c L w h hnc hc2
    cases hc : clB L with
    | true =>
      rw [hc] at hcl
      have HM : Hid (¬ mayE L) := fun hm => by have := hm.2.1; rw [hc] at this; cases this
      clear hc
      go_enter Tryz.func118, Tryz.ntmps118
      go_wp2_with fail
      refine grew_at hcl ?_
      intro w1 hb1
      clear hcl
      dsimp only
      go_wp2_with fail
      go_ret2
      exact p2_no HM.out hb1
    | false =>
      rw [hc] at hcl
      have HC : Hid _ := hc
      clear hc
      go_enter Tryz.func118, Tryz.ntmps118
      go_wp2_with fail
      refine grew_at hcl ?_
      intro w1 hb1
      clear hcl
      have HB1 : Hid _ := hb1
      have H1 : Hid _ := h.kept hb1
      clear hb1 h
      dsimp only
      go_wp2_with fail
      go_loopw [4, 18] (fun v i wr => ∃ j : Nat, j ≤ n ∧ i = .int .i64 (j : Int) ∧ Below w1.heap.size w1 wr ∧ Rw w1.heap.size wr v (encL (L.take j)) ∧ ∀ e ∈ L.take j, EMay e.n e.s) (fun _ i _ => n - (intOf i).toNat)
      case atStart => exact ⟨0, by omega, rfl, Below.refl _ _, ⟨rfl, .inl ⟨rfl, rfl⟩⟩, (fun e he => by cases he)⟩
      case round =>
        obtain ⟨j, hj, rfl, hb, hR, hmay⟩ := hrel
        have hlT : (encL (L.take j)).length = 16 * j := by rw [encL_len _ hmay, List.length_take]; omega
        have HR : Hid _ := And.intro hR (And.intro hb (And.intro hmay hlT))
        by_cases hlt : j < n
        · obtain ⟨N, S, he⟩ : ∃ N S, L[j]? = some ⟨N, S⟩ := ⟨_, _, List.getElem?_eq_getElem (by omega)⟩
          obtain ⟨b, o, rfl, hcs⟩ := (H1.out.kept hb).cells (by omega)
          obtain ⟨c0, c1⟩ := hcs j _ he
          have hjI : (j : Int) < (n : Int) := by omega
          have hj0 : (0 : Int) ≤ (j : Int) := by omega
          have hS := hsz _ (List.mem_of_getElem? he)
          have hT : L.take (j + 1) = L.take j ++ [⟨N, S⟩] := by rw [List.take_add_one, he]; rfl
          have HT : Hid _ := And.intro hT (List.mem_of_getElem? he)
          clear hcs hb hR hmay he hT hlT
          by_cases hm : EMay N S
          · have hen := rencodeEntry_yes N S hm (wr.alloc (entO N S))
            have HM : Hid _ := hm
            clear hm
            go_wp2_with fail
            refine hen.mono ?_
            rintro _ w2 ⟨q2, d2, rfl, hB2, hb2⟩
            clear hen c0 c1
            obtain ⟨a, rfl⟩ : ∃ a, q2 = some a := by obtain ⟨b', o', e', _⟩ := hB2.cells (by omega); exact ⟨_, e'⟩
            have hbA := grew_trans (grew_alloc wr (entO N S)) hb2
            obtain ⟨v', w3, hr3, hR3, hg3⟩ := rw_app (c := d2) (HR.out.1.kept hbA) hB2 (by have := hbA.size; have := HR.out.2.1.size; omega) (by rw [HR.out.2.2.2]; omega) 38
            have hb3 : Below w1.heap.size w1 w3 := grown_bel (grew_trans HR.out.2.1 hbA) hg3 (fun g hg => (HR.out.1.lt g hg).1)
            have hmx : ∀ e ∈ L.take (j + 1), EMay e.n e.s := fun e he => by
              rw [HT.out.1] at he
              rcases List.mem_append.1 he with he | he
              · exact HR.out.2.2.1 e he
              · rw [List.mem_singleton.1 he]; exact HM.out
            rw [show encL (L.take j) ++ entL N S = encL (L.take (j + 1)) by rw [HT.out.1, encL_snoc]] at hR3
            have H3 : Hid _ := And.intro hb3 (And.intro hR3 hmx)
            clear hbA hB2 hb2 hg3 hb3 hR3 hmx
            dsimp only
            go_wp2_with (refine wpList_append_run2 rfl _ _ 38 38 rfl rfl rfl hr3 ?_)
            clear hr3
            go_roundw
            case rel => exact ⟨j + 1, by omega, by go_num, H3.out.1, H3.out.2.1, H3.out.2.2⟩
            case measure => simp [intOf]; omega
          · have hen := rencodeEntry_no N S hS hm (wr.alloc (entO N S))
            have HM : Hid (¬ mayE L) := fun hM => hm (hM.2.2 _ HT.out.2)
            clear hm
            go_wp2_with fail
            refine grew_at hen ?_
            intro w2 hb2
            clear hen c0 c1
            have hbf := grew_trans HB1.out (grew_trans HR.out.2.1 (grew_trans (grew_alloc wr (entO N S)) hb2))
            dsimp only
            go_wp2_with fail
            go_ret2
            exact p2_no HM.out hbf
        · obtain rfl : j = n := by omega
          have hnt : ¬ (j : Int) < (j : Int) := by omega
          rw [List.take_of_length_le (by omega)] at hR hmay hlT
          obtain ⟨g, cap, w2, hr2, hO2, hg2⟩ := zeros_own w1.heap.size wr _ (16 * j) (128 - 16 * j) (encL L) (by rw [← hlT]; exact hR) (by omega) hb.size 38
          have hb2 : Below w1.heap.size w1 w2 := grown_bel hb hg2 (fun g' hg' => (hR.lt g' hg').1)
          obtain ⟨q, d, hv, hBv⟩ := hR.bi (by omega) (encL_byt L)
          rw [hlT] at hv
          subst hv
          have hmE : mayE L := ⟨by omega, HC.out, hmay⟩
          have hpd : encL L ++ List.replicate (128 - 16 * j) 0 = encL (pad L) := by rw [encL_pad, show 16 * (8 - L.length) = 128 - 16 * j by omega]
          rw [hpd] at hO2
          have H2 : Hid _ := And.intro (hO2.bi (by omega) (encL_byt _)) (And.intro (grew_trans HB1.out hb2) (And.intro hmE (Nat.le_trans HB1.out.size hO2.spot.1)))
          have hcast : (128 : Int) - ((16 * j : Nat) : Int) = ((128 - 16 * j : Nat) : Int) := by omega
          rw [← hcast] at hr2
          have hwr : IntKind.i64.wrap ((128 : Int) - ((16 * j : Nat) : Int)) = (128 : Int) - ((16 * j : Nat) : Int) := by rw [IntKind.wrap_i64]; omega
          clear hR hmay hlT hBv hO2 hg2 hb2 hmE hpd hb
          go_wp2_with (refine wpList_append_run2 rfl _ _ 38 3 rfl rfl rfl hr2 ?_)
          go_ret2
          exact p2_yes H2.out.2.2.1 H2.out.1 H2.out.2.1 (fun g' o e => by cases e; exact H2.out.2.2.2)
  · have h8I : (8 : Int) < (n : Int) := by omega
    have HM : Hid (¬ mayE L) := fun hm => by have := hm.1; omega
    go_enter Tryz.func118, Tryz.ntmps118
    go_wp2_with fail
    go_ret2
    exact p2_no HM.out (Below.refl _ _)
end Go.Proofs.YtomkhipdcjnkhaaGreat.Mk

/- dirs: Encode, Decode; rows of entries held against each other. -/
namespace Go.Proofs.YtomkhipdcjnkhaaGreat.Mk
open Go.RowKit
set_option maxRecDepth 100000
set_option linter.unusedVariables false

/-- Bytes and an error, and room. -/
def P2c (w : World) (L : List Int) (er : Int) (e : Ending) (w' : World) : Prop := ∃ q m d, e = .returned (.tuple #[.slice q m d, .int .i64 er]) ∧ BI w' q m L ∧ Below w.heap.size w w' ∧ m ≤ d ∧ d ≤ 9223372036854775807 ∧ (∀ g o, q = some ⟨g, o, none⟩ → w.heap.size ≤ g)
theorem p2_noc {w w' : World} {L : List En} (h : ¬ mayE L) (hb : Below w.heap.size w w') : P2c w (enB L) (enE L) (.returned (.tuple #[.slice none 0 0, .int .i64 1])) w' := by
  unfold enB enE
  rw [if_neg h, if_neg h]
  exact ⟨none, 0, 0, rfl, bi_nil _, hb, Nat.le_refl _, by omega, fun g o e => by cases e⟩
theorem p2_yesc {w w' : World} {L : List En} {q : Option Addr} {d : Nat} (h : mayE L) (hB : BI w' q 128 (encL (pad L))) (hb : Below w.heap.size w w' ∧ 128 ≤ d ∧ d ≤ 9223372036854775807 ∧ (∀ g o, q = some ⟨g, o, none⟩ → w.heap.size ≤ g)) : P2c w (enB L) (enE L) (.returned (.tuple #[.slice q 128 d, .int .i64 0])) w' := by
  unfold enB enE
  rw [if_pos h, if_pos h]
  exact ⟨q, 128, d, rfl, hB, hb⟩

/-- A page while entries are put into it. -/
def pgL (L : List En) (j : Nat) : List En := L.take j ++ List.replicate (8 - j) ent00
theorem pgL_len {L : List En} {j : Nat} (h : j ≤ L.length) (h8 : L.length ≤ 8) : (pgL L j).length = 8 := by simp [pgL]; omega
theorem pgL_set {L : List En} {j : Nat} {e : En} (h : L[j]? = some e) (h8 : L.length ≤ 8) : (pgL L j).set j e = pgL L (j + 1) := by
  have hj : j < L.length := (List.getElem?_eq_some_iff.1 h).1
  have hl : (L.take j).length = j := by rw [List.length_take]; omega
  unfold pgL
  rw [List.set_append_right _ _ (by omega), hl, Nat.sub_self, show 8 - j = (8 - (j + 1)) + 1 by omega, List.replicate_succ, List.set_cons_zero, List.take_add_one, h, List.append_assoc]
  rfl
theorem pgL_any (L : List En) (j : Nat) (s : ByteArray) : (pgL L j).any (hit s) = (L.take j).any (hit s) := by
  unfold pgL
  rw [List.any_append]
  have : (List.replicate (8 - j) ent00).any (hit s) = false := by
    rw [List.any_eq_false]
    intro x hx
    rw [List.eq_of_mem_replicate hx]
    simp [hit, ent00]
  rw [this, Bool.or_false]
theorem pgL_non {L : List En} {j : Nat} (h : ∀ e ∈ L.take j, EMay e.n e.s) : ∀ e ∈ pgL L j, e.n = 0 → e.s = ⟨#[]⟩ := fun e he => by
  unfold pgL at he
  rcases List.mem_append.1 he with he | he
  · exact may_non (h e he)
  · rw [List.eq_of_mem_replicate he]; intro _; rfl
theorem pgL_all (L : List En) : pgL L L.length = pad L := by unfold pgL pad; rw [List.take_length]

structure Ecg (w wr : World) (L : List En) (j : Nat) : Prop where
  may : ∀ e ∈ L.take j, EMay e.n e.s
  cl : clB (L.take j) = false
  pg : Pge wr w.heap.size (pgL L j)
  bel : Below w.heap.size w wr
theorem Ecg.on {w wr w' : World} {L : List En} {j : Nat} (h : Ecg w wr L j) (hb : Below wr.heap.size wr w') : Ecg w w' L j := ⟨h.may, h.cl, h.pg.kept hb, grew_trans h.bel hb⟩

set_option maxRecDepth 20000 in
set_option maxHeartbeats 4000000 in
theorem Encode_c (p : Option Addr) (n c : Nat) (L : List En) (w : World) (h : EI w p n L) (hsz : ∀ e ∈ L, e.s.size ≤ 140737488355328) :
    Calls Tryz.prog 277 #[.slice p n c] w fun e w' => P2c w (enB L) (enE L) e w' := by
  have hlen := h.len
  have hbig := h.big
  by_cases h8 : n ≤ 8
  · have h8I : ¬ (8 : Int) < (n : Int) := by omega
    have hE0 : Ecg w (w.alloc (.cells z16 368)) L 0 := ⟨(fun e he => by cases he), rfl, ⟨heap_new w _, rfl, fun e he => by
      have he' : e ∈ List.replicate 8 ent00 := he
      rw [List.eq_of_mem_replicate he']; intro _; rfl⟩, grew_alloc _ _⟩
    have HE0 : Hid _ := hE0
    clear hE0
    go_enter Tryz.func277, Tryz.ntmps277
    go_wp2_with fail
    go_loopw [12] (fun i wr => ∃ j : Nat, j ≤ n ∧ i = .int .i64 (j : Int) ∧ Ecg w wr L j) (fun i _ => n - (intOf i).toNat)
    case atStart => exact ⟨0, by omega, rfl, HE0.out⟩
    case round =>
      clear HE0
      obtain ⟨j, hj, rfl, hR⟩ := hrel
      have HR : Hid _ := hR
      by_cases hlt : j < n
      · obtain ⟨N, S, he⟩ : ∃ N S, L[j]? = some ⟨N, S⟩ := ⟨_, _, List.getElem?_eq_getElem (by omega)⟩
        obtain ⟨b, o, rfl, hcs⟩ := (h.kept hR.bel).cells (by omega)
        obtain ⟨c0, c1⟩ := hcs j _ he
        have hjI : (j : Int) < (n : Int) := by omega
        have hj0 : (0 : Int) ≤ (j : Int) := by omega
        have hS : S.size ≤ 140737488355328 := hsz _ (List.mem_of_getElem? he)
        have hRA := hR.on (grew_alloc wr (entO N S))
        have HE : Hid _ := he
        clear hcs he hR
        by_cases hm : EMay N S
        · have hmx : ∀ e ∈ L.take (j + 1), EMay e.n e.s := fun e he' => by
            rw [List.take_add_one, HE.out] at he'
            rcases List.mem_append.1 he' with he' | he'
            · exact HR.out.may e he'
            · have : e = ⟨N, S⟩ := by simpa using he'
              rw [this]; exact hm
          have hcl1 : clB (L.take (j + 1)) = (decide (N ≠ 0) && (L.take j).any (hit S)) := by
            rw [List.take_add_one, HE.out]
            show clB (L.take j ++ [⟨N, S⟩]) = _
            rw [clB_snoc, HR.out.cl, Bool.false_or]
          have hset := pgL_set HE.out (by omega)
          by_cases h0 : N = 0
          · have hS0 := may_non (e := ⟨N, S⟩) hm h0
            have hS0' : S = ⟨#[]⟩ := hS0
            subst h0 hS0'
            have hpu := pput_empty hRA.pg (B := w.heap.size) (Nat.le_refl _) j (by omega)
            have hclf : clB (L.take (j + 1)) = false := by rw [hcl1]; simp
            have HX : Hid _ := And.intro hmx (And.intro hclf (And.intro hset hRA))
            clear hS0 hmx hcl1 hset hRA hclf hm
            go_wp2_with fail
            refine hpu.mono ?_
            rintro _ w2 ⟨rfl, hP2, hb2⟩
            clear hpu
            have hR2 : Ecg w w2 L (j + 1) := ⟨HX.out.1, HX.out.2.1, by rw [← HX.out.2.2.1]; exact hP2, HX.out.2.2.2.bel.trans hb2⟩
            have HR2 : Hid _ := hR2
            clear hR2 hP2 hb2
            dsimp only
            go_wp2_with fail
            go_roundw
            case rel => exact ⟨j + 1, by omega, by go_num, HR2.out⟩
            case measure => simp [intOf]; omega
          · cases hhit : (L.take j).any (hit S) with
            | true =>
              obtain ⟨k, hk⟩ : ∃ k, (pgL L j).findIdx? (hit S) = some k := by
                cases hf : (pgL L j).findIdx? (hit S) with
                | some k => exact ⟨k, rfl⟩
                | none => rw [idx_any, pgL_any, hhit] at hf; cases hf
              have hpu := pput_there hRA.pg (j : Int) N S hm h0 k hk
              have HM : Hid (¬ mayE L) := fun hM => by
                have h1 := clB_take (j + 1) hM.2.1
                rw [hcl1, hhit, decide_eq_true h0] at h1
                cases h1
              have HX : Hid _ := hRA.bel
              clear hmx hcl1 hset hRA hm hhit hk h0
              go_wp2_with fail
              refine grew_at hpu ?_
              intro w2 hb2
              clear hpu
              dsimp only
              go_wp2_with fail
              go_ret2
              exact p2_noc HM.out (grew_trans HX.out hb2)
            | false =>
              have hk : (pgL L j).findIdx? (hit S) = none := by rw [idx_any, pgL_any, hhit]
              have hpu := pput_named hRA.pg (B := w.heap.size) (Nat.le_refl _) j (by omega) N S hm h0 hk
              have hclf : clB (L.take (j + 1)) = false := by rw [hcl1, hhit, Bool.and_false]
              have HX : Hid _ := And.intro hmx (And.intro hclf (And.intro hset hRA))
              clear hmx hcl1 hset hRA hclf hm hhit hk h0
              go_wp2_with fail
              refine hpu.mono ?_
              rintro _ w2 ⟨rfl, hP2, hb2⟩
              clear hpu
              have hR2 : Ecg w w2 L (j + 1) := ⟨HX.out.1, HX.out.2.1, by rw [← HX.out.2.2.1]; exact hP2, HX.out.2.2.2.bel.trans hb2⟩
              have HR2 : Hid _ := hR2
              clear hR2 hP2 hb2
              dsimp only
              go_wp2_with fail
              go_roundw
              case rel => exact ⟨j + 1, by omega, by go_num, HR2.out⟩
              case measure => simp [intOf]; omega
        · have hpu := pput_wrong (w := wr.alloc (entO N S)) (b := w.heap.size) (j : Int) N S hS hm
          have HM : Hid (¬ mayE L) := fun hM => hm (hM.2.2 _ (List.mem_of_getElem? HE.out))
          have HX : Hid _ := hRA.bel
          clear hm hRA
          go_wp2_with fail
          refine grew_at hpu ?_
          intro w2 hb2
          clear hpu
          dsimp only
          go_wp2_with fail
          go_ret2
          exact p2_noc HM.out (grew_trans HX.out hb2)
      · obtain rfl : j = n := by omega
        have hnt : ¬ (j : Int) < (j : Int) := by omega
        have hmay := hR.may
        have hcl := hR.cl
        have hpg := hR.pg
        rw [List.take_of_length_le (by omega)] at hmay hcl
        rw [← hlen, pgL_all] at hpg
        have hM : mayE L := ⟨by omega, hcl, hmay⟩
        have hby := pbytes_c hpg (pad_may hmay)
        have HM : Hid _ := hM
        clear hmay hcl hpg hM hR
        go_wp2_with fail
        refine hby.mono ?_
        rintro _ w2 ⟨q, d, rfl, hB2, hb2, hcap⟩
        clear hby
        have H2 : Hid _ := And.intro hB2 (And.intro (grew_trans HR.out.bel hb2) (And.intro hcap.1 (And.intro hcap.2.1 (fun g o (e : q = some ⟨g, o, none⟩) => Nat.le_trans HR.out.bel.size (hcap.2.2 g o e)))))
        clear hB2 hb2 hcap
        dsimp only
        go_wp2_with fail
        go_ret2
        exact p2_yesc HM.out H2.out.1 H2.out.2
  · have h8I : (8 : Int) < (n : Int) := by omega
    have HM : Hid (¬ mayE L) := fun hm => by have := hm.1; omega
    go_enter Tryz.func277, Tryz.ntmps277
    go_wp2_with fail
    go_ret2
    exact p2_noc HM.out (Below.refl _ _)
end Go.Proofs.YtomkhipdcjnkhaaGreat.Mk

/- Bits of a row: what Has, With and the document's Has and With answer. -/
namespace Go.Proofs.YtomkhipdcjnkhaaGreat.Mk
open Go.RowKit
set_option maxRecDepth 100000
set_option linter.unusedVariables false

namespace Bit
def mk (i : Nat) : Int := 2 ^ (i % 8)
theorem mk_cases (i : Nat) : mk i = 1 ∨ mk i = 2 ∨ mk i = 4 ∨ mk i = 8 ∨ mk i = 16 ∨ mk i = 32 ∨ mk i = 64 ∨ mk i = 128 := by
  unfold mk
  have : i % 8 < 8 := Nat.mod_lt _ (by decide)
  generalize i % 8 = k at *
  rcases (by omega : k = 0 ∨ k = 1 ∨ k = 2 ∨ k = 3 ∨ k = 4 ∨ k = 5 ∨ k = 6 ∨ k = 7) with rfl | rfl | rfl | rfl | rfl | rfl | rfl | rfl <;> simp
def on (xs : List Int) (i : Nat) : Bool := decide (xs.getD (i / 8) 0 / mk i % 2 = 1)
def onI (xs : List Int) (i : Int) : Bool := decide (0 ≤ i) && on xs i.toNat
/-- A number of first bits as it counts. -/
def cnt (n : Int) : Nat := if n < 0 then 0 else if 65536 < n then 65536 else n.toNat
theorem cnt_le (n : Int) : cnt n ≤ 65536 := by
  unfold cnt
  repeat' split
  all_goals omega
theorem cnt_is (n : Int) : (n < 0 ∧ (cnt n : Int) = 0) ∨ (65536 < n ∧ (cnt n : Int) = 65536) ∨ (0 ≤ n ∧ n ≤ 65536 ∧ (cnt n : Int) = n) := by
  unfold cnt
  repeat' split
  all_goals omega
def turn (x m : Int) (b : Bool) : Int := if b then (if x / m % 2 = 1 then x else x + m) else (if x / m % 2 = 1 then x - m else x)
def put (xs : List Int) (i : Nat) (b : Bool) : List Int := xs.set (i / 8) (turn (xs.getD (i / 8) 0) (mk i) b)
theorem bits_all : ∀ x : Fin 256, ∀ k : Fin 8, (bits BinOp.and .u8 (x.val : Int) (2 ^ k.val) != 0) = decide ((x.val : Int) / 2 ^ k.val % 2 = 1) ∧ bits BinOp.or .u8 (x.val : Int) (2 ^ k.val) = turn x.val (2 ^ k.val) true ∧ bits BinOp.andNot .u8 (x.val : Int) (2 ^ k.val) = turn x.val (2 ^ k.val) false ∧
    bits BinOp.xor .u8 (x.val : Int) (2 ^ k.val) = turn x.val (2 ^ k.val) (! decide ((x.val : Int) / 2 ^ k.val % 2 = 1)) ∧ (0 ≤ turn x.val (2 ^ k.val) true ∧ turn x.val (2 ^ k.val) true < 256) ∧ (0 ≤ turn x.val (2 ^ k.val) false ∧ turn x.val (2 ^ k.val) false < 256) := by decide +kernel
theorem bits_at (x : Int) (h0 : 0 ≤ x) (h1 : x < 256) (i : Nat) : (bits BinOp.and .u8 x (mk i) != 0) = decide (x / mk i % 2 = 1) ∧ bits BinOp.or .u8 x (mk i) = turn x (mk i) true ∧ bits BinOp.andNot .u8 x (mk i) = turn x (mk i) false ∧
    bits BinOp.xor .u8 x (mk i) = turn x (mk i) (! decide (x / mk i % 2 = 1)) ∧ (0 ≤ turn x (mk i) true ∧ turn x (mk i) true < 256) ∧ (0 ≤ turn x (mk i) false ∧ turn x (mk i) false < 256) := by
  obtain ⟨n, rfl⟩ := Int.eq_ofNat_of_zero_le h0
  exact bits_all ⟨n, by omega⟩ ⟨i % 8, Nat.mod_lt _ (by decide)⟩
theorem turn_bd {xs : List Int} (h : Num.Byt xs) (i : Nat) (b : Bool) (j : Nat) : 0 ≤ turn (xs.getD j 0) (mk i) b ∧ turn (xs.getD j 0) (mk i) b < 256 := by
  have := bits_at _ (h j).1 (h j).2 i
  cases b
  · exact this.2.2.2.2.2
  · exact this.2.2.2.2.1
theorem put_len (xs : List Int) (i : Nat) (b : Bool) : (put xs i b).length = xs.length := by simp [put]
theorem put_byt {xs : List Int} (h : Num.Byt xs) (i : Nat) (b : Bool) : Num.Byt (put xs i b) := by
  intro j
  unfold put
  rw [Num.getD_set]
  split
  · exact turn_bd h i b _
  · exact h j
theorem on_far (xs : List Int) (i : Nat) (h : xs.length ≤ i / 8) : on xs i = false := by
  unfold on
  rw [List.getD_eq_getElem?_getD, List.getElem?_eq_none h]
  simp
end Bit

theorem ret_int {k : IntKind} {a b : Int} (h : a = b) : Ending.returned (.int k a) = .returned (.int k b) := by rw [h]

set_option maxHeartbeats 400000 in
theorem mask_ok (i : Nat) (w : World) (hi : i < 9223372036854775808) :
    Calls Tryz.prog 241 #[.int .i64 i] w fun e w' => e = .returned (.int .u8 (Bit.mk i)) ∧ w' = w := by
  have H : Hid ((2 : Int) ^ (i % 8) % 256 = Bit.mk i) := by
    show (2 : Int) ^ (i % 8) % 256 = Bit.mk i
    have := Bit.mk_cases i
    unfold Bit.mk at *
    omega
  have h0 : (0 : Int) ≤ (i : Int) := by omega
  go_enter Tryz.func241, Tryz.ntmps241
  go_wp2
  go_ret
  exact ⟨by show Ending.returned (.int .u8 _) = _; rw [H.out], rfl⟩

set_option maxHeartbeats 400000 in
theorem within_yes (p : Option Addr) (n c : Nat) (i : Nat) (w : World) (hn : n ≤ 140737488355328) (h : i / 8 < n) (hi : i < 9223372036854775808) :
    Calls Tryz.prog 240 #[.slice p n c, .int .i64 i] w fun e w' => e = .returned (.bool true) ∧ w' = w := by
  have h0 : (0 : Int) ≤ (i : Int) := by omega
  have h1 : (i : Int) / 8 < (n : Int) := by omega
  go_enter Tryz.func240, Tryz.ntmps240
  go_wp2
  go_ret
  exact ⟨rfl, rfl⟩

set_option maxHeartbeats 400000 in
theorem within_no (p : Option Addr) (n c : Nat) (i : Int) (w : World) (hn : n ≤ 140737488355328) (h : i < 0 ∨ (n : Int) ≤ i / 8) (hi : i < 9223372036854775808) :
    Calls Tryz.prog 240 #[.slice p n c, .int .i64 i] w fun e w' => e = .returned (.bool false) ∧ w' = w := by
  by_cases h0 : i < 0
  · clear h
    go_enter Tryz.func240, Tryz.ntmps240
    go_wp2
    go_ret
    exact ⟨rfl, rfl⟩
  · have h0 : (0 : Int) ≤ i := by omega
    have h1 : ¬ i / 8 < (n : Int) := by omega
    have h2 : decide (i / 8 < (n : Int)) = false := decide_eq_false h1
    clear h
    go_enter Tryz.func240, Tryz.ntmps240
    go_wp2
    go_ret
    exact ⟨rfl, rfl⟩

theorem run_quo8 (i : Nat) (w : World) (hi : i < 9223372036854775808) : (binOp .quo 3 (.int .i64 i) (.int .i64 8)).run Tryz.prog w = .ok (.int .i64 ((i / 8 : Nat) : Int)) w := by
  have e8 : (i : Int) / 8 = ((i / 8 : Nat) : Int) := by omega
  simp [go_sem]
  exact IntWalk.i64_in _ (by omega)

set_option maxRecDepth 100000 in
set_option maxHeartbeats 400000 in
theorem rhas_no (p : Option Addr) (n c : Nat) (i : Int) (w : World) (hn : n ≤ 140737488355328) (h : i < 0 ∨ (n : Int) ≤ i / 8) (hi : i < 9223372036854775808) :
    Calls Tryz.prog 306 #[.slice p n c, .int .i64 i] w fun e w' => e = .returned (.bool false) ∧ w' = w := by
  by_cases h0 : i < 0
  · clear h
    go_enter Tryz.func306, Tryz.ntmps306
    go_wp2
    go_ret
    exact ⟨rfl, rfl⟩
  · have h0 : (0 : Int) ≤ i := by omega
    have h1 : ¬ i / 8 < (n : Int) := by omega
    have h2 : decide (i / 8 < (n : Int)) = false := decide_eq_false h1
    clear h
    go_enter Tryz.func306, Tryz.ntmps306
    go_wp2
    go_ret
    exact ⟨rfl, rfl⟩

set_option maxRecDepth 100000 in
set_option maxHeartbeats 400000 in
theorem rhas_yes (p : Option Addr) (n c : Nat) (xs : List Int) (i : Nat) (w : World) (hb : BI w p n xs) (h : i / 8 < n) (hi : i < 9223372036854775808) :
    Calls Tryz.prog 306 #[.slice p n c, .int .i64 i] w fun e w' => e = .returned (.bool (Bit.on xs i)) ∧ w' = w := by
  have hn := hb.big
  have h0 : (0 : Int) ≤ (i : Int) := by omega
  have h1 : (i : Int) / 8 < (n : Int) := by omega
  obtain ⟨b, o, rfl, hc⟩ := hb.cells (by omega)
  have hc1 := hc (i / 8) h
  have hy := hb.byt (i / 8)
  have HX : Hid (((xs.getD (i / 8) 0 / 2 ^ (i % 8)).tmod 2 == 1) = Bit.on xs i) := by
    show ((xs.getD (i / 8) 0 / 2 ^ (i % 8)).tmod 2 == 1) = Bit.on xs i
    rw [Int.tmod_eq_emod_of_nonneg (Int.ediv_nonneg hy.1 (Int.le_of_lt (Int.pow_pos (by decide))))]
    unfold Bit.on Bit.mk
    rw [Bool.eq_iff_iff]
    simp
  clear hc hb
  generalize xs.getD (i / 8) 0 = x at *
  have hq := fun W => run_quo8 i W hi
  go_enter Tryz.func306, Tryz.ntmps306
  go_wp2
  go_ret
  exact ⟨by show Ending.returned (.bool _) = _; rw [HX.out], rfl⟩

theorem rhas_any (p : Option Addr) (n c : Nat) (xs : List Int) (i : Int) (w : World) (hb : BI w p n xs) (hi : i < 9223372036854775808) :
    Calls Tryz.prog 306 #[.slice p n c, .int .i64 i] w fun e w' => e = .returned (.bool (Bit.onI xs i)) ∧ w' = w := by
  have hl := hb.len
  by_cases h : i < 0 ∨ (n : Int) ≤ i / 8
  · have e : Bit.onI xs i = false := by
      unfold Bit.onI
      rcases h with h | h
      · simp [show ¬ 0 ≤ i by omega]
      · rw [Bit.on_far xs i.toNat (by omega)]; simp
    rw [e]
    exact rhas_no p n c i w hb.big h hi
  · obtain ⟨k, rfl⟩ := Int.eq_ofNat_of_zero_le (show 0 ≤ i by omega)
    have e : Bit.onI xs k = Bit.on xs k := by simp [Bit.onI]
    rw [e]
    exact rhas_yes p n c xs k w hb (by omega) (by omega)

end Go.Proofs.YtomkhipdcjnkhaaGreat.Mk

/- A row with one bit turned. -/
namespace Go.Proofs.YtomkhipdcjnkhaaGreat.Mk
open Go.RowKit
set_option maxRecDepth 100000
set_option linter.unusedVariables false

theorem drew_at {P : Program} {f : FuncId} {args : Array Value} {w : World} {v : Value} {Q : Ending → World → Prop} (h : Calls P f args w fun e w' => e = .returned v ∧ ∃ k, w' = w.drewN k) (hq : ∀ k, Q (.returned v) (w.drewN k)) : Calls P f args w Q :=
  h.mono (by rintro e w' ⟨rfl, k, rfl⟩; exact hq k)

set_option maxHeartbeats 400000 in
theorem with_err (p : Option Addr) (n c : Nat) (i : Int) (on : Bool) (w : World) (hn : n ≤ 140737488355328) (h : i < 0 ∨ (n : Int) ≤ i / 8) (hi : i < 9223372036854775808) :
    Calls Tryz.prog 236 #[.slice p n c, .int .i64 i, .bool on] w fun e w' => e = .returned (.tuple #[.slice none 0 0, .int .i64 50]) ∧ w' = w := by
  have HH := (show Hid _ from h)
  clear h
  go_enter Tryz.func236, Tryz.ntmps236
  go_wp2_with (first | (go_at_call 240; refine same_at (within_no p n c i _ hn HH.out hi) ?_))
  go_ret2
  exact ⟨rfl, rfl⟩

set_option maxHeartbeats 400000 in
theorem rwith_err (p : Option Addr) (n c : Nat) (i : Int) (on : Bool) (w : World) (hn : n ≤ 140737488355328) (h : i < 0 ∨ (n : Int) ≤ i / 8) (hi : i < 9223372036854775808) :
    Calls Tryz.prog 207 #[.slice p n c, .int .i64 i, .bool on] w fun e w' => e = .returned (.tuple #[.slice none 0 0, .int .i64 50]) ∧ w' = w := by
  by_cases h0 : i < 0
  · clear h
    go_enter Tryz.func207, Tryz.ntmps207
    go_wp2
    go_ret2
    exact ⟨rfl, rfl⟩
  · have h0 : (0 : Int) ≤ i := by omega
    have h1 : (n : Int) ≤ i / 8 := by omega
    clear h
    go_enter Tryz.func207, Tryz.ntmps207
    go_wp2
    go_ret2
    exact ⟨rfl, rfl⟩

set_option maxRecDepth 100000 in
set_option maxHeartbeats 1000000 in
theorem with_ok (p : Option Addr) (n c : Nat) (xs : List Int) (i : Nat) (on : Bool) (w : World) (hb : BI w p n xs) (h : i / 8 < n) (hi : i < 9223372036854775808) :
    Calls Tryz.prog 236 #[.slice p n c, .int .i64 i, .bool on] w fun e w' => ∃ g cap, e = .returned (.tuple #[.slice (some ⟨g, 0, none⟩) n cap, .int .i64 0]) ∧ Own w.heap.size w' g n cap (Bit.put xs i on) ∧ Below w.heap.size w w' := by
  obtain ⟨i0, hi0, hz0, hz1, hz2⟩ := info_parts info5
  have hbig := hb.big
  have hlen := hb.len
  have h0 : (0 : Int) ≤ (i : Int) := by omega
  have h1 : (i : Int) / 8 < (n : Int) := by omega
  have hx := Bit.bits_at _ (hb.byt (i / 8)).1 (hb.byt (i / 8)).2 i
  have h2 : (0 : Int) ≤ (i : Int) / 8 := by omega
  have h3 : ((i / 8 : Nat) : Int) < (n : Int) := by omega
  have h4 : (0 : Int) ≤ ((i / 8 : Nat) : Int) := by omega
  go_enter Tryz.func236, Tryz.ntmps236
  go_wp2_with (first
    | (go_at_call 240; refine same_at (within_yes p n c i _ hbig h hi) ?_)
    | (at_make; refine wpList_make_full _ rfl _ _ 38 rfl w.heap.size 5 i0 (.int .u8 0) 1 Tryz.underlying38 hi0 hz0 hz1 .i64 .i64 _ _ n rfl rfl rfl rfl (by rw [hz2]; omega) (by unfold maxLen; omega) (Nat.le_refl _) ?_; intro w1 hown1 hgrow1; have hb1 := (Below.refl w.heap.size w).grown hgrow1 (Nat.le_refl _) (by intro k hk; cases hk))
    | (refine wpList_copy_splice rfl _ _ 38 38 rfl 5 Tryz.underlying38 size5 _ _ _ _ _ _ rfl rfl w.heap.size 0 _ 5 (own_row hown1) (xs.map (Value.int .u8)) ?c1 ?c2 ?c3 ?c4 w.heap.size w hb1 (Nat.le_refl _) ?_))
  case c1 => simp [hlen]
  case c2 => intro hp; simpa using (hb.kept hb1).src (by simpa [hlen] using hp)
  case c3 => simp [madeCells, hlen]
  case c4 => exact one_cells xs
  intro w2 hg2 hb2
  have ho : Own w.heap.size w2 w.heap.size n n xs := by
    refine own_of_row (Nat.le_refl _) (by unfold maxLen; omega) hlen ?_
    have hg := hg2.out
    rw [splice_all _ _ (by simp [madeCells, hlen])] at hg
    exact hg
  clear hg2 hown1 hgrow1 hb1
  obtain ⟨q, HQ⟩ : ∃ q, Hid (i / 8 = q) := ⟨_, rfl⟩
  have hqn : q < n := by rw [← HQ.out]; exact h
  have hqI : (q : Int) < (n : Int) := by omega
  have hq0 : (0 : Int) ≤ (q : Int) := by omega
  have HO : Hid (Own w.heap.size (w2.setCell ⟨w.heap.size, i / 8, none⟩ (.int .u8 (Bit.turn (xs.getD (i / 8) 0) (Bit.mk i) on))) w.heap.size n n (Bit.put xs i on)) := ho.set (i / 8) _
  rw [HQ.out] at HO hx
  have hc1 := ho.cell q hqn
  have hf1 := World.ownsRow.frozenAt ho q
  have hb3 := hb2.setCell (p := ⟨w.heap.size, q, none⟩) (Nat.le_refl _) (.int .u8 (Bit.turn (xs.getD q 0) (Bit.mk i) on))
  have h5 : (i : Int) / 8 = (q : Int) := by have := HQ.out; omega
  have hwq := IntWalk.i64_in (q : Int) (by omega)
  clear ho h
  generalize xs.getD q 0 = x at *
  obtain ⟨x1, x2, x3, x4, x5⟩ := hx
  cases on
  · have X := (show Hid _ from x3)
    clear x1 x2 x3 x4 x5
    go_wp2
    go_region_with (first | (go_at_call 241; refine same_at (mask_ok i _ hi) ?_))
    all_goals go_wp2
    all_goals go_ret2
    all_goals rw [X.out]
    all_goals exact ⟨_, _, rfl, HO.out.kept (below_drewN (Below.refl _ _) 1), below_drewN hb3 1⟩
  · have X := (show Hid _ from x2)
    clear x1 x2 x3 x4 x5
    go_wp2
    go_region_with (first | (go_at_call 241; refine same_at (mask_ok i _ hi) ?_))
    all_goals go_wp2
    all_goals go_ret2
    all_goals rw [X.out]
    all_goals exact ⟨_, _, rfl, HO.out.kept (below_drewN (Below.refl _ _) 1), below_drewN hb3 1⟩

set_option maxRecDepth 100000 in
set_option maxHeartbeats 1000000 in
theorem rwith_ok (a0 : Addr) (n c : Nat) (xs : List Int) (i : Nat) (on : Bool) (w : World) (hb : BI w (some a0) n xs) (h : i / 8 < n) (hi : i < 9223372036854775808) :
    Calls Tryz.prog 207 #[.slice (some a0) n c, .int .i64 i, .bool on] w fun e w' => ∃ g cap, e = .returned (.tuple #[.slice (some ⟨g, 0, none⟩) n cap, .int .i64 0]) ∧ Own w.heap.size w' g n cap (Bit.put xs i on) ∧ Below w.heap.size w w' := by
  obtain ⟨i0, hi0, hz0, hz1, hz2⟩ := info_parts info5
  have hbig := hb.big
  have hlen := hb.len
  have h0 : (0 : Int) ≤ (i : Int) := by omega
  have h1 : (i : Int) / 8 < (n : Int) := by omega
  have h2 : (0 : Int) ≤ (i : Int) / 8 := by omega
  have hx := Bit.bits_at _ (hb.byt (i / 8)).1 (hb.byt (i / 8)).2 i
  have hq := fun W => run_quo8 i W hi
  have hb0 := (Below.refl w.heap.size w).alloc (Nat.le_refl _) (Obj.cells #[] 5)
  go_enter Tryz.func207, Tryz.ntmps207
  go_wp2_with (first | (at_builtin; refine wpList_append_own _ rfl _ _ 38 rfl w.heap.size 5 i0 (.int .u8 0) 1 1 Tryz.underlying38 hi0 hz0 hz1 hz2 rfl (by decide) _ _ _ rfl (World.ownsRow_made w #[] 0 (Nat.le_refl _) (Nat.zero_le _) rfl) a0 n c (xs.map (Value.int .u8)) rfl ?c1 ?c2 ?c3 ?c4 ?c5 ?c6 ?_))
  case c1 => simp [hlen]
  case c2 => exact (hb.kept hb0).src'
  case c3 => exact one_cells xs
  case c4 => unfold maxLen; omega
  case c5 => omega
  case c6 => simp
  intro v' w1 hown hgrow hnil
  obtain ⟨g, cap, hv, ho⟩ := own_shape hown (by first | exact hnil | (intro e; exact absurd (hnil.1 e).1 (by simp)))
  rw [hv]
  have hb1 := hb0.grown hgrow (by simp) (by intro k hk; simp [Value.ownBlock] at hk; omega)
  clear hown hnil hv hgrow hb0
  have hh := rhas_yes (some a0) n c xs i w1 (hb.kept hb1) h hi
  have HO : Hid (Own w.heap.size (w1.setCell ⟨g, i / 8, none⟩ (.int .u8 (Bit.turn (xs.getD (i / 8) 0) (Bit.mk i) on))) g n cap (Bit.put xs i on)) := ho.set (i / 8) _
  have hb3 := hb1.setCell (p := ⟨g, i / 8, none⟩) ho.spot.1 (.int .u8 (Bit.turn (xs.getD (i / 8) 0) (Bit.mk i) on))
  by_cases hon : Bit.on xs i = on
  · have HS : Hid (Bit.put xs i on = xs) := by
      show Bit.put xs i on = xs
      unfold Bit.put
      have e : Bit.turn (xs.getD (i / 8) 0) (Bit.mk i) on = xs.getD (i / 8) 0 := by
        unfold Bit.on at hon
        unfold Bit.turn
        subst hon
        by_cases k : xs.getD (i / 8) 0 / Bit.mk i % 2 = 1
        · simp only [k, decide_true, if_true]
        · simp only [k, decide_false, if_false, Bool.false_eq_true]
      rw [e, List.getD_eq_getElem?_getD, List.getElem?_eq_getElem (by omega)]
      simp
    have HB := (show Hid _ from hb1)
    clear hx hb3 HO
    generalize Bit.on xs i = onv at *
    subst hon
    go_wp2_with (first | (go_at_call 306; refine same_at hh ?_))
    go_ret2
    exact ⟨_, _, rfl, by rw [HS.out]; exact ho, hb1⟩
  · obtain ⟨x1, x2, x3, x4, x5⟩ := hx
    have X : Hid (bits BinOp.xor .u8 (xs.getD (i / 8) 0) (2 ^ (i % 8) % 256) = Bit.turn (xs.getD (i / 8) 0) (Bit.mk i) on) := by
      show bits BinOp.xor .u8 (xs.getD (i / 8) 0) (2 ^ (i % 8) % 256) = Bit.turn (xs.getD (i / 8) 0) (Bit.mk i) on
      have e1 : (2 : Int) ^ (i % 8) % 256 = Bit.mk i := by
        have := Bit.mk_cases i
        unfold Bit.mk at *
        omega
      have e2 : (! decide (xs.getD (i / 8) 0 / Bit.mk i % 2 = 1)) = on := by
        have : decide (xs.getD (i / 8) 0 / Bit.mk i % 2 = 1) = Bit.on xs i := rfl
        rw [this]
        revert hon
        cases Bit.on xs i <;> cases on <;> simp
      rw [e1, x4, e2]
    clear x1 x2 x3 x4 x5
    obtain ⟨q, HQ⟩ : ∃ q, Hid (i / 8 = q) := ⟨_, rfl⟩
    have hqn : q < n := by rw [← HQ.out]; exact h
    have hqI : (q : Int) < (n : Int) := by omega
    have hq0 : (0 : Int) ≤ (q : Int) := by omega
    have h5 : (i : Int) / 8 = (q : Int) := by have := HQ.out; omega
    have hwq := IntWalk.i64_in (q : Int) (by omega)
    have hc1 := ho.cell q hqn
    have hf1 := World.ownsRow.frozenAt ho q
    rw [HQ.out] at HO X hb3
    clear ho h1 h2 hq
    generalize xs.getD q 0 = x at *
    generalize Bit.on xs i = onv at *
    obtain rfl : onv = ! on := by revert hon; cases onv <;> cases on <;> simp
    clear hon
    have ht : ((! on) != on) = true := by cases on <;> rfl
    go_wp2_with (first | (go_at_call 306; refine same_at hh ?_))
    go_region
    go_wp2
    go_ret2
    rw [X.out]
    exact ⟨_, _, rfl, HO.out.kept (below_drewN (Below.refl _ _) 1), below_drewN hb3 1⟩

def wE (n : Nat) (i : Int) : Int := if i < 0 ∨ (n : Int) ≤ i / 8 then 50 else 0
end Go.Proofs.YtomkhipdcjnkhaaGreat.Mk
